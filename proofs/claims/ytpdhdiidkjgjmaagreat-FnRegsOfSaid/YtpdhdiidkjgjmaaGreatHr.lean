/- Chapter 8: a straight program leaves what its registers leave; each operation stands once; plain facts. -/
import Derived.Test.YtpdhdiidkjgjmaaGreatRo
namespace Go.Proofs.YtpdhdiidkjgjmaaGreat
set_option maxRecDepth 100000

theorem runOps_snoc (t : Int) : ∀ (ms : List (Int × Int × Int)) (row : List Int) (m : Int × Int × Int), runOps t row (ms ++ [m]) = opR8 t (runOps t row ms) m := by
  intro ms
  induction ms with
  | nil => intro row m; rfl
  | cons a ms ih => intro row m; rw [List.cons_append, runOps, runOps, ih]
theorem known_mono {t n n' a : Int} (h : knownB t n a = true) (hn : n ≤ n') : knownB t n' a = true := by
  unfold knownB at *
  rw [decide_eq_true_eq] at *
  omega
theorem valR_more {t : Int} {n : Nat} {a : Int} {row x : List Int} (h : knownB t n a = true) (ht : 0 ≤ t ∧ t ≤ 1000) (hl : row.length = t.toNat + n) : valR t (row ++ x) a = valR t row a := by
  unfold knownB at h
  rw [decide_eq_true_eq] at h
  unfold valR
  split
  · rfl
  · split
    · rw [List.getD_eq_getElem?_getD, List.getD_eq_getElem?_getD, List.getElem?_append_left (by omega)]
    · rw [List.getD_eq_getElem?_getD, List.getD_eq_getElem?_getD, List.getElem?_append_left (by omega)]
def Kn (t : Int) (ms : List (Int × Int × Int)) : Prop := ∀ (k : Nat) op, ms[k]? = some op → knownB t k op.2.1 = true ∧ knownB t k op.2.2 = true
theorem Kn.snoc {t : Int} {ms : List (Int × Int × Int)} {op : Int × Int × Int} (h : Kn t ms) (h1 : knownB t ms.length op.2.1 = true) (h2 : knownB t ms.length op.2.2 = true) : Kn t (ms ++ [op]) := by
  intro k o hk
  rcases Nat.lt_or_ge k ms.length with hl | hl
  · rw [List.getElem?_append_left hl] at hk; exact h k o hk
  · rw [List.getElem?_append_right hl] at hk
    have : k - ms.length = 0 := by
      rcases hkk : k - ms.length with _ | j
      · rfl
      · rw [hkk] at hk; simp at hk
    rw [this] at hk
    simp at hk
    subst hk
    rw [show k = ms.length by omega]
    exact ⟨h1, h2⟩
theorem Kn.front {t : Int} {ms : List (Int × Int × Int)} {m : Int × Int × Int} (h : Kn t (ms ++ [m])) : Kn t ms ∧ knownB t ms.length m.2.1 = true ∧ knownB t ms.length m.2.2 = true := by
  refine ⟨fun k o hk => h k o ?_, h ms.length m (by simp)⟩
  rw [List.getElem?_append_left (List.getElem?_eq_some_iff.1 hk).1]; exact hk
theorem ops_at {t : Int} {inn : List Int} (ht : 0 ≤ t ∧ t ≤ 1000) (hi : inn.length = t.toNat) : ∀ (n : Nat) (ms : List (Int × Int × Int)), ms.length = n → Kn t ms → ∀ (k : Nat) op, ms[k]? = some op → (runOps t inn ms).getD (t.toNat + k) 0 = reck op.1 (valR t (runOps t inn ms) op.2.1) (valR t (runOps t inn ms) op.2.2) := by
  intro n
  induction n with
  | zero => intro ms hn _ k op hk; rw [List.eq_nil_of_length_eq_zero hn] at hk; simp at hk
  | succ n ih =>
    intro ms hn hK k op hk
    rcases List.eq_nil_or_concat ms with rfl | ⟨ms', m, rfl⟩
    · simp at hk
    · rw [List.concat_eq_append] at *
      obtain ⟨hK', hA, hB⟩ := hK.front
      have hl : (runOps t inn ms').length = t.toNat + ms'.length := by rw [runOps_len, hi]
      rw [runOps_snoc]
      unfold opR8
      rcases Nat.lt_or_ge k ms'.length with hk' | hk'
      · rw [List.getElem?_append_left hk'] at hk
        have h1 := ih ms' (by simpa using hn) hK' k op hk
        obtain ⟨k1, k2⟩ := hK' k op hk
        rw [valR_more (known_mono k1 (n' := (ms'.length : Int)) (by omega)) ht hl, valR_more (known_mono k2 (n' := (ms'.length : Int)) (by omega)) ht hl, ← h1, List.getD_eq_getElem?_getD, List.getD_eq_getElem?_getD, List.getElem?_append_left (by omega)]
      · have hke : k = ms'.length := by
          have := (List.getElem?_eq_some_iff.1 hk).1
          simp at this; omega
        subst hke
        simp at hk
        subst hk
        rw [valR_more hA ht hl, valR_more hB ht hl, List.getD_eq_getElem?_getD, List.getElem?_append_right (by omega), hl]
        simp
def holdR (t : Int) (inn : List Int) (ms : List (Int × Int × Int)) (row : List Int) : List (List Int) := row.reverse.map fun a => [valR t (runOps t inn ms) a]
theorem holdR_snoc (t : Int) (inn : List Int) (ms : List (Int × Int × Int)) (row : List Int) (a : Int) : holdR t inn ms (row ++ [a]) = [valR t (runOps t inn ms) a] :: holdR t inn ms row := by
  unfold holdR; simp
theorem holdR_more {t : Int} {inn : List Int} {ms : List (Int × Int × Int)} {row : List Int} (ht : 0 ≤ t ∧ t ≤ 1000) (hi : inn.length = t.toNat) (h : ∀ a ∈ row, knownB t ms.length a = true) (m : Int × Int × Int) : holdR t inn (ms ++ [m]) row = holdR t inn ms row := by
  unfold holdR
  apply List.map_congr_left
  intro a ha
  rw [runOps_snoc]
  unfold opR8
  rw [valR_more (h a (by simpa using ha)) ht (by rw [runOps_len, hi])]
theorem known_num (t n z : Int) (h : 0 ≤ z ∧ z ≤ 999) : knownB t n z = true := by unfold knownB; rw [decide_eq_true_eq]; omega
structure RegOk (t : Int) (st : List (Int × Int × Int) × List Int) : Prop where
  kn : Kn t st.1
  row : ∀ a ∈ st.2, knownB t st.1.length a = true
  nodup : st.1.Nodup
theorem opAt_lt {ms : List (Int × Int × Int)} {op : Int × Int × Int} (h : op ∈ ms) : opAt ms op < ms.length ∧ ms[opAt ms op]? = some op := by
  unfold opAt
  have h1 := List.idxOf_lt_length_of_mem h
  exact ⟨h1, by rw [List.getElem?_eq_getElem h1, List.getElem_idxOf h1]⟩
theorem opAt_no {ms : List (Int × Int × Int)} {op : Int × Int × Int} (h : op ∉ ms) : opAt ms op = ms.length := List.idxOf_eq_length h
/-- One step of a straight program, and one of its registers. -/
theorem reg_step {t : Int} {inn : List Int} (ht : 0 ≤ t ∧ t ≤ 1000) (hi : inn.length = t.toNat) {z : Int} (hz : straightB z = true) {p : List Int} {ms : List (Int × Int × Int)} {row : List Int} (hR : RegOk t (ms, row)) {x : List Int × List (List Int)} (hx : stepR (z :: p) (holdR t inn ms row) = some x) :
    x = (p, holdR t inn (regStep z (ms, row)).1 (regStep z (ms, row)).2) ∧ RegOk t (regStep z (ms, row)) := by
  have hl : ∃ y, l2R (z :: p) (holdR t inn ms row) = some y ∧ x = y := by
    unfold stepR at hx
    split at hx
    · cases hx
    · rename_i y hy
      split at hx
      · cases hx; exact ⟨_, hy, rfl⟩
      · cases hx
  obtain ⟨y, hy, rfl⟩ := hl
  clear hx
  have hrow := hR.row
  dsimp only at hrow
  rcases straight_cases hz with h | h | h | h | h
  · rw [l2R, if_pos h.2] at hy
    cases hy
    rw [regStep, if_pos h.2]
    refine ⟨by rw [holdR_snoc, valR, if_pos h.2], ⟨hR.kn, fun a ha => ?_, hR.nodup⟩⟩
    rcases List.mem_append.1 ha with ha | ha
    · exact hrow a ha
    · simp at ha; subst ha; exact known_num _ _ _ h
  · subst h
    rw [l2R, if_neg (by omega), if_neg (by omega)] at hy
    rcases List.eq_nil_or_concat row with rfl | ⟨r, a, rfl⟩
    · simp [holdR, opR] at hy
    · rw [List.concat_eq_append] at *
      rw [holdR_snoc, opR] at hy
      unfold opR1 at hy
      rw [if_pos rfl] at hy
      cases hy
      have e : (regStep 1001 (ms, r ++ [a])) = (ms, r ++ [a] ++ [a]) := by
        rw [regStep, if_neg (by omega), if_pos rfl]
        simp [List.getD_eq_getElem?_getD]
      rw [e]
      refine ⟨by rw [holdR_snoc, holdR_snoc], ⟨hR.kn, fun b hb => ?_, hR.nodup⟩⟩
      rcases List.mem_append.1 hb with hb | hb
      · exact hrow b hb
      · simp at hb; subst hb; exact hrow _ (by simp)
  · subst h
    rw [l2R, if_neg (by omega), if_neg (by omega)] at hy
    rcases List.eq_nil_or_concat row with rfl | ⟨r, a, rfl⟩
    · simp [holdR, opR] at hy
    · rw [List.concat_eq_append] at *
      rw [holdR_snoc, opR] at hy
      unfold opR1 at hy
      rw [if_neg (by omega), if_pos rfl] at hy
      cases hy
      have e : (regStep 1002 (ms, r ++ [a])) = (ms, r) := by
        rw [regStep, if_neg (by omega), if_neg (by omega), if_pos rfl]
        simp
      rw [e]
      exact ⟨rfl, ⟨hR.kn, fun b hb => hrow b (List.mem_append_left _ hb), hR.nodup⟩⟩
  · subst h
    rw [l2R, if_neg (by omega), if_neg (by omega)] at hy
    rcases List.eq_nil_or_concat row with rfl | ⟨r1, a, rfl⟩
    · simp [holdR, opR] at hy
    · rw [List.concat_eq_append] at *
      rcases List.eq_nil_or_concat r1 with rfl | ⟨r, b, rfl⟩
      · rw [holdR_snoc, opR] at hy
        unfold opR1 at hy
        rw [if_neg (by omega), if_neg (by omega), if_neg (by omega)] at hy
        simp [holdR] at hy
      · rw [List.concat_eq_append] at *
        rw [holdR_snoc, holdR_snoc, opR] at hy
        unfold opR1 at hy
        rw [if_neg (by omega), if_neg (by omega), if_neg (by omega)] at hy
        dsimp only at hy
        unfold opR2 at hy
        rw [if_pos rfl] at hy
        cases hy
        have e : (regStep 1003 (ms, r ++ [b] ++ [a])) = (ms, r ++ [a] ++ [b]) := by
          rw [regStep, if_neg (by omega), if_neg (by omega), if_neg (by omega), if_pos rfl]
          simp [List.getD_eq_getElem?_getD]
        rw [e]
        refine ⟨by rw [holdR_snoc, holdR_snoc], ⟨hR.kn, fun c hc => hrow c ?_, hR.nodup⟩⟩
        simp at hc ⊢
        rcases hc with hc | hc | hc <;> simp [hc]
  · rw [l2R, if_neg (by omega), if_neg (by omega)] at hy
    rcases List.eq_nil_or_concat row with rfl | ⟨r1, a, rfl⟩
    · simp [holdR, opR] at hy
    · rw [List.concat_eq_append] at *
      rcases List.eq_nil_or_concat r1 with rfl | ⟨r, b, rfl⟩
      · rw [holdR_snoc, opR] at hy
        unfold opR1 at hy
        rw [if_neg (by omega), if_neg (by omega), if_neg (by omega)] at hy
        simp [holdR] at hy
      · rw [List.concat_eq_append] at *
        rw [holdR_snoc, holdR_snoc, opR] at hy
        unfold opR1 at hy
        rw [if_neg (by omega), if_neg (by omega), if_neg (by omega)] at hy
        dsimp only at hy
        unfold opR2 at hy
        rw [if_neg (by omega), if_neg (by omega), if_neg (by omega), if_pos ⟨h, by simp, by simp⟩] at hy
        cases hy
        have e : (regStep z (ms, r ++ [b] ++ [a])) = (opPut ms (z, b, a), r ++ [3000 + (opAt ms (z, b, a) : Int)]) := by
          rw [regStep, if_neg (by omega), if_neg (by omega), if_neg (by omega), if_neg (by omega)]
          simp [List.getD_eq_getElem?_getD]
        rw [e]
        have ka : knownB t ms.length a = true := hrow a (by simp)
        have kb : knownB t ms.length b = true := hrow b (by simp)
        have kr : ∀ c ∈ r, knownB t ms.length c = true := fun c hc => hrow c (by simp [hc])
        have hlen : (runOps t inn ms).length = t.toNat + ms.length := by rw [runOps_len, hi]
        dsimp only [List.getD_cons_zero]
        by_cases hm : (z, b, a) ∈ ms
        · obtain ⟨h1, h2⟩ := opAt_lt hm
          have hp : opPut ms (z, b, a) = ms := by unfold opPut; rw [if_neg (by omega)]
          have hv := ops_at ht hi ms.length ms rfl hR.kn _ _ h2
          rw [hp]
          refine ⟨?_, ⟨hR.kn, fun c hc => ?_, hR.nodup⟩⟩
          · have hval : valR t (runOps t inn ms) (3000 + (opAt ms (z, b, a) : Int)) = reck z (valR t (runOps t inn ms) b) (valR t (runOps t inn ms) a) := by
              rw [← hv]
              conv => lhs; unfold valR
              rw [if_neg (by omega), if_pos (by omega), show (t + (3000 + (opAt ms (z, b, a) : Int)) - 3000).toNat = t.toNat + opAt ms (z, b, a) by omega]
            rw [holdR_snoc, hval]; rfl
          · rcases List.mem_append.1 hc with hc | hc
            · exact kr c hc
            · simp at hc; subst hc
              unfold knownB; rw [decide_eq_true_eq]; right; right; dsimp only; omega
        · have h1 := opAt_no hm
          have hp : opPut ms (z, b, a) = ms ++ [(z, b, a)] := by unfold opPut; rw [if_pos h1]
          rw [hp, h1]
          refine ⟨?_, ⟨hR.kn.snoc kb ka, fun c hc => ?_, ?_⟩⟩
          · have hval : valR t (runOps t inn (ms ++ [(z, b, a)])) (3000 + (ms.length : Int)) = reck z (valR t (runOps t inn ms) b) (valR t (runOps t inn ms) a) := by
              conv => lhs; unfold valR
              rw [if_neg (by omega), if_pos (by omega), show (t + (3000 + (ms.length : Int)) - 3000).toNat = t.toNat + ms.length by omega, runOps_snoc]
              unfold opR8
              rw [List.getD_eq_getElem?_getD, List.getElem?_append_right (by omega), hlen]
              simp
            rw [holdR_snoc, holdR_more ht hi kr, hval]; rfl
          · rw [List.length_append, List.length_singleton]
            rcases List.mem_append.1 hc with hc | hc
            · exact known_mono (kr c hc) (by omega)
            · simp at hc; subst hc
              unfold knownB; rw [decide_eq_true_eq]; right; right; omega
          · rw [List.nodup_append]
            refine ⟨hR.nodup, by simp, fun x hx y hy => ?_⟩
            simp at hy
            rw [hy]
            intro e2
            exact hm (e2 ▸ hx)
theorem reg_run {t : Int} {inn : List Int} (ht : 0 ≤ t ∧ t ≤ 1000) (hi : inn.length = t.toNat) : ∀ (p : List Int) (f : Nat) (ms : List (Int × Int × Int)) (row : List Int) (y : List (List Int) × Nat), p.all straightB = true → RegOk t (ms, row) → runR f p (holdR t inn ms row) = some y →
    y.1 = holdR t inn (regRun (ms, row) p).1 (regRun (ms, row) p).2 := by
  intro p
  induction p with
  | nil => intro f ms row y _ _ h; rw [runR_nil] at h; cases h; rfl
  | cons z p ih =>
    intro f ms row y hs hR h
    rw [List.all_cons, Bool.and_eq_true] at hs
    rcases f with _ | f
    · rw [runR] at h; cases h
    · rw [runR] at h
      split at h
      · cases h
      · rename_i x hx
        obtain ⟨v, hv, rfl⟩ := Option.map_eq_some_iff.1 h
        obtain ⟨rfl, hR2⟩ := reg_step ht hi hs.1 hR hx
        rw [regRun]
        exact ih f _ _ v hs.2 hR2 hv
theorem startR_known (t : Int) (ht : 0 ≤ t) : RegOk t ([], startR t.toNat) := by
  refine ⟨fun k op h => by simp at h, fun a ha => ?_, List.nodup_nil⟩
  unfold startR at ha
  obtain ⟨k, hk, rfl⟩ := List.mem_map.1 ha
  rw [List.mem_range] at hk
  unfold knownB; rw [decide_eq_true_eq]; right; left; omega
theorem startR_hold {t : Int} {inn : List Int} (ht : 0 ≤ t ∧ t ≤ 1000) (hi : inn.length = t.toNat) : (inn.map fun z => [z]).reverse = holdR t inn [] (startR t.toNat) := by
  unfold holdR
  rw [List.map_reverse, runOps]
  congr 1
  apply List.ext_getElem
  · simp [startR, hi]
  · intro k h1 h2
    have hk : k < inn.length := by simpa using h1
    have hkt : k < t.toNat := by omega
    simp only [List.getElem_map, startR, List.getElem_range]
    rw [valR, if_neg (by omega), if_neg (by omega), show (2000 + (k : Int) - 2000).toNat = k by omega, List.getD_eq_getElem?_getD, List.getElem?_eq_getElem hk]
    rfl
/-- The registers' numbers: all operations stand once. -/
theorem reg_nodup : ∀ (p : List Int) (st : List (Int × Int × Int) × List Int), st.1.Nodup → (regRun st p).1.Nodup := by
  intro p
  induction p with
  | nil => intro st h; exact h
  | cons z p ih =>
    intro st h
    rw [regRun]
    refine ih _ ?_
    unfold regStep
    split
    · exact h
    · split
      · exact h
      · split
        · exact h
        · split
          · exact h
          · dsimp only
            generalize (z, st.2.getD (st.2.length - 2) 0, st.2.getD (st.2.length - 1) 0) = op
            unfold opPut
            split
            · rename_i h1
              rw [List.nodup_append]
              refine ⟨h, by simp, fun x hx y hy => ?_⟩
              simp at hy
              rw [hy]
              intro e
              have := (opAt_lt (e ▸ hx)).1
              omega
            · exact h
theorem reg_len {T : Nat} : ∀ (p : List Int) (n m : Nat) (st : List (Int × Int × Int) × List Int), p.all straightB = true → (countL (n, m) p).1 = T → st.2.length + n = m + T → (regRun st p).2.length = (countL (n, m) p).2 := by
  intro p
  induction p with
  | nil => intro n m st _ h h2; rw [countL] at h ⊢; rw [regRun]; dsimp only at h ⊢; omega
  | cons z p ih =>
    intro n m st hs h h2
    rw [List.all_cons, Bool.and_eq_true] at hs
    rw [countL] at h
    rw [countL, regRun]
    exact ih _ _ _ hs.2 h (row_next hs.1 h h2)
theorem countR_ok {p : List Int} (h : ¬ (countR p).1 < 0) : validB p = true ∧ p.all straightB = true ∧ countR p = (((countL (0, 0) p).1 : Int), ((countL (0, 0) p).2 : Int)) := by
  unfold countR at h ⊢
  split
  · rename_i hc; exact ⟨hc.1, hc.2, rfl⟩
  · rename_i hc; rw [if_neg hc] at h; exact absurd (by decide) h
theorem regs_count {p : List Int} (h : ¬ (countR p).1 < 0) : ((regRun ([], startR (countR p).1.toNat) p).2.length : Int) = (countR p).2 := by
  obtain ⟨_, hs, he⟩ := countR_ok h
  have := reg_len (T := (countL (0, 0) p).1) p 0 0 ([], startR (countL (0, 0) p).1) hs rfl (by simp [startR_len])
  rw [he]
  simp only [Int.toNat_natCast]
  rw [this]
theorem regs_leave {p inn : List Int} (h : ¬ (countR p).1 < 0) (hT : (countR p).1 ≤ 1000) (hi : inn.length = (countR p).1.toNat) {left : List (List Int)} {n : Int} (hr : runOfR p (inn.map fun z => [z]) = (left, n, true)) :
    left = (regRun ([], startR (countR p).1.toNat) p).2.map fun a => [valR (countR p).1 (runOps (countR p).1 inn (regRun ([], startR (countR p).1.toNat) p).1) a] := by
  obtain ⟨_, hs, he⟩ := countR_ok h
  obtain ⟨_, _, x, hx, hx2, _⟩ := runOfR_ok (p := p) (s := inn.map fun z => [z]) (by rw [hr])
  rw [hr] at hx2
  injection hx2 with hx2
  rw [startR_hold ⟨by omega, hT⟩ hi] at hx
  have := reg_run ⟨by omega, hT⟩ hi p 2000 [] _ x hs (startR_known _ (by omega)) hx
  rw [hx2, this]
  unfold holdR
  rw [← List.map_reverse, List.reverse_reverse]
end Go.Proofs.YtpdhdiidkjgjmaaGreat
