/- Chapter 9: NamesOf, the program's and the model's. -/
import Derived.Test.YtiaidkhkcbamaaaYd
import Derived.Test.YtiaidkhkcbamaaaYe
namespace Go.Proofs.Ytiaidkhkcbamaaa
set_option maxRecDepth 100000
open Go.RowKit Go.WideShapes

def cntsR (n : Nat) (p : List Int) : List Int := (List.range n).map fun (k : Nat) => ((p.count ((1101 : Int) + (k : Int)) : Nat) : Int)
theorem namesR_eq (d : List (List Int)) (p : List Int) : namesR d p = if usesOkB d p = true then cntsR d.length p else [] := rfl
theorem cnts_len (n : Nat) (p : List Int) : (cntsR n p).length = n := by simp [cntsR]
theorem cnts_get {n : Nat} {p : List Int} {j : Nat} (hj : j < n) : (cntsR n p).getD j 0 = ((p.count ((1101 : Int) + (j : Int)) : Nat) : Int) := by
  simp [cntsR, List.getD, hj]
theorem cnts_nil (n : Nat) : cntsR n [] = List.replicate n 0 := by
  apply List.ext_getElem
  · simp [cntsR]
  · intro j h1 h2
    simp [cntsR]
theorem count_take {p : List Int} {k : Nat} (hk : k < p.length) (y : Int) : (p.take (k + 1)).count y = (p.take k).count y + if p.getD k 0 = y then 1 else 0 := by
  rw [List.take_add_one, List.count_append]
  simp only [List.getElem?_eq_getElem hk, List.getD, Option.getD_some, Option.toList_some]
  rw [List.count_singleton]
  congr 1
  by_cases h : p[k] = y
  · simp [h]
  · simp [h]
theorem cnts_miss {n : Nat} {p : List Int} {k : Nat} (hk : k < p.length) (h : nmB n (p.getD k 0) = false) : cntsR n (p.take (k + 1)) = cntsR n (p.take k) := by
  unfold cntsR
  refine List.map_congr_left fun j hj => ?_
  rw [count_take hk, if_neg, Nat.add_zero]
  intro e
  rw [e, nmB_iff.2 ⟨j, List.mem_range.1 hj, rfl⟩] at h; cases h
theorem cnts_hit {n : Nat} {p : List Int} {k m : Nat} (hk : k < p.length) (hm : m < n) (h : p.getD k 0 = 1101 + (m : Int)) : cntsR n (p.take (k + 1)) = (cntsR n (p.take k)).set m ((cntsR n (p.take k)).getD m 0 + 1) := by
  apply List.ext_getElem
  · simp [cntsR]
  · intro j h1 h2
    rw [cnts_len] at h1
    rw [List.getElem_set]
    by_cases e : m = j
    · subst e
      rw [if_pos rfl, cnts_get hm]
      simp only [cntsR, List.getElem_map, List.getElem_range]
      rw [count_take hk, if_pos h]; rfl
    · rw [if_neg e]
      simp only [cntsR, List.getElem_map, List.getElem_range]
      rw [count_take hk, if_neg (by rw [h]; omega)]; rfl
theorem cnts_small {n : Nat} {p : List Int} : ∀ z ∈ cntsR n p, 0 ≤ z ∧ z ≤ (p.length : Int) := by
  intro z hz
  obtain ⟨k, _, rfl⟩ := List.mem_map.1 hz
  have := List.count_le_length (a := (1101 : Int) + (k : Int)) (l := p)
  exact ⟨by omega, by omega⟩
def sumR (l : List Int) : Int := l.foldr (· + ·) 0
def many9 (p : List Int) : Nat := p.countP fun z => decide (1101 ≤ z)
theorem sum_append (a b : List Int) : sumR (a ++ b) = sumR a + sumR b := by
  induction a with
  | nil => simp [sumR]
  | cons x a ih => simp only [sumR, List.cons_append, List.foldr_cons] at ih ⊢; rw [ih]; omega
theorem sum_set {l : List Int} {m : Nat} (h : m < l.length) (z : Int) : sumR (l.set m z) = sumR l + z - l.getD m 0 := by
  induction l generalizing m with
  | nil => simp at h
  | cons x l ih =>
    rcases m with _ | m
    · simp [sumR, List.getD]; omega
    · have := ih (m := m) (by simpa using h)
      simp only [sumR, List.set_cons_succ, List.foldr_cons] at this ⊢
      rw [this]
      simp [List.getD]; omega
theorem sum_zero (n : Nat) : sumR (List.replicate n 0) = 0 := by
  induction n with
  | zero => rfl
  | succ n ih => rw [List.replicate_succ]; simp only [sumR, List.foldr_cons] at ih ⊢; omega
theorem cnts_sum {n : Nat} {p : List Int} (h : ∀ z ∈ p, nmB n z = true ∨ isWordB z = true) : ∀ k, k ≤ p.length → sumR (cntsR n (p.take k)) = (many9 (p.take k) : Int) := by
  intro k
  induction k with
  | zero => intro _; rw [List.take_zero, cnts_nil, sum_zero]; rfl
  | succ k ih =>
    intro hk
    have hk' : k < p.length := by omega
    have hm : many9 (p.take (k + 1)) = many9 (p.take k) + if 1101 ≤ p.getD k 0 then 1 else 0 := by
      unfold many9
      rw [List.take_add_one, List.countP_append]
      simp only [List.getElem?_eq_getElem hk', List.getD, Option.getD_some, Option.toList_some]
      congr 1
      by_cases h : 1101 ≤ p[k]
      · simp [h]
      · simp [h]
    rcases h (p.getD k 0) (by simp [List.getD, List.getElem?_eq_getElem hk']) with h1 | h1
    · obtain ⟨m, hmn, he⟩ := nmB_iff.1 h1
      rw [cnts_hit hk' hmn he, sum_set (by rw [cnts_len]; exact hmn), ih (by omega), hm, if_pos (by omega)]
      omega
    · have hw := isWordB_lt h1
      rw [cnts_miss hk', ih (by omega), hm, if_neg (by omega)]
      · rfl
      · rcases hn : nmB n (p.getD k 0) with _ | _
        · rfl
        · obtain ⟨m, hmn, he⟩ := nmB_iff.1 hn; omega

set_option maxHeartbeats 1000000 in
theorem NamesOf_I (v0 : Value) (x0 : List (List Int)) (v1 : Value) (x1 : List Int) (w : World) (h0 : RdS w v0 x0) (hl0 : x0.length ≤ 1048576) (hls0 : szS x0 ≤ 1048576) (h1 : RdI w v1 x1) (hl1 : x1.length ≤ 1048576) (y0 : List Int) (hR : namesR x0 x1 = y0) :
    Calls Try.prog 28 #[v0, v1] w fun e w' => ∃ u, e = .returned u ∧ OwnI w' w.heap.size w'.heap.size u y0 ∧ Below w.heap.size w w' := by
  have H := Lib.hid (And.intro h0 h1)
  obtain ⟨A, c, rfl, _⟩ := h0
  obtain ⟨A1, c1, rfl, hi1, _⟩ := h1
  have HJ := Lib.hid hi1; clear hi1
  have HR := Lib.hid hR; clear hR
  rcases hd : usesOkB x0 x1 with _ | _ <;> have HD := Lib.hid hd <;> clear hd
  · obtain rfl : [] = y0 := by rw [← HR.out, namesR_eq, HD.out]; rfl
    go_enter Try.func28, Try.ntmps28
    go_wp2_with fail
    refine (UsesOk_I _ x0 _ x1 _ H.out.1 hl0 hls0 H.out.2 hl1 false HD.out).mono ?_
    rintro e w1 ⟨rfl, hb⟩
    have HB := Lib.hid hb; clear hb
    go_wp2
    go_ret
    exact ⟨_, rfl, nilOwn _ _ _, HB.out⟩
  have hy : cntsR x0.length x1 = y0 := by rw [← HR.out, namesR_eq, HD.out]; rfl
  have hu := HD.out
  simp only [usesOkB, Bool.and_eq_true] at hu
  have hn6 := (dictB_parts hu.1).1
  have hl60 := uses_len hu.2
  have HY := Lib.hid hy; clear hy HR hu
  obtain ⟨i0, hi0, hz0, hz1, hz2⟩ := info_parts intInfo
  go_enter Try.func28, Try.ntmps28
  go_wp2_with fail
  refine (UsesOk_I _ x0 _ x1 _ H.out.1 hl0 hls0 H.out.2 hl1 true HD.out).mono ?_
  rintro e w0 ⟨rfl, hb⟩
  have hbz := hb.size
  have HB := Lib.hid hb; clear hb
  go_wp2_with (at_make; refine wpList_make_full _ rfl _ _ _ rfl w0.heap.size 3 i0 (.int .i64 0) 1 Try.underlying28 hi0 hz0 hz1 _ _ _ _ x0.length rfl rfl rfl rfl (by rw [hz2]; omega) (by unfold maxLen; omega) (by simp) ?_)
  intro w1 hown1 hg1
  rw [toList_madeCells_one] at hown1
  have hb1 : Below w0.heap.size w0 w1 := below_of_only hg1 (Nat.le_refl _) (by simp)
  have hlt1 : w0.heap.size < w1.heap.size := (hown1.lt w0.heap.size rfl).2
  obtain ⟨g, HG⟩ : ∃ g, Hid (w0.heap.size = g) := ⟨_, Lib.hid rfl⟩
  rw [HG.out] at hown1 hlt1 hbz hb1
  have hstart : OwnI w1 g (g + 1) (.slice (some ⟨g, 0, none⟩) x0.length x0.length) (cntsR x0.length (x1.take 0)) := by
    rw [List.take_zero, cnts_nil]
    refine ⟨⟨by simpa using hown1, fun z hz => ?_⟩, fun q hq => ?_⟩
    · rw [List.eq_of_mem_replicate hz]; exact wf_near 0 (by omega)
    · simp [Value.ownBlock] at hq; omega
  have X1 := Lib.hid (And.intro hstart (HB.out.trans (hb1.mono hbz))); clear hstart hown1 hg1 hb1 HB
  rw [HG.out]
  go_wp2
  go_loopw [17] (fun i wr => ∃ k : Nat, k ≤ x1.length ∧ i = .int .i64 k ∧ g < wr.heap.size ∧ OwnI wr g (g + 1) (.slice (some ⟨g, 0, none⟩) x0.length x0.length) (cntsR x0.length (x1.take k)) ∧ Below w.heap.size w wr) (fun i _ => x1.length - (intOf i).toNat)
  case atStart => exact ⟨0, Nat.zero_le _, rfl, hlt1, X1.out⟩
  case round =>
    clear X1 hlt1
    obtain ⟨k, hk, rfl, hgs, hown, hbw⟩ := hrel
    have X := Lib.hid (And.intro hown hbw); clear hown hbw
    by_cases hlt : k < x1.length
    · have hkI : (k : Int) < x1.length := by omega
      obtain ⟨b, off, rfl, hb, hcc⟩ := HJ.out.at_ (by omega)
      have hcell := (X.out.2.cell (p := ⟨b, off + k, none⟩) hb).trans (hcc k hlt)
      clear hcc
      rcases hz : nmB x0.length (x1.getD k 0) with _ | _ <;> have HZ := Lib.hid hz <;> clear hz
      · have hm := cnts_miss hlt HZ.out
        have hnew : OwnI wr g (g + 1) (.slice (some ⟨g, 0, none⟩) x0.length x0.length) (cntsR x0.length (x1.take (k + 1))) := by rw [hm]; exact X.out.1
        have HN := Lib.hid hnew; clear hnew hm
        generalize x1.getD k 0 = z at *
        go_wp2_with (go_at_call 55; refine (isName_any z x0.length _ (by omega)).mono ?_; rw [HZ.out]; rintro e w' ⟨rfl, rfl⟩)
        go_roundw
        case rel => exact ⟨k + 1, by omega, by go_num, hgs, HN.out, X.out.2⟩
        case measure => simp [intOf]; omega
      · obtain ⟨m, hm, he⟩ := nmB_iff.1 HZ.out
        have hh := cnts_hit hlt hm he
        have hlc := cnts_len x0.length (x1.take k)
        have hown := X.out.1
        have hbd := cnts_small (n := x0.length) (p := x1.take k) ((cntsR x0.length (x1.take k)).getD m 0) (by rw [List.getD, List.getElem?_eq_getElem (by omega)]; exact List.getElem_mem _)
        have htl : (x1.take k).length ≤ 60 := by rw [List.length_take]; omega
        generalize cntsR x0.length (x1.take k) = ys at *
        obtain ⟨ys', HE⟩ : ∃ ys', Hid (cntsR x0.length (x1.take (k + 1)) = ys') := ⟨_, Lib.hid rfl⟩
        rw [HE.out] at hh
        have hown2 : OwnI wr g (g + 1) (.slice (some ⟨g, 0, none⟩) ys.length x0.length) ys := by rw [hlc]; exact hown
        obtain ⟨cm, fm⟩ := hown2.cellAt9 m (by omega)
        obtain ⟨o1, w1'⟩ := hown2.put9 m (ys.getD m 0 + 1) (wf_near _ (by omega))
        rw [← hh] at o1
        have hl' : ys'.length = x0.length := by rw [hh, List.length_set]; exact hlc
        rw [hl'] at o1
        have hb2 : Below w.heap.size w (wr.setCell ⟨g, m, none⟩ (.int .i64 (ys.getD m 0 + 1))) := X.out.2.trans (w1'.below (by omega) X.out.2.size)
        have HN := Lib.hid (And.intro o1 hb2); clear o1 hb2 w1' hown hown2 hh hl' hlc
        have he2 : x1.getD k 0 - 1101 = (m : Int) := by omega
        have hmI : (m : Int) < x0.length := by omega
        have hbd2 : ys.getD m 0 ≤ 60 := by omega
        have hbd1 := hbd.1
        clear he hbd htl
        generalize x1.getD k 0 = z at *
        generalize ys.getD m 0 = y at *
        go_wp2_with (go_at_call 55; refine (isName_any z x0.length _ (by omega)).mono ?_; rw [HZ.out]; rintro e w' ⟨rfl, rfl⟩)
        go_roundw
        case rel => exact ⟨k + 1, by omega, by go_num, by simpa using hgs, by rw [HE.out]; exact HN.out⟩
        case measure => simp [intOf]; omega
    · have hke : x1.take k = x1 := List.take_of_length_le (by omega)
      have hown := X.out.1
      rw [hke, HY.out] at hown
      have hfin : OwnI wr w.heap.size wr.heap.size (.slice (some ⟨g, 0, none⟩) x0.length x0.length) y0 := ⟨hown.own.mono hbz, fun q hq => by have := hown.lt q hq; omega⟩
      have HF := Lib.hid hfin; clear hfin hown hke
      go_wp2
      go_ret
      exact ⟨_, rfl, HF.out, X.out.2⟩
theorem cnts_take {n : Nat} {p : List Int} {k : Nat} (hk : k < n) : (cntsR n p).take (k + 1) = (cntsR n p).take k ++ [((p.count ((1101 : Int) + (k : Int)) : Nat) : Int)] := by
  rw [List.take_add_one]
  congr 1
  have h1 : k < (cntsR n p).length := by rw [cnts_len]; exact hk
  have h2 := cnts_get (p := p) hk
  rw [List.getD, List.getElem?_eq_getElem h1, Option.getD_some] at h2
  rw [List.getElem?_eq_getElem h1, h2]; rfl
set_option maxHeartbeats 1000000 in
theorem NamesOf_S (v0 : Value) (x0 : List (List Int)) (v1 : Value) (x1 : List Int) (w : World) (h0 : RdS w v0 x0) (hl0 : x0.length ≤ 1048576) (hls0 : szS x0 ≤ 1048576) (h1 : RdI w v1 x1) (hl1 : x1.length ≤ 1048576) (y0 : List Int) (hR : namesR x0 x1 = y0) :
    Calls Try.prog 29 #[v0, v1] w fun e w' => ∃ u, e = .returned u ∧ OwnI w' w.heap.size w'.heap.size u y0 ∧ Below w.heap.size w w' := by
  have H := Lib.hid (And.intro h0 h1)
  obtain ⟨A, c, rfl, _⟩ := h0
  obtain ⟨A1, c1, rfl, hi1, _⟩ := h1
  have HJ := Lib.hid hi1; clear hi1
  have HR := Lib.hid hR; clear hR
  have L0 := Lib.hid (nilLit w)
  rcases hd : usesOkB x0 x1 with _ | _ <;> have HD := Lib.hid hd <;> clear hd
  · obtain rfl : [] = y0 := by rw [← HR.out, namesR_eq, HD.out]; rfl
    go_enter Try.func29, Try.ntmps29
    go_wp2
    go_loopw [5, 6] (fun q i wr => q = .slice (some ⟨w.heap.size, 0, none⟩) 0 0 ∧ i = .int .i64 0 ∧ wr = w.alloc (.cells #[] 3)) (fun _ _ _ => 0)
    case atStart => exact ⟨rfl, rfl, rfl⟩
    case round =>
      obtain ⟨rfl, rfl, rfl⟩ := hrel
      by_cases h0 : 0 < x0.length
      · have h0I : (0 : Int) < x0.length := by omega
        go_wp2_with fail
        refine (UsesOk_S _ x0 _ x1 _ (RdS.step H.out.1 L0.out.2) hl0 hls0 (H.out.2.step L0.out.2) hl1 false HD.out).mono ?_
        rintro e w1 ⟨rfl, hb⟩
        have hz := hb.size
        have hfin : OwnI w1 w.heap.size w1.heap.size (.slice (some ⟨w.heap.size, 0, none⟩) 0 0) [] := (L0.out.1.below hb).widen hz
        have HB := Lib.hid (And.intro hfin (L0.out.2.trans (hb.mono (by simp)))); clear hb hfin
        go_wp2
        go_ret
        exact ⟨_, rfl, HB.out⟩
      · have h0I : ¬ (0 : Int) < x0.length := by omega
        go_wp2
        go_ret
        exact ⟨_, rfl, L0.out⟩
  have hy : cntsR x0.length x1 = y0 := by rw [← HR.out, namesR_eq, HD.out]; rfl
  have hu := HD.out
  simp only [usesOkB, Bool.and_eq_true] at hu
  have hn6 := (dictB_parts hu.1).1
  have hl60 := uses_len hu.2
  have HY := Lib.hid hy; clear hy HR hu
  go_enter Try.func29, Try.ntmps29
  go_wp2
  go_loopw [5, 6] (fun q i wr => ∃ k : Nat, k ≤ x0.length ∧ i = .int .i64 k ∧ w.heap.size ≤ wr.heap.size ∧ Below w.heap.size w wr ∧ OwnI wr w.heap.size wr.heap.size q ((cntsR x0.length x1).take k)) (fun _ i _ => x0.length - (intOf i).toNat)
  case atStart => exact ⟨0, Nat.zero_le _, rfl, by simp, L0.out.2, L0.out.1⟩
  case round =>
    clear L0
    obtain ⟨k, hk, rfl, hsz, hbk, hown⟩ := hrel
    have X := Lib.hid (And.intro hbk hown); clear hbk hown
    by_cases hlt : k < x0.length
    · have hkI : (k : Int) < x0.length := by omega
      have hct := cnts_take (p := x1) hlt
      have HC := Lib.hid hct; clear hct
      go_wp2_with fail
      refine (UsesOk_S _ x0 _ x1 _ (H.out.1.step (X.out.1)) hl0 hls0 (H.out.2.step (X.out.1)) hl1 true HD.out).mono ?_
      rintro e w1 ⟨rfl, hb⟩
      have hz := hb.size
      have Y := Lib.hid (And.intro ((X.out.2.below hb).widen hz) (X.out.1.trans (hb.mono hsz))); clear hb X
      go_wp2
      go_loop [7, 8] (fun n j => ∃ m : Nat, m ≤ x1.length ∧ j = .int .i64 m ∧ n = .int .i64 ((x1.take m).count ((1101 : Int) + (k : Int)) : Nat)) (fun _ j => x1.length - (intOf j).toNat)
      case atStart => exact ⟨0, Nat.zero_le _, rfl, by simp⟩
      case round =>
        obtain ⟨m, hm, rfl, rfl⟩ := hrel
        by_cases hmt : m < x1.length
        · have hmI : (m : Int) < x1.length := by omega
          obtain ⟨b, off, rfl, hb, hcc⟩ := HJ.out.at_ (by omega)
          have hcell := (Y.out.2.cell (p := ⟨b, off + m, none⟩) hb).trans (hcc m hmt)
          have hcnt := count_take hmt ((1101 : Int) + (k : Int))
          have hle := List.count_le_length (a := (1101 : Int) + (k : Int)) (l := x1.take m)
          rw [List.length_take] at hle
          clear hcc
          generalize x1.getD m 0 = z at *
          generalize (x1.take m).count ((1101 : Int) + (k : Int)) = n at *
          have hn60 : n ≤ 60 := by omega
          by_cases he : z = 1101 + (k : Int)
          · rw [if_pos he] at hcnt
            have HN := Lib.hid hcnt; clear hcnt hle
            have hbq : (z == 1101 + (k : Int)) = true := by simpa using he
            clear he
            go_wp2
            go_round
            case rel => exact ⟨m + 1, by omega, by go_num, by rw [HN.out]; go_num⟩
            case measure => simp [intOf]; omega
          · rw [if_neg he] at hcnt
            have HN := Lib.hid hcnt; clear hcnt hle
            have hbq : (z == 1101 + (k : Int)) = false := by simpa using he
            clear he
            go_wp2
            go_round
            case rel => exact ⟨m + 1, by omega, by go_num, by rw [HN.out]; go_num⟩
            case measure => simp [intOf]; omega
        · have hme : x1.take m = x1 := List.take_of_length_le (by omega)
          rw [hme]
          clear hme
          have hle := List.count_le_length (a := (1101 : Int) + (k : Int)) (l := x1)
          obtain ⟨z, HZ⟩ : ∃ z : Int, Hid (((x1.count ((1101 : Int) + (k : Int)) : Nat) : Int) = z) := ⟨_, Lib.hid rfl⟩
          have hzb : 0 ≤ z ∧ z ≤ 60 := by rw [← HZ.out]; omega
          rw [HZ.out]
          have hk60 : ((cntsR x0.length x1).take k).length ≤ 900000000 := by rw [List.length_take, cnts_len]; omega
          go_wp2_with (at_builtin; refine wpList_append_z rfl _ _ _ rfl Try.underlying28 intInfo z rfl (wf_near z (by omega)) w.heap.size w1.heap.size _ _ rfl Y.out.1 (by omega) rfl hk60 ?_)
          intro v2 w2 ho2 hb2 _
          have hz2 : w.heap.size ≤ w2.heap.size := by have := hb2.size; omega
          have ho3 : OwnI w2 w.heap.size w2.heap.size v2 ((cntsR x0.length x1).take (k + 1)) := by rw [HC.out, HZ.out]; exact ho2
          have Z := Lib.hid (And.intro (Y.out.2.trans hb2) ho3); clear ho2 hb2 ho3 Y
          go_wp2
          go_roundw
          case rel => exact ⟨k + 1, by omega, by go_num, hz2, Z.out.1, Z.out.2⟩
          case measure => simp [intOf]; omega
    · have hke : (cntsR x0.length x1).take k = y0 := by rw [List.take_of_length_le (by rw [cnts_len]; omega)]; exact HY.out
      have hown := X.out.2
      rw [hke] at hown
      have HO := Lib.hid hown; clear hown hke
      go_wp2
      go_ret
      exact ⟨_, rfl, HO.out, X.out.1⟩
theorem namesR_sz (d : List (List Int)) (p : List Int) : szI (namesR d p) ≤ 1000000 := by
  rw [namesR_eq]
  split
  · rename_i h
    simp only [usesOkB, Bool.and_eq_true] at h
    have := (dictB_parts h.1).1
    unfold szI
    rw [cnts_len]; omega
  · simp [szI]
end Go.Proofs.Ytiaidkhkcbamaaa
