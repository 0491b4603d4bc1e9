/- The program's EffectOk: the letters named in order. -/
import Derived.Test.YtkiedpdhehehfaaTl
import Derived.Test.YtkiedpdhehehfaaB5
import Derived.BigQuiet
namespace Go.Proofs.Ytkiedpdhehehfaa
set_option maxRecDepth 100000
open Go.RowKit Go.WideShapes

/-- The letters have the numbers from a on (kind 1), and from b on (kind 3), in order. -/
def nameB : Int → Int → List (Int × Int) → Bool
  | _, _, [] => true
  | a, b, (k, n) :: r => if k = 1 then (n == a) && nameB (a + 1) b r else (n == b) && nameB a (b + 1) r
theorem nameB_drop {a b : Int} {ls : List (Int × Int)} {j : Nat} {k n : Int} (h : ls[j]? = some (k, n)) : nameB a b (ls.drop j) = if k = 1 then (n == a) && nameB (a + 1) b (ls.drop (j + 1)) else (n == b) && nameB a (b + 1) (ls.drop (j + 1)) := by
  obtain ⟨hj, e⟩ := List.getElem?_eq_some_iff.1 h
  rw [List.drop_eq_getElem_cons hj, e, nameB]
def NRel (w : World) (ls : List (Int × Int)) (k : Value) (wr : World) : Prop := ∃ (j : Nat) (a b : Int), k = .int .i64 j ∧ j ≤ ls.length ∧ Blk wr w.heap.size #[.int .i64 0, .int .i64 a, .int .i64 0, .int .i64 b, .int .i64 0] 189 ∧ Below w.heap.size w wr ∧ nameB 0 0 ls = nameB a b (ls.drop j) ∧ 0 ≤ a ∧ a ≤ j ∧ 0 ≤ b ∧ b ≤ j
set_option maxHeartbeats 2000000 in
theorem named_any (lo g : Nat) (rv lv : Value) (us : List Value) (rest : List Int) (ls : List (Int × Int)) (w : World) (h : TRd w lo g rv lv us rest ls) (hk : ∀ kn ∈ ls, kn.1 = 1 ∨ kn.1 = 3) (hl : ls.length ≤ 1000000) :
    Calls Try.prog 140 #[lv] w fun e w' => e = .returned (.bool (nameB 0 0 ls)) ∧ Below w.heap.size w w' := by
  obtain ⟨A, c, rfl⟩ := ownsRow_form h.row
  have hal : Below w.heap.size w (w.alloc (.cells #[.int .i64 0, .int .i64 0, .int .i64 0, .int .i64 0, .int .i64 0] 189)) := (Below.refl _ _).alloc (Nat.le_refl _) _
  have hst : NRel w ls (.int .i64 ((0 : Nat) : Int)) (w.alloc (.cells #[.int .i64 0, .int .i64 0, .int .i64 0, .int .i64 0, .int .i64 0] 189)) := ⟨0, 0, 0, rfl, Nat.zero_le _, Blk.new _ _ _, hal, by simp, by omega, by omega, by omega, by omega⟩
  have Hst := Lib.hid hst; clear hst hal
  have HT := Lib.hid (And.intro h hk); clear h hk
  go_enter Try.func140, Try.ntmps140
  go_wp2
  go_loopw [8] (fun k wr => NRel w ls k wr) (fun k _ => ls.length - (intOf k).toNat)
  case atStart => exact Hst.out
  case round =>
    clear Hst
    obtain ⟨j, a, b, rfl, hj, hB, hbw, hnm, ha0, ha1, hb0, hb1⟩ := hrel
    have hsw := hbw.size
    by_cases hlt : j < ls.length
    · obtain ⟨⟨k1, n1⟩, hkn⟩ : ∃ kn, ls[j]? = some kn := ⟨ls[j], List.getElem?_eq_getElem hlt⟩
      have hkd := HT.out.2 _ (List.mem_of_getElem? hkn)
      have hul : us.length = ls.length := HT.out.1.len
      obtain ⟨u, hu⟩ : ∃ u, us[j]? = some u := ⟨us[j]'(by omega), List.getElem?_eq_getElem (by omega)⟩
      obtain ⟨b1, rfl, hlb, d2, d3, d4, hblk⟩ := HT.out.1.term j u _ hu hkn
      have hbl := hblk.lt
      have hrow := HT.out.1.row
      obtain ⟨gl, rfl⟩ : ∃ gl, A = some ⟨gl, 0, none⟩ := by
        rcases hrow.2 with ⟨_, h1⟩ | ⟨gl, cap, cur, he, _⟩
        · omega
        · cases he; exact ⟨gl, rfl⟩
      have hgl := (hrow.lt gl rfl).2
      have hcell : wr.cell? ⟨gl, j, none⟩ = some (.pointer (some ⟨b1, 0, none⟩)) := by
        rw [hbw.cell (p := ⟨gl, j, none⟩) hgl, hrow.cellAt j (by omega)]; exact hu
      have hblk2 := hblk.below hbw hbl
      have t0 := hblk2.cell 0
      have t1 := hblk2.cell 1
      simp only [List.getElem?_toArray, List.getElem?_cons_zero, List.getElem?_cons_succ] at t0 t1
      have z1 := hB.cell 1
      have z3 := hB.cell 3
      have f1 := hB.free 1
      have f3 := hB.free 3
      simp only [List.getElem?_toArray, List.getElem?_cons_zero, List.getElem?_cons_succ] at z1 z3
      have hltI : (j : Int) < ls.length := by omega
      rw [nameB_drop hkn] at hnm
      have hd : Below wr.heap.size wr wr.drew := (Below.refl _ _).drew
      have hBl := hB.lt
      have X := Lib.hid (And.intro hnm (And.intro hB hbw)); clear hnm hB hbw hu hkn hblk hblk2 hul hrow
      rcases hkd with h1 | h1
      · dsimp only at h1
        subst h1
        by_cases he : n1 = a
        · have heb : (n1 != a) = false := by simp [he]
          have heb2 : (n1 == a) = true := by simp [he]
          have hnm2 : nameB 0 0 ls = nameB (a + 1) b (ls.drop (j + 1)) := by rw [X.out.1, if_pos rfl, heb2]; rfl
          have Y := Lib.hid hnm2; clear hnm2 heb2
          go_wp2
          go_quiet (fail)
          go_wp2
          have hdn : Below wr.heap.size wr (wr.drewN nq) := below_drewN (Below.refl _ _) nq
          have hB2 := (X.out.2.1.below hdn (by omega)).set 1 (.int .i64 (a + 1))
          have hb2 := (X.out.2.2.trans (hdn.mono hsw)).setCell (p := ⟨w.heap.size, 1, none⟩) (Nat.le_refl _) (.int .i64 (a + 1))
          have V := Lib.hid (And.intro hB2 hb2); clear hdn hB2 hb2 X
          go_roundw
          case rel => exact ⟨j + 1, (a + 1), b, by first | rfl | go_num, by omega, V.out.1, V.out.2, Y.out, by omega, by omega, by omega, by omega⟩
          case measure => simp [intOf]; omega
        · have heb : (n1 != a) = true := by simp [he]
          have hnm2 : nameB 0 0 ls = false := by
            have h2 : (n1 == a) = false := by simp [he]
            rw [X.out.1, if_pos rfl, h2]; rfl
          have Y := Lib.hid (And.intro hnm2 X.out.2.2); clear hnm2 X
          go_wp2
          go_quiet (fail)
          go_wp2
          go_ret
          exact ⟨ret_bool Y.out.1.symm, below_drewN Y.out.2 _⟩
      · dsimp only at h1
        subst h1
        by_cases he : n1 = b
        · have heb : (n1 != b) = false := by simp [he]
          have heb2 : (n1 == b) = true := by simp [he]
          have hnm2 : nameB 0 0 ls = nameB a (b + 1) (ls.drop (j + 1)) := by rw [X.out.1, if_neg (by decide), heb2]; rfl
          have Y := Lib.hid hnm2; clear hnm2 heb2
          go_wp2
          go_quiet (fail)
          go_wp2
          have hdn : Below wr.heap.size wr (wr.drewN nq) := below_drewN (Below.refl _ _) nq
          have hB2 := (X.out.2.1.below hdn (by omega)).set 3 (.int .i64 (b + 1))
          have hb2 := (X.out.2.2.trans (hdn.mono hsw)).setCell (p := ⟨w.heap.size, 3, none⟩) (Nat.le_refl _) (.int .i64 (b + 1))
          have V := Lib.hid (And.intro hB2 hb2); clear hdn hB2 hb2 X
          go_roundw
          case rel => exact ⟨j + 1, a, (b + 1), by first | rfl | go_num, by omega, V.out.1, V.out.2, Y.out, by omega, by omega, by omega, by omega⟩
          case measure => simp [intOf]; omega
        · have heb : (n1 != b) = true := by simp [he]
          have hnm2 : nameB 0 0 ls = false := by
            have h2 : (n1 == b) = false := by simp [he]
            rw [X.out.1, if_neg (by decide), h2]; rfl
          have Y := Lib.hid (And.intro hnm2 X.out.2.2); clear hnm2 X
          go_wp2
          go_quiet (fail)
          go_wp2
          go_ret
          exact ⟨ret_bool Y.out.1.symm, below_drewN Y.out.2 _⟩
    · have hnm2 : nameB 0 0 ls = true := by rw [hnm, List.drop_eq_nil_of_le (by omega)]; rfl
      have Y := Lib.hid (And.intro hnm2 hbw); clear hnm hnm2 hbw hB
      go_wp2
      go_ret
      exact ⟨ret_bool Y.out.1.symm, Y.out.2⟩

theorem addL_kinds {ls : List (Int × Int)} {kn : Int × Int} (h : ∀ x ∈ ls, x.1 = 1 ∨ x.1 = 3) (hk : kn.1 = 1 ∨ kn.1 = 3) : ∀ x ∈ addL ls kn, x.1 = 1 ∨ x.1 = 3 := by
  unfold addL
  split
  · exact h
  · intro x hx
    rcases List.mem_append.1 hx with h1 | h1
    · exact h x h1
    · simp at h1; rw [h1]; exact hk
theorem lets_kinds (n : Nat) (b : Bool) (zs : List Int) (ls : List (Int × Int)) (h : ∀ x ∈ ls, x.1 = 1 ∨ x.1 = 3) : ∀ x ∈ lets n b zs ls, x.1 = 1 ∨ x.1 = 3 := by
  induction n generalizing b zs ls with
  | zero => exact h
  | succ n ih =>
    rcases b with _ | _
    · rw [lets]
      split
      · exact h
      split
      · exact addL_kinds h (.inl rfl)
      · exact ih _ _ _ (ih _ _ _ h)
    · rw [lets]
      split
      · exact addL_kinds h (.inr rfl)
      · exact ih _ _ _ (ih _ _ _ h)
theorem wholeR_kinds {zs : List Int} {ls l : List (Int × Int)} (h : ∀ x ∈ ls, x.1 = 1 ∨ x.1 = 3) (hw : wholeR zs ls = some l) : ∀ x ∈ l, x.1 = 1 ∨ x.1 = 3 := by
  unfold wholeR at hw
  split at hw
  · cases hw; exact lets_kinds _ _ _ _ h
  · cases hw

/-- What the two rows of an effect name, one behind the other. -/
def effL (a b : List Int) : Option (List (Int × Int)) := (wholeR a []).bind (wholeR b)
def effB (a b : List Int) : Bool := match effL a b with
  | some l => nameB 0 0 l
  | none => false
def ReadPost (w : World) (a b : List Int) (e : Ending) (w' : World) : Prop := ∃ p q A n c, e = .returned (.tuple #[.agg #[.pointer p, .pointer q, .slice A n c], .bool (effB a b)]) ∧ Below w.heap.size w w'
theorem blk_three {w : World} {g : Nat} {a b c : Value} {T : TypeId} (h : Blk w g #[a, b, c] T) : w.cell? ⟨g, 0, none⟩ = some a ∧ w.cell? ⟨g, 1, none⟩ = some b ∧ w.cell? ⟨g, 2, none⟩ = some c ∧ w.frozen? ⟨g, 0, none⟩ = false ∧ w.frozen? ⟨g, 1, none⟩ = false ∧ w.frozen? ⟨g, 2, none⟩ = false :=
  ⟨h.cell 0, h.cell 1, h.cell 2, h.free 0, h.free 1, h.free 2⟩
theorem blk_three_out {w : World} {g : Nat} {a b c x y z : Value} {T : TypeId} (h : Blk w g #[a, b, c] T) : (((w.setCell ⟨g, 0, none⟩ x).setCell ⟨g, 1, none⟩ y).setCell ⟨g, 2, none⟩ z).cell? ⟨g, 0, none⟩ = some x ∧ (((w.setCell ⟨g, 0, none⟩ x).setCell ⟨g, 1, none⟩ y).setCell ⟨g, 2, none⟩ z).cell? ⟨g, 1, none⟩ = some y ∧ (((w.setCell ⟨g, 0, none⟩ x).setCell ⟨g, 1, none⟩ y).setCell ⟨g, 2, none⟩ z).cell? ⟨g, 2, none⟩ = some z :=
  ⟨(((h.set 0 x).set 1 y).set 2 z).cell 0, (((h.set 0 x).set 1 y).set 2 z).cell 1, (((h.set 0 x).set 1 y).set 2 z).cell 2⟩
theorem blk_two2 {w : World} {g : Nat} {a b : Value} {T : TypeId} (h : Blk w g #[a, b] T) : w.cell? ⟨g, 0, none⟩ = some a ∧ w.cell? ⟨g, 1, none⟩ = some b := ⟨h.cell 0, h.cell 1⟩
set_option maxHeartbeats 2000000 in
theorem readEffect_any (v0 v1 : Value) (a b : List Int) (w : World) (h0 : RdI w v0 a) (h1 : RdI w v1 b) :
    Calls Try.prog 96 #[.agg #[v0, v1]] w (ReadPost w a b) := by
  have b0 : Below w.heap.size w (w.alloc (.cells #[v0, v1] 63)) := (Below.refl _ _).alloc (Nat.le_refl _) _
  have b1 : Below w.heap.size w ((w.alloc (.cells #[v0, v1] 63)).alloc (.cells #[.pointer none, .pointer none, .slice none 0 0] 120)) := b0.alloc (by simp) _
  have b2 : Below w.heap.size w (((w.alloc (.cells #[v0, v1] 63)).alloc (.cells #[.pointer none, .pointer none, .slice none 0 0] 120)).alloc (.cells #[.slice none 0 0, .slice none 0 0] 133)) := b1.alloc (by simp; omega) _
  have hr := reader_new ((w.alloc (.cells #[v0, v1] 63)).alloc (.cells #[.pointer none, .pointer none, .slice none 0 0] 120))
  have k1 := Blk.new w #[v0, v1] 63
  have k2 := Blk.new (w.alloc (.cells #[v0, v1] 63)) #[.pointer none, .pointer none, .slice none 0 0] 120
  simp only [World.size_alloc] at hr k2
  have l1 : Below (w.heap.size + 1) (w.alloc (.cells #[v0, v1] 63)) ((w.alloc (.cells #[v0, v1] 63)).alloc (.cells #[.pointer none, .pointer none, .slice none 0 0] 120)) := (Below.refl _ _).alloc (by simp) _
  have l2 : Below (w.heap.size + 1 + 1) ((w.alloc (.cells #[v0, v1] 63)).alloc (.cells #[.pointer none, .pointer none, .slice none 0 0] 120)) (((w.alloc (.cells #[v0, v1] 63)).alloc (.cells #[.pointer none, .pointer none, .slice none 0 0] 120)).alloc (.cells #[.slice none 0 0, .slice none 0 0] 133)) := (Below.refl _ _).alloc (by simp) _
  have hR0 : RdBI (((w.alloc (.cells #[v0, v1] 63)).alloc (.cells #[.pointer none, .pointer none, .slice none 0 0] 120)).alloc (.cells #[.slice none 0 0, .slice none 0 0] 133)) (w.heap.size + 1 + 1) v0 a := by
    obtain ⟨A, c, e, hi, hc⟩ := (RdI.at_ h0).below b2
    exact ⟨A, c, e, hi.mono (by omega), hc⟩
  have hR1 : RdBI (((w.alloc (.cells #[v0, v1] 63)).alloc (.cells #[.pointer none, .pointer none, .slice none 0 0] 120)).alloc (.cells #[.slice none 0 0, .slice none 0 0] 133)) (w.heap.size + 1 + 1) v1 b := by
    obtain ⟨A, c, e, hi, hc⟩ := (RdI.at_ h1).below b2
    exact ⟨A, c, e, hi.mono (by omega), hc⟩
  have S0 := Lib.hid (And.intro hr (And.intro hR0 (And.intro hR1 (And.intro b2 (And.intro ((k1.below l1 (by omega)).below l2 (by omega)) (k2.below l2 (by omega))))))); clear hr hR0 hR1 b0 b1 b2 k1 k2 l1 l2
  obtain ⟨A0, c0, rfl, _⟩ := h0
  obtain ⟨A1, c1, rfl, _⟩ := h1
  go_enter Try.func96, Try.ntmps96
  go_wp2_with fail
  refine (whole_any _ _ _ a [] [] _ S0.out.1 S0.out.2.1 (by simp)).mono ?_
  rintro e w1 ⟨p, r1, ls1, rfl, q1, q2, q3, q4, q5⟩
  have hs1 : w.heap.size + 1 + 1 + 1 ≤ w1.heap.size := by have := q2.size; simpa using this
  have hlt1 := q1.lt
  have kE := S0.out.2.2.2.2.1.below q2 (by omega)
  obtain ⟨x0, x1⟩ := blk_two2 kE
  have S1 := Lib.hid (And.intro q1 (And.intro (S0.out.2.2.1.below q2) (And.intro (S0.out.2.2.2.1.trans (q2.mono (by omega))) (And.intro (S0.out.2.2.2.2.2.below q2 (by omega)) (And.intro q4 q5))))); clear q1 q2 q4 q5 kE S0
  rw [List.length_nil] at q3
  go_wp2_with fail
  refine (whole_any _ _ _ b r1 ls1 _ S1.out.1 S1.out.2.1 (by omega)).mono ?_
  rintro e w2 ⟨q, r2, ls2, rfl, q1, q2, q6, q4, q5⟩
  have hs2 := q2.size
  have hlt2 := q1.lt
  obtain ⟨rv, lv, us, ht⟩ := q1
  obtain ⟨AL, cL, rfl⟩ := ownsRow_form ht.row
  have z1 := ht.blk.cell 1
  simp only [List.getElem?_toArray, List.getElem?_cons_zero, List.getElem?_cons_succ] at z1
  have S2 := Lib.hid (And.intro ht (And.intro (S1.out.2.2.1.trans (q2.mono (by omega))) (And.intro (S1.out.2.2.2.1.below q2 (by omega)) (And.intro S1.out.2.2.2.2 (And.intro q4 q5))))); clear ht q2 q4 q5 S1 x0 x1
  rcases p with _ | pa
  · have hw : wholeR a [] = none := by
      rcases h : wholeR a [] with _ | l
      · rfl
      · exact absurd rfl (S2.out.2.2.2.1.2 l h).1
    obtain ⟨m0, m1, m2, g0, g1, g2⟩ := blk_three S2.out.2.2.1
    obtain ⟨e0, e1, e2⟩ := blk_three_out S2.out.2.2.1 (x := .pointer none) (y := .pointer none) (z := .slice none 0 0)
    have hE : effB a b = false := by rw [effB, effL, hw]; rfl
    have R := Lib.hid (And.intro hE (((S2.out.2.1.setCell (p := ⟨w.heap.size + 1, 0, none⟩) (by simp) (.pointer none)).setCell (p := ⟨w.heap.size + 1, 1, none⟩) (by simp) (.pointer none)).setCell (p := ⟨w.heap.size + 1, 2, none⟩) (by simp) (.slice none 0 0))); clear hE
    go_wp2
    refine bodyPost_ret (v := .tuple #[.agg #[.pointer none, .pointer none, .slice none 0 0], .bool false]) (by simp [results, Try.results96, go_sem, e0, e1, e2]) rfl ?_
    exact ⟨none, none, none, 0, 0, by rw [R.out.1], R.out.2⟩
  obtain ⟨l1, hw1⟩ : ∃ l, wholeR a [] = some l := by
    rcases h : wholeR a [] with _ | l
    · cases S2.out.2.2.2.1.1 h
    · exact ⟨l, rfl⟩
  obtain ⟨_, rfl⟩ := S2.out.2.2.2.1.2 _ hw1
  rcases q with _ | qa
  · have hw : wholeR b ls1 = none := by
      rcases h : wholeR b ls1 with _ | l
      · rfl
      · exact absurd rfl (S2.out.2.2.2.2.2 l h).1
    obtain ⟨m0, m1, m2, g0, g1, g2⟩ := blk_three S2.out.2.2.1
    obtain ⟨e0, e1, e2⟩ := blk_three_out S2.out.2.2.1 (x := .pointer none) (y := .pointer none) (z := .slice none 0 0)
    have hE : effB a b = false := by rw [effB, effL, hw1]; simp only [Option.bind_some]; rw [hw]
    have R := Lib.hid (And.intro hE (((S2.out.2.1.setCell (p := ⟨w.heap.size + 1, 0, none⟩) (by simp) (.pointer none)).setCell (p := ⟨w.heap.size + 1, 1, none⟩) (by simp) (.pointer none)).setCell (p := ⟨w.heap.size + 1, 2, none⟩) (by simp) (.slice none 0 0))); clear hE
    go_wp2
    refine bodyPost_ret (v := .tuple #[.agg #[.pointer none, .pointer none, .slice none 0 0], .bool false]) (by simp [results, Try.results96, go_sem, e0, e1, e2]) rfl ?_
    exact ⟨none, none, none, 0, 0, by rw [R.out.1], R.out.2⟩
  obtain ⟨l2, hw2⟩ : ∃ l, wholeR b ls1 = some l := by
    rcases h : wholeR b ls1 with _ | l
    · cases S2.out.2.2.2.2.1 h
    · exact ⟨l, rfl⟩
  obtain ⟨_, rfl⟩ := S2.out.2.2.2.2.2 _ hw2
  have hk := wholeR_kinds (wholeR_kinds (by simp) hw1) hw2
  have hE : effB a b = nameB 0 0 ls2 := by rw [effB, effL, hw1]; simp only [Option.bind_some]; rw [hw2]
  have HK := Lib.hid (And.intro hk hE); clear hk hE hw1 hw2
  go_wp2_with fail
  refine (named_any _ _ _ _ us r2 ls2 _ S2.out.1 HK.out.1 (by omega)).mono ?_
  rintro e w3 ⟨rfl, hb⟩
  have hs3 := hb.size
  have kR := S2.out.2.2.1.below hb (by omega)
  have kB := S2.out.2.1.trans (hb.mono (by omega))
  have kz : w3.cell? ⟨w.heap.size + 1 + 1, 1, none⟩ = some (.slice AL ls2.length cL) := (hb.cell (p := ⟨w.heap.size + 1 + 1, 1, none⟩) (by omega)).trans z1
  obtain ⟨m0, m1, m2, g0, g1, g2⟩ := blk_three kR
  rcases hn : nameB 0 0 ls2 with _ | _
  · obtain ⟨e0, e1, e2⟩ := blk_three_out kR (x := .pointer none) (y := .pointer none) (z := .slice none 0 0)
    have R := Lib.hid (And.intro (HK.out.2.trans hn) (((kB.setCell (p := ⟨w.heap.size + 1, 0, none⟩) (by simp) (.pointer none)).setCell (p := ⟨w.heap.size + 1, 1, none⟩) (by simp) (.pointer none)).setCell (p := ⟨w.heap.size + 1, 2, none⟩) (by simp) (.slice none 0 0))); clear S2 hb kR kB hn HK
    go_wp2
    refine bodyPost_ret (v := .tuple #[.agg #[.pointer none, .pointer none, .slice none 0 0], .bool false]) (by simp [results, Try.results96, go_sem, e0, e1, e2]) rfl ?_
    exact ⟨none, none, none, 0, 0, by rw [R.out.1], R.out.2⟩
  · obtain ⟨e0, e1, e2⟩ := blk_three_out kR (x := .pointer (some pa)) (y := .pointer (some qa)) (z := .slice AL ls2.length cL)
    have R := Lib.hid (And.intro (HK.out.2.trans hn) (((kB.setCell (p := ⟨w.heap.size + 1, 0, none⟩) (by simp) (.pointer (some pa))).setCell (p := ⟨w.heap.size + 1, 1, none⟩) (by simp) (.pointer (some qa))).setCell (p := ⟨w.heap.size + 1, 2, none⟩) (by simp) (.slice AL ls2.length cL))); clear S2 hb kR kB hn HK
    go_wp2
    refine bodyPost_ret (v := .tuple #[.agg #[.pointer (some pa), .pointer (some qa), .slice AL ls2.length cL], .bool true]) (by simp [results, Try.results96, go_sem, e0, e1, e2]) rfl ?_
    exact ⟨some pa, some qa, AL, ls2.length, cL, by rw [R.out.1], R.out.2⟩

/-- EffectOk, the program's. -/
theorem EffectOk_I (v0 v1 : Value) (a b : List Int) (w : World) (h0 : RdI w v0 a) (h1 : RdI w v1 b) :
    Calls Try.prog 55 #[.agg #[v0, v1]] w fun e w' => e = .returned (.bool (effB a b)) ∧ Below w.heap.size w w' := by
  have hal : Below w.heap.size w (w.alloc (.cells #[v0, v1] 63)) := (Below.refl _ _).alloc (Nat.le_refl _) _
  have S0 := Lib.hid (And.intro (h0.step hal) (And.intro (h1.step hal) hal)); clear hal
  obtain ⟨A0, c0, rfl, _⟩ := h0
  obtain ⟨A1, c1, rfl, _⟩ := h1
  go_enter Try.func55, Try.ntmps55
  go_wp2_with fail
  refine (readEffect_any _ _ a b _ S0.out.1 S0.out.2.1).mono ?_
  rintro e w1 ⟨p, q, A, n, c, rfl, hb⟩
  have hs1 : w.heap.size + 1 ≤ w1.heap.size := by have := hb.size; simpa using this
  have X := Lib.hid ((S0.out.2.2.trans (hb.mono (by simp))).alloc (by omega) (.cells #[.pointer p, .pointer q, .slice A n c] 120)); clear hb S0
  go_wp2
  go_ret
  exact ⟨rfl, X.out⟩
end Go.Proofs.Ytkiedpdhehehfaa
