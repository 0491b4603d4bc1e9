/- FnEffectOk: of every code: EffectOk is its model at the drawn effect; the effect from an empty stack to itself is one; and so is the effect from a row to itself where the row is what an effect needs. For every input. -/
import Derived.Test.YtceekfoacgoalaaI
import Derived.Test.YtceekfoacgoalaaIk
import Derived.Test.YtceekfoacgoalaaIj
import Derived.Test.YtceekfoacgoalaaBq
import Derived.Test.YtceekfoacgoalaaLift
namespace Go.Proofs.Ytceekfoacgoalaa
set_option maxRecDepth 100000
open Go.RowKit Go.WideShapes Go.ChangeShapes

theorem still_any (w : World) : Calls Try.prog 10 #[] w fun e w' => ∃ u0 u1, e = .returned (.agg #[u0, u1]) ∧ RdI w' u0 [3, 0] ∧ RdI w' u1 [3, 0] ∧ Below w.heap.size w w' := by
  obtain ⟨W, hW⟩ : ∃ W, w.alloc (.cells #[.slice none 0 0, .slice none 0 0] 25) = W := ⟨_, rfl⟩
  have hbW : Below w.heap.size w W := by rw [← hW]; exact (Below.refl _ _).alloc (Nat.le_refl _) _
  have hz : W.heap.size = w.heap.size + 1 := by rw [← hW]; simp
  have kR : Blk W w.heap.size #[.slice none 0 0, .slice none 0 0] 25 := by rw [← hW]; exact Blk.new w _ _
  have hw3 : ∀ z ∈ ([3, 0] : List Int), InK .i64 z := by intro z hz; simp at hz; apply wf_near; omega
  have o0 := lits_own W [3, 0] (by simp) hw3
  have hb1 : Below W.heap.size W (W.alloc (.cells #[.int .i64 3, .int .i64 0] 3)) := (Below.refl _ _).alloc (Nat.le_refl _) _
  obtain ⟨X, hX⟩ : ∃ X, W.alloc (.cells #[.int .i64 3, .int .i64 0] 3) = X := ⟨_, rfl⟩
  rw [hX] at hb1
  have o0 : OwnI X W.heap.size (W.heap.size + 1) (.slice (some ⟨W.heap.size, 0, none⟩) 2 2) [3, 0] := by rw [← hX]; exact o0
  have hzX : X.heap.size = W.heap.size + 1 := by rw [← hX]; simp
  have o1 := lits_own X [3, 0] (by simp) hw3
  have hb2 : Below X.heap.size X (X.alloc (.cells #[.int .i64 3, .int .i64 0] 3)) := (Below.refl _ _).alloc (Nat.le_refl _) _
  obtain ⟨Y, hY⟩ : ∃ Y, X.alloc (.cells #[.int .i64 3, .int .i64 0] 3) = Y := ⟨_, rfl⟩
  rw [hY] at hb2
  have o1 : OwnI Y X.heap.size (X.heap.size + 1) (.slice (some ⟨X.heap.size, 0, none⟩) 2 2) [3, 0] := by rw [← hY]; exact o1
  have o0 := o0.belowB hb2 (by omega)
  have kR := (kR.below hb1 (by omega)).below hb2 (by omega)
  have hbY := (hbW.trans (hb1.mono (by omega))).trans (hb2.mono (by omega))
  have Z := Lib.hid (And.intro kR (And.intro hbY (And.intro o0 o1))); clear kR hbY o0 o1 hb1 hb2 hbW
  go_enter Try.func10, Try.ntmps10
  have r0 := Z.out.1.cell 0
  have r1 := Z.out.1.cell 1
  have r2 := Z.out.1.free 0
  have r3 := Z.out.1.free 1
  simp only [List.getElem?_toArray, List.getElem?_cons_zero, List.getElem?_cons_succ] at r0 r1
  go_wp2_with fail
  try rw [hW]
  try rw [hX]
  try rw [hY]
  have kq := (Z.out.1.set 0 (.slice (some ⟨w.heap.size + 1, 0, none⟩) 2 2)).set 1 (.slice (some ⟨w.heap.size + 1 + 1, 0, none⟩) 2 2)
  have q0 := kq.cell 0
  have q1 := kq.cell 1
  simp only [List.setIfInBounds_toArray, List.set_cons_zero, List.set_cons_succ, List.getElem?_toArray, List.getElem?_cons_zero, List.getElem?_cons_succ] at q0 q1
  refine bodyPost_ret (v := .agg #[.slice (some ⟨w.heap.size + 1, 0, none⟩) 2 2, .slice (some ⟨w.heap.size + 1 + 1, 0, none⟩) 2 2]) (by simp [results, Try.results10, go_sem, q0, q1]) rfl ?_
  have z := Z.out
  simp only [hzX, hz] at z
  have k1 := z.1.set 0 (.slice (some ⟨w.heap.size + 1, 0, none⟩) 2 2)
  exact ⟨_, _, rfl, (own_off (own_off z.2.2.1.own z.1 0) k1 1).ints, (own_off (own_off z.2.2.2.own z.1 0) k1 1).ints, (z.2.1.setCell (p := ⟨w.heap.size, 0, none⟩) (Nat.le_refl _) _).setCell (p := ⟨w.heap.size, 1, none⟩) (Nat.le_refl _) _⟩
theorem still_ok : effB [3, 0] [3, 0] = true := by decide
set_option maxHeartbeats 4000000 in
theorem fnEffectOk_any (A0 : Option Addr) (c0 : Nat) (x0 : List Int) (w0 : World) (h0 : RdC w0 (.slice A0 x0.length c0) x0) :
    Calls Try.prog 3 #[.slice A0 x0.length c0] w0 fun e w' => e = .returned (.bool true) ∧ Below w0.heap.size w0 w' := by
  have hm := h0.len_le
  have HH := Lib.hid h0; clear h0
  by_cases hl : x0.length ≤ 1048576
  case neg =>
    go_enter Try.func3, Try.ntmps3
    go_wp2
    go_ret
    exact ⟨rfl, Below.refl _ _⟩
  go_enter Try.func3, Try.ntmps3
  go_wp2_with fail
  refine (DrawEffectOk_any _ x0 _ HH.out).mono ?_
  rintro e w1 ⟨u0, u1, a, b, rfl, ra, rb, hla, hlb, hb⟩
  have hz1 : w0.heap.size ≤ w1.heap.size := hb.size
  have hal : Below w1.heap.size w1 (w1.alloc (.cells #[u0, u1] 25)) := (Below.refl _ _).alloc (Nat.le_refl _) _
  have S1 : Hid (Below w0.heap.size w0 (w1.alloc (.cells #[u0, u1] 25)) ∧ RdBI (w1.alloc (.cells #[u0, u1] 25)) (w1.heap.size + 1) u0 a ∧ RdBI (w1.alloc (.cells #[u0, u1] 25)) (w1.heap.size + 1) u1 b ∧ OwnV (w1.alloc (.cells #[u0, u1] 25)) w1.heap.size (w1.heap.size + 1) (.bool true) [u0, u1]) := Lib.hid ⟨hb.trans (hal.mono hz1), by simpa using (ra.step hal).at_, by simpa using (rb.step hal).at_, OwnV.new _ _ _ _⟩
  obtain ⟨B0, d0, rfl, _⟩ := id ra
  obtain ⟨B1, d1, rfl, _⟩ := id rb
  clear hb hal HH ra rb
  rcases hB : effB a b with _ | _
  · have HB := Lib.hid hB; clear hB
    obtain ⟨e1a, e1b⟩ := (S1.out.2.2.2).ef
    go_wp2_with fail
    refine (EffectOk_Iy _ _ a b _ ((S1.out.2.1).rd (by first | omega | (simp <;> omega))) ((S1.out.2.2.1).rd (by first | omega | (simp <;> omega))) false HB.out).mono ?_
    rintro e w_2 ⟨rfl, hb2⟩
    have hz2 : (w1.heap.size + 1) ≤ w_2.heap.size := by have := hb2.size; simpa using this
    replace hb2 : Below ((w1.heap.size + 1)) (w1.alloc (.cells #[(.slice B0 a.length d0), (.slice B1 b.length d1)] 25)) w_2 := by simpa using hb2
    have S2 : Hid (Below w0.heap.size w0 w_2 ∧ RdBI w_2 (w1.heap.size + 1) (.slice B0 a.length d0) (a) ∧ RdBI w_2 (w1.heap.size + 1) (.slice B1 b.length d1) (b) ∧ OwnV w_2 (w1.heap.size) (w1.heap.size + 1) (.bool true) ([(.slice B0 a.length d0), (.slice B1 b.length d1)])) := Lib.hid ⟨(S1.out.1).trans (hb2.mono (by omega)), (S1.out.2.1).below (hb2.mono (by omega)), (S1.out.2.2.1).below (hb2.mono (by omega)), (S1.out.2.2.2).belowB hb2 (by omega)⟩
    clear S1
    clear hb2
    obtain ⟨e2a, e2b⟩ := (S2.out.2.2.2).ef
    go_wp2_with fail
    refine (EffectOk_S _ _ a b _ ((S2.out.2.1).rd (by first | omega | (simp <;> omega))) ((S2.out.2.2.1).rd (by first | omega | (simp <;> omega))) (by omega) (by omega) false HB.out).mono ?_
    rintro e w_3 ⟨rfl, hb3⟩
    have hz3 : w_2.heap.size ≤ w_3.heap.size := by have := hb3.size; simpa using this
    replace hb3 : Below (w_2.heap.size) w_2 w_3 := by simpa using hb3
    have S3 : Hid (Below w0.heap.size w0 w_3 ∧ RdBI w_3 (w1.heap.size + 1) (.slice B0 a.length d0) (a) ∧ RdBI w_3 (w1.heap.size + 1) (.slice B1 b.length d1) (b) ∧ OwnV w_3 (w1.heap.size) (w1.heap.size + 1) (.bool true) ([(.slice B0 a.length d0), (.slice B1 b.length d1)])) := Lib.hid ⟨(S2.out.1).trans (hb3.mono (by omega)), (S2.out.2.1).below (hb3.mono (by omega)), (S2.out.2.2.1).below (hb3.mono (by omega)), (S2.out.2.2.2).belowB hb3 (by omega)⟩
    clear S2
    clear hb3
    -- at w_3: S3: base p q v
    go_wp2_with fail
    refine (still_any _).mono ?_
    rintro e w4 ⟨s0, s1, rfl, r0, r1, hb⟩
    have B4 := Lib.hid (And.intro (S3.out.1.trans (hb.mono (S3.out.1.size))) (And.intro r0 r1)); clear hb r0 r1 S3
    go_wp2_with fail
    refine (EffectOk_Iy _ _ [3, 0] [3, 0] _ B4.out.2.1 B4.out.2.2 true still_ok).mono ?_
    rintro e w5 ⟨rfl, hb⟩
    have B5 := Lib.hid (B4.out.1.trans (hb.mono B4.out.1.size)); clear hb B4
    go_wp2_with fail
    refine (alive_any _).mono ?_
    rintro e w6 ⟨rfl, hb⟩
    have B6 := Lib.hid (B5.out.trans (hb.mono B5.out.size)); clear hb B5
    go_wp2
    go_ret
    exact ⟨rfl, B6.out⟩
  · have HS := Lib.hid (effB_self hB)
    have HB := Lib.hid hB; clear hB
    obtain ⟨e1a, e1b⟩ := (S1.out.2.2.2).ef
    go_wp2_with fail
    refine (EffectOk_Iy _ _ a b _ ((S1.out.2.1).rd (by first | omega | (simp <;> omega))) ((S1.out.2.2.1).rd (by first | omega | (simp <;> omega))) true HB.out).mono ?_
    rintro e w_2 ⟨rfl, hb2⟩
    have hz2 : (w1.heap.size + 1) ≤ w_2.heap.size := by have := hb2.size; simpa using this
    replace hb2 : Below ((w1.heap.size + 1)) (w1.alloc (.cells #[(.slice B0 a.length d0), (.slice B1 b.length d1)] 25)) w_2 := by simpa using hb2
    have S2 : Hid (Below w0.heap.size w0 w_2 ∧ RdBI w_2 (w1.heap.size + 1) (.slice B0 a.length d0) (a) ∧ RdBI w_2 (w1.heap.size + 1) (.slice B1 b.length d1) (b) ∧ OwnV w_2 (w1.heap.size) (w1.heap.size + 1) (.bool true) ([(.slice B0 a.length d0), (.slice B1 b.length d1)])) := Lib.hid ⟨(S1.out.1).trans (hb2.mono (by omega)), (S1.out.2.1).below (hb2.mono (by omega)), (S1.out.2.2.1).below (hb2.mono (by omega)), (S1.out.2.2.2).belowB hb2 (by omega)⟩
    clear S1
    clear hb2
    obtain ⟨e2a, e2b⟩ := (S2.out.2.2.2).ef
    go_wp2_with fail
    refine (EffectOk_S _ _ a b _ ((S2.out.2.1).rd (by first | omega | (simp <;> omega))) ((S2.out.2.2.1).rd (by first | omega | (simp <;> omega))) (by omega) (by omega) true HB.out).mono ?_
    rintro e w_3 ⟨rfl, hb3⟩
    have hz3 : w_2.heap.size ≤ w_3.heap.size := by have := hb3.size; simpa using this
    replace hb3 : Below (w_2.heap.size) w_2 w_3 := by simpa using hb3
    have S3 : Hid (Below w0.heap.size w0 w_3 ∧ RdBI w_3 (w1.heap.size + 1) (.slice B0 a.length d0) (a) ∧ RdBI w_3 (w1.heap.size + 1) (.slice B1 b.length d1) (b) ∧ OwnV w_3 (w1.heap.size) (w1.heap.size + 1) (.bool true) ([(.slice B0 a.length d0), (.slice B1 b.length d1)])) := Lib.hid ⟨(S2.out.1).trans (hb3.mono (by omega)), (S2.out.2.1).below (hb3.mono (by omega)), (S2.out.2.2.1).below (hb3.mono (by omega)), (S2.out.2.2.2).belowB hb3 (by omega)⟩
    clear S2
    clear hb3
    -- at w_3: S3: base p q v
    go_wp2_with fail
    refine (still_any _).mono ?_
    rintro e w4 ⟨s0, s1, rfl, r0, r1, hb⟩
    have hw3 : w1.heap.size + 1 ≤ w_3.heap.size := by omega
    have hw4 : w1.heap.size + 1 ≤ w4.heap.size := by have := hb.size; omega
    have B4 := Lib.hid (And.intro (S3.out.1.trans (hb.mono (S3.out.1.size))) (And.intro r0 (And.intro r1 (And.intro (S3.out.2.1.below (hb.mono hw3)) (S3.out.2.2.2.belowB hb hw3))))); clear hb r0 r1 S3
    go_wp2_with fail
    refine (EffectOk_Iy _ _ [3, 0] [3, 0] _ B4.out.2.1 B4.out.2.2.1 true still_ok).mono ?_
    rintro e w5 ⟨rfl, hb⟩
    have hw5 : w1.heap.size + 1 ≤ w5.heap.size := by have := hb.size; omega
    have B5 := Lib.hid (And.intro (B4.out.1.trans (hb.mono B4.out.1.size)) (And.intro (B4.out.2.2.2.1.below (hb.mono hw4)) (B4.out.2.2.2.2.belowB hb hw4))); clear hb B4
    obtain ⟨e5a, e5b⟩ := B5.out.2.2.ef
    go_wp2_with fail
    refine (EffectOk_Iy _ _ a a _ (B5.out.2.1.rd hw5) (B5.out.2.1.rd hw5) true HS.out).mono ?_
    rintro e w6 ⟨rfl, hb⟩
    have B6 := Lib.hid (B5.out.1.trans (hb.mono B5.out.1.size)); clear hb B5
    go_wp2_with fail
    refine (alive_any _).mono ?_
    rintro e w7 ⟨rfl, hb⟩
    have B7 := Lib.hid (B6.out.trans (hb.mono B6.out.size)); clear hb B6
    go_wp2
    go_ret
    exact ⟨rfl, B7.out⟩
theorem fnEffectOk_walk : LawWalk 3 Try.f3 := by
  intro H enc W base args ds ps hval hA
  rw [Try.params3] at hA hval
  obtain ⟨v0, d0, rfl, rfl, h0⟩ := trodAll_one hA
  obtain ⟨A0, c0, zs0, rfl, hi0, hc0⟩ := ints_of_trod Try.underlying22 Try.underlying5 cells_byte (hval 0 _ _ rfl rfl) h0
  exact fnEffectOk_any A0 c0 zs0 W (RdC.mk hi0 hc0)

set_option maxRecDepth 100000 in
theorem fnEffectOk_lifted (os : Os) (started : os.Started) (H : Type) (enc : TypeId × Value → H) :
    ReturnsInHanded {} Try.checked os 3 .any (Rows.fnEffectOkSpec.pre6 enc Try.prog Try.f3 Rows.fnEffectOkRow.domain false) (Rows.fnEffectOkSpec.post enc Try.prog Try.f3 false true false false) := by
  refine returnsInHanded_of_change (C := Try.checked) own started (by kernel_rfl) Try.func3
    (ChangeSpec.witness6 (enc := enc) (C := Try.checked) false ⟨#[], #[.slice none 0 0], []⟩ 8 (by kernel_rfl) (by kernel_rfl) (by kernel_rfl) (by kernel_rfl)) ?_
  intro W base args ds gs before hval hW _ _
  exact law_contract laidOut rfl (by kernel_rfl) rfl (fun H ds hd => by
    match ds, hd with
    | [d0], _ => exact ⟨rfl, rfl, rfl⟩) fnEffectOk_walk W base args ds gs before hval hW

/-- FnEffectOk: the row as it is given. -/
theorem fnEffectOk_holds : Rows.FnEffectOkSaid :=
  OpenClaim.holds_of_wide 3 Try.f3 rfl rfl rfl rfl rfl rfl rfl ⟨rfl, rfl, rfl, rfl, rfl⟩ rfl rfl rfl rfl rfl (by kernel_rfl) Try.func3 (by unfold joinedFacts; rw [pf_enter, pf_lifts, pf_make]; kernel_rfl)
    (of_decide_eq_true (by kernel_rfl)) (by unfold Func.isWrapper; first | (rw [if_pos (by decide +kernel)]; kernel_rfl) | (rw [if_neg (by decide +kernel)]; exact ⟨rfl, rfl⟩))
    (fun os started H enc _ => fnEffectOk_lifted os started H enc)

end Go.Proofs.Ytceekfoacgoalaa
