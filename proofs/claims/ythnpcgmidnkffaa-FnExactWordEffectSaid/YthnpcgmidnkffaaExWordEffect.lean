/- WordEffect answers at every argument as its model, and its answer owns its memory. For every input. -/
import Derived.Test.YthnpcgmidnkffaaWs
import Derived.Test.YthnpcgmidnkffaaEf
import Derived.Test.YthnpcgmidnkffaaLift
namespace Go.Proofs.Ythnpcgmidnkffaa
set_option maxRecDepth 100000
open Go.RowKit Go.WideShapes Go.ChangeShapes

theorem wordR_len (n : Int) : (wordR n).1.length ≤ 1000 ∧ (wordR n).2.1.length ≤ 1000 := by
  unfold wordR
  repeat' split
  all_goals decide
set_option maxHeartbeats 2000000 in
theorem exWordEffect_any (n : Int) (w0 : World) (hn : InK .i64 n) :
    Calls Try.prog 3 #[.int .i64 n] w0 fun e w' => e = .returned (.bool true) ∧ Below w0.heap.size w0 w' := by
  rcases hR : wordR n with ⟨y0, y1, y2⟩
  have hy := wordR_len n
  rw [hR] at hy
  obtain ⟨hy0, hy1⟩ := hy
  dsimp only at hy0 hy1
  have HR := Lib.hid hR; clear hR
  have hbb : (y2 != y2) = false := by simp
  go_enter Try.func3, Try.ntmps3
  go_wp2_with fail
  refine (WordEffect_S n _ hn y0 y1 y2 HR.out).mono ?_
  rintro e w1 ⟨u0, u1, rfl, h0, h1, hb⟩
  have hs1 := hb.size
  have k0 := h0.at_
  have k1 := h1.at_
  obtain ⟨A0, c0, rfl, _⟩ := h0
  obtain ⟨A1, c1, rfl, _⟩ := h1
  have hal : Below w1.heap.size w1 (w1.alloc (.cells #[.slice A0 y0.length c0, .slice A1 y1.length c1] 24)) := (Below.refl _ _).alloc (Nat.le_refl _) _
  have hbk := Blk.new w1 #[.slice A0 y0.length c0, .slice A1 y1.length c1] 24
  have S1 := Lib.hid (And.intro (k0.below hal) (And.intro (k1.below hal) (And.intro (hb.trans (hal.mono hs1)) hbk))); clear k0 k1 hb hal hbk
  go_wp2_with fail
  refine (WordEffect_I n _ hn y0 y1 y2 HR.out).mono ?_
  rintro e w2 ⟨u0, u1, lo0, hi0, lo1, hi1, rfl, p0, p1, p2, p3, p4, p5, p6, o0, o1, hb⟩
  rw [World.size_alloc] at p0 p1
  have hs2 : w1.heap.size + 1 ≤ w2.heap.size := by have := hb.size; rw [World.size_alloc] at this; exact this
  obtain ⟨G0, d0, rfl, _⟩ := o0.rd
  obtain ⟨G1, d1, rfl, _⟩ := o1.rd
  have hal : Below w2.heap.size w2 (w2.alloc (.cells #[.slice G0 y0.length d0, .slice G1 y1.length d1] 24)) := (Below.refl _ _).alloc (Nat.le_refl _) _
  have hbk := Blk.new w2 #[.slice G0 y0.length d0, .slice G1 y1.length d1] 24
  have hB := S1.out.2.2.2.below hb (by rw [World.size_alloc]; omega)
  obtain ⟨b20, b21, _, _⟩ := blk_two hB
  have hlt2 : w1.heap.size < w2.heap.size := by omega
  have S2 := Lib.hid (And.intro ((S1.out.1.below (hb.mono (by rw [World.size_alloc]; omega))).below (hal.mono (by omega))) (And.intro ((S1.out.2.1.below (hb.mono (by rw [World.size_alloc]; omega))).below (hal.mono (by omega))) (And.intro ((S1.out.2.2.1.trans (hb.mono (by rw [World.size_alloc]; omega))).trans (hal.mono (by omega))) (And.intro (hB.below hal hlt2) (And.intro (o0.below hal) (And.intro (o1.below hal) hbk)))))); clear hb hal hbk hB o0 o1 S1
  go_wp2_with fail
  refine (eqE _ _ _ _ y0 y0 y1 y1 _ S2.out.2.2.2.2.1.rd S2.out.2.2.2.2.2.1.rd (S2.out.1.rd (by rw [World.size_alloc]; omega)) (S2.out.2.1.rd (by rw [World.size_alloc]; omega)) true (by simp)).mono ?_
  rintro e w3 ⟨rfl, hb⟩
  have hs3 : w2.heap.size + 1 ≤ w3.heap.size := by have := hb.size; rw [World.size_alloc] at this; exact this
  have S3 : Hid (RdBI w3 w1.heap.size (.slice A0 y0.length c0) y0 ∧ RdBI w3 w1.heap.size (.slice A1 y1.length c1) y1 ∧ Below w0.heap.size w0 w3 ∧ Blk w3 w1.heap.size #[.slice A0 y0.length c0, .slice A1 y1.length c1] 24 ∧ OwnI w3 lo0 hi0 (.slice G0 y0.length d0) y0 ∧ OwnI w3 lo1 hi1 (.slice G1 y1.length d1) y1 ∧ Blk w3 w2.heap.size #[.slice G0 y0.length d0, .slice G1 y1.length d1] 24) := Lib.hid ⟨S2.out.1.below (hb.mono (by rw [World.size_alloc]; omega)), S2.out.2.1.below (hb.mono (by rw [World.size_alloc]; omega)), S2.out.2.2.1.trans (hb.mono (by rw [World.size_alloc]; omega)), S2.out.2.2.2.1.below hb (by rw [World.size_alloc]; omega), S2.out.2.2.2.2.1.below hb, S2.out.2.2.2.2.2.1.below hb, S2.out.2.2.2.2.2.2.below hb (by rw [World.size_alloc]; omega)⟩
  clear hb S2 b20 b21
  obtain ⟨b30, b31, _, _⟩ := blk_two S3.out.2.2.2.2.2.2
  go_wp2_with fail
  refine (markE _ _ y0 y1 1 lo0 hi0 lo1 hi1 (w1.heap.size + 1) _ (by omega) (by omega) (by omega) S3.out.2.2.2.2.1 S3.out.2.2.2.2.2.1 p4 p0 p1 (by omega) (by omega) (by omega)).mono ?_
  rintro e w4 ⟨rfl, o0, o1, hb, hkk⟩
  have hs4 := hb.size
  have hG4 : Blk w4 w2.heap.size #[.slice G0 y0.length d0, .slice G1 y1.length d1] 24 := (hkk _ (by omega) (by omega) (by omega)).trans S3.out.2.2.2.2.2.2
  clear hkk
  have S4 : Hid (RdBI w4 w1.heap.size (.slice A0 y0.length c0) y0 ∧ RdBI w4 w1.heap.size (.slice A1 y1.length c1) y1 ∧ Below w0.heap.size w0 w4 ∧ Blk w4 w1.heap.size #[.slice A0 y0.length c0, .slice A1 y1.length c1] 24 ∧ OwnI w4 lo0 hi0 (.slice G0 y0.length d0) (mkI 1 y0) ∧ OwnI w4 lo1 hi1 (.slice G1 y1.length d1) (mkI (1 + (y0.length : Int)) y1) ∧ Blk w4 w2.heap.size #[.slice G0 y0.length d0, .slice G1 y1.length d1] 24) := Lib.hid ⟨S3.out.1.below (hb.mono (by omega)), S3.out.2.1.below (hb.mono (by omega)), S3.out.2.2.1.trans (hb.mono (by omega)), S3.out.2.2.2.1.below hb (by omega), o0, o1, hG4⟩
  clear hb S3 b30 b31 o0 o1 hG4
  obtain ⟨b40, b41, _, _⟩ := blk_two S4.out.2.2.2.2.2.2
  go_wp2_with fail
  refine (heldE _ _ y0 y1 1 _ (by omega) (by omega) (by omega) S4.out.2.2.2.2.1.rd S4.out.2.2.2.2.2.1.rd).mono ?_
  rintro e w5 ⟨rfl, hb⟩
  have hs5 := hb.size
  have S5 : Hid (RdBI w5 w1.heap.size (.slice A0 y0.length c0) y0 ∧ RdBI w5 w1.heap.size (.slice A1 y1.length c1) y1 ∧ Below w0.heap.size w0 w5 ∧ Blk w5 w1.heap.size #[.slice A0 y0.length c0, .slice A1 y1.length c1] 24 ∧ OwnI w5 lo0 hi0 (.slice G0 y0.length d0) (mkI 1 y0) ∧ OwnI w5 lo1 hi1 (.slice G1 y1.length d1) (mkI (1 + (y0.length : Int)) y1) ∧ Blk w5 w2.heap.size #[.slice G0 y0.length d0, .slice G1 y1.length d1] 24) := Lib.hid ⟨S4.out.1.below (hb.mono (by omega)), S4.out.2.1.below (hb.mono (by omega)), S4.out.2.2.1.trans (hb.mono (by omega)), S4.out.2.2.2.1.below hb (by omega), S4.out.2.2.2.2.1.below hb, S4.out.2.2.2.2.2.1.below hb, S4.out.2.2.2.2.2.2.below hb (by omega)⟩
  clear hb S4 b40 b41
  go_wp2_with fail
  refine (WordEffect_I n _ hn y0 y1 y2 HR.out).mono ?_
  rintro e w6 ⟨u0, u1, l0, g0, l1, g1, rfl, q0, q1, q2, q3, q4, q5, q6, o0, o1, hb⟩
  have hs6 := hb.size
  obtain ⟨E0, f0, rfl, _⟩ := o0.rd
  obtain ⟨E1, f1, rfl, _⟩ := o1.rd
  have hal : Below w6.heap.size w6 (w6.alloc (.cells #[.slice E0 y0.length f0, .slice E1 y1.length f1] 24)) := (Below.refl _ _).alloc (Nat.le_refl _) _
  have hB := S5.out.2.2.2.1.below hb (by omega)
  obtain ⟨b60, b61, _, _⟩ := blk_two hB
  have hG := S5.out.2.2.2.2.2.2.below hb (by omega)
  have hlt6 : w1.heap.size < w6.heap.size := by omega
  have S6 := Lib.hid (And.intro ((S5.out.1.below (hb.mono (by omega))).below (hal.mono (by omega))) (And.intro ((S5.out.2.1.below (hb.mono (by omega))).below (hal.mono (by omega))) (And.intro ((S5.out.2.2.1.trans (hb.mono (by omega))).trans (hal.mono (by omega))) (And.intro ((S5.out.2.2.2.2.1.below hb).below hal) (And.intro ((S5.out.2.2.2.2.2.1.below hb).below hal) (And.intro (hG.below hal (by omega)) (And.intro (o0.below hal).rd (o1.below hal).rd))))))); clear hb hal hB hG o0 o1 S5
  go_wp2_with fail
  refine (eqE _ _ _ _ y0 y0 y1 y1 _ S6.out.2.2.2.2.2.2.1 S6.out.2.2.2.2.2.2.2 (S6.out.1.rd (by rw [World.size_alloc]; omega)) (S6.out.2.1.rd (by rw [World.size_alloc]; omega)) true (by simp)).mono ?_
  rintro e w7 ⟨rfl, hb⟩
  have hs7 : w6.heap.size + 1 ≤ w7.heap.size := by have := hb.size; rw [World.size_alloc] at this; exact this
  have S7 := Lib.hid (And.intro (S6.out.2.2.1.trans (hb.mono (by rw [World.size_alloc]; omega))) (And.intro (S6.out.2.2.2.1.below hb) (And.intro (S6.out.2.2.2.2.1.below hb) (S6.out.2.2.2.2.2.1.below hb (by rw [World.size_alloc]; omega))))); clear hb S6 b60 b61
  obtain ⟨b70, b71, _, _⟩ := blk_two S7.out.2.2.2
  go_wp2_with fail
  refine (heldE _ _ y0 y1 1 _ (by omega) (by omega) (by omega) S7.out.2.1.rd S7.out.2.2.1.rd).mono ?_
  rintro e w8 ⟨rfl, hb⟩
  have S8 := Lib.hid (S7.out.1.trans (hb.mono (by omega))); clear hb S7
  go_wp2
  go_ret
  exact ⟨rfl, S8.out⟩

theorem exWordEffect_walk : LawWalk 3 Try.f3 := by
  intro H enc W base args ds ps hval hA
  rw [Try.params3] at hA hval
  obtain ⟨v0, d0, rfl, rfl, h0⟩ := trodAll_one hA
  obtain ⟨zs0, rfl, _, _, hi0⟩ := open_int Try.underlying3 (hval 0 _ _ rfl rfl) h0
  exact exWordEffect_any zs0 W hi0

set_option maxRecDepth 100000 in
theorem exWordEffect_lifted (os : Os) (started : os.Started) (H : Type) (enc : TypeId × Value → H) :
    ReturnsInHanded {} Try.checked os 3 .any (Rows.fnExactWordEffectSpec.pre6 enc Try.prog Try.f3 Rows.fnExactWordEffectRow.domain false) (Rows.fnExactWordEffectSpec.post enc Try.prog Try.f3 false true false false) := by
  refine returnsInHanded_of_change (C := Try.checked) own started (by kernel_rfl) Try.func3
    (ChangeSpec.witness6 (enc := enc) (C := Try.checked) false ⟨#[], #[.int .i64 0], []⟩ 8 (by kernel_rfl) (by kernel_rfl) (by kernel_rfl) (by kernel_rfl)) ?_
  intro W base args ds gs before hval hW _ _
  exact law_contract laidOut rfl (by kernel_rfl) rfl (fun H ds hd => by
    match ds, hd with
    | [d0], _ => exact ⟨rfl, rfl, rfl⟩) exWordEffect_walk W base args ds gs before hval hW

/-- FnExactWordEffect: the row as it is given. -/
theorem exWordEffect_holds : Rows.FnExactWordEffectSaid :=
  OpenClaim.holds_of_wide 3 Try.f3 rfl rfl rfl rfl rfl rfl rfl ⟨rfl, rfl, rfl, rfl, rfl⟩ rfl rfl rfl rfl rfl (by kernel_rfl) Try.func3 (by unfold joinedFacts; rw [pf_enter, pf_lifts, pf_make]; kernel_rfl)
    (of_decide_eq_true (by kernel_rfl)) (by unfold Func.isWrapper; first | (rw [if_pos (by decide +kernel)]; kernel_rfl) | (rw [if_neg (by decide +kernel)]; exact ⟨rfl, rfl⟩))
    (fun os started H enc _ => exWordEffect_lifted os started H enc)

end Go.Proofs.Ythnpcgmidnkffaa
