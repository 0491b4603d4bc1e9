/- SameRegs answers at every argument as its model, and writes into no argument. For every input. -/
import Derived.Test.YtaehaalaeikloaaZo
import Derived.Test.YtaehaalaeikloaaB5
import Derived.Test.YtaehaalaeikloaaLift
namespace Go.Proofs.Ytaehaalaeikloaa
set_option maxRecDepth 100000
open Go.RowKit Go.WideShapes Go.ChangeShapes

set_option maxHeartbeats 1000000 in
theorem exSameRegs_any (A0 : Option Addr) (c0 : Nat) (x0 : List Int) (A1 : Option Addr) (c1 : Nat) (x1 : List Int) (w0 : World) (h0 : RdI w0 (.slice A0 x0.length c0) x0) (h1 : RdI w0 (.slice A1 x1.length c1) x1) :
    Calls Try.prog 14 #[.slice A0 x0.length c0, .slice A1 x1.length c1] w0 fun e w' => e = .returned (.bool true) ∧ Below w0.heap.size w0 w' := by
  have hm0 := h0.len_le
  have HH0 := Lib.hid h0; clear h0
  have hm1 := h1.len_le
  have HH1 := Lib.hid h1; clear h1
  by_cases hl0 : x0.length ≤ 1048576
  case neg =>
    go_enter Try.func14, Try.ntmps14
    go_wp2
    go_ret
    exact ⟨rfl, Below.refl _ _⟩
  by_cases hl1 : x1.length ≤ 1048576
  case neg =>
    go_enter Try.func14, Try.ntmps14
    go_wp2
    go_ret
    exact ⟨rfl, Below.refl _ _⟩
  generalize hR : sameRegsR x0 x1 = y0
  have HR := Lib.hid hR; clear hR
  have hbb0 : (y0 != y0) = false := by simp
  have H0 : Hid (RdBI w0 w0.heap.size (.slice A0 x0.length c0) x0 ∧ RdBI w0 w0.heap.size (.slice A1 x1.length c1) x1 ∧ Below w0.heap.size w0 w0) := Lib.hid ⟨HH0.out.at_, HH1.out.at_, Below.refl _ _⟩
  clear HH0
  clear HH1
  have hs0 : w0.heap.size ≤ w0.heap.size := Nat.le_refl _
  go_enter Try.func14, Try.ntmps14
  go_wp2_with fail
  refine (toI _ x0 _ ((H0.out.1).rd (by omega)) hl0).mono ?_
  rintro e w1 ⟨ut0, rfl, ho, hb⟩
  have hs1 := hb.size
  have hq1_t0 : w0.heap.size ≤ w1.heap.size := hb.size
  have H1 : Hid (RdBI w1 w0.heap.size (.slice A0 x0.length c0) x0 ∧ RdBI w1 w0.heap.size (.slice A1 x1.length c1) x1 ∧ Below w0.heap.size w0 w1 ∧ OwnI w1 w0.heap.size w1.heap.size ut0 x0) := Lib.hid ⟨(H0.out.1).below (hb.mono (by omega)), (H0.out.2.1).below (hb.mono (by omega)), (H0.out.2.2).trans (hb.mono (by omega)), ho⟩
  clear hb H0 ho
  go_wp2_with fail
  refine (toI _ x1 _ ((H1.out.2.1).rd (by omega)) hl1).mono ?_
  rintro e w2 ⟨ut1, rfl, ho, hb⟩
  have hs2 := hb.size
  have hq2_t1 : w1.heap.size ≤ w2.heap.size := hb.size
  have H2 : Hid (RdBI w2 w0.heap.size (.slice A0 x0.length c0) x0 ∧ RdBI w2 w0.heap.size (.slice A1 x1.length c1) x1 ∧ Below w0.heap.size w0 w2 ∧ OwnI w2 w0.heap.size w1.heap.size ut0 x0 ∧ OwnI w2 w1.heap.size w2.heap.size ut1 x1) := Lib.hid ⟨(H1.out.1).below (hb.mono (by omega)), (H1.out.2.1).below (hb.mono (by omega)), (H1.out.2.2.1).trans (hb.mono (by omega)), (H1.out.2.2.2).below hb, ho⟩
  clear hb H1 ho
  go_wp2_with fail
  refine (SameRegs_S _ x0 _ x1 _ ((H2.out.2.2.2.1).rd) hl0 ((H2.out.2.2.2.2).rd) hl1 _ HR.out).mono ?_
  rintro e w3 ⟨rfl, hb⟩
  have hs3 := hb.size
  have H3 : Hid (RdBI w3 w0.heap.size (.slice A0 x0.length c0) x0 ∧ RdBI w3 w0.heap.size (.slice A1 x1.length c1) x1 ∧ Below w0.heap.size w0 w3) := Lib.hid ⟨(H2.out.1).below (hb.mono (by omega)), (H2.out.2.1).below (hb.mono (by omega)), (H2.out.2.2.1).trans (hb.mono (by omega))⟩
  clear hb H2
  go_wp2_with fail
  refine (toI _ x0 _ ((H3.out.1).rd (by omega)) hl0).mono ?_
  rintro e w4 ⟨ux0, rfl, ho, hb⟩
  have hs4 := hb.size
  have hq4_x0 : w3.heap.size ≤ w4.heap.size := hb.size
  have H4 : Hid (RdBI w4 w0.heap.size (.slice A0 x0.length c0) x0 ∧ RdBI w4 w0.heap.size (.slice A1 x1.length c1) x1 ∧ Below w0.heap.size w0 w4 ∧ OwnI w4 w3.heap.size w4.heap.size ux0 x0) := Lib.hid ⟨(H3.out.1).below (hb.mono (by omega)), (H3.out.2.1).below (hb.mono (by omega)), (H3.out.2.2).trans (hb.mono (by omega)), ho⟩
  clear hb H3 ho
  go_wp2_with fail
  refine (toI _ x1 _ ((H4.out.2.1).rd (by omega)) hl1).mono ?_
  rintro e w5 ⟨ux1, rfl, ho, hb⟩
  have hs5 := hb.size
  have hq5_x1 : w4.heap.size ≤ w5.heap.size := hb.size
  have H5 : Hid (RdBI w5 w0.heap.size (.slice A0 x0.length c0) x0 ∧ RdBI w5 w0.heap.size (.slice A1 x1.length c1) x1 ∧ Below w0.heap.size w0 w5 ∧ OwnI w5 w3.heap.size w4.heap.size ux0 x0 ∧ OwnI w5 w4.heap.size w5.heap.size ux1 x1) := Lib.hid ⟨(H4.out.1).below (hb.mono (by omega)), (H4.out.2.1).below (hb.mono (by omega)), (H4.out.2.2.1).trans (hb.mono (by omega)), (H4.out.2.2.2).below hb, ho⟩
  clear hb H4 ho
  go_wp2_with fail
  refine (SameRegs_I _ x0 _ x1 _ ((H5.out.2.2.2.1).rd) hl0 ((H5.out.2.2.2.2).rd) hl1 _ HR.out).mono ?_
  rintro e w6 ⟨rfl, hb⟩
  have hs6 := hb.size
  have H6 : Hid (RdBI w6 w0.heap.size (.slice A0 x0.length c0) x0 ∧ RdBI w6 w0.heap.size (.slice A1 x1.length c1) x1 ∧ Below w0.heap.size w0 w6 ∧ OwnI w6 w3.heap.size w4.heap.size ux0 x0 ∧ OwnI w6 w4.heap.size w5.heap.size ux1 x1) := Lib.hid ⟨(H5.out.1).below (hb.mono (by omega)), (H5.out.2.1).below (hb.mono (by omega)), (H5.out.2.2.1).trans (hb.mono (by omega)), (H5.out.2.2.2.1).below hb, (H5.out.2.2.2.2).below hb⟩
  clear hb H5
  go_wp2_with fail
  refine (toI _ x0 _ ((H6.out.1).rd (by omega)) hl0).mono ?_
  rintro e w7 ⟨ut0, rfl, ho, hb⟩
  have hs7 := hb.size
  have hq7_t0 : w6.heap.size ≤ w7.heap.size := hb.size
  have H7 : Hid (RdBI w7 w0.heap.size (.slice A0 x0.length c0) x0 ∧ RdBI w7 w0.heap.size (.slice A1 x1.length c1) x1 ∧ Below w0.heap.size w0 w7 ∧ OwnI w7 w3.heap.size w4.heap.size ux0 x0 ∧ OwnI w7 w4.heap.size w5.heap.size ux1 x1 ∧ OwnI w7 w6.heap.size w7.heap.size ut0 x0) := Lib.hid ⟨(H6.out.1).below (hb.mono (by omega)), (H6.out.2.1).below (hb.mono (by omega)), (H6.out.2.2.1).trans (hb.mono (by omega)), (H6.out.2.2.2.1).below hb, (H6.out.2.2.2.2).below hb, ho⟩
  clear hb H6 ho
  go_wp2_with fail
  refine (eqI _ _ _ _ _ ((H7.out.2.2.2.1).rd) ((H7.out.2.2.2.2.2).rd) true (decide_eq_true rfl)).mono ?_
  rintro e w8 ⟨rfl, hb⟩
  have hs8 := hb.size
  have H8 : Hid (RdBI w8 w0.heap.size (.slice A0 x0.length c0) x0 ∧ RdBI w8 w0.heap.size (.slice A1 x1.length c1) x1 ∧ Below w0.heap.size w0 w8 ∧ OwnI w8 w3.heap.size w4.heap.size ux0 x0 ∧ OwnI w8 w4.heap.size w5.heap.size ux1 x1 ∧ OwnI w8 w6.heap.size w7.heap.size ut0 x0) := Lib.hid ⟨(H7.out.1).below (hb.mono (by omega)), (H7.out.2.1).below (hb.mono (by omega)), (H7.out.2.2.1).trans (hb.mono (by omega)), (H7.out.2.2.2.1).below hb, (H7.out.2.2.2.2.1).below hb, (H7.out.2.2.2.2.2).below hb⟩
  clear hb H7
  go_wp2_with fail
  refine (toI _ x1 _ ((H8.out.2.1).rd (by omega)) hl1).mono ?_
  rintro e w9 ⟨ut1, rfl, ho, hb⟩
  have hs9 := hb.size
  have hq9_t1 : w8.heap.size ≤ w9.heap.size := hb.size
  have H9 : Hid (RdBI w9 w0.heap.size (.slice A0 x0.length c0) x0 ∧ RdBI w9 w0.heap.size (.slice A1 x1.length c1) x1 ∧ Below w0.heap.size w0 w9 ∧ OwnI w9 w3.heap.size w4.heap.size ux0 x0 ∧ OwnI w9 w4.heap.size w5.heap.size ux1 x1 ∧ OwnI w9 w6.heap.size w7.heap.size ut0 x0 ∧ OwnI w9 w8.heap.size w9.heap.size ut1 x1) := Lib.hid ⟨(H8.out.1).below (hb.mono (by omega)), (H8.out.2.1).below (hb.mono (by omega)), (H8.out.2.2.1).trans (hb.mono (by omega)), (H8.out.2.2.2.1).below hb, (H8.out.2.2.2.2.1).below hb, (H8.out.2.2.2.2.2).below hb, ho⟩
  clear hb H8 ho
  go_wp2_with fail
  refine (eqI _ _ _ _ _ ((H9.out.2.2.2.2.1).rd) ((H9.out.2.2.2.2.2.2).rd) true (decide_eq_true rfl)).mono ?_
  rintro e w10 ⟨rfl, hb⟩
  have hs10 := hb.size
  have H10 : Hid (RdBI w10 w0.heap.size (.slice A0 x0.length c0) x0 ∧ RdBI w10 w0.heap.size (.slice A1 x1.length c1) x1 ∧ Below w0.heap.size w0 w10 ∧ OwnI w10 w3.heap.size w4.heap.size ux0 x0 ∧ OwnI w10 w4.heap.size w5.heap.size ux1 x1 ∧ OwnI w10 w6.heap.size w7.heap.size ut0 x0 ∧ OwnI w10 w8.heap.size w9.heap.size ut1 x1) := Lib.hid ⟨(H9.out.1).below (hb.mono (by omega)), (H9.out.2.1).below (hb.mono (by omega)), (H9.out.2.2.1).trans (hb.mono (by omega)), (H9.out.2.2.2.1).below hb, (H9.out.2.2.2.2.1).below hb, (H9.out.2.2.2.2.2.1).below hb, (H9.out.2.2.2.2.2.2).below hb⟩
  clear hb H9
  go_wp2
  go_ret
  exact ⟨rfl, H10.out.2.2.1⟩

theorem exSameRegs_walk : LawWalk 14 Try.f14 := by
  intro H enc W base args ds ps hval hA
  rw [Try.params14] at hA hval
  obtain ⟨v0, v1, d0, d1, p0, p1, rfl, rfl, rfl, h0, h1⟩ := trodAll_two hA
  obtain ⟨A0, c0, zs0, rfl, hi0, hc0⟩ := ints_of_trod Try.underlying23 Try.underlying3 cells_int (hval 0 _ _ rfl rfl) h0
  obtain ⟨A1, c1, zs1, rfl, hi1, hc1⟩ := ints_of_trod Try.underlying23 Try.underlying3 cells_int (hval 1 _ _ rfl rfl) h1
  exact exSameRegs_any A0 c0 zs0 A1 c1 zs1 W (RdI.mk hi0 hc0) (RdI.mk hi1 hc1)

set_option maxRecDepth 100000 in
theorem exSameRegs_lifted (os : Os) (started : os.Started) (H : Type) (enc : TypeId × Value → H) :
    ReturnsInHanded {} Try.checked os 14 .any (Rows.fnExactSameRegsSpec.pre6 enc Try.prog Try.f14 Rows.fnExactSameRegsRow.domain false) (Rows.fnExactSameRegsSpec.post enc Try.prog Try.f14 false true false false) := by
  refine returnsInHanded_of_change (C := Try.checked) own started (by kernel_rfl) Try.func14
    (ChangeSpec.witness6 (enc := enc) (C := Try.checked) false ⟨#[], #[.slice none 0 0, .slice none 0 0], []⟩ 8 (by kernel_rfl) (by kernel_rfl) (by kernel_rfl) (by kernel_rfl)) ?_
  intro W base args ds gs before hval hW _ _
  exact law_contract laidOut rfl (by kernel_rfl) rfl (fun H ds hd => by
    match ds, hd with
    | [d0, d1], _ => exact ⟨rfl, rfl, rfl⟩) exSameRegs_walk W base args ds gs before hval hW

/-- FnExactSameRegs: the row as it is given. -/
theorem exSameRegs_holds : Rows.FnExactSameRegsSaid :=
  OpenClaim.holds_of_wide 14 Try.f14 rfl rfl rfl rfl rfl rfl rfl ⟨rfl, rfl, rfl, rfl, rfl⟩ rfl rfl rfl rfl rfl (by kernel_rfl) Try.func14 (by unfold joinedFacts; rw [pf_enter, pf_lifts, pf_make]; kernel_rfl)
    (of_decide_eq_true (by kernel_rfl)) (by unfold Func.isWrapper; first | (rw [if_pos (by decide +kernel)]; kernel_rfl) | (rw [if_neg (by decide +kernel)]; exact ⟨rfl, rfl⟩))
    (fun os started H enc _ => exSameRegs_lifted os started H enc)

end Go.Proofs.Ytaehaalaeikloaa
