/- PlacesOf answers at every argument as its model, writes into no argument, and its answer owns its memory. For every input. -/
import Derived.Test.YtjbfpbajbjnifaaJu
import Derived.Test.YtjbfpbajbjnifaaLift
namespace Go.Proofs.Ytjbfpbajbjnifaa
set_option maxRecDepth 100000
open Go.RowKit Go.WideShapes Go.ChangeShapes

set_option maxHeartbeats 1000000 in
theorem exPlacesOf_any (A0 : Option Addr) (c0 : Nat) (x0 : List Int) (x1 : Int) (w0 : World) (h0 : RdI w0 (.slice A0 x0.length c0) x0) (h1 : InK .i64 x1) :
    Calls Try.prog 12 #[.slice A0 x0.length c0, .int .i64 x1] w0 fun e w' => e = .returned (.bool true) ∧ Below w0.heap.size w0 w' := by
  have hm0 := h0.len_le
  have HH0 := Lib.hid h0; clear h0
  by_cases hl0 : x0.length ≤ 1048576
  case neg =>
    go_enter Try.func12, Try.ntmps12
    go_wp2
    go_ret
    exact ⟨rfl, Below.refl _ _⟩
  generalize hR : placesR x0 x1 = R
  obtain ⟨y0, y1⟩ := R
  have hy0 : szI y0 ≤ 1000000 := by have := placesR_len' x0 x1; rw [hR] at this; exact this
  have Hy0 := Lib.hid hy0; clear hy0
  have HR := Lib.hid hR; clear hR
  have hbb1 : (y1 != y1) = false := by simp
  have H0 : Hid (RdBI w0 w0.heap.size (.slice A0 x0.length c0) x0 ∧ Below w0.heap.size w0 w0) := Lib.hid ⟨HH0.out.at_, Below.refl _ _⟩
  clear HH0
  have hs0 : w0.heap.size ≤ w0.heap.size := Nat.le_refl _
  go_enter Try.func12, Try.ntmps12
  go_wp2_with fail
  refine (toI _ x0 _ ((H0.out.1).rd (by omega)) hl0).mono ?_
  rintro e w1 ⟨ut0, rfl, ho, hb⟩
  have hs1 := hb.size
  have hq1_t0 : w0.heap.size ≤ w1.heap.size := hb.size
  have H1 : Hid (RdBI w1 w0.heap.size (.slice A0 x0.length c0) x0 ∧ Below w0.heap.size w0 w1 ∧ OwnI w1 w0.heap.size w1.heap.size ut0 x0) := Lib.hid ⟨(H0.out.1).below (hb.mono (by omega)), (H0.out.2).trans (hb.mono (by omega)), ho⟩
  clear hb H0 ho
  go_wp2_with fail
  refine (PlacesOf_S _ x0 x1 _ ((H1.out.2.2).rd) hl0 h1 _ _ HR.out).mono ?_
  rintro e w2 ⟨uw0, rfl, ho, hb⟩
  have hs2 := hb.size
  have hq2_w0 : w1.heap.size ≤ w2.heap.size := hb.size
  have H2 : Hid (RdBI w2 w0.heap.size (.slice A0 x0.length c0) x0 ∧ Below w0.heap.size w0 w2 ∧ OwnI w2 w1.heap.size w2.heap.size uw0 y0) := Lib.hid ⟨(H1.out.1).below (hb.mono (by omega)), (H1.out.2.1).trans (hb.mono (by omega)), ho⟩
  clear hb H1 ho
  go_wp2_with fail
  refine (toI _ x0 _ ((H2.out.1).rd (by omega)) hl0).mono ?_
  rintro e w3 ⟨ux0, rfl, ho, hb⟩
  have hs3 := hb.size
  have hq3_x0 : w2.heap.size ≤ w3.heap.size := hb.size
  have H3 : Hid (RdBI w3 w0.heap.size (.slice A0 x0.length c0) x0 ∧ Below w0.heap.size w0 w3 ∧ OwnI w3 w1.heap.size w2.heap.size uw0 y0 ∧ OwnI w3 w2.heap.size w3.heap.size ux0 x0) := Lib.hid ⟨(H2.out.1).below (hb.mono (by omega)), (H2.out.2.1).trans (hb.mono (by omega)), (H2.out.2.2).below hb, ho⟩
  clear hb H2 ho
  go_wp2_with fail
  refine (PlacesOf_I _ x0 x1 _ ((H3.out.2.2.2).rd) hl0 h1 _ _ HR.out).mono ?_
  rintro e w4 ⟨ug0, rfl, ho, hb⟩
  have hs4 := hb.size
  have hq4_g0 : w3.heap.size ≤ w4.heap.size := hb.size
  have H4 : Hid (RdBI w4 w0.heap.size (.slice A0 x0.length c0) x0 ∧ Below w0.heap.size w0 w4 ∧ OwnI w4 w1.heap.size w2.heap.size uw0 y0 ∧ OwnI w4 w2.heap.size w3.heap.size ux0 x0 ∧ OwnI w4 w3.heap.size w4.heap.size ug0 y0) := Lib.hid ⟨(H3.out.1).below (hb.mono (by omega)), (H3.out.2.1).trans (hb.mono (by omega)), (H3.out.2.2.1).below hb, (H3.out.2.2.2).below hb, ho⟩
  clear hb H3 ho
  go_wp2_with fail
  refine (eqI _ _ _ _ _ ((H4.out.2.2.2.2).rd) ((H4.out.2.2.1).rd) true (decide_eq_true rfl)).mono ?_
  rintro e w5 ⟨rfl, hb⟩
  have hs5 := hb.size
  have H5 : Hid (RdBI w5 w0.heap.size (.slice A0 x0.length c0) x0 ∧ Below w0.heap.size w0 w5 ∧ OwnI w5 w1.heap.size w2.heap.size uw0 y0 ∧ OwnI w5 w2.heap.size w3.heap.size ux0 x0 ∧ OwnI w5 w3.heap.size w4.heap.size ug0 y0) := Lib.hid ⟨(H4.out.1).below (hb.mono (by omega)), (H4.out.2.1).trans (hb.mono (by omega)), (H4.out.2.2.1).below hb, (H4.out.2.2.2.1).below hb, (H4.out.2.2.2.2).below hb⟩
  clear hb H4
  go_wp2_with fail
  refine (toI _ x0 _ ((H5.out.1).rd (by omega)) hl0).mono ?_
  rintro e w6 ⟨ut0, rfl, ho, hb⟩
  have hs6 := hb.size
  have hq6_t0 : w5.heap.size ≤ w6.heap.size := hb.size
  have H6 : Hid (RdBI w6 w0.heap.size (.slice A0 x0.length c0) x0 ∧ Below w0.heap.size w0 w6 ∧ OwnI w6 w1.heap.size w2.heap.size uw0 y0 ∧ OwnI w6 w2.heap.size w3.heap.size ux0 x0 ∧ OwnI w6 w3.heap.size w4.heap.size ug0 y0 ∧ OwnI w6 w5.heap.size w6.heap.size ut0 x0) := Lib.hid ⟨(H5.out.1).below (hb.mono (by omega)), (H5.out.2.1).trans (hb.mono (by omega)), (H5.out.2.2.1).below hb, (H5.out.2.2.2.1).below hb, (H5.out.2.2.2.2).below hb, ho⟩
  clear hb H5 ho
  go_wp2_with fail
  refine (eqI _ _ _ _ _ ((H6.out.2.2.2.1).rd) ((H6.out.2.2.2.2.2).rd) true (decide_eq_true rfl)).mono ?_
  rintro e w7 ⟨rfl, hb⟩
  have hs7 := hb.size
  have H7 : Hid (RdBI w7 w0.heap.size (.slice A0 x0.length c0) x0 ∧ Below w0.heap.size w0 w7 ∧ OwnI w7 w1.heap.size w2.heap.size uw0 y0 ∧ OwnI w7 w2.heap.size w3.heap.size ux0 x0 ∧ OwnI w7 w3.heap.size w4.heap.size ug0 y0 ∧ OwnI w7 w5.heap.size w6.heap.size ut0 x0) := Lib.hid ⟨(H6.out.1).below (hb.mono (by omega)), (H6.out.2.1).trans (hb.mono (by omega)), (H6.out.2.2.1).below hb, (H6.out.2.2.2.1).below hb, (H6.out.2.2.2.2.1).below hb, (H6.out.2.2.2.2.2).below hb⟩
  clear hb H6
  go_wp2_with fail
  refine (markI _ _ _ _ _ _ (by omega) (Nat.le_trans hl0 (by omega)) (H7.out.2.2.2.1)).mono ?_
  rintro e w8 ⟨rfl, ho, hb⟩
  have hs8 := hb.size
  have H8 : Hid (RdBI w8 w0.heap.size (.slice A0 x0.length c0) x0 ∧ Below w0.heap.size w0 w8 ∧ OwnI w8 w1.heap.size w2.heap.size uw0 y0 ∧ OwnI w8 w2.heap.size w3.heap.size ux0 (mkI (1) x0) ∧ OwnI w8 w3.heap.size w4.heap.size ug0 y0 ∧ OwnI w8 w5.heap.size w6.heap.size ut0 x0) := Lib.hid ⟨(H7.out.1).below (hb.below (by omega) (by omega)), (H7.out.2.1).trans (hb.below (by omega) (by omega)), (H7.out.2.2.1).apart hb (by omega), ho, (H7.out.2.2.2.2.1).apart hb (by omega), (H7.out.2.2.2.2.2).apart hb (by omega)⟩
  clear hb H7 ho
  go_wp2_with fail
  refine (eqI _ _ _ _ _ ((H8.out.2.2.2.2.1).rd) ((H8.out.2.2.1).rd) true (decide_eq_true rfl)).mono ?_
  rintro e w9 ⟨rfl, hb⟩
  have hs9 := hb.size
  have H9 : Hid (RdBI w9 w0.heap.size (.slice A0 x0.length c0) x0 ∧ Below w0.heap.size w0 w9 ∧ OwnI w9 w1.heap.size w2.heap.size uw0 y0 ∧ OwnI w9 w2.heap.size w3.heap.size ux0 (mkI (1) x0) ∧ OwnI w9 w3.heap.size w4.heap.size ug0 y0 ∧ OwnI w9 w5.heap.size w6.heap.size ut0 x0) := Lib.hid ⟨(H8.out.1).below (hb.mono (by omega)), (H8.out.2.1).trans (hb.mono (by omega)), (H8.out.2.2.1).below hb, (H8.out.2.2.2.1).below hb, (H8.out.2.2.2.2.1).below hb, (H8.out.2.2.2.2.2).below hb⟩
  clear hb H8
  go_wp2_with fail
  refine (markI _ _ _ _ _ _ (by omega) (Nat.le_trans Hy0.out (by omega)) (H9.out.2.2.2.2.1)).mono ?_
  rintro e w10 ⟨rfl, ho, hb⟩
  have hs10 := hb.size
  have H10 : Hid (RdBI w10 w0.heap.size (.slice A0 x0.length c0) x0 ∧ Below w0.heap.size w0 w10 ∧ OwnI w10 w1.heap.size w2.heap.size uw0 y0 ∧ OwnI w10 w2.heap.size w3.heap.size ux0 (mkI (1) x0) ∧ OwnI w10 w3.heap.size w4.heap.size ug0 (mkI (1) y0) ∧ OwnI w10 w5.heap.size w6.heap.size ut0 x0) := Lib.hid ⟨(H9.out.1).below (hb.below (by omega) (by omega)), (H9.out.2.1).trans (hb.below (by omega) (by omega)), (H9.out.2.2.1).apart hb (by omega), (H9.out.2.2.2.1).apart hb (by omega), ho, (H9.out.2.2.2.2.2).apart hb (by omega)⟩
  clear hb H9 ho
  go_wp2_with fail
  refine (heldI _ y0 _ _ (by omega) (Nat.le_trans Hy0.out (by omega)) ((H10.out.2.2.2.2.1).rd)).mono ?_
  rintro e w11 ⟨rfl, hb⟩
  have hs11 := hb.size
  have H11 : Hid (RdBI w11 w0.heap.size (.slice A0 x0.length c0) x0 ∧ Below w0.heap.size w0 w11 ∧ OwnI w11 w1.heap.size w2.heap.size uw0 y0 ∧ OwnI w11 w2.heap.size w3.heap.size ux0 (mkI (1) x0) ∧ OwnI w11 w3.heap.size w4.heap.size ug0 (mkI (1) y0) ∧ OwnI w11 w5.heap.size w6.heap.size ut0 x0) := Lib.hid ⟨(H10.out.1).below (hb.mono (by omega)), (H10.out.2.1).trans (hb.mono (by omega)), (H10.out.2.2.1).below hb, (H10.out.2.2.2.1).below hb, (H10.out.2.2.2.2.1).below hb, (H10.out.2.2.2.2.2).below hb⟩
  clear hb H10
  go_wp2_with fail
  refine (toI _ x0 _ ((H11.out.1).rd (by omega)) hl0).mono ?_
  rintro e w12 ⟨uz0, rfl, ho, hb⟩
  have hs12 := hb.size
  have hq12_z0 : w11.heap.size ≤ w12.heap.size := hb.size
  have H12 : Hid (RdBI w12 w0.heap.size (.slice A0 x0.length c0) x0 ∧ Below w0.heap.size w0 w12 ∧ OwnI w12 w1.heap.size w2.heap.size uw0 y0 ∧ OwnI w12 w2.heap.size w3.heap.size ux0 (mkI (1) x0) ∧ OwnI w12 w3.heap.size w4.heap.size ug0 (mkI (1) y0) ∧ OwnI w12 w5.heap.size w6.heap.size ut0 x0 ∧ OwnI w12 w11.heap.size w12.heap.size uz0 x0) := Lib.hid ⟨(H11.out.1).below (hb.mono (by omega)), (H11.out.2.1).trans (hb.mono (by omega)), (H11.out.2.2.1).below hb, (H11.out.2.2.2.1).below hb, (H11.out.2.2.2.2.1).below hb, (H11.out.2.2.2.2.2).below hb, ho⟩
  clear hb H11 ho
  go_wp2_with fail
  refine (PlacesOf_I _ x0 x1 _ ((H12.out.2.2.2.2.2.2).rd) hl0 h1 _ _ HR.out).mono ?_
  rintro e w13 ⟨uh0, rfl, ho, hb⟩
  have hs13 := hb.size
  have hq13_h0 : w12.heap.size ≤ w13.heap.size := hb.size
  have H13 : Hid (RdBI w13 w0.heap.size (.slice A0 x0.length c0) x0 ∧ Below w0.heap.size w0 w13 ∧ OwnI w13 w1.heap.size w2.heap.size uw0 y0 ∧ OwnI w13 w2.heap.size w3.heap.size ux0 (mkI (1) x0) ∧ OwnI w13 w3.heap.size w4.heap.size ug0 (mkI (1) y0) ∧ OwnI w13 w5.heap.size w6.heap.size ut0 x0 ∧ OwnI w13 w11.heap.size w12.heap.size uz0 x0 ∧ OwnI w13 w12.heap.size w13.heap.size uh0 y0) := Lib.hid ⟨(H12.out.1).below (hb.mono (by omega)), (H12.out.2.1).trans (hb.mono (by omega)), (H12.out.2.2.1).below hb, (H12.out.2.2.2.1).below hb, (H12.out.2.2.2.2.1).below hb, (H12.out.2.2.2.2.2.1).below hb, (H12.out.2.2.2.2.2.2).below hb, ho⟩
  clear hb H12 ho
  go_wp2_with fail
  refine (eqI _ _ _ _ _ ((H13.out.2.2.2.2.2.2.2).rd) ((H13.out.2.2.1).rd) true (decide_eq_true rfl)).mono ?_
  rintro e w14 ⟨rfl, hb⟩
  have hs14 := hb.size
  have H14 : Hid (RdBI w14 w0.heap.size (.slice A0 x0.length c0) x0 ∧ Below w0.heap.size w0 w14 ∧ OwnI w14 w1.heap.size w2.heap.size uw0 y0 ∧ OwnI w14 w2.heap.size w3.heap.size ux0 (mkI (1) x0) ∧ OwnI w14 w3.heap.size w4.heap.size ug0 (mkI (1) y0) ∧ OwnI w14 w5.heap.size w6.heap.size ut0 x0 ∧ OwnI w14 w11.heap.size w12.heap.size uz0 x0 ∧ OwnI w14 w12.heap.size w13.heap.size uh0 y0) := Lib.hid ⟨(H13.out.1).below (hb.mono (by omega)), (H13.out.2.1).trans (hb.mono (by omega)), (H13.out.2.2.1).below hb, (H13.out.2.2.2.1).below hb, (H13.out.2.2.2.2.1).below hb, (H13.out.2.2.2.2.2.1).below hb, (H13.out.2.2.2.2.2.2.1).below hb, (H13.out.2.2.2.2.2.2.2).below hb⟩
  clear hb H13
  go_wp2_with fail
  refine (heldI _ y0 _ _ (by omega) (Nat.le_trans Hy0.out (by omega)) ((H14.out.2.2.2.2.1).rd)).mono ?_
  rintro e w15 ⟨rfl, hb⟩
  have hs15 := hb.size
  have H15 : Hid (RdBI w15 w0.heap.size (.slice A0 x0.length c0) x0 ∧ Below w0.heap.size w0 w15 ∧ OwnI w15 w1.heap.size w2.heap.size uw0 y0 ∧ OwnI w15 w2.heap.size w3.heap.size ux0 (mkI (1) x0) ∧ OwnI w15 w3.heap.size w4.heap.size ug0 (mkI (1) y0) ∧ OwnI w15 w5.heap.size w6.heap.size ut0 x0 ∧ OwnI w15 w11.heap.size w12.heap.size uz0 x0 ∧ OwnI w15 w12.heap.size w13.heap.size uh0 y0) := Lib.hid ⟨(H14.out.1).below (hb.mono (by omega)), (H14.out.2.1).trans (hb.mono (by omega)), (H14.out.2.2.1).below hb, (H14.out.2.2.2.1).below hb, (H14.out.2.2.2.2.1).below hb, (H14.out.2.2.2.2.2.1).below hb, (H14.out.2.2.2.2.2.2.1).below hb, (H14.out.2.2.2.2.2.2.2).below hb⟩
  clear hb H14
  go_wp2
  go_ret
  exact ⟨rfl, H15.out.2.1⟩

theorem exPlacesOf_walk : LawWalk 12 Try.f12 := by
  intro H enc W base args ds ps hval hA
  rw [Try.params12] at hA hval
  obtain ⟨v0, v1, d0, d1, p0, p1, rfl, rfl, rfl, h0, h1⟩ := trodAll_two hA
  obtain ⟨A0, c0, zs0, rfl, hi0, hc0⟩ := ints_of_trod Try.underlying23 Try.underlying3 cells_int (hval 0 _ _ rfl rfl) h0
  obtain ⟨zs1, rfl, _, _, hi1⟩ := open_int Try.underlying3 (hval 1 _ _ rfl rfl) h1
  exact exPlacesOf_any A0 c0 zs0 zs1 W (RdI.mk hi0 hc0) hi1

set_option maxRecDepth 100000 in
theorem exPlacesOf_lifted (os : Os) (started : os.Started) (H : Type) (enc : TypeId × Value → H) :
    ReturnsInHanded {} Try.checked os 12 .any (Rows.fnExactPlacesOfSpec.pre6 enc Try.prog Try.f12 Rows.fnExactPlacesOfRow.domain false) (Rows.fnExactPlacesOfSpec.post enc Try.prog Try.f12 false true false false) := by
  refine returnsInHanded_of_change (C := Try.checked) own started (by kernel_rfl) Try.func12
    (ChangeSpec.witness6 (enc := enc) (C := Try.checked) false ⟨#[], #[.slice none 0 0, .int .i64 0], []⟩ 8 (by kernel_rfl) (by kernel_rfl) (by kernel_rfl) (by kernel_rfl)) ?_
  intro W base args ds gs before hval hW _ _
  exact law_contract laidOut rfl (by kernel_rfl) rfl (fun H ds hd => by
    match ds, hd with
    | [d0, d1], _ => exact ⟨rfl, rfl, rfl⟩) exPlacesOf_walk W base args ds gs before hval hW

/-- FnExactPlacesOf: the row as it is given. -/
theorem exPlacesOf_holds : Rows.FnExactPlacesOfSaid :=
  OpenClaim.holds_of_wide 12 Try.f12 rfl rfl rfl rfl rfl rfl rfl ⟨rfl, rfl, rfl, rfl, rfl⟩ rfl rfl rfl rfl rfl (by kernel_rfl) Try.func12 (by unfold joinedFacts; rw [pf_enter, pf_lifts, pf_make]; kernel_rfl)
    (of_decide_eq_true (by kernel_rfl)) (by unfold Func.isWrapper; first | (rw [if_pos (by decide +kernel)]; kernel_rfl) | (rw [if_neg (by decide +kernel)]; exact ⟨rfl, rfl⟩))
    (fun os started H enc _ => exPlacesOf_lifted os started H enc)

end Go.Proofs.Ytjbfpbajbjnifaa
