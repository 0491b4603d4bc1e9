/- RunOf answers at every argument as its model, writes into no argument, and its answer owns its memory. For every input. -/
import Derived.Test.YtkdpfiaegimnlaaSy
import Derived.Test.YtkdpfiaegimnlaaB5
import Derived.Test.YtkdpfiaegimnlaaLift
import Derived.Test.YtkdpfiaegimnlaaB6
namespace Go.Proofs.Ytkdpfiaegimnlaa
set_option maxRecDepth 100000
open Go.RowKit Go.WideShapes Go.ChangeShapes

theorem RunOf_IB (v0 : Value) (x0 : List Int) (v1 : Value) (x1 : List (List Int)) (w : World) (h0 : RdI w v0 x0) (hl0 : x0.length ≤ 1048576) (h1 : RdS w v1 x1) (_ : x1.length ≤ 1048576) (_ : szS x1 ≤ 1048576) (y0 : List (List Int)) (y1 : Int) (y2 : Bool) (hR : runOfR x0 x1 = (y0, y1, y2)) :
    Calls Try.prog 18 #[v0, v1] w fun e w' => ∃ u, e = .returned (.tuple #[u, .int .i64 y1, .bool y2]) ∧ OwnS w' w.heap.size w'.heap.size u y0 ∧ Below w.heap.size w w' := RunOf_I v0 x0 v1 x1 w h0 hl0 h1 y0 y1 y2 hR
theorem szS_stack {s : List (List Int)} (h : stackB s = true) : szS s ≤ 200 * s.length := by
  obtain ⟨_, hv⟩ := stackB_all h
  exact szS_200 (fun zs hz => Nat.le_trans (valueB_len (hv zs hz)).2 (by omega))
theorem runOfR_len (p : List Int) (s : List (List Int)) : szS (runOfR p s).1 ≤ 1000000 := by
  rcases hb : (runOfR p s).2.2 with _ | _
  · rw [runOfR_no hb]; simp [szS]
  · obtain ⟨_, _, x, _, he, hs, _⟩ := runOfR_ok hb
    rw [he]
    have h1 := szS_stack hs
    have h2 := (stackB_all hs).1
    dsimp only
    omega

set_option maxHeartbeats 1000000 in
theorem exRunOf_any (A0 : Option Addr) (c0 : Nat) (x0 : List Int) (A1 : Option Addr) (c1 : Nat) (x1 : List (List Int)) (w0 : World) (h0 : RdI w0 (.slice A0 x0.length c0) x0) (h1 : RdS w0 (.slice A1 x1.length c1) x1) :
    Calls Try.prog 11 #[.slice A0 x0.length c0, .slice A1 x1.length c1] w0 fun e w' => e = .returned (.bool true) ∧ Below w0.heap.size w0 w' := by
  have hm0 := h0.len_le
  have HH0 := Lib.hid h0; clear h0
  have HH1 := Lib.hid h1; clear h1
  by_cases hl0 : x0.length ≤ 1048576
  case neg =>
    go_enter Try.func11, Try.ntmps11
    go_wp2
    go_ret
    exact ⟨rfl, Below.refl _ _⟩
  by_cases hs1 : leftS 1048576 x1 < 0
  case pos =>
    go_enter Try.func11, Try.ntmps11
    go_wp2_with fail
    refine (szS_any _ x1 _ _ HH1.out (by omega)).mono ?_
    rintro e w' ⟨rfl, rfl⟩
    go_wp2
    go_ret
    exact ⟨rfl, Below.refl _ _⟩
  have hn1 : x1.length ≤ 1048576 := by have := (leftS_ok hs1).1; omega
  have hl1 : szS x1 ≤ 1048576 := by have := (leftS_ok hs1).2; omega
  generalize hR : runOfR x0 x1 = R
  obtain ⟨y0, y1, y2⟩ := R
  have hy0 : szS y0 ≤ 1000000 := by have := runOfR_len x0 x1; rw [hR] at this; exact this
  have Hy0 := Lib.hid hy0; clear hy0
  have HR := Lib.hid hR; clear hR
  have hbb1 : (y1 != y1) = false := by simp
  have hbb2 : (y2 != y2) = false := by simp
  have H0 : Hid (RdBI w0 w0.heap.size (.slice A0 x0.length c0) x0 ∧ RdBS w0 w0.heap.size (.slice A1 x1.length c1) x1 ∧ Below w0.heap.size w0 w0) := Lib.hid ⟨HH0.out.at_, HH1.out.at_, Below.refl _ _⟩
  clear HH0
  clear HH1
  have hs0 : w0.heap.size ≤ w0.heap.size := Nat.le_refl _
  go_enter Try.func11, Try.ntmps11
  go_wp2_with fail
  refine (szS_any _ x1 _ _ ((H0.out.2.1).rd (by omega)) (by omega)).mono ?_
  rintro e w' ⟨rfl, rfl⟩
  go_wp2_with fail
  refine (toI _ x0 _ ((H0.out.1).rd (by omega)) hl0).mono ?_
  rintro e w1 ⟨ut0, rfl, ho, hb⟩
  have hs1 := hb.size
  have hq1_t0 : w0.heap.size ≤ w1.heap.size := hb.size
  have H1 : Hid (RdBI w1 w0.heap.size (.slice A0 x0.length c0) x0 ∧ RdBS w1 w0.heap.size (.slice A1 x1.length c1) x1 ∧ Below w0.heap.size w0 w1 ∧ OwnI w1 w0.heap.size w1.heap.size ut0 x0) := Lib.hid ⟨(H0.out.1).below (hb.mono (by omega)), (H0.out.2.1).below (hb.mono (by omega)), (H0.out.2.2).trans (hb.mono (by omega)), ho⟩
  clear hb H0 ho
  go_wp2_with fail
  refine (toS _ x1 _ ((H1.out.2.1).rd (by omega)) hn1 (fun zs h => Nat.le_trans (szS_mem h) hl1)).mono ?_
  rintro e w2 ⟨ut1, rfl, ho, hb⟩
  have hs2 := hb.size
  have hq2_t1 : w1.heap.size ≤ w2.heap.size := hb.size
  have H2 : Hid (RdBI w2 w0.heap.size (.slice A0 x0.length c0) x0 ∧ RdBS w2 w0.heap.size (.slice A1 x1.length c1) x1 ∧ Below w0.heap.size w0 w2 ∧ OwnI w2 w0.heap.size w1.heap.size ut0 x0 ∧ OwnS w2 w1.heap.size w2.heap.size ut1 x1) := Lib.hid ⟨(H1.out.1).below (hb.mono (by omega)), (H1.out.2.1).below (hb.mono (by omega)), (H1.out.2.2.1).trans (hb.mono (by omega)), (H1.out.2.2.2).below hb, ho⟩
  clear hb H1 ho
  go_wp2_with fail
  refine (RunOf_S _ x0 _ x1 _ ((H2.out.2.2.2.1).rd) hl0 ((H2.out.2.2.2.2).rd) hn1 hl1 _ _ _ HR.out).mono ?_
  rintro e w3 ⟨uw0, rfl, ho, hb⟩
  have hs3 := hb.size
  have H3 : Hid (RdBI w3 w0.heap.size (.slice A0 x0.length c0) x0 ∧ RdBS w3 w0.heap.size (.slice A1 x1.length c1) x1 ∧ Below w0.heap.size w0 w3 ∧ RdBS w3 w3.heap.size uw0 y0) := Lib.hid ⟨(H2.out.1).below (hb.mono (by omega)), (H2.out.2.1).below (hb.mono (by omega)), (H2.out.2.2.1).trans (hb.mono (by omega)), ho⟩
  clear hb H2 ho
  go_wp2_with fail
  refine (toI _ x0 _ ((H3.out.1).rd (by omega)) hl0).mono ?_
  rintro e w4 ⟨ux0, rfl, ho, hb⟩
  have hs4 := hb.size
  have hq4_x0 : w3.heap.size ≤ w4.heap.size := hb.size
  have H4 : Hid (RdBI w4 w0.heap.size (.slice A0 x0.length c0) x0 ∧ RdBS w4 w0.heap.size (.slice A1 x1.length c1) x1 ∧ Below w0.heap.size w0 w4 ∧ RdBS w4 w3.heap.size uw0 y0 ∧ OwnI w4 w3.heap.size w4.heap.size ux0 x0) := Lib.hid ⟨(H3.out.1).below (hb.mono (by omega)), (H3.out.2.1).below (hb.mono (by omega)), (H3.out.2.2.1).trans (hb.mono (by omega)), (H3.out.2.2.2).below (hb.mono (by omega)), ho⟩
  clear hb H3 ho
  go_wp2_with fail
  refine (toS _ x1 _ ((H4.out.2.1).rd (by omega)) hn1 (fun zs h => Nat.le_trans (szS_mem h) hl1)).mono ?_
  rintro e w5 ⟨ux1, rfl, ho, hb⟩
  have hs5 := hb.size
  have hq5_x1 : w4.heap.size ≤ w5.heap.size := hb.size
  have H5 : Hid (RdBI w5 w0.heap.size (.slice A0 x0.length c0) x0 ∧ RdBS w5 w0.heap.size (.slice A1 x1.length c1) x1 ∧ Below w0.heap.size w0 w5 ∧ RdBS w5 w3.heap.size uw0 y0 ∧ OwnI w5 w3.heap.size w4.heap.size ux0 x0 ∧ OwnS w5 w4.heap.size w5.heap.size ux1 x1) := Lib.hid ⟨(H4.out.1).below (hb.mono (by omega)), (H4.out.2.1).below (hb.mono (by omega)), (H4.out.2.2.1).trans (hb.mono (by omega)), (H4.out.2.2.2.1).below (hb.mono (by omega)), (H4.out.2.2.2.2).below hb, ho⟩
  clear hb H4 ho
  go_wp2_with fail
  refine (RunOf_IB _ x0 _ x1 _ ((H5.out.2.2.2.2.1).rd) hl0 ((H5.out.2.2.2.2.2).rd) hn1 hl1 _ _ _ HR.out).mono ?_
  rintro e w6 ⟨ug0, rfl, ho, hb⟩
  have hs6 := hb.size
  have hq6_g0 : w5.heap.size ≤ w6.heap.size := hb.size
  have H6 : Hid (RdBI w6 w0.heap.size (.slice A0 x0.length c0) x0 ∧ RdBS w6 w0.heap.size (.slice A1 x1.length c1) x1 ∧ Below w0.heap.size w0 w6 ∧ RdBS w6 w3.heap.size uw0 y0 ∧ OwnI w6 w3.heap.size w4.heap.size ux0 x0 ∧ OwnS w6 w4.heap.size w5.heap.size ux1 x1 ∧ OwnS w6 w5.heap.size w6.heap.size ug0 y0) := Lib.hid ⟨(H5.out.1).below (hb.mono (by omega)), (H5.out.2.1).below (hb.mono (by omega)), (H5.out.2.2.1).trans (hb.mono (by omega)), (H5.out.2.2.2.1).below (hb.mono (by omega)), (H5.out.2.2.2.2.1).below hb, (H5.out.2.2.2.2.2).below hb, ho⟩
  clear hb H5 ho
  go_wp2_with fail
  refine (eqS _ _ _ _ _ ((H6.out.2.2.2.2.2.2).rd) ((H6.out.2.2.2.1).rd (by omega)) true (decide_eq_true rfl)).mono ?_
  rintro e w7 ⟨rfl, hb⟩
  have hs7 := hb.size
  have H7 : Hid (RdBI w7 w0.heap.size (.slice A0 x0.length c0) x0 ∧ RdBS w7 w0.heap.size (.slice A1 x1.length c1) x1 ∧ Below w0.heap.size w0 w7 ∧ RdBS w7 w3.heap.size uw0 y0 ∧ OwnI w7 w3.heap.size w4.heap.size ux0 x0 ∧ OwnS w7 w4.heap.size w5.heap.size ux1 x1 ∧ OwnS w7 w5.heap.size w6.heap.size ug0 y0) := Lib.hid ⟨(H6.out.1).below (hb.mono (by omega)), (H6.out.2.1).below (hb.mono (by omega)), (H6.out.2.2.1).trans (hb.mono (by omega)), (H6.out.2.2.2.1).below (hb.mono (by omega)), (H6.out.2.2.2.2.1).below hb, (H6.out.2.2.2.2.2.1).below hb, (H6.out.2.2.2.2.2.2).below hb⟩
  clear hb H6
  go_wp2_with fail
  refine (toI _ x0 _ ((H7.out.1).rd (by omega)) hl0).mono ?_
  rintro e w8 ⟨ut0, rfl, ho, hb⟩
  have hs8 := hb.size
  have hq8_t0 : w7.heap.size ≤ w8.heap.size := hb.size
  have H8 : Hid (RdBI w8 w0.heap.size (.slice A0 x0.length c0) x0 ∧ RdBS w8 w0.heap.size (.slice A1 x1.length c1) x1 ∧ Below w0.heap.size w0 w8 ∧ RdBS w8 w3.heap.size uw0 y0 ∧ OwnI w8 w3.heap.size w4.heap.size ux0 x0 ∧ OwnS w8 w4.heap.size w5.heap.size ux1 x1 ∧ OwnS w8 w5.heap.size w6.heap.size ug0 y0 ∧ OwnI w8 w7.heap.size w8.heap.size ut0 x0) := Lib.hid ⟨(H7.out.1).below (hb.mono (by omega)), (H7.out.2.1).below (hb.mono (by omega)), (H7.out.2.2.1).trans (hb.mono (by omega)), (H7.out.2.2.2.1).below (hb.mono (by omega)), (H7.out.2.2.2.2.1).below hb, (H7.out.2.2.2.2.2.1).below hb, (H7.out.2.2.2.2.2.2).below hb, ho⟩
  clear hb H7 ho
  go_wp2_with fail
  refine (eqI _ _ _ _ _ ((H8.out.2.2.2.2.1).rd) ((H8.out.2.2.2.2.2.2.2).rd) true (decide_eq_true rfl)).mono ?_
  rintro e w9 ⟨rfl, hb⟩
  have hs9 := hb.size
  have H9 : Hid (RdBI w9 w0.heap.size (.slice A0 x0.length c0) x0 ∧ RdBS w9 w0.heap.size (.slice A1 x1.length c1) x1 ∧ Below w0.heap.size w0 w9 ∧ RdBS w9 w3.heap.size uw0 y0 ∧ OwnI w9 w3.heap.size w4.heap.size ux0 x0 ∧ OwnS w9 w4.heap.size w5.heap.size ux1 x1 ∧ OwnS w9 w5.heap.size w6.heap.size ug0 y0 ∧ OwnI w9 w7.heap.size w8.heap.size ut0 x0) := Lib.hid ⟨(H8.out.1).below (hb.mono (by omega)), (H8.out.2.1).below (hb.mono (by omega)), (H8.out.2.2.1).trans (hb.mono (by omega)), (H8.out.2.2.2.1).below (hb.mono (by omega)), (H8.out.2.2.2.2.1).below hb, (H8.out.2.2.2.2.2.1).below hb, (H8.out.2.2.2.2.2.2.1).below hb, (H8.out.2.2.2.2.2.2.2).below hb⟩
  clear hb H8
  go_wp2_with fail
  refine (toS _ x1 _ ((H9.out.2.1).rd (by omega)) hn1 (fun zs h => Nat.le_trans (szS_mem h) hl1)).mono ?_
  rintro e w10 ⟨ut1, rfl, ho, hb⟩
  have hs10 := hb.size
  have hq10_t1 : w9.heap.size ≤ w10.heap.size := hb.size
  have H10 : Hid (RdBI w10 w0.heap.size (.slice A0 x0.length c0) x0 ∧ RdBS w10 w0.heap.size (.slice A1 x1.length c1) x1 ∧ Below w0.heap.size w0 w10 ∧ RdBS w10 w3.heap.size uw0 y0 ∧ OwnI w10 w3.heap.size w4.heap.size ux0 x0 ∧ OwnS w10 w4.heap.size w5.heap.size ux1 x1 ∧ OwnS w10 w5.heap.size w6.heap.size ug0 y0 ∧ OwnI w10 w7.heap.size w8.heap.size ut0 x0 ∧ OwnS w10 w9.heap.size w10.heap.size ut1 x1) := Lib.hid ⟨(H9.out.1).below (hb.mono (by omega)), (H9.out.2.1).below (hb.mono (by omega)), (H9.out.2.2.1).trans (hb.mono (by omega)), (H9.out.2.2.2.1).below (hb.mono (by omega)), (H9.out.2.2.2.2.1).below hb, (H9.out.2.2.2.2.2.1).below hb, (H9.out.2.2.2.2.2.2.1).below hb, (H9.out.2.2.2.2.2.2.2).below hb, ho⟩
  clear hb H9 ho
  go_wp2_with fail
  refine (eqS _ _ _ _ _ ((H10.out.2.2.2.2.2.1).rd) ((H10.out.2.2.2.2.2.2.2.2).rd) true (decide_eq_true rfl)).mono ?_
  rintro e w11 ⟨rfl, hb⟩
  have hs11 := hb.size
  have H11 : Hid (RdBI w11 w0.heap.size (.slice A0 x0.length c0) x0 ∧ RdBS w11 w0.heap.size (.slice A1 x1.length c1) x1 ∧ Below w0.heap.size w0 w11 ∧ RdBS w11 w3.heap.size uw0 y0 ∧ OwnI w11 w3.heap.size w4.heap.size ux0 x0 ∧ OwnS w11 w4.heap.size w5.heap.size ux1 x1 ∧ OwnS w11 w5.heap.size w6.heap.size ug0 y0 ∧ OwnI w11 w7.heap.size w8.heap.size ut0 x0 ∧ OwnS w11 w9.heap.size w10.heap.size ut1 x1) := Lib.hid ⟨(H10.out.1).below (hb.mono (by omega)), (H10.out.2.1).below (hb.mono (by omega)), (H10.out.2.2.1).trans (hb.mono (by omega)), (H10.out.2.2.2.1).below (hb.mono (by omega)), (H10.out.2.2.2.2.1).below hb, (H10.out.2.2.2.2.2.1).below hb, (H10.out.2.2.2.2.2.2.1).below hb, (H10.out.2.2.2.2.2.2.2.1).below hb, (H10.out.2.2.2.2.2.2.2.2).below hb⟩
  clear hb H10
  go_wp2_with fail
  refine (markI _ _ _ _ _ _ (by omega) (Nat.le_trans hl0 (by omega)) (H11.out.2.2.2.2.1)).mono ?_
  rintro e w12 ⟨rfl, ho, hb⟩
  have hs12 := hb.size
  have H12 : Hid (RdBI w12 w0.heap.size (.slice A0 x0.length c0) x0 ∧ RdBS w12 w0.heap.size (.slice A1 x1.length c1) x1 ∧ Below w0.heap.size w0 w12 ∧ RdBS w12 w3.heap.size uw0 y0 ∧ OwnI w12 w3.heap.size w4.heap.size ux0 (mkI (1) x0) ∧ OwnS w12 w4.heap.size w5.heap.size ux1 x1 ∧ OwnS w12 w5.heap.size w6.heap.size ug0 y0 ∧ OwnI w12 w7.heap.size w8.heap.size ut0 x0 ∧ OwnS w12 w9.heap.size w10.heap.size ut1 x1) := Lib.hid ⟨(H11.out.1).below (hb.below (by omega) (by omega)), (H11.out.2.1).below (hb.below (by omega) (by omega)), (H11.out.2.2.1).trans (hb.below (by omega) (by omega)), (H11.out.2.2.2.1).below (hb.below (by omega) (by omega)), ho, (H11.out.2.2.2.2.2.1).apart hb (by omega), (H11.out.2.2.2.2.2.2.1).apart hb (by omega), (H11.out.2.2.2.2.2.2.2.1).apart hb (by omega), (H11.out.2.2.2.2.2.2.2.2).apart hb (by omega)⟩
  clear hb H11 ho
  go_wp2_with fail
  refine (markS _ _ _ _ _ _ (by omega) (Nat.le_trans hl1 (by omega)) (H12.out.2.2.2.2.2.1)).mono ?_
  rintro e w13 ⟨rfl, ho, hb⟩
  have hs13 := hb.size
  have H13 : Hid (RdBI w13 w0.heap.size (.slice A0 x0.length c0) x0 ∧ RdBS w13 w0.heap.size (.slice A1 x1.length c1) x1 ∧ Below w0.heap.size w0 w13 ∧ RdBS w13 w3.heap.size uw0 y0 ∧ OwnI w13 w3.heap.size w4.heap.size ux0 (mkI (1) x0) ∧ OwnS w13 w4.heap.size w5.heap.size ux1 (mkS (1 + (x0.length : Int)) x1) ∧ OwnS w13 w5.heap.size w6.heap.size ug0 y0 ∧ OwnI w13 w7.heap.size w8.heap.size ut0 x0 ∧ OwnS w13 w9.heap.size w10.heap.size ut1 x1) := Lib.hid ⟨(H12.out.1).below (hb.below (by omega) (by omega)), (H12.out.2.1).below (hb.below (by omega) (by omega)), (H12.out.2.2.1).trans (hb.below (by omega) (by omega)), (H12.out.2.2.2.1).below (hb.below (by omega) (by omega)), (H12.out.2.2.2.2.1).apart hb (by omega), ho, (H12.out.2.2.2.2.2.2.1).apart hb (by omega), (H12.out.2.2.2.2.2.2.2.1).apart hb (by omega), (H12.out.2.2.2.2.2.2.2.2).apart hb (by omega)⟩
  clear hb H12 ho
  go_wp2_with fail
  refine (eqS _ _ _ _ _ ((H13.out.2.2.2.2.2.2.1).rd) ((H13.out.2.2.2.1).rd (by omega)) true (decide_eq_true rfl)).mono ?_
  rintro e w14 ⟨rfl, hb⟩
  have hs14 := hb.size
  have H14 : Hid (RdBI w14 w0.heap.size (.slice A0 x0.length c0) x0 ∧ RdBS w14 w0.heap.size (.slice A1 x1.length c1) x1 ∧ Below w0.heap.size w0 w14 ∧ RdBS w14 w3.heap.size uw0 y0 ∧ OwnI w14 w3.heap.size w4.heap.size ux0 (mkI (1) x0) ∧ OwnS w14 w4.heap.size w5.heap.size ux1 (mkS (1 + (x0.length : Int)) x1) ∧ OwnS w14 w5.heap.size w6.heap.size ug0 y0 ∧ OwnI w14 w7.heap.size w8.heap.size ut0 x0 ∧ OwnS w14 w9.heap.size w10.heap.size ut1 x1) := Lib.hid ⟨(H13.out.1).below (hb.mono (by omega)), (H13.out.2.1).below (hb.mono (by omega)), (H13.out.2.2.1).trans (hb.mono (by omega)), (H13.out.2.2.2.1).below (hb.mono (by omega)), (H13.out.2.2.2.2.1).below hb, (H13.out.2.2.2.2.2.1).below hb, (H13.out.2.2.2.2.2.2.1).below hb, (H13.out.2.2.2.2.2.2.2.1).below hb, (H13.out.2.2.2.2.2.2.2.2).below hb⟩
  clear hb H13
  go_wp2_with fail
  refine (markS _ _ _ _ _ _ (by omega) (Nat.le_trans Hy0.out (by omega)) (H14.out.2.2.2.2.2.2.1)).mono ?_
  rintro e w15 ⟨rfl, ho, hb⟩
  have hs15 := hb.size
  have H15 : Hid (RdBI w15 w0.heap.size (.slice A0 x0.length c0) x0 ∧ RdBS w15 w0.heap.size (.slice A1 x1.length c1) x1 ∧ Below w0.heap.size w0 w15 ∧ RdBS w15 w3.heap.size uw0 y0 ∧ OwnI w15 w3.heap.size w4.heap.size ux0 (mkI (1) x0) ∧ OwnS w15 w4.heap.size w5.heap.size ux1 (mkS (1 + (x0.length : Int)) x1) ∧ OwnS w15 w5.heap.size w6.heap.size ug0 (mkS (1) y0) ∧ OwnI w15 w7.heap.size w8.heap.size ut0 x0 ∧ OwnS w15 w9.heap.size w10.heap.size ut1 x1) := Lib.hid ⟨(H14.out.1).below (hb.below (by omega) (by omega)), (H14.out.2.1).below (hb.below (by omega) (by omega)), (H14.out.2.2.1).trans (hb.below (by omega) (by omega)), (H14.out.2.2.2.1).below (hb.below (by omega) (by omega)), (H14.out.2.2.2.2.1).apart hb (by omega), (H14.out.2.2.2.2.2.1).apart hb (by omega), ho, (H14.out.2.2.2.2.2.2.2.1).apart hb (by omega), (H14.out.2.2.2.2.2.2.2.2).apart hb (by omega)⟩
  clear hb H14 ho
  go_wp2_with fail
  refine (heldS _ y0 _ _ (by omega) (Nat.le_trans Hy0.out (by omega)) ((H15.out.2.2.2.2.2.2.1).rd)).mono ?_
  rintro e w16 ⟨rfl, hb⟩
  have hs16 := hb.size
  have H16 : Hid (RdBI w16 w0.heap.size (.slice A0 x0.length c0) x0 ∧ RdBS w16 w0.heap.size (.slice A1 x1.length c1) x1 ∧ Below w0.heap.size w0 w16 ∧ RdBS w16 w3.heap.size uw0 y0 ∧ OwnI w16 w3.heap.size w4.heap.size ux0 (mkI (1) x0) ∧ OwnS w16 w4.heap.size w5.heap.size ux1 (mkS (1 + (x0.length : Int)) x1) ∧ OwnS w16 w5.heap.size w6.heap.size ug0 (mkS (1) y0) ∧ OwnI w16 w7.heap.size w8.heap.size ut0 x0 ∧ OwnS w16 w9.heap.size w10.heap.size ut1 x1) := Lib.hid ⟨(H15.out.1).below (hb.mono (by omega)), (H15.out.2.1).below (hb.mono (by omega)), (H15.out.2.2.1).trans (hb.mono (by omega)), (H15.out.2.2.2.1).below (hb.mono (by omega)), (H15.out.2.2.2.2.1).below hb, (H15.out.2.2.2.2.2.1).below hb, (H15.out.2.2.2.2.2.2.1).below hb, (H15.out.2.2.2.2.2.2.2.1).below hb, (H15.out.2.2.2.2.2.2.2.2).below hb⟩
  clear hb H15
  go_wp2_with fail
  refine (toI _ x0 _ ((H16.out.1).rd (by omega)) hl0).mono ?_
  rintro e w17 ⟨uz0, rfl, ho, hb⟩
  have hs17 := hb.size
  have hq17_z0 : w16.heap.size ≤ w17.heap.size := hb.size
  have H17 : Hid (RdBI w17 w0.heap.size (.slice A0 x0.length c0) x0 ∧ RdBS w17 w0.heap.size (.slice A1 x1.length c1) x1 ∧ Below w0.heap.size w0 w17 ∧ RdBS w17 w3.heap.size uw0 y0 ∧ OwnI w17 w3.heap.size w4.heap.size ux0 (mkI (1) x0) ∧ OwnS w17 w4.heap.size w5.heap.size ux1 (mkS (1 + (x0.length : Int)) x1) ∧ OwnS w17 w5.heap.size w6.heap.size ug0 (mkS (1) y0) ∧ OwnI w17 w7.heap.size w8.heap.size ut0 x0 ∧ OwnS w17 w9.heap.size w10.heap.size ut1 x1 ∧ OwnI w17 w16.heap.size w17.heap.size uz0 x0) := Lib.hid ⟨(H16.out.1).below (hb.mono (by omega)), (H16.out.2.1).below (hb.mono (by omega)), (H16.out.2.2.1).trans (hb.mono (by omega)), (H16.out.2.2.2.1).below (hb.mono (by omega)), (H16.out.2.2.2.2.1).below hb, (H16.out.2.2.2.2.2.1).below hb, (H16.out.2.2.2.2.2.2.1).below hb, (H16.out.2.2.2.2.2.2.2.1).below hb, (H16.out.2.2.2.2.2.2.2.2).below hb, ho⟩
  clear hb H16 ho
  go_wp2_with fail
  refine (toS _ x1 _ ((H17.out.2.1).rd (by omega)) hn1 (fun zs h => Nat.le_trans (szS_mem h) hl1)).mono ?_
  rintro e w18 ⟨uz1, rfl, ho, hb⟩
  have hs18 := hb.size
  have hq18_z1 : w17.heap.size ≤ w18.heap.size := hb.size
  have H18 : Hid (RdBI w18 w0.heap.size (.slice A0 x0.length c0) x0 ∧ RdBS w18 w0.heap.size (.slice A1 x1.length c1) x1 ∧ Below w0.heap.size w0 w18 ∧ RdBS w18 w3.heap.size uw0 y0 ∧ OwnI w18 w3.heap.size w4.heap.size ux0 (mkI (1) x0) ∧ OwnS w18 w4.heap.size w5.heap.size ux1 (mkS (1 + (x0.length : Int)) x1) ∧ OwnS w18 w5.heap.size w6.heap.size ug0 (mkS (1) y0) ∧ OwnI w18 w7.heap.size w8.heap.size ut0 x0 ∧ OwnS w18 w9.heap.size w10.heap.size ut1 x1 ∧ OwnI w18 w16.heap.size w17.heap.size uz0 x0 ∧ OwnS w18 w17.heap.size w18.heap.size uz1 x1) := Lib.hid ⟨(H17.out.1).below (hb.mono (by omega)), (H17.out.2.1).below (hb.mono (by omega)), (H17.out.2.2.1).trans (hb.mono (by omega)), (H17.out.2.2.2.1).below (hb.mono (by omega)), (H17.out.2.2.2.2.1).below hb, (H17.out.2.2.2.2.2.1).below hb, (H17.out.2.2.2.2.2.2.1).below hb, (H17.out.2.2.2.2.2.2.2.1).below hb, (H17.out.2.2.2.2.2.2.2.2.1).below hb, (H17.out.2.2.2.2.2.2.2.2.2).below hb, ho⟩
  clear hb H17 ho
  go_wp2_with fail
  refine (RunOf_IB _ x0 _ x1 _ ((H18.out.2.2.2.2.2.2.2.2.2.1).rd) hl0 ((H18.out.2.2.2.2.2.2.2.2.2.2).rd) hn1 hl1 _ _ _ HR.out).mono ?_
  rintro e w19 ⟨uh0, rfl, ho, hb⟩
  have hs19 := hb.size
  have hq19_h0 : w18.heap.size ≤ w19.heap.size := hb.size
  have H19 : Hid (RdBI w19 w0.heap.size (.slice A0 x0.length c0) x0 ∧ RdBS w19 w0.heap.size (.slice A1 x1.length c1) x1 ∧ Below w0.heap.size w0 w19 ∧ RdBS w19 w3.heap.size uw0 y0 ∧ OwnI w19 w3.heap.size w4.heap.size ux0 (mkI (1) x0) ∧ OwnS w19 w4.heap.size w5.heap.size ux1 (mkS (1 + (x0.length : Int)) x1) ∧ OwnS w19 w5.heap.size w6.heap.size ug0 (mkS (1) y0) ∧ OwnI w19 w7.heap.size w8.heap.size ut0 x0 ∧ OwnS w19 w9.heap.size w10.heap.size ut1 x1 ∧ OwnI w19 w16.heap.size w17.heap.size uz0 x0 ∧ OwnS w19 w17.heap.size w18.heap.size uz1 x1 ∧ OwnS w19 w18.heap.size w19.heap.size uh0 y0) := Lib.hid ⟨(H18.out.1).below (hb.mono (by omega)), (H18.out.2.1).below (hb.mono (by omega)), (H18.out.2.2.1).trans (hb.mono (by omega)), (H18.out.2.2.2.1).below (hb.mono (by omega)), (H18.out.2.2.2.2.1).below hb, (H18.out.2.2.2.2.2.1).below hb, (H18.out.2.2.2.2.2.2.1).below hb, (H18.out.2.2.2.2.2.2.2.1).below hb, (H18.out.2.2.2.2.2.2.2.2.1).below hb, (H18.out.2.2.2.2.2.2.2.2.2.1).below hb, (H18.out.2.2.2.2.2.2.2.2.2.2).below hb, ho⟩
  clear hb H18 ho
  go_wp2_with fail
  refine (eqS _ _ _ _ _ ((H19.out.2.2.2.2.2.2.2.2.2.2.2).rd) ((H19.out.2.2.2.1).rd (by omega)) true (decide_eq_true rfl)).mono ?_
  rintro e w20 ⟨rfl, hb⟩
  have hs20 := hb.size
  have H20 : Hid (RdBI w20 w0.heap.size (.slice A0 x0.length c0) x0 ∧ RdBS w20 w0.heap.size (.slice A1 x1.length c1) x1 ∧ Below w0.heap.size w0 w20 ∧ RdBS w20 w3.heap.size uw0 y0 ∧ OwnI w20 w3.heap.size w4.heap.size ux0 (mkI (1) x0) ∧ OwnS w20 w4.heap.size w5.heap.size ux1 (mkS (1 + (x0.length : Int)) x1) ∧ OwnS w20 w5.heap.size w6.heap.size ug0 (mkS (1) y0) ∧ OwnI w20 w7.heap.size w8.heap.size ut0 x0 ∧ OwnS w20 w9.heap.size w10.heap.size ut1 x1 ∧ OwnI w20 w16.heap.size w17.heap.size uz0 x0 ∧ OwnS w20 w17.heap.size w18.heap.size uz1 x1 ∧ OwnS w20 w18.heap.size w19.heap.size uh0 y0) := Lib.hid ⟨(H19.out.1).below (hb.mono (by omega)), (H19.out.2.1).below (hb.mono (by omega)), (H19.out.2.2.1).trans (hb.mono (by omega)), (H19.out.2.2.2.1).below (hb.mono (by omega)), (H19.out.2.2.2.2.1).below hb, (H19.out.2.2.2.2.2.1).below hb, (H19.out.2.2.2.2.2.2.1).below hb, (H19.out.2.2.2.2.2.2.2.1).below hb, (H19.out.2.2.2.2.2.2.2.2.1).below hb, (H19.out.2.2.2.2.2.2.2.2.2.1).below hb, (H19.out.2.2.2.2.2.2.2.2.2.2.1).below hb, (H19.out.2.2.2.2.2.2.2.2.2.2.2).below hb⟩
  clear hb H19
  go_wp2_with fail
  refine (heldS _ y0 _ _ (by omega) (Nat.le_trans Hy0.out (by omega)) ((H20.out.2.2.2.2.2.2.1).rd)).mono ?_
  rintro e w21 ⟨rfl, hb⟩
  have hs21 := hb.size
  have H21 : Hid (RdBI w21 w0.heap.size (.slice A0 x0.length c0) x0 ∧ RdBS w21 w0.heap.size (.slice A1 x1.length c1) x1 ∧ Below w0.heap.size w0 w21 ∧ RdBS w21 w3.heap.size uw0 y0 ∧ OwnI w21 w3.heap.size w4.heap.size ux0 (mkI (1) x0) ∧ OwnS w21 w4.heap.size w5.heap.size ux1 (mkS (1 + (x0.length : Int)) x1) ∧ OwnS w21 w5.heap.size w6.heap.size ug0 (mkS (1) y0) ∧ OwnI w21 w7.heap.size w8.heap.size ut0 x0 ∧ OwnS w21 w9.heap.size w10.heap.size ut1 x1 ∧ OwnI w21 w16.heap.size w17.heap.size uz0 x0 ∧ OwnS w21 w17.heap.size w18.heap.size uz1 x1 ∧ OwnS w21 w18.heap.size w19.heap.size uh0 y0) := Lib.hid ⟨(H20.out.1).below (hb.mono (by omega)), (H20.out.2.1).below (hb.mono (by omega)), (H20.out.2.2.1).trans (hb.mono (by omega)), (H20.out.2.2.2.1).below (hb.mono (by omega)), (H20.out.2.2.2.2.1).below hb, (H20.out.2.2.2.2.2.1).below hb, (H20.out.2.2.2.2.2.2.1).below hb, (H20.out.2.2.2.2.2.2.2.1).below hb, (H20.out.2.2.2.2.2.2.2.2.1).below hb, (H20.out.2.2.2.2.2.2.2.2.2.1).below hb, (H20.out.2.2.2.2.2.2.2.2.2.2.1).below hb, (H20.out.2.2.2.2.2.2.2.2.2.2.2).below hb⟩
  clear hb H20
  go_wp2
  go_ret
  exact ⟨rfl, H21.out.2.2.1⟩

theorem exRunOf_walk : LawWalk 11 Try.f11 := by
  intro H enc W base args ds ps hval hA
  rw [Try.params11] at hA hval
  obtain ⟨v0, v1, d0, d1, p0, p1, rfl, rfl, rfl, h0, h1⟩ := trodAll_two hA
  obtain ⟨A0, c0, zs0, rfl, hi0, hc0⟩ := ints_of_trod Try.underlying25 Try.underlying3 cells_int (hval 0 _ _ rfl rfl) h0
  obtain ⟨A1, c1, zs1, rfl, hi1⟩ := rows_of_trod (hval 1 _ _ rfl rfl) h1
  exact exRunOf_any A0 c0 zs0 A1 c1 zs1 W (RdI.mk hi0 hc0) hi1

set_option maxRecDepth 100000 in
theorem exRunOf_lifted (os : Os) (started : os.Started) (H : Type) (enc : TypeId × Value → H) :
    ReturnsInHanded {} Try.checked os 11 .any (Rows.fnExactRunOfSpec.pre6 enc Try.prog Try.f11 Rows.fnExactRunOfRow.domain false) (Rows.fnExactRunOfSpec.post enc Try.prog Try.f11 false true false false) := by
  refine returnsInHanded_of_change (C := Try.checked) own started (by kernel_rfl) Try.func11
    (ChangeSpec.witness6 (enc := enc) (C := Try.checked) false ⟨#[], #[.slice none 0 0, .slice none 0 0], []⟩ 8 (by kernel_rfl) (by kernel_rfl) (by kernel_rfl) (by kernel_rfl)) ?_
  intro W base args ds gs before hval hW _ _
  exact law_contract laidOut rfl (by kernel_rfl) rfl (fun H ds hd => by
    match ds, hd with
    | [d0, d1], _ => exact ⟨rfl, rfl, rfl⟩) exRunOf_walk W base args ds gs before hval hW

/-- FnExactRunOf: the row as it is given. -/
theorem exRunOf_holds : Rows.FnExactRunOfSaid :=
  OpenClaim.holds_of_wide 11 Try.f11 rfl rfl rfl rfl rfl rfl rfl ⟨rfl, rfl, rfl, rfl, rfl⟩ rfl rfl rfl rfl rfl (by kernel_rfl) Try.func11 (by unfold joinedFacts; rw [pf_enter, pf_lifts, pf_make]; kernel_rfl)
    (of_decide_eq_true (by kernel_rfl)) (by unfold Func.isWrapper; first | (rw [if_pos (by decide +kernel)]; kernel_rfl) | (rw [if_neg (by decide +kernel)]; exact ⟨rfl, rfl⟩))
    (fun os started H enc _ => exRunOf_lifted os started H enc)

end Go.Proofs.Ytkdpfiaegimnlaa
