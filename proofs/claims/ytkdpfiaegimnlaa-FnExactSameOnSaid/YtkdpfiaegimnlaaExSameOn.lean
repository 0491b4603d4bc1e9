/- SameOn answers at every argument as its model, and writes into no argument. For every input. -/
import Derived.Test.YtkdpfiaegimnlaaSm
import Derived.Test.YtkdpfiaegimnlaaB5
import Derived.Test.YtkdpfiaegimnlaaLift
namespace Go.Proofs.Ytkdpfiaegimnlaa
set_option maxRecDepth 100000
open Go.RowKit Go.WideShapes Go.ChangeShapes

set_option maxHeartbeats 1000000 in
theorem exSameOn_any (A0 : Option Addr) (c0 : Nat) (x0 : List Int) (A1 : Option Addr) (c1 : Nat) (x1 : List Int) (A2 : Option Addr) (c2 : Nat) (x2 : List (List Int)) (w0 : World) (h0 : RdI w0 (.slice A0 x0.length c0) x0) (h1 : RdI w0 (.slice A1 x1.length c1) x1) (h2 : RdS w0 (.slice A2 x2.length c2) x2) :
    Calls Try.prog 12 #[.slice A0 x0.length c0, .slice A1 x1.length c1, .slice A2 x2.length c2] w0 fun e w' => e = .returned (.bool true) ∧ Below w0.heap.size w0 w' := by
  have hm0 := h0.len_le
  have HH0 := Lib.hid h0; clear h0
  have hm1 := h1.len_le
  have HH1 := Lib.hid h1; clear h1
  have HH2 := Lib.hid h2; clear h2
  by_cases hl0 : x0.length ≤ 1048576
  case neg =>
    go_enter Try.func12, Try.ntmps12
    go_wp2
    go_ret
    exact ⟨rfl, Below.refl _ _⟩
  by_cases hl1 : x1.length ≤ 1048576
  case neg =>
    go_enter Try.func12, Try.ntmps12
    go_wp2
    go_ret
    exact ⟨rfl, Below.refl _ _⟩
  by_cases hs2 : leftS 1048576 x2 < 0
  case pos =>
    go_enter Try.func12, Try.ntmps12
    go_wp2_with fail
    refine (szS_any _ x2 _ _ HH2.out (by omega)).mono ?_
    rintro e w' ⟨rfl, rfl⟩
    go_wp2
    go_ret
    exact ⟨rfl, Below.refl _ _⟩
  have hn2 : x2.length ≤ 1048576 := by have := (leftS_ok hs2).1; omega
  have hl2 : szS x2 ≤ 1048576 := by have := (leftS_ok hs2).2; omega
  generalize hR : sameOnR x0 x1 x2 = y0
  have HR := Lib.hid hR; clear hR
  have hbb0 : (y0 != y0) = false := by simp
  have H0 : Hid (RdBI w0 w0.heap.size (.slice A0 x0.length c0) x0 ∧ RdBI w0 w0.heap.size (.slice A1 x1.length c1) x1 ∧ RdBS w0 w0.heap.size (.slice A2 x2.length c2) x2 ∧ Below w0.heap.size w0 w0) := Lib.hid ⟨HH0.out.at_, HH1.out.at_, HH2.out.at_, Below.refl _ _⟩
  clear HH0
  clear HH1
  clear HH2
  have hs0 : w0.heap.size ≤ w0.heap.size := Nat.le_refl _
  go_enter Try.func12, Try.ntmps12
  go_wp2_with fail
  refine (szS_any _ x2 _ _ ((H0.out.2.2.1).rd (by omega)) (by omega)).mono ?_
  rintro e w' ⟨rfl, rfl⟩
  go_wp2_with fail
  refine (toI _ x0 _ ((H0.out.1).rd (by omega)) hl0).mono ?_
  rintro e w1 ⟨ut0, rfl, ho, hb⟩
  have hs1 := hb.size
  have hq1_t0 : w0.heap.size ≤ w1.heap.size := hb.size
  have H1 : Hid (RdBI w1 w0.heap.size (.slice A0 x0.length c0) x0 ∧ RdBI w1 w0.heap.size (.slice A1 x1.length c1) x1 ∧ RdBS w1 w0.heap.size (.slice A2 x2.length c2) x2 ∧ Below w0.heap.size w0 w1 ∧ OwnI w1 w0.heap.size w1.heap.size ut0 x0) := Lib.hid ⟨(H0.out.1).below (hb.mono (by omega)), (H0.out.2.1).below (hb.mono (by omega)), (H0.out.2.2.1).below (hb.mono (by omega)), (H0.out.2.2.2).trans (hb.mono (by omega)), ho⟩
  clear hb H0 ho
  go_wp2_with fail
  refine (toI _ x1 _ ((H1.out.2.1).rd (by omega)) hl1).mono ?_
  rintro e w2 ⟨ut1, rfl, ho, hb⟩
  have hs2 := hb.size
  have hq2_t1 : w1.heap.size ≤ w2.heap.size := hb.size
  have H2 : Hid (RdBI w2 w0.heap.size (.slice A0 x0.length c0) x0 ∧ RdBI w2 w0.heap.size (.slice A1 x1.length c1) x1 ∧ RdBS w2 w0.heap.size (.slice A2 x2.length c2) x2 ∧ Below w0.heap.size w0 w2 ∧ OwnI w2 w0.heap.size w1.heap.size ut0 x0 ∧ OwnI w2 w1.heap.size w2.heap.size ut1 x1) := Lib.hid ⟨(H1.out.1).below (hb.mono (by omega)), (H1.out.2.1).below (hb.mono (by omega)), (H1.out.2.2.1).below (hb.mono (by omega)), (H1.out.2.2.2.1).trans (hb.mono (by omega)), (H1.out.2.2.2.2).below hb, ho⟩
  clear hb H1 ho
  go_wp2_with fail
  refine (toS _ x2 _ ((H2.out.2.2.1).rd (by omega)) hn2 (fun zs h => Nat.le_trans (szS_mem h) hl2)).mono ?_
  rintro e w3 ⟨ut2, rfl, ho, hb⟩
  have hs3 := hb.size
  have hq3_t2 : w2.heap.size ≤ w3.heap.size := hb.size
  have H3 : Hid (RdBI w3 w0.heap.size (.slice A0 x0.length c0) x0 ∧ RdBI w3 w0.heap.size (.slice A1 x1.length c1) x1 ∧ RdBS w3 w0.heap.size (.slice A2 x2.length c2) x2 ∧ Below w0.heap.size w0 w3 ∧ OwnI w3 w0.heap.size w1.heap.size ut0 x0 ∧ OwnI w3 w1.heap.size w2.heap.size ut1 x1 ∧ OwnS w3 w2.heap.size w3.heap.size ut2 x2) := Lib.hid ⟨(H2.out.1).below (hb.mono (by omega)), (H2.out.2.1).below (hb.mono (by omega)), (H2.out.2.2.1).below (hb.mono (by omega)), (H2.out.2.2.2.1).trans (hb.mono (by omega)), (H2.out.2.2.2.2.1).below hb, (H2.out.2.2.2.2.2).below hb, ho⟩
  clear hb H2 ho
  go_wp2_with fail
  refine (SameOn_S _ x0 _ x1 _ x2 _ ((H3.out.2.2.2.2.1).rd) hl0 ((H3.out.2.2.2.2.2.1).rd) hl1 ((H3.out.2.2.2.2.2.2).rd) hn2 hl2 _ HR.out).mono ?_
  rintro e w4 ⟨rfl, hb⟩
  have hs4 := hb.size
  have H4 : Hid (RdBI w4 w0.heap.size (.slice A0 x0.length c0) x0 ∧ RdBI w4 w0.heap.size (.slice A1 x1.length c1) x1 ∧ RdBS w4 w0.heap.size (.slice A2 x2.length c2) x2 ∧ Below w0.heap.size w0 w4) := Lib.hid ⟨(H3.out.1).below (hb.mono (by omega)), (H3.out.2.1).below (hb.mono (by omega)), (H3.out.2.2.1).below (hb.mono (by omega)), (H3.out.2.2.2.1).trans (hb.mono (by omega))⟩
  clear hb H3
  go_wp2_with fail
  refine (toI _ x0 _ ((H4.out.1).rd (by omega)) hl0).mono ?_
  rintro e w5 ⟨ux0, rfl, ho, hb⟩
  have hs5 := hb.size
  have hq5_x0 : w4.heap.size ≤ w5.heap.size := hb.size
  have H5 : Hid (RdBI w5 w0.heap.size (.slice A0 x0.length c0) x0 ∧ RdBI w5 w0.heap.size (.slice A1 x1.length c1) x1 ∧ RdBS w5 w0.heap.size (.slice A2 x2.length c2) x2 ∧ Below w0.heap.size w0 w5 ∧ OwnI w5 w4.heap.size w5.heap.size ux0 x0) := Lib.hid ⟨(H4.out.1).below (hb.mono (by omega)), (H4.out.2.1).below (hb.mono (by omega)), (H4.out.2.2.1).below (hb.mono (by omega)), (H4.out.2.2.2).trans (hb.mono (by omega)), ho⟩
  clear hb H4 ho
  go_wp2_with fail
  refine (toI _ x1 _ ((H5.out.2.1).rd (by omega)) hl1).mono ?_
  rintro e w6 ⟨ux1, rfl, ho, hb⟩
  have hs6 := hb.size
  have hq6_x1 : w5.heap.size ≤ w6.heap.size := hb.size
  have H6 : Hid (RdBI w6 w0.heap.size (.slice A0 x0.length c0) x0 ∧ RdBI w6 w0.heap.size (.slice A1 x1.length c1) x1 ∧ RdBS w6 w0.heap.size (.slice A2 x2.length c2) x2 ∧ Below w0.heap.size w0 w6 ∧ OwnI w6 w4.heap.size w5.heap.size ux0 x0 ∧ OwnI w6 w5.heap.size w6.heap.size ux1 x1) := Lib.hid ⟨(H5.out.1).below (hb.mono (by omega)), (H5.out.2.1).below (hb.mono (by omega)), (H5.out.2.2.1).below (hb.mono (by omega)), (H5.out.2.2.2.1).trans (hb.mono (by omega)), (H5.out.2.2.2.2).below hb, ho⟩
  clear hb H5 ho
  go_wp2_with fail
  refine (toS _ x2 _ ((H6.out.2.2.1).rd (by omega)) hn2 (fun zs h => Nat.le_trans (szS_mem h) hl2)).mono ?_
  rintro e w7 ⟨ux2, rfl, ho, hb⟩
  have hs7 := hb.size
  have hq7_x2 : w6.heap.size ≤ w7.heap.size := hb.size
  have H7 : Hid (RdBI w7 w0.heap.size (.slice A0 x0.length c0) x0 ∧ RdBI w7 w0.heap.size (.slice A1 x1.length c1) x1 ∧ RdBS w7 w0.heap.size (.slice A2 x2.length c2) x2 ∧ Below w0.heap.size w0 w7 ∧ OwnI w7 w4.heap.size w5.heap.size ux0 x0 ∧ OwnI w7 w5.heap.size w6.heap.size ux1 x1 ∧ OwnS w7 w6.heap.size w7.heap.size ux2 x2) := Lib.hid ⟨(H6.out.1).below (hb.mono (by omega)), (H6.out.2.1).below (hb.mono (by omega)), (H6.out.2.2.1).below (hb.mono (by omega)), (H6.out.2.2.2.1).trans (hb.mono (by omega)), (H6.out.2.2.2.2.1).below hb, (H6.out.2.2.2.2.2).below hb, ho⟩
  clear hb H6 ho
  go_wp2_with fail
  refine (SameOn_I _ x0 _ x1 _ x2 _ ((H7.out.2.2.2.2.1).rd) hl0 ((H7.out.2.2.2.2.2.1).rd) hl1 ((H7.out.2.2.2.2.2.2).rd) hn2 hl2 _ HR.out).mono ?_
  rintro e w8 ⟨rfl, hb⟩
  have hs8 := hb.size
  have H8 : Hid (RdBI w8 w0.heap.size (.slice A0 x0.length c0) x0 ∧ RdBI w8 w0.heap.size (.slice A1 x1.length c1) x1 ∧ RdBS w8 w0.heap.size (.slice A2 x2.length c2) x2 ∧ Below w0.heap.size w0 w8 ∧ OwnI w8 w4.heap.size w5.heap.size ux0 x0 ∧ OwnI w8 w5.heap.size w6.heap.size ux1 x1 ∧ OwnS w8 w6.heap.size w7.heap.size ux2 x2) := Lib.hid ⟨(H7.out.1).below (hb.mono (by omega)), (H7.out.2.1).below (hb.mono (by omega)), (H7.out.2.2.1).below (hb.mono (by omega)), (H7.out.2.2.2.1).trans (hb.mono (by omega)), (H7.out.2.2.2.2.1).below hb, (H7.out.2.2.2.2.2.1).below hb, (H7.out.2.2.2.2.2.2).below hb⟩
  clear hb H7
  go_wp2_with fail
  refine (toI _ x0 _ ((H8.out.1).rd (by omega)) hl0).mono ?_
  rintro e w9 ⟨ut0, rfl, ho, hb⟩
  have hs9 := hb.size
  have hq9_t0 : w8.heap.size ≤ w9.heap.size := hb.size
  have H9 : Hid (RdBI w9 w0.heap.size (.slice A0 x0.length c0) x0 ∧ RdBI w9 w0.heap.size (.slice A1 x1.length c1) x1 ∧ RdBS w9 w0.heap.size (.slice A2 x2.length c2) x2 ∧ Below w0.heap.size w0 w9 ∧ OwnI w9 w4.heap.size w5.heap.size ux0 x0 ∧ OwnI w9 w5.heap.size w6.heap.size ux1 x1 ∧ OwnS w9 w6.heap.size w7.heap.size ux2 x2 ∧ OwnI w9 w8.heap.size w9.heap.size ut0 x0) := Lib.hid ⟨(H8.out.1).below (hb.mono (by omega)), (H8.out.2.1).below (hb.mono (by omega)), (H8.out.2.2.1).below (hb.mono (by omega)), (H8.out.2.2.2.1).trans (hb.mono (by omega)), (H8.out.2.2.2.2.1).below hb, (H8.out.2.2.2.2.2.1).below hb, (H8.out.2.2.2.2.2.2).below hb, ho⟩
  clear hb H8 ho
  go_wp2_with fail
  refine (eqI _ _ _ _ _ ((H9.out.2.2.2.2.1).rd) ((H9.out.2.2.2.2.2.2.2).rd) true (decide_eq_true rfl)).mono ?_
  rintro e w10 ⟨rfl, hb⟩
  have hs10 := hb.size
  have H10 : Hid (RdBI w10 w0.heap.size (.slice A0 x0.length c0) x0 ∧ RdBI w10 w0.heap.size (.slice A1 x1.length c1) x1 ∧ RdBS w10 w0.heap.size (.slice A2 x2.length c2) x2 ∧ Below w0.heap.size w0 w10 ∧ OwnI w10 w4.heap.size w5.heap.size ux0 x0 ∧ OwnI w10 w5.heap.size w6.heap.size ux1 x1 ∧ OwnS w10 w6.heap.size w7.heap.size ux2 x2 ∧ OwnI w10 w8.heap.size w9.heap.size ut0 x0) := Lib.hid ⟨(H9.out.1).below (hb.mono (by omega)), (H9.out.2.1).below (hb.mono (by omega)), (H9.out.2.2.1).below (hb.mono (by omega)), (H9.out.2.2.2.1).trans (hb.mono (by omega)), (H9.out.2.2.2.2.1).below hb, (H9.out.2.2.2.2.2.1).below hb, (H9.out.2.2.2.2.2.2.1).below hb, (H9.out.2.2.2.2.2.2.2).below hb⟩
  clear hb H9
  go_wp2_with fail
  refine (toI _ x1 _ ((H10.out.2.1).rd (by omega)) hl1).mono ?_
  rintro e w11 ⟨ut1, rfl, ho, hb⟩
  have hs11 := hb.size
  have hq11_t1 : w10.heap.size ≤ w11.heap.size := hb.size
  have H11 : Hid (RdBI w11 w0.heap.size (.slice A0 x0.length c0) x0 ∧ RdBI w11 w0.heap.size (.slice A1 x1.length c1) x1 ∧ RdBS w11 w0.heap.size (.slice A2 x2.length c2) x2 ∧ Below w0.heap.size w0 w11 ∧ OwnI w11 w4.heap.size w5.heap.size ux0 x0 ∧ OwnI w11 w5.heap.size w6.heap.size ux1 x1 ∧ OwnS w11 w6.heap.size w7.heap.size ux2 x2 ∧ OwnI w11 w8.heap.size w9.heap.size ut0 x0 ∧ OwnI w11 w10.heap.size w11.heap.size ut1 x1) := Lib.hid ⟨(H10.out.1).below (hb.mono (by omega)), (H10.out.2.1).below (hb.mono (by omega)), (H10.out.2.2.1).below (hb.mono (by omega)), (H10.out.2.2.2.1).trans (hb.mono (by omega)), (H10.out.2.2.2.2.1).below hb, (H10.out.2.2.2.2.2.1).below hb, (H10.out.2.2.2.2.2.2.1).below hb, (H10.out.2.2.2.2.2.2.2).below hb, ho⟩
  clear hb H10 ho
  go_wp2_with fail
  refine (eqI _ _ _ _ _ ((H11.out.2.2.2.2.2.1).rd) ((H11.out.2.2.2.2.2.2.2.2).rd) true (decide_eq_true rfl)).mono ?_
  rintro e w12 ⟨rfl, hb⟩
  have hs12 := hb.size
  have H12 : Hid (RdBI w12 w0.heap.size (.slice A0 x0.length c0) x0 ∧ RdBI w12 w0.heap.size (.slice A1 x1.length c1) x1 ∧ RdBS w12 w0.heap.size (.slice A2 x2.length c2) x2 ∧ Below w0.heap.size w0 w12 ∧ OwnI w12 w4.heap.size w5.heap.size ux0 x0 ∧ OwnI w12 w5.heap.size w6.heap.size ux1 x1 ∧ OwnS w12 w6.heap.size w7.heap.size ux2 x2 ∧ OwnI w12 w8.heap.size w9.heap.size ut0 x0 ∧ OwnI w12 w10.heap.size w11.heap.size ut1 x1) := Lib.hid ⟨(H11.out.1).below (hb.mono (by omega)), (H11.out.2.1).below (hb.mono (by omega)), (H11.out.2.2.1).below (hb.mono (by omega)), (H11.out.2.2.2.1).trans (hb.mono (by omega)), (H11.out.2.2.2.2.1).below hb, (H11.out.2.2.2.2.2.1).below hb, (H11.out.2.2.2.2.2.2.1).below hb, (H11.out.2.2.2.2.2.2.2.1).below hb, (H11.out.2.2.2.2.2.2.2.2).below hb⟩
  clear hb H11
  go_wp2_with fail
  refine (toS _ x2 _ ((H12.out.2.2.1).rd (by omega)) hn2 (fun zs h => Nat.le_trans (szS_mem h) hl2)).mono ?_
  rintro e w13 ⟨ut2, rfl, ho, hb⟩
  have hs13 := hb.size
  have hq13_t2 : w12.heap.size ≤ w13.heap.size := hb.size
  have H13 : Hid (RdBI w13 w0.heap.size (.slice A0 x0.length c0) x0 ∧ RdBI w13 w0.heap.size (.slice A1 x1.length c1) x1 ∧ RdBS w13 w0.heap.size (.slice A2 x2.length c2) x2 ∧ Below w0.heap.size w0 w13 ∧ OwnI w13 w4.heap.size w5.heap.size ux0 x0 ∧ OwnI w13 w5.heap.size w6.heap.size ux1 x1 ∧ OwnS w13 w6.heap.size w7.heap.size ux2 x2 ∧ OwnI w13 w8.heap.size w9.heap.size ut0 x0 ∧ OwnI w13 w10.heap.size w11.heap.size ut1 x1 ∧ OwnS w13 w12.heap.size w13.heap.size ut2 x2) := Lib.hid ⟨(H12.out.1).below (hb.mono (by omega)), (H12.out.2.1).below (hb.mono (by omega)), (H12.out.2.2.1).below (hb.mono (by omega)), (H12.out.2.2.2.1).trans (hb.mono (by omega)), (H12.out.2.2.2.2.1).below hb, (H12.out.2.2.2.2.2.1).below hb, (H12.out.2.2.2.2.2.2.1).below hb, (H12.out.2.2.2.2.2.2.2.1).below hb, (H12.out.2.2.2.2.2.2.2.2).below hb, ho⟩
  clear hb H12 ho
  go_wp2_with fail
  refine (eqS _ _ _ _ _ ((H13.out.2.2.2.2.2.2.1).rd) ((H13.out.2.2.2.2.2.2.2.2.2).rd) true (decide_eq_true rfl)).mono ?_
  rintro e w14 ⟨rfl, hb⟩
  have hs14 := hb.size
  have H14 : Hid (RdBI w14 w0.heap.size (.slice A0 x0.length c0) x0 ∧ RdBI w14 w0.heap.size (.slice A1 x1.length c1) x1 ∧ RdBS w14 w0.heap.size (.slice A2 x2.length c2) x2 ∧ Below w0.heap.size w0 w14 ∧ OwnI w14 w4.heap.size w5.heap.size ux0 x0 ∧ OwnI w14 w5.heap.size w6.heap.size ux1 x1 ∧ OwnS w14 w6.heap.size w7.heap.size ux2 x2 ∧ OwnI w14 w8.heap.size w9.heap.size ut0 x0 ∧ OwnI w14 w10.heap.size w11.heap.size ut1 x1 ∧ OwnS w14 w12.heap.size w13.heap.size ut2 x2) := Lib.hid ⟨(H13.out.1).below (hb.mono (by omega)), (H13.out.2.1).below (hb.mono (by omega)), (H13.out.2.2.1).below (hb.mono (by omega)), (H13.out.2.2.2.1).trans (hb.mono (by omega)), (H13.out.2.2.2.2.1).below hb, (H13.out.2.2.2.2.2.1).below hb, (H13.out.2.2.2.2.2.2.1).below hb, (H13.out.2.2.2.2.2.2.2.1).below hb, (H13.out.2.2.2.2.2.2.2.2.1).below hb, (H13.out.2.2.2.2.2.2.2.2.2).below hb⟩
  clear hb H13
  go_wp2
  go_ret
  exact ⟨rfl, H14.out.2.2.2.1⟩

theorem exSameOn_walk : LawWalk 12 Try.f12 := by
  intro H enc W base args ds ps hval hA
  rw [Try.params12] at hA hval
  obtain ⟨v0, v1, v2, d0, d1, d2, p0, p1, p2, rfl, rfl, rfl, h0, h1, h2⟩ := trodAll_three hA
  obtain ⟨A0, c0, zs0, rfl, hi0, hc0⟩ := ints_of_trod Try.underlying25 Try.underlying3 cells_int (hval 0 _ _ rfl rfl) h0
  obtain ⟨A1, c1, zs1, rfl, hi1, hc1⟩ := ints_of_trod Try.underlying25 Try.underlying3 cells_int (hval 1 _ _ rfl rfl) h1
  obtain ⟨A2, c2, zs2, rfl, hi2⟩ := rows_of_trod (hval 2 _ _ rfl rfl) h2
  exact exSameOn_any A0 c0 zs0 A1 c1 zs1 A2 c2 zs2 W (RdI.mk hi0 hc0) (RdI.mk hi1 hc1) hi2

set_option maxRecDepth 100000 in
theorem exSameOn_lifted (os : Os) (started : os.Started) (H : Type) (enc : TypeId × Value → H) :
    ReturnsInHanded {} Try.checked os 12 .any (Rows.fnExactSameOnSpec.pre6 enc Try.prog Try.f12 Rows.fnExactSameOnRow.domain false) (Rows.fnExactSameOnSpec.post enc Try.prog Try.f12 false true false false) := by
  refine returnsInHanded_of_change (C := Try.checked) own started (by kernel_rfl) Try.func12
    (ChangeSpec.witness6 (enc := enc) (C := Try.checked) false ⟨#[], #[.slice none 0 0, .slice none 0 0, .slice none 0 0], []⟩ 8 (by kernel_rfl) (by kernel_rfl) (by kernel_rfl) (by kernel_rfl)) ?_
  intro W base args ds gs before hval hW _ _
  exact law_contract laidOut rfl (by kernel_rfl) rfl (fun H ds hd => by
    match ds, hd with
    | [d0, d1, d2], _ => exact ⟨rfl, rfl, rfl⟩) exSameOn_walk W base args ds gs before hval hW

/-- FnExactSameOn: the row as it is given. -/
theorem exSameOn_holds : Rows.FnExactSameOnSaid :=
  OpenClaim.holds_of_wide 12 Try.f12 rfl rfl rfl rfl rfl rfl rfl ⟨rfl, rfl, rfl, rfl, rfl⟩ rfl rfl rfl rfl rfl (by kernel_rfl) Try.func12 (by unfold joinedFacts; rw [pf_enter, pf_lifts, pf_make]; kernel_rfl)
    (of_decide_eq_true (by kernel_rfl)) (by unfold Func.isWrapper; first | (rw [if_pos (by decide +kernel)]; kernel_rfl) | (rw [if_neg (by decide +kernel)]; exact ⟨rfl, rfl⟩))
    (fun os started H enc _ => exSameOn_lifted os started H enc)

end Go.Proofs.Ytkdpfiaegimnlaa
