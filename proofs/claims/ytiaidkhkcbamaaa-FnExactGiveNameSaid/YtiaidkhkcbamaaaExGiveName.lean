/- GiveName answers at every argument as its model, writes into no argument, and its answers own their memory. For every input. -/
import Derived.Test.YtiaidkhkcbamaaaYv
import Derived.Test.YtiaidkhkcbamaaaLift
namespace Go.Proofs.Ytiaidkhkcbamaaa
set_option maxRecDepth 100000
open Go.RowKit Go.WideShapes Go.ChangeShapes

set_option maxHeartbeats 1000000 in
theorem exGiveName_any (A0 : Option Addr) (c0 : Nat) (x0 : List (List Int)) (A1 : Option Addr) (c1 : Nat) (x1 : List Int) (w0 : World) (h0 : RdS w0 (.slice A0 x0.length c0) x0) (h1 : RdI w0 (.slice A1 x1.length c1) x1) :
    Calls Try.prog 13 #[.slice A0 x0.length c0, .slice A1 x1.length c1] w0 fun e w' => e = .returned (.bool true) ∧ Below w0.heap.size w0 w' := by
  have HH0 := Lib.hid h0; clear h0
  have hm1 := h1.len_le
  have HH1 := Lib.hid h1; clear h1
  by_cases hl1 : x1.length ≤ 1048576
  case neg =>
    go_enter Try.func13, Try.ntmps13
    go_wp2
    go_ret
    exact ⟨rfl, Below.refl _ _⟩
  by_cases hs0 : leftS 1048576 x0 < 0
  case pos =>
    go_enter Try.func13, Try.ntmps13
    go_wp2_with fail
    refine (szS_any _ x0 _ _ HH0.out (by omega)).mono ?_
    rintro e w' ⟨rfl, rfl⟩
    go_wp2
    go_ret
    exact ⟨rfl, Below.refl _ _⟩
  have hn0 : x0.length ≤ 1048576 := by have := (leftS_ok hs0).1; omega
  have hl0 : szS x0 ≤ 1048576 := by have := (leftS_ok hs0).2; omega
  generalize hR : giveR x0 x1 = R
  obtain ⟨y0, y1, y2⟩ := R
  have hy0 : szS y0 ≤ 1000000 := by have := giveR_szS x0 x1; rw [hR] at this; exact this
  have Hy0 := Lib.hid hy0; clear hy0
  have hy1 : szI y1 ≤ 1000000 := by have := giveR_szI x0 x1; rw [hR] at this; exact this
  have Hy1 := Lib.hid hy1; clear hy1
  have HR := Lib.hid hR; clear hR
  have hbb2 : (y2 != y2) = false := by simp
  have H0 : Hid (RdBS w0 w0.heap.size (.slice A0 x0.length c0) x0 ∧ RdBI w0 w0.heap.size (.slice A1 x1.length c1) x1 ∧ Below w0.heap.size w0 w0) := Lib.hid ⟨HH0.out.at_, HH1.out.at_, Below.refl _ _⟩
  clear HH0
  clear HH1
  have hs0 : w0.heap.size ≤ w0.heap.size := Nat.le_refl _
  go_enter Try.func13, Try.ntmps13
  go_wp2_with fail
  refine (szS_any _ x0 _ _ ((H0.out.1).rd (by omega)) (by omega)).mono ?_
  rintro e w' ⟨rfl, rfl⟩
  have hyn0 := Hy0.out
  have hyn1 := Hy1.out
  unfold szI at hyn1
  go_wp2_with fail
  refine (toS _ x0 _ ((H0.out.1).rd (by omega)) hn0 (fun zs h => Nat.le_trans (szS_mem h) hl0)).mono ?_
  rintro e w1 ⟨ut0, rfl, ho, hb⟩
  have hs1 := hb.size
  have hq1_t0 : w0.heap.size ≤ w1.heap.size := hb.size
  have H1 : Hid (RdBS w1 w0.heap.size (.slice A0 x0.length c0) x0 ∧ RdBI w1 w0.heap.size (.slice A1 x1.length c1) x1 ∧ Below w0.heap.size w0 w1 ∧ OwnS w1 w0.heap.size w1.heap.size ut0 x0) := Lib.hid ⟨(H0.out.1).below (hb.mono (by omega)), (H0.out.2.1).below (hb.mono (by omega)), (H0.out.2.2).trans (hb.mono (by omega)), ho⟩
  clear hb H0 ho
  go_wp2_with fail
  refine (toI _ x1 _ ((H1.out.2.1).rd (by omega)) hl1).mono ?_
  rintro e w2 ⟨ut1, rfl, ho, hb⟩
  have hs2 := hb.size
  have hq2_t1 : w1.heap.size ≤ w2.heap.size := hb.size
  have H2 : Hid (RdBS w2 w0.heap.size (.slice A0 x0.length c0) x0 ∧ RdBI w2 w0.heap.size (.slice A1 x1.length c1) x1 ∧ Below w0.heap.size w0 w2 ∧ OwnS w2 w0.heap.size w1.heap.size ut0 x0 ∧ OwnI w2 w1.heap.size w2.heap.size ut1 x1) := Lib.hid ⟨(H1.out.1).below (hb.mono (by omega)), (H1.out.2.1).below (hb.mono (by omega)), (H1.out.2.2.1).trans (hb.mono (by omega)), (H1.out.2.2.2).below hb, ho⟩
  clear hb H1 ho
  go_wp2_with fail
  refine (GiveName_S _ x0 _ x1 _ ((H2.out.2.2.2.1).rd) hn0 hl0 ((H2.out.2.2.2.2).rd) hl1 _ _ _ HR.out).mono ?_
  rintro e w3 ⟨uw0, uw1, rfl, ho, hb⟩
  have hs3 := hb.size
  have hq3_w : w2.heap.size ≤ w3.heap.size := hb.size
  have H3 : Hid (RdBS w3 w0.heap.size (.slice A0 x0.length c0) x0 ∧ RdBI w3 w0.heap.size (.slice A1 x1.length c1) x1 ∧ Below w0.heap.size w0 w3 ∧ Own2 w3 w2.heap.size w3.heap.size uw0 y0 uw1 y1) := Lib.hid ⟨(H2.out.1).below (hb.mono (by omega)), (H2.out.2.1).below (hb.mono (by omega)), (H2.out.2.2.1).trans (hb.mono (by omega)), ho⟩
  clear hb H2 ho
  go_wp2_with fail
  refine (toS _ x0 _ ((H3.out.1).rd (by omega)) hn0 (fun zs h => Nat.le_trans (szS_mem h) hl0)).mono ?_
  rintro e w4 ⟨ux0, rfl, ho, hb⟩
  have hs4 := hb.size
  have hq4_x0 : w3.heap.size ≤ w4.heap.size := hb.size
  have H4 : Hid (RdBS w4 w0.heap.size (.slice A0 x0.length c0) x0 ∧ RdBI w4 w0.heap.size (.slice A1 x1.length c1) x1 ∧ Below w0.heap.size w0 w4 ∧ Own2 w4 w2.heap.size w3.heap.size uw0 y0 uw1 y1 ∧ OwnS w4 w3.heap.size w4.heap.size ux0 x0) := Lib.hid ⟨(H3.out.1).below (hb.mono (by omega)), (H3.out.2.1).below (hb.mono (by omega)), (H3.out.2.2.1).trans (hb.mono (by omega)), (H3.out.2.2.2).below hb, ho⟩
  clear hb H3 ho
  go_wp2_with fail
  refine (toI _ x1 _ ((H4.out.2.1).rd (by omega)) hl1).mono ?_
  rintro e w5 ⟨ux1, rfl, ho, hb⟩
  have hs5 := hb.size
  have hq5_x1 : w4.heap.size ≤ w5.heap.size := hb.size
  have H5 : Hid (RdBS w5 w0.heap.size (.slice A0 x0.length c0) x0 ∧ RdBI w5 w0.heap.size (.slice A1 x1.length c1) x1 ∧ Below w0.heap.size w0 w5 ∧ Own2 w5 w2.heap.size w3.heap.size uw0 y0 uw1 y1 ∧ OwnS w5 w3.heap.size w4.heap.size ux0 x0 ∧ OwnI w5 w4.heap.size w5.heap.size ux1 x1) := Lib.hid ⟨(H4.out.1).below (hb.mono (by omega)), (H4.out.2.1).below (hb.mono (by omega)), (H4.out.2.2.1).trans (hb.mono (by omega)), (H4.out.2.2.2.1).below hb, (H4.out.2.2.2.2).below hb, ho⟩
  clear hb H4 ho
  go_wp2_with fail
  refine (GiveName_I _ x0 _ x1 _ ((H5.out.2.2.2.2.1).rd) hn0 hl0 ((H5.out.2.2.2.2.2).rd) hl1 _ _ _ HR.out).mono ?_
  rintro e w6 ⟨ug0, ug1, rfl, ho, hb⟩
  have hs6 := hb.size
  have hq6_g : w5.heap.size ≤ w6.heap.size := hb.size
  have H6 : Hid (RdBS w6 w0.heap.size (.slice A0 x0.length c0) x0 ∧ RdBI w6 w0.heap.size (.slice A1 x1.length c1) x1 ∧ Below w0.heap.size w0 w6 ∧ Own2 w6 w2.heap.size w3.heap.size uw0 y0 uw1 y1 ∧ OwnS w6 w3.heap.size w4.heap.size ux0 x0 ∧ OwnI w6 w4.heap.size w5.heap.size ux1 x1 ∧ Own2 w6 w5.heap.size w6.heap.size ug0 y0 ug1 y1) := Lib.hid ⟨(H5.out.1).below (hb.mono (by omega)), (H5.out.2.1).below (hb.mono (by omega)), (H5.out.2.2.1).trans (hb.mono (by omega)), (H5.out.2.2.2.1).below hb, (H5.out.2.2.2.2.1).below hb, (H5.out.2.2.2.2.2).below hb, ho⟩
  clear hb H5 ho
  go_wp2_with fail
  refine (eqS _ _ _ _ _ (H6.out.2.2.2.2.2.2).rdS (H6.out.2.2.2.1).rdS true (decide_eq_true rfl)).mono ?_
  rintro e w7 ⟨rfl, hb⟩
  have hs7 := hb.size
  have H7 : Hid (RdBS w7 w0.heap.size (.slice A0 x0.length c0) x0 ∧ RdBI w7 w0.heap.size (.slice A1 x1.length c1) x1 ∧ Below w0.heap.size w0 w7 ∧ Own2 w7 w2.heap.size w3.heap.size uw0 y0 uw1 y1 ∧ OwnS w7 w3.heap.size w4.heap.size ux0 x0 ∧ OwnI w7 w4.heap.size w5.heap.size ux1 x1 ∧ Own2 w7 w5.heap.size w6.heap.size ug0 y0 ug1 y1) := Lib.hid ⟨(H6.out.1).below (hb.mono (by omega)), (H6.out.2.1).below (hb.mono (by omega)), (H6.out.2.2.1).trans (hb.mono (by omega)), (H6.out.2.2.2.1).below hb, (H6.out.2.2.2.2.1).below hb, (H6.out.2.2.2.2.2.1).below hb, (H6.out.2.2.2.2.2.2).below hb⟩
  clear hb H6
  go_wp2_with fail
  refine (eqI _ _ _ _ _ (H7.out.2.2.2.2.2.2).rdI (H7.out.2.2.2.1).rdI true (decide_eq_true rfl)).mono ?_
  rintro e w8 ⟨rfl, hb⟩
  have hs8 := hb.size
  have H8 : Hid (RdBS w8 w0.heap.size (.slice A0 x0.length c0) x0 ∧ RdBI w8 w0.heap.size (.slice A1 x1.length c1) x1 ∧ Below w0.heap.size w0 w8 ∧ Own2 w8 w2.heap.size w3.heap.size uw0 y0 uw1 y1 ∧ OwnS w8 w3.heap.size w4.heap.size ux0 x0 ∧ OwnI w8 w4.heap.size w5.heap.size ux1 x1 ∧ Own2 w8 w5.heap.size w6.heap.size ug0 y0 ug1 y1) := Lib.hid ⟨(H7.out.1).below (hb.mono (by omega)), (H7.out.2.1).below (hb.mono (by omega)), (H7.out.2.2.1).trans (hb.mono (by omega)), (H7.out.2.2.2.1).below hb, (H7.out.2.2.2.2.1).below hb, (H7.out.2.2.2.2.2.1).below hb, (H7.out.2.2.2.2.2.2).below hb⟩
  clear hb H7
  go_wp2_with fail
  refine (toS _ x0 _ ((H8.out.1).rd (by omega)) hn0 (fun zs h => Nat.le_trans (szS_mem h) hl0)).mono ?_
  rintro e w9 ⟨ut0, rfl, ho, hb⟩
  have hs9 := hb.size
  have hq9_t0 : w8.heap.size ≤ w9.heap.size := hb.size
  have H9 : Hid (RdBS w9 w0.heap.size (.slice A0 x0.length c0) x0 ∧ RdBI w9 w0.heap.size (.slice A1 x1.length c1) x1 ∧ Below w0.heap.size w0 w9 ∧ Own2 w9 w2.heap.size w3.heap.size uw0 y0 uw1 y1 ∧ OwnS w9 w3.heap.size w4.heap.size ux0 x0 ∧ OwnI w9 w4.heap.size w5.heap.size ux1 x1 ∧ Own2 w9 w5.heap.size w6.heap.size ug0 y0 ug1 y1 ∧ OwnS w9 w8.heap.size w9.heap.size ut0 x0) := Lib.hid ⟨(H8.out.1).below (hb.mono (by omega)), (H8.out.2.1).below (hb.mono (by omega)), (H8.out.2.2.1).trans (hb.mono (by omega)), (H8.out.2.2.2.1).below hb, (H8.out.2.2.2.2.1).below hb, (H8.out.2.2.2.2.2.1).below hb, (H8.out.2.2.2.2.2.2).below hb, ho⟩
  clear hb H8 ho
  go_wp2_with fail
  refine (eqS _ _ _ _ _ ((H9.out.2.2.2.2.1).rd) ((H9.out.2.2.2.2.2.2.2).rd) true (decide_eq_true rfl)).mono ?_
  rintro e w10 ⟨rfl, hb⟩
  have hs10 := hb.size
  have H10 : Hid (RdBS w10 w0.heap.size (.slice A0 x0.length c0) x0 ∧ RdBI w10 w0.heap.size (.slice A1 x1.length c1) x1 ∧ Below w0.heap.size w0 w10 ∧ Own2 w10 w2.heap.size w3.heap.size uw0 y0 uw1 y1 ∧ OwnS w10 w3.heap.size w4.heap.size ux0 x0 ∧ OwnI w10 w4.heap.size w5.heap.size ux1 x1 ∧ Own2 w10 w5.heap.size w6.heap.size ug0 y0 ug1 y1 ∧ OwnS w10 w8.heap.size w9.heap.size ut0 x0) := Lib.hid ⟨(H9.out.1).below (hb.mono (by omega)), (H9.out.2.1).below (hb.mono (by omega)), (H9.out.2.2.1).trans (hb.mono (by omega)), (H9.out.2.2.2.1).below hb, (H9.out.2.2.2.2.1).below hb, (H9.out.2.2.2.2.2.1).below hb, (H9.out.2.2.2.2.2.2.1).below hb, (H9.out.2.2.2.2.2.2.2).below hb⟩
  clear hb H9
  go_wp2_with fail
  refine (toI _ x1 _ ((H10.out.2.1).rd (by omega)) hl1).mono ?_
  rintro e w11 ⟨ut1, rfl, ho, hb⟩
  have hs11 := hb.size
  have hq11_t1 : w10.heap.size ≤ w11.heap.size := hb.size
  have H11 : Hid (RdBS w11 w0.heap.size (.slice A0 x0.length c0) x0 ∧ RdBI w11 w0.heap.size (.slice A1 x1.length c1) x1 ∧ Below w0.heap.size w0 w11 ∧ Own2 w11 w2.heap.size w3.heap.size uw0 y0 uw1 y1 ∧ OwnS w11 w3.heap.size w4.heap.size ux0 x0 ∧ OwnI w11 w4.heap.size w5.heap.size ux1 x1 ∧ Own2 w11 w5.heap.size w6.heap.size ug0 y0 ug1 y1 ∧ OwnS w11 w8.heap.size w9.heap.size ut0 x0 ∧ OwnI w11 w10.heap.size w11.heap.size ut1 x1) := Lib.hid ⟨(H10.out.1).below (hb.mono (by omega)), (H10.out.2.1).below (hb.mono (by omega)), (H10.out.2.2.1).trans (hb.mono (by omega)), (H10.out.2.2.2.1).below hb, (H10.out.2.2.2.2.1).below hb, (H10.out.2.2.2.2.2.1).below hb, (H10.out.2.2.2.2.2.2.1).below hb, (H10.out.2.2.2.2.2.2.2).below hb, ho⟩
  clear hb H10 ho
  go_wp2_with fail
  refine (eqI _ _ _ _ _ ((H11.out.2.2.2.2.2.1).rd) ((H11.out.2.2.2.2.2.2.2.2).rd) true (decide_eq_true rfl)).mono ?_
  rintro e w12 ⟨rfl, hb⟩
  have hs12 := hb.size
  have H12 : Hid (RdBS w12 w0.heap.size (.slice A0 x0.length c0) x0 ∧ RdBI w12 w0.heap.size (.slice A1 x1.length c1) x1 ∧ Below w0.heap.size w0 w12 ∧ Own2 w12 w2.heap.size w3.heap.size uw0 y0 uw1 y1 ∧ OwnS w12 w3.heap.size w4.heap.size ux0 x0 ∧ OwnI w12 w4.heap.size w5.heap.size ux1 x1 ∧ Own2 w12 w5.heap.size w6.heap.size ug0 y0 ug1 y1 ∧ OwnS w12 w8.heap.size w9.heap.size ut0 x0 ∧ OwnI w12 w10.heap.size w11.heap.size ut1 x1) := Lib.hid ⟨(H11.out.1).below (hb.mono (by omega)), (H11.out.2.1).below (hb.mono (by omega)), (H11.out.2.2.1).trans (hb.mono (by omega)), (H11.out.2.2.2.1).below hb, (H11.out.2.2.2.2.1).below hb, (H11.out.2.2.2.2.2.1).below hb, (H11.out.2.2.2.2.2.2.1).below hb, (H11.out.2.2.2.2.2.2.2.1).below hb, (H11.out.2.2.2.2.2.2.2.2).below hb⟩
  clear hb H11
  go_wp2_with fail
  refine (markS _ _ _ _ _ _ (by omega) (Nat.le_trans hl0 (by omega)) (H12.out.2.2.2.2.1)).mono ?_
  rintro e w13 ⟨rfl, ho, hb⟩
  have hs13 := hb.size
  have H13 : Hid (RdBS w13 w0.heap.size (.slice A0 x0.length c0) x0 ∧ RdBI w13 w0.heap.size (.slice A1 x1.length c1) x1 ∧ Below w0.heap.size w0 w13 ∧ Own2 w13 w2.heap.size w3.heap.size uw0 y0 uw1 y1 ∧ OwnS w13 w3.heap.size w4.heap.size ux0 (mkS (1) x0) ∧ OwnI w13 w4.heap.size w5.heap.size ux1 x1 ∧ Own2 w13 w5.heap.size w6.heap.size ug0 y0 ug1 y1 ∧ OwnS w13 w8.heap.size w9.heap.size ut0 x0 ∧ OwnI w13 w10.heap.size w11.heap.size ut1 x1) := Lib.hid ⟨(H12.out.1).below (hb.below (by omega) (by omega)), (H12.out.2.1).below (hb.below (by omega) (by omega)), (H12.out.2.2.1).trans (hb.below (by omega) (by omega)), (H12.out.2.2.2.1).apart hb (by omega), ho, (H12.out.2.2.2.2.2.1).apart hb (by omega), (H12.out.2.2.2.2.2.2.1).apart hb (by omega), (H12.out.2.2.2.2.2.2.2.1).apart hb (by omega), (H12.out.2.2.2.2.2.2.2.2).apart hb (by omega)⟩
  clear hb H12 ho
  go_wp2_with fail
  refine (markI _ _ _ _ _ _ (by omega) (Nat.le_trans hl1 (by omega)) (H13.out.2.2.2.2.2.1)).mono ?_
  rintro e w14 ⟨rfl, ho, hb⟩
  have hs14 := hb.size
  have H14 : Hid (RdBS w14 w0.heap.size (.slice A0 x0.length c0) x0 ∧ RdBI w14 w0.heap.size (.slice A1 x1.length c1) x1 ∧ Below w0.heap.size w0 w14 ∧ Own2 w14 w2.heap.size w3.heap.size uw0 y0 uw1 y1 ∧ OwnS w14 w3.heap.size w4.heap.size ux0 (mkS (1) x0) ∧ OwnI w14 w4.heap.size w5.heap.size ux1 (mkI (1 + (szS x0 : Int)) x1) ∧ Own2 w14 w5.heap.size w6.heap.size ug0 y0 ug1 y1 ∧ OwnS w14 w8.heap.size w9.heap.size ut0 x0 ∧ OwnI w14 w10.heap.size w11.heap.size ut1 x1) := Lib.hid ⟨(H13.out.1).below (hb.below (by omega) (by omega)), (H13.out.2.1).below (hb.below (by omega) (by omega)), (H13.out.2.2.1).trans (hb.below (by omega) (by omega)), (H13.out.2.2.2.1).apart hb (by omega), (H13.out.2.2.2.2.1).apart hb (by omega), ho, (H13.out.2.2.2.2.2.2.1).apart hb (by omega), (H13.out.2.2.2.2.2.2.2.1).apart hb (by omega), (H13.out.2.2.2.2.2.2.2.2).apart hb (by omega)⟩
  clear hb H13 ho
  go_wp2_with fail
  refine (eqS _ _ _ _ _ (H14.out.2.2.2.2.2.2.1).rdS (H14.out.2.2.2.1).rdS true (decide_eq_true rfl)).mono ?_
  rintro e w15 ⟨rfl, hb⟩
  have hs15 := hb.size
  have H15 : Hid (RdBS w15 w0.heap.size (.slice A0 x0.length c0) x0 ∧ RdBI w15 w0.heap.size (.slice A1 x1.length c1) x1 ∧ Below w0.heap.size w0 w15 ∧ Own2 w15 w2.heap.size w3.heap.size uw0 y0 uw1 y1 ∧ OwnS w15 w3.heap.size w4.heap.size ux0 (mkS (1) x0) ∧ OwnI w15 w4.heap.size w5.heap.size ux1 (mkI (1 + (szS x0 : Int)) x1) ∧ Own2 w15 w5.heap.size w6.heap.size ug0 y0 ug1 y1 ∧ OwnS w15 w8.heap.size w9.heap.size ut0 x0 ∧ OwnI w15 w10.heap.size w11.heap.size ut1 x1) := Lib.hid ⟨(H14.out.1).below (hb.mono (by omega)), (H14.out.2.1).below (hb.mono (by omega)), (H14.out.2.2.1).trans (hb.mono (by omega)), (H14.out.2.2.2.1).below hb, (H14.out.2.2.2.2.1).below hb, (H14.out.2.2.2.2.2.1).below hb, (H14.out.2.2.2.2.2.2.1).below hb, (H14.out.2.2.2.2.2.2.2.1).below hb, (H14.out.2.2.2.2.2.2.2.2).below hb⟩
  clear hb H14
  go_wp2_with fail
  refine (eqI _ _ _ _ _ (H15.out.2.2.2.2.2.2.1).rdI (H15.out.2.2.2.1).rdI true (decide_eq_true rfl)).mono ?_
  rintro e w16 ⟨rfl, hb⟩
  have hs16 := hb.size
  have H16 : Hid (RdBS w16 w0.heap.size (.slice A0 x0.length c0) x0 ∧ RdBI w16 w0.heap.size (.slice A1 x1.length c1) x1 ∧ Below w0.heap.size w0 w16 ∧ Own2 w16 w2.heap.size w3.heap.size uw0 y0 uw1 y1 ∧ OwnS w16 w3.heap.size w4.heap.size ux0 (mkS (1) x0) ∧ OwnI w16 w4.heap.size w5.heap.size ux1 (mkI (1 + (szS x0 : Int)) x1) ∧ Own2 w16 w5.heap.size w6.heap.size ug0 y0 ug1 y1 ∧ OwnS w16 w8.heap.size w9.heap.size ut0 x0 ∧ OwnI w16 w10.heap.size w11.heap.size ut1 x1) := Lib.hid ⟨(H15.out.1).below (hb.mono (by omega)), (H15.out.2.1).below (hb.mono (by omega)), (H15.out.2.2.1).trans (hb.mono (by omega)), (H15.out.2.2.2.1).below hb, (H15.out.2.2.2.2.1).below hb, (H15.out.2.2.2.2.2.1).below hb, (H15.out.2.2.2.2.2.2.1).below hb, (H15.out.2.2.2.2.2.2.2.1).below hb, (H15.out.2.2.2.2.2.2.2.2).below hb⟩
  clear hb H15
  obtain ⟨m9, n9, hm91, hm92, hm93, hsh9, hoi9⟩ := H16.out.2.2.2.2.2.2.1
  have H17 : Hid (RdBS w16 w0.heap.size (.slice A0 x0.length c0) x0 ∧ RdBI w16 w0.heap.size (.slice A1 x1.length c1) x1 ∧ Below w0.heap.size w0 w16 ∧ Own2 w16 w2.heap.size w3.heap.size uw0 y0 uw1 y1 ∧ OwnS w16 w3.heap.size w4.heap.size ux0 (mkS (1) x0) ∧ OwnI w16 w4.heap.size w5.heap.size ux1 (mkI (1 + (szS x0 : Int)) x1) ∧ OwnS w16 w8.heap.size w9.heap.size ut0 x0 ∧ OwnI w16 w10.heap.size w11.heap.size ut1 x1 ∧ OwnSH w16 w5.heap.size w6.heap.size m9 n9 ug0 y0 ∧ OwnI w16 m9 n9 ug1 y1) := Lib.hid ⟨H16.out.1, H16.out.2.1, H16.out.2.2.1, H16.out.2.2.2.1, H16.out.2.2.2.2.1, H16.out.2.2.2.2.2.1, H16.out.2.2.2.2.2.2.2.1, H16.out.2.2.2.2.2.2.2.2, hsh9, hoi9⟩
  clear hsh9 hoi9 H16
  obtain ⟨w17, HWW⟩ : ∃ w9, Hid (w16 = w9) := ⟨_, Lib.hid rfl⟩
  rw [HWW.out] at H17 hs16 ⊢
  have hs17 := hs16
  go_wp2_with fail
  refine (markSH m9 n9 _ _ _ _ _ _ (by omega) (Nat.le_trans Hy0.out (by omega)) (H17.out.2.2.2.2.2.2.2.2.1)).mono ?_
  rintro e w18 ⟨rfl, ho, hb, hk9⟩
  have hs18 := hb.size
  have H18 : Hid (RdBS w18 w0.heap.size (.slice A0 x0.length c0) x0 ∧ RdBI w18 w0.heap.size (.slice A1 x1.length c1) x1 ∧ Below w0.heap.size w0 w18 ∧ Own2 w18 w2.heap.size w3.heap.size uw0 y0 uw1 y1 ∧ OwnS w18 w3.heap.size w4.heap.size ux0 (mkS (1) x0) ∧ OwnI w18 w4.heap.size w5.heap.size ux1 (mkI (1 + (szS x0 : Int)) x1) ∧ OwnS w18 w8.heap.size w9.heap.size ut0 x0 ∧ OwnI w18 w10.heap.size w11.heap.size ut1 x1 ∧ OwnSH w18 w5.heap.size w6.heap.size m9 n9 ug0 (mkS 1 y0) ∧ OwnI w18 m9 n9 ug1 y1) := Lib.hid ⟨(H17.out.1).below (hb.below (by omega) (by omega)), (H17.out.2.1).below (hb.below (by omega) (by omega)), (H17.out.2.2.1).trans (hb.below (by omega) (by omega)), (H17.out.2.2.2.1).apart hb (by omega), (H17.out.2.2.2.2.1).apart hb (by omega), (H17.out.2.2.2.2.2.1).apart hb (by omega), (H17.out.2.2.2.2.2.2.1).apart hb (by omega), (H17.out.2.2.2.2.2.2.2.1).apart hb (by omega), ho, (H17.out.2.2.2.2.2.2.2.2.2).keep9 hk9⟩
  clear hb H17 ho
  go_wp2_with fail
  refine (markI _ _ _ _ _ _ (by omega) (Nat.le_trans Hy1.out (by omega)) (H18.out.2.2.2.2.2.2.2.2.2)).mono ?_
  rintro e w19 ⟨rfl, ho, hb⟩
  have hs19 := hb.size
  have H19 : Hid (RdBS w19 w0.heap.size (.slice A0 x0.length c0) x0 ∧ RdBI w19 w0.heap.size (.slice A1 x1.length c1) x1 ∧ Below w0.heap.size w0 w19 ∧ Own2 w19 w2.heap.size w3.heap.size uw0 y0 uw1 y1 ∧ OwnS w19 w3.heap.size w4.heap.size ux0 (mkS (1) x0) ∧ OwnI w19 w4.heap.size w5.heap.size ux1 (mkI (1 + (szS x0 : Int)) x1) ∧ OwnS w19 w8.heap.size w9.heap.size ut0 x0 ∧ OwnI w19 w10.heap.size w11.heap.size ut1 x1 ∧ OwnSH w19 w5.heap.size w6.heap.size m9 n9 ug0 (mkS 1 y0) ∧ OwnI w19 m9 n9 ug1 (mkI (1 + (szS y0 : Int)) y1)) := Lib.hid ⟨(H18.out.1).below (hb.below (by omega) (by omega)), (H18.out.2.1).below (hb.below (by omega) (by omega)), (H18.out.2.2.1).trans (hb.below (by omega) (by omega)), (H18.out.2.2.2.1).apart hb (by omega), (H18.out.2.2.2.2.1).apart hb (by omega), (H18.out.2.2.2.2.2.1).apart hb (by omega), (H18.out.2.2.2.2.2.2.1).apart hb (by omega), (H18.out.2.2.2.2.2.2.2.1).apart hb (by omega), (H18.out.2.2.2.2.2.2.2.2.1).hole hb, ho⟩
  clear hb H18 ho
  go_wp2_with fail
  refine (heldS _ y0 _ _ (by omega) (Nat.le_trans Hy0.out (by omega)) ((H19.out.2.2.2.2.2.2.2.2.1).rd)).mono ?_
  rintro e w20 ⟨rfl, hb⟩
  have hs20 := hb.size
  have H20 : Hid (RdBS w20 w0.heap.size (.slice A0 x0.length c0) x0 ∧ RdBI w20 w0.heap.size (.slice A1 x1.length c1) x1 ∧ Below w0.heap.size w0 w20 ∧ Own2 w20 w2.heap.size w3.heap.size uw0 y0 uw1 y1 ∧ OwnS w20 w3.heap.size w4.heap.size ux0 (mkS (1) x0) ∧ OwnI w20 w4.heap.size w5.heap.size ux1 (mkI (1 + (szS x0 : Int)) x1) ∧ OwnS w20 w8.heap.size w9.heap.size ut0 x0 ∧ OwnI w20 w10.heap.size w11.heap.size ut1 x1 ∧ OwnSH w20 w5.heap.size w6.heap.size m9 n9 ug0 (mkS 1 y0) ∧ OwnI w20 m9 n9 ug1 (mkI (1 + (szS y0 : Int)) y1)) := Lib.hid ⟨(H19.out.1).below (hb.mono (by omega)), (H19.out.2.1).below (hb.mono (by omega)), (H19.out.2.2.1).trans (hb.mono (by omega)), (H19.out.2.2.2.1).below hb, (H19.out.2.2.2.2.1).below hb, (H19.out.2.2.2.2.2.1).below hb, (H19.out.2.2.2.2.2.2.1).below hb, (H19.out.2.2.2.2.2.2.2.1).below hb, (H19.out.2.2.2.2.2.2.2.2.1).below hb, (H19.out.2.2.2.2.2.2.2.2.2).below hb⟩
  clear hb H19
  go_wp2_with fail
  refine (heldI _ y1 _ _ (by omega) (Nat.le_trans Hy1.out (by omega)) ((H20.out.2.2.2.2.2.2.2.2.2).rd)).mono ?_
  rintro e w21 ⟨rfl, hb⟩
  have hs21 := hb.size
  have H21 : Hid (RdBS w21 w0.heap.size (.slice A0 x0.length c0) x0 ∧ RdBI w21 w0.heap.size (.slice A1 x1.length c1) x1 ∧ Below w0.heap.size w0 w21 ∧ Own2 w21 w2.heap.size w3.heap.size uw0 y0 uw1 y1 ∧ OwnS w21 w3.heap.size w4.heap.size ux0 (mkS (1) x0) ∧ OwnI w21 w4.heap.size w5.heap.size ux1 (mkI (1 + (szS x0 : Int)) x1) ∧ OwnS w21 w8.heap.size w9.heap.size ut0 x0 ∧ OwnI w21 w10.heap.size w11.heap.size ut1 x1 ∧ OwnSH w21 w5.heap.size w6.heap.size m9 n9 ug0 (mkS 1 y0) ∧ OwnI w21 m9 n9 ug1 (mkI (1 + (szS y0 : Int)) y1)) := Lib.hid ⟨(H20.out.1).below (hb.mono (by omega)), (H20.out.2.1).below (hb.mono (by omega)), (H20.out.2.2.1).trans (hb.mono (by omega)), (H20.out.2.2.2.1).below hb, (H20.out.2.2.2.2.1).below hb, (H20.out.2.2.2.2.2.1).below hb, (H20.out.2.2.2.2.2.2.1).below hb, (H20.out.2.2.2.2.2.2.2.1).below hb, (H20.out.2.2.2.2.2.2.2.2.1).below hb, (H20.out.2.2.2.2.2.2.2.2.2).below hb⟩
  clear hb H20
  go_wp2_with fail
  refine (toS _ x0 _ ((H21.out.1).rd (by omega)) hn0 (fun zs h => Nat.le_trans (szS_mem h) hl0)).mono ?_
  rintro e w22 ⟨uz0, rfl, ho, hb⟩
  have hs22 := hb.size
  have hq22_z0 : w21.heap.size ≤ w22.heap.size := hb.size
  have H22 : Hid (RdBS w22 w0.heap.size (.slice A0 x0.length c0) x0 ∧ RdBI w22 w0.heap.size (.slice A1 x1.length c1) x1 ∧ Below w0.heap.size w0 w22 ∧ Own2 w22 w2.heap.size w3.heap.size uw0 y0 uw1 y1 ∧ OwnS w22 w3.heap.size w4.heap.size ux0 (mkS (1) x0) ∧ OwnI w22 w4.heap.size w5.heap.size ux1 (mkI (1 + (szS x0 : Int)) x1) ∧ OwnS w22 w8.heap.size w9.heap.size ut0 x0 ∧ OwnI w22 w10.heap.size w11.heap.size ut1 x1 ∧ OwnSH w22 w5.heap.size w6.heap.size m9 n9 ug0 (mkS 1 y0) ∧ OwnI w22 m9 n9 ug1 (mkI (1 + (szS y0 : Int)) y1) ∧ OwnS w22 w21.heap.size w22.heap.size uz0 x0) := Lib.hid ⟨(H21.out.1).below (hb.mono (by omega)), (H21.out.2.1).below (hb.mono (by omega)), (H21.out.2.2.1).trans (hb.mono (by omega)), (H21.out.2.2.2.1).below hb, (H21.out.2.2.2.2.1).below hb, (H21.out.2.2.2.2.2.1).below hb, (H21.out.2.2.2.2.2.2.1).below hb, (H21.out.2.2.2.2.2.2.2.1).below hb, (H21.out.2.2.2.2.2.2.2.2.1).below hb, (H21.out.2.2.2.2.2.2.2.2.2).below hb, ho⟩
  clear hb H21 ho
  go_wp2_with fail
  refine (toI _ x1 _ ((H22.out.2.1).rd (by omega)) hl1).mono ?_
  rintro e w23 ⟨uz1, rfl, ho, hb⟩
  have hs23 := hb.size
  have hq23_z1 : w22.heap.size ≤ w23.heap.size := hb.size
  have H23 : Hid (RdBS w23 w0.heap.size (.slice A0 x0.length c0) x0 ∧ RdBI w23 w0.heap.size (.slice A1 x1.length c1) x1 ∧ Below w0.heap.size w0 w23 ∧ Own2 w23 w2.heap.size w3.heap.size uw0 y0 uw1 y1 ∧ OwnS w23 w3.heap.size w4.heap.size ux0 (mkS (1) x0) ∧ OwnI w23 w4.heap.size w5.heap.size ux1 (mkI (1 + (szS x0 : Int)) x1) ∧ OwnS w23 w8.heap.size w9.heap.size ut0 x0 ∧ OwnI w23 w10.heap.size w11.heap.size ut1 x1 ∧ OwnSH w23 w5.heap.size w6.heap.size m9 n9 ug0 (mkS 1 y0) ∧ OwnI w23 m9 n9 ug1 (mkI (1 + (szS y0 : Int)) y1) ∧ OwnS w23 w21.heap.size w22.heap.size uz0 x0 ∧ OwnI w23 w22.heap.size w23.heap.size uz1 x1) := Lib.hid ⟨(H22.out.1).below (hb.mono (by omega)), (H22.out.2.1).below (hb.mono (by omega)), (H22.out.2.2.1).trans (hb.mono (by omega)), (H22.out.2.2.2.1).below hb, (H22.out.2.2.2.2.1).below hb, (H22.out.2.2.2.2.2.1).below hb, (H22.out.2.2.2.2.2.2.1).below hb, (H22.out.2.2.2.2.2.2.2.1).below hb, (H22.out.2.2.2.2.2.2.2.2.1).below hb, (H22.out.2.2.2.2.2.2.2.2.2.1).below hb, (H22.out.2.2.2.2.2.2.2.2.2.2).below hb, ho⟩
  clear hb H22 ho
  go_wp2_with fail
  refine (GiveName_I _ x0 _ x1 _ ((H23.out.2.2.2.2.2.2.2.2.2.2.1).rd) hn0 hl0 ((H23.out.2.2.2.2.2.2.2.2.2.2.2).rd) hl1 _ _ _ HR.out).mono ?_
  rintro e w24 ⟨uh0, uh1, rfl, ho, hb⟩
  have hs24 := hb.size
  have hq24_h : w23.heap.size ≤ w24.heap.size := hb.size
  have H24 : Hid (RdBS w24 w0.heap.size (.slice A0 x0.length c0) x0 ∧ RdBI w24 w0.heap.size (.slice A1 x1.length c1) x1 ∧ Below w0.heap.size w0 w24 ∧ Own2 w24 w2.heap.size w3.heap.size uw0 y0 uw1 y1 ∧ OwnS w24 w3.heap.size w4.heap.size ux0 (mkS (1) x0) ∧ OwnI w24 w4.heap.size w5.heap.size ux1 (mkI (1 + (szS x0 : Int)) x1) ∧ OwnS w24 w8.heap.size w9.heap.size ut0 x0 ∧ OwnI w24 w10.heap.size w11.heap.size ut1 x1 ∧ OwnSH w24 w5.heap.size w6.heap.size m9 n9 ug0 (mkS 1 y0) ∧ OwnI w24 m9 n9 ug1 (mkI (1 + (szS y0 : Int)) y1) ∧ OwnS w24 w21.heap.size w22.heap.size uz0 x0 ∧ OwnI w24 w22.heap.size w23.heap.size uz1 x1 ∧ Own2 w24 w23.heap.size w24.heap.size uh0 y0 uh1 y1) := Lib.hid ⟨(H23.out.1).below (hb.mono (by omega)), (H23.out.2.1).below (hb.mono (by omega)), (H23.out.2.2.1).trans (hb.mono (by omega)), (H23.out.2.2.2.1).below hb, (H23.out.2.2.2.2.1).below hb, (H23.out.2.2.2.2.2.1).below hb, (H23.out.2.2.2.2.2.2.1).below hb, (H23.out.2.2.2.2.2.2.2.1).below hb, (H23.out.2.2.2.2.2.2.2.2.1).below hb, (H23.out.2.2.2.2.2.2.2.2.2.1).below hb, (H23.out.2.2.2.2.2.2.2.2.2.2.1).below hb, (H23.out.2.2.2.2.2.2.2.2.2.2.2).below hb, ho⟩
  clear hb H23 ho
  go_wp2_with fail
  refine (eqS _ _ _ _ _ (H24.out.2.2.2.2.2.2.2.2.2.2.2.2).rdS (H24.out.2.2.2.1).rdS true (decide_eq_true rfl)).mono ?_
  rintro e w25 ⟨rfl, hb⟩
  have hs25 := hb.size
  have H25 : Hid (RdBS w25 w0.heap.size (.slice A0 x0.length c0) x0 ∧ RdBI w25 w0.heap.size (.slice A1 x1.length c1) x1 ∧ Below w0.heap.size w0 w25 ∧ Own2 w25 w2.heap.size w3.heap.size uw0 y0 uw1 y1 ∧ OwnS w25 w3.heap.size w4.heap.size ux0 (mkS (1) x0) ∧ OwnI w25 w4.heap.size w5.heap.size ux1 (mkI (1 + (szS x0 : Int)) x1) ∧ OwnS w25 w8.heap.size w9.heap.size ut0 x0 ∧ OwnI w25 w10.heap.size w11.heap.size ut1 x1 ∧ OwnSH w25 w5.heap.size w6.heap.size m9 n9 ug0 (mkS 1 y0) ∧ OwnI w25 m9 n9 ug1 (mkI (1 + (szS y0 : Int)) y1) ∧ OwnS w25 w21.heap.size w22.heap.size uz0 x0 ∧ OwnI w25 w22.heap.size w23.heap.size uz1 x1 ∧ Own2 w25 w23.heap.size w24.heap.size uh0 y0 uh1 y1) := Lib.hid ⟨(H24.out.1).below (hb.mono (by omega)), (H24.out.2.1).below (hb.mono (by omega)), (H24.out.2.2.1).trans (hb.mono (by omega)), (H24.out.2.2.2.1).below hb, (H24.out.2.2.2.2.1).below hb, (H24.out.2.2.2.2.2.1).below hb, (H24.out.2.2.2.2.2.2.1).below hb, (H24.out.2.2.2.2.2.2.2.1).below hb, (H24.out.2.2.2.2.2.2.2.2.1).below hb, (H24.out.2.2.2.2.2.2.2.2.2.1).below hb, (H24.out.2.2.2.2.2.2.2.2.2.2.1).below hb, (H24.out.2.2.2.2.2.2.2.2.2.2.2.1).below hb, (H24.out.2.2.2.2.2.2.2.2.2.2.2.2).below hb⟩
  clear hb H24
  go_wp2_with fail
  refine (eqI _ _ _ _ _ (H25.out.2.2.2.2.2.2.2.2.2.2.2.2).rdI (H25.out.2.2.2.1).rdI true (decide_eq_true rfl)).mono ?_
  rintro e w26 ⟨rfl, hb⟩
  have hs26 := hb.size
  have H26 : Hid (RdBS w26 w0.heap.size (.slice A0 x0.length c0) x0 ∧ RdBI w26 w0.heap.size (.slice A1 x1.length c1) x1 ∧ Below w0.heap.size w0 w26 ∧ Own2 w26 w2.heap.size w3.heap.size uw0 y0 uw1 y1 ∧ OwnS w26 w3.heap.size w4.heap.size ux0 (mkS (1) x0) ∧ OwnI w26 w4.heap.size w5.heap.size ux1 (mkI (1 + (szS x0 : Int)) x1) ∧ OwnS w26 w8.heap.size w9.heap.size ut0 x0 ∧ OwnI w26 w10.heap.size w11.heap.size ut1 x1 ∧ OwnSH w26 w5.heap.size w6.heap.size m9 n9 ug0 (mkS 1 y0) ∧ OwnI w26 m9 n9 ug1 (mkI (1 + (szS y0 : Int)) y1) ∧ OwnS w26 w21.heap.size w22.heap.size uz0 x0 ∧ OwnI w26 w22.heap.size w23.heap.size uz1 x1 ∧ Own2 w26 w23.heap.size w24.heap.size uh0 y0 uh1 y1) := Lib.hid ⟨(H25.out.1).below (hb.mono (by omega)), (H25.out.2.1).below (hb.mono (by omega)), (H25.out.2.2.1).trans (hb.mono (by omega)), (H25.out.2.2.2.1).below hb, (H25.out.2.2.2.2.1).below hb, (H25.out.2.2.2.2.2.1).below hb, (H25.out.2.2.2.2.2.2.1).below hb, (H25.out.2.2.2.2.2.2.2.1).below hb, (H25.out.2.2.2.2.2.2.2.2.1).below hb, (H25.out.2.2.2.2.2.2.2.2.2.1).below hb, (H25.out.2.2.2.2.2.2.2.2.2.2.1).below hb, (H25.out.2.2.2.2.2.2.2.2.2.2.2.1).below hb, (H25.out.2.2.2.2.2.2.2.2.2.2.2.2).below hb⟩
  clear hb H25
  go_wp2_with fail
  refine (heldS _ y0 _ _ (by omega) (Nat.le_trans Hy0.out (by omega)) ((H26.out.2.2.2.2.2.2.2.2.1).rd)).mono ?_
  rintro e w27 ⟨rfl, hb⟩
  have hs27 := hb.size
  have H27 : Hid (RdBS w27 w0.heap.size (.slice A0 x0.length c0) x0 ∧ RdBI w27 w0.heap.size (.slice A1 x1.length c1) x1 ∧ Below w0.heap.size w0 w27 ∧ Own2 w27 w2.heap.size w3.heap.size uw0 y0 uw1 y1 ∧ OwnS w27 w3.heap.size w4.heap.size ux0 (mkS (1) x0) ∧ OwnI w27 w4.heap.size w5.heap.size ux1 (mkI (1 + (szS x0 : Int)) x1) ∧ OwnS w27 w8.heap.size w9.heap.size ut0 x0 ∧ OwnI w27 w10.heap.size w11.heap.size ut1 x1 ∧ OwnSH w27 w5.heap.size w6.heap.size m9 n9 ug0 (mkS 1 y0) ∧ OwnI w27 m9 n9 ug1 (mkI (1 + (szS y0 : Int)) y1) ∧ OwnS w27 w21.heap.size w22.heap.size uz0 x0 ∧ OwnI w27 w22.heap.size w23.heap.size uz1 x1 ∧ Own2 w27 w23.heap.size w24.heap.size uh0 y0 uh1 y1) := Lib.hid ⟨(H26.out.1).below (hb.mono (by omega)), (H26.out.2.1).below (hb.mono (by omega)), (H26.out.2.2.1).trans (hb.mono (by omega)), (H26.out.2.2.2.1).below hb, (H26.out.2.2.2.2.1).below hb, (H26.out.2.2.2.2.2.1).below hb, (H26.out.2.2.2.2.2.2.1).below hb, (H26.out.2.2.2.2.2.2.2.1).below hb, (H26.out.2.2.2.2.2.2.2.2.1).below hb, (H26.out.2.2.2.2.2.2.2.2.2.1).below hb, (H26.out.2.2.2.2.2.2.2.2.2.2.1).below hb, (H26.out.2.2.2.2.2.2.2.2.2.2.2.1).below hb, (H26.out.2.2.2.2.2.2.2.2.2.2.2.2).below hb⟩
  clear hb H26
  go_wp2_with fail
  refine (heldI _ y1 _ _ (by omega) (Nat.le_trans Hy1.out (by omega)) ((H27.out.2.2.2.2.2.2.2.2.2.1).rd)).mono ?_
  rintro e w28 ⟨rfl, hb⟩
  have hs28 := hb.size
  have H28 : Hid (RdBS w28 w0.heap.size (.slice A0 x0.length c0) x0 ∧ RdBI w28 w0.heap.size (.slice A1 x1.length c1) x1 ∧ Below w0.heap.size w0 w28 ∧ Own2 w28 w2.heap.size w3.heap.size uw0 y0 uw1 y1 ∧ OwnS w28 w3.heap.size w4.heap.size ux0 (mkS (1) x0) ∧ OwnI w28 w4.heap.size w5.heap.size ux1 (mkI (1 + (szS x0 : Int)) x1) ∧ OwnS w28 w8.heap.size w9.heap.size ut0 x0 ∧ OwnI w28 w10.heap.size w11.heap.size ut1 x1 ∧ OwnSH w28 w5.heap.size w6.heap.size m9 n9 ug0 (mkS 1 y0) ∧ OwnI w28 m9 n9 ug1 (mkI (1 + (szS y0 : Int)) y1) ∧ OwnS w28 w21.heap.size w22.heap.size uz0 x0 ∧ OwnI w28 w22.heap.size w23.heap.size uz1 x1 ∧ Own2 w28 w23.heap.size w24.heap.size uh0 y0 uh1 y1) := Lib.hid ⟨(H27.out.1).below (hb.mono (by omega)), (H27.out.2.1).below (hb.mono (by omega)), (H27.out.2.2.1).trans (hb.mono (by omega)), (H27.out.2.2.2.1).below hb, (H27.out.2.2.2.2.1).below hb, (H27.out.2.2.2.2.2.1).below hb, (H27.out.2.2.2.2.2.2.1).below hb, (H27.out.2.2.2.2.2.2.2.1).below hb, (H27.out.2.2.2.2.2.2.2.2.1).below hb, (H27.out.2.2.2.2.2.2.2.2.2.1).below hb, (H27.out.2.2.2.2.2.2.2.2.2.2.1).below hb, (H27.out.2.2.2.2.2.2.2.2.2.2.2.1).below hb, (H27.out.2.2.2.2.2.2.2.2.2.2.2.2).below hb⟩
  clear hb H27
  go_wp2
  go_ret
  exact ⟨rfl, H28.out.2.2.1⟩

theorem exGiveName_walk : LawWalk 13 Try.f13 := by
  intro H enc W base args ds ps hval hA
  rw [Try.params13] at hA hval
  obtain ⟨v0, v1, d0, d1, p0, p1, rfl, rfl, rfl, h0, h1⟩ := trodAll_two hA
  obtain ⟨A0, c0, zs0, rfl, hi0⟩ := rows_of_trod (hval 0 _ _ rfl rfl) h0
  obtain ⟨A1, c1, zs1, rfl, hi1, hc1⟩ := ints_of_trod Try.underlying28 Try.underlying3 cells_int (hval 1 _ _ rfl rfl) h1
  exact exGiveName_any A0 c0 zs0 A1 c1 zs1 W hi0 (RdI.mk hi1 hc1)

set_option maxRecDepth 100000 in
theorem exGiveName_lifted (os : Os) (started : os.Started) (H : Type) (enc : TypeId × Value → H) :
    ReturnsInHanded {} Try.checked os 13 .any (Rows.fnExactGiveNameSpec.pre6 enc Try.prog Try.f13 Rows.fnExactGiveNameRow.domain false) (Rows.fnExactGiveNameSpec.post enc Try.prog Try.f13 false true false false) := by
  refine returnsInHanded_of_change (C := Try.checked) own started (by kernel_rfl) Try.func13
    (ChangeSpec.witness6 (enc := enc) (C := Try.checked) false ⟨#[], #[.slice none 0 0, .slice none 0 0], []⟩ 8 (by kernel_rfl) (by kernel_rfl) (by kernel_rfl) (by kernel_rfl)) ?_
  intro W base args ds gs before hval hW _ _
  exact law_contract laidOut rfl (by kernel_rfl) rfl (fun H ds hd => by
    match ds, hd with
    | [d0, d1], _ => exact ⟨rfl, rfl, rfl⟩) exGiveName_walk W base args ds gs before hval hW

/-- FnExactGiveName: the row as it is given. -/
theorem exGiveName_holds : Rows.FnExactGiveNameSaid :=
  OpenClaim.holds_of_wide 13 Try.f13 rfl rfl rfl rfl rfl rfl rfl ⟨rfl, rfl, rfl, rfl, rfl⟩ rfl rfl rfl rfl rfl (by kernel_rfl) Try.func13 (by unfold joinedFacts; rw [pf_enter, pf_lifts, pf_make]; kernel_rfl)
    (of_decide_eq_true (by kernel_rfl)) (by unfold Func.isWrapper; first | (rw [if_pos (by decide +kernel)]; kernel_rfl) | (rw [if_neg (by decide +kernel)]; exact ⟨rfl, rfl⟩))
    (fun os started H enc _ => exGiveName_lifted os started H enc)

end Go.Proofs.Ytiaidkhkcbamaaa
