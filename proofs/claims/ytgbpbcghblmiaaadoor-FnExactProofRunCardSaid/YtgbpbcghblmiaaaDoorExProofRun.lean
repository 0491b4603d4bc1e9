/- ProofRun answers at every program and moves as its model. For every input; ruleTakes holds what the program's text lays. -/
import Derived.Test.YtgbpbcghblmiaaaDoorB9
import Derived.Test.YtgbpbcghblmiaaaDoorMt
import Derived.Test.YtgbpbcghblmiaaaDoorBb
import Derived.Test.YtgbpbcghblmiaaaDoorF1
import Derived.Test.YtgbpbcghblmiaaaDoorF2
import Derived.Test.YtgbpbcghblmiaaaDoorF3
import Derived.Test.YtgbpbcghblmiaaaDoorTie
import Derived.Test.YtgbpbcghblmiaaaDoorCards
import Derived.SevenTiedAt
namespace Go.Proofs.YtgbpbcghblmiaaaDoor
set_option maxRecDepth 100000
open Go.RowKit Go.WideShapes Go.ChangeShapes

theorem proofRunR_len (p : List Int) (ms : List (Int × Int)) : szI (proofRunR p ms).1 ≤ 1000000 := by
  unfold szI proofRunR
  split
  · rename_i h
    rcases hm : movedR p ms with _ | q
    · simp
    · have := validB_len (movedR_valid h.1 hm)
      dsimp only; omega
  · simp
set_option maxHeartbeats 1000000 in
theorem exProofRun_any (A0 : Option Addr) (c0 : Nat) (x0 : List Int) (A1 : Option Addr) (c1 : Nat) (x1 : List (Int × Int)) (w0 : World) (h0 : RdI w0 (.slice A0 x0.length c0) x0) (h1 : RdM w0 (.slice A1 x1.length c1) x1) (htab : IntTab w0 0 takesL) :
    Calls Tryd.prog 7 #[.slice A0 x0.length c0, .slice A1 x1.length c1] w0 fun e w' => e = .returned (.bool true) ∧ Below w0.heap.size w0 w' := by
  have hgl := htab.lt
  have HT := Lib.hid htab; clear htab
  have hm0 := h0.len_le
  have HH0 := Lib.hid h0; clear h0
  have hm1 := h1.len_le
  have HH1 := Lib.hid h1; clear h1
  by_cases hl0 : x0.length ≤ 1048576
  case neg =>
    go_enter Tryd.func7, Tryd.ntmps7
    go_wp2
    go_ret
    exact ⟨rfl, Below.refl _ _⟩
  by_cases hl1 : x1.length ≤ 1048576
  case neg =>
    go_enter Tryd.func7, Tryd.ntmps7
    go_wp2_with fail
    refine (szMoveS_any _ _ x1.length 1048576 _ hm1 (by omega)).mono ?_
    rw [if_pos (by omega)]
    rintro e w' ⟨rfl, rfl⟩
    go_wp2
    go_ret
    exact ⟨rfl, Below.refl _ _⟩
  have hk1 : szM x1 ≤ 2097152 := by unfold szM; omega
  generalize hR : proofRunR x0 x1 = R
  obtain ⟨y0, y1⟩ := R
  have hy0 : szI y0 ≤ 1000000 := by have := proofRunR_len x0 x1; rw [hR] at this; exact this
  have Hy0 := Lib.hid hy0; clear hy0
  have HR := Lib.hid hR; clear hR
  have hbb1 : (y1 != y1) = false := by simp
  have H0 : Hid (RdBI w0 w0.heap.size (.slice A0 x0.length c0) x0 ∧ RdBM w0 w0.heap.size (.slice A1 x1.length c1) x1 ∧ Below w0.heap.size w0 w0) := Lib.hid ⟨HH0.out.at_, HH1.out.at_, Below.refl _ _⟩
  clear HH0
  clear HH1
  have hs0 : w0.heap.size ≤ w0.heap.size := Nat.le_refl _
  go_enter Tryd.func7, Tryd.ntmps7
  go_wp2_with fail
  refine (szMoveS_any _ _ x1.length 1048576 _ hm1 (by omega)).mono ?_
  rw [if_neg (by omega)]
  rintro e w' ⟨rfl, rfl⟩
  go_wp2_with fail
  refine (toI _ x0 _ ((H0.out.1).rd (by omega)) hl0).mono ?_
  rintro e w1 ⟨ut0, rfl, ho, hb⟩
  have hs1 := hb.size
  have hq1_t0 : w0.heap.size ≤ w1.heap.size := hb.size
  have H1 : Hid (RdBI w1 w0.heap.size (.slice A0 x0.length c0) x0 ∧ RdBM w1 w0.heap.size (.slice A1 x1.length c1) x1 ∧ Below w0.heap.size w0 w1 ∧ OwnI w1 w0.heap.size w1.heap.size ut0 x0) := Lib.hid ⟨(H0.out.1).below (hb.mono (by omega)), (H0.out.2.1).below (hb.mono (by omega)), (H0.out.2.2).trans (hb.mono (by omega)), ho⟩
  clear hb H0 ho
  go_wp2_with fail
  refine (toM _ x1 _ ((H1.out.2.1).rd (by omega)) hl1).mono ?_
  rintro e w2 ⟨ut1, rfl, ho, hb⟩
  have hs2 := hb.size
  have hq2_t1 : w1.heap.size ≤ w2.heap.size := hb.size
  have H2 : Hid (RdBI w2 w0.heap.size (.slice A0 x0.length c0) x0 ∧ RdBM w2 w0.heap.size (.slice A1 x1.length c1) x1 ∧ Below w0.heap.size w0 w2 ∧ OwnI w2 w0.heap.size w1.heap.size ut0 x0 ∧ OwnM w2 w1.heap.size w2.heap.size ut1 x1) := Lib.hid ⟨(H1.out.1).below (hb.mono (by omega)), (H1.out.2.1).below (hb.mono (by omega)), (H1.out.2.2.1).trans (hb.mono (by omega)), (H1.out.2.2.2).below hb, ho⟩
  clear hb H1 ho
  go_wp2_with fail
  refine (ProofRun_S _ x0 _ x1 _ ((H2.out.2.2.2.1).rd) hl0 ((H2.out.2.2.2.2).rd)  _ _ HR.out).mono ?_
  rintro e w3 ⟨uw0, rfl, ho, hb⟩
  have hs3 := hb.size
  have hq3_w0 : w2.heap.size ≤ w3.heap.size := hb.size
  have H3 : Hid (RdBI w3 w0.heap.size (.slice A0 x0.length c0) x0 ∧ RdBM w3 w0.heap.size (.slice A1 x1.length c1) x1 ∧ Below w0.heap.size w0 w3 ∧ OwnI w3 w2.heap.size w3.heap.size uw0 y0) := Lib.hid ⟨(H2.out.1).below (hb.mono (by omega)), (H2.out.2.1).below (hb.mono (by omega)), (H2.out.2.2.1).trans (hb.mono (by omega)), ho⟩
  clear hb H2 ho
  go_wp2_with fail
  refine (toI _ x0 _ ((H3.out.1).rd (by omega)) hl0).mono ?_
  rintro e w4 ⟨ux0, rfl, ho, hb⟩
  have hs4 := hb.size
  have hq4_x0 : w3.heap.size ≤ w4.heap.size := hb.size
  have H4 : Hid (RdBI w4 w0.heap.size (.slice A0 x0.length c0) x0 ∧ RdBM w4 w0.heap.size (.slice A1 x1.length c1) x1 ∧ Below w0.heap.size w0 w4 ∧ OwnI w4 w2.heap.size w3.heap.size uw0 y0 ∧ OwnI w4 w3.heap.size w4.heap.size ux0 x0) := Lib.hid ⟨(H3.out.1).below (hb.mono (by omega)), (H3.out.2.1).below (hb.mono (by omega)), (H3.out.2.2.1).trans (hb.mono (by omega)), (H3.out.2.2.2).below hb, ho⟩
  clear hb H3 ho
  go_wp2_with fail
  refine (toM _ x1 _ ((H4.out.2.1).rd (by omega)) hl1).mono ?_
  rintro e w5 ⟨ux1, rfl, ho, hb⟩
  have hs5 := hb.size
  have hq5_x1 : w4.heap.size ≤ w5.heap.size := hb.size
  have H5 : Hid (RdBI w5 w0.heap.size (.slice A0 x0.length c0) x0 ∧ RdBM w5 w0.heap.size (.slice A1 x1.length c1) x1 ∧ Below w0.heap.size w0 w5 ∧ OwnI w5 w2.heap.size w3.heap.size uw0 y0 ∧ OwnI w5 w3.heap.size w4.heap.size ux0 x0 ∧ OwnM w5 w4.heap.size w5.heap.size ux1 x1) := Lib.hid ⟨(H4.out.1).below (hb.mono (by omega)), (H4.out.2.1).below (hb.mono (by omega)), (H4.out.2.2.1).trans (hb.mono (by omega)), (H4.out.2.2.2.1).below hb, (H4.out.2.2.2.2).below hb, ho⟩
  clear hb H4 ho
  go_wp2_with fail
  refine (ProofRun_I _ x0 _ x1 _ ((H5.out.2.2.2.2.1).rd) hl0 ((H5.out.2.2.2.2.2).rd)  _ _ HR.out (HT.out.below (H5.out.2.2.1) hgl)).mono ?_
  rintro e w6 ⟨ug0, rfl, ho, hb⟩
  have hs6 := hb.size
  have hq6_g0 : w5.heap.size ≤ w6.heap.size := hb.size
  have H6 : Hid (RdBI w6 w0.heap.size (.slice A0 x0.length c0) x0 ∧ RdBM w6 w0.heap.size (.slice A1 x1.length c1) x1 ∧ Below w0.heap.size w0 w6 ∧ OwnI w6 w2.heap.size w3.heap.size uw0 y0 ∧ OwnI w6 w3.heap.size w4.heap.size ux0 x0 ∧ OwnM w6 w4.heap.size w5.heap.size ux1 x1 ∧ OwnI w6 w5.heap.size w6.heap.size ug0 y0) := Lib.hid ⟨(H5.out.1).below (hb.mono (by omega)), (H5.out.2.1).below (hb.mono (by omega)), (H5.out.2.2.1).trans (hb.mono (by omega)), (H5.out.2.2.2.1).below hb, (H5.out.2.2.2.2.1).below hb, (H5.out.2.2.2.2.2).below hb, ho⟩
  clear hb H5 ho
  go_wp2_with fail
  refine (eqI _ _ _ _ _ ((H6.out.2.2.2.2.2.2).rd) ((H6.out.2.2.2.1).rd) true (decide_eq_true rfl)).mono ?_
  rintro e w7 ⟨rfl, hb⟩
  have hs7 := hb.size
  have H7 : Hid (RdBI w7 w0.heap.size (.slice A0 x0.length c0) x0 ∧ RdBM w7 w0.heap.size (.slice A1 x1.length c1) x1 ∧ Below w0.heap.size w0 w7 ∧ OwnI w7 w2.heap.size w3.heap.size uw0 y0 ∧ OwnI w7 w3.heap.size w4.heap.size ux0 x0 ∧ OwnM w7 w4.heap.size w5.heap.size ux1 x1 ∧ OwnI w7 w5.heap.size w6.heap.size ug0 y0) := Lib.hid ⟨(H6.out.1).below (hb.mono (by omega)), (H6.out.2.1).below (hb.mono (by omega)), (H6.out.2.2.1).trans (hb.mono (by omega)), (H6.out.2.2.2.1).below hb, (H6.out.2.2.2.2.1).below hb, (H6.out.2.2.2.2.2.1).below hb, (H6.out.2.2.2.2.2.2).below hb⟩
  clear hb H6
  go_wp2_with fail
  refine (toI _ x0 _ ((H7.out.1).rd (by omega)) hl0).mono ?_
  rintro e w8 ⟨ut0, rfl, ho, hb⟩
  have hs8 := hb.size
  have hq8_t0 : w7.heap.size ≤ w8.heap.size := hb.size
  have H8 : Hid (RdBI w8 w0.heap.size (.slice A0 x0.length c0) x0 ∧ RdBM w8 w0.heap.size (.slice A1 x1.length c1) x1 ∧ Below w0.heap.size w0 w8 ∧ OwnI w8 w2.heap.size w3.heap.size uw0 y0 ∧ OwnI w8 w3.heap.size w4.heap.size ux0 x0 ∧ OwnM w8 w4.heap.size w5.heap.size ux1 x1 ∧ OwnI w8 w5.heap.size w6.heap.size ug0 y0 ∧ OwnI w8 w7.heap.size w8.heap.size ut0 x0) := Lib.hid ⟨(H7.out.1).below (hb.mono (by omega)), (H7.out.2.1).below (hb.mono (by omega)), (H7.out.2.2.1).trans (hb.mono (by omega)), (H7.out.2.2.2.1).below hb, (H7.out.2.2.2.2.1).below hb, (H7.out.2.2.2.2.2.1).below hb, (H7.out.2.2.2.2.2.2).below hb, ho⟩
  clear hb H7 ho
  go_wp2_with fail
  refine (eqI _ _ _ _ _ ((H8.out.2.2.2.2.1).rd) ((H8.out.2.2.2.2.2.2.2).rd) true (decide_eq_true rfl)).mono ?_
  rintro e w9 ⟨rfl, hb⟩
  have hs9 := hb.size
  have H9 : Hid (RdBI w9 w0.heap.size (.slice A0 x0.length c0) x0 ∧ RdBM w9 w0.heap.size (.slice A1 x1.length c1) x1 ∧ Below w0.heap.size w0 w9 ∧ OwnI w9 w2.heap.size w3.heap.size uw0 y0 ∧ OwnI w9 w3.heap.size w4.heap.size ux0 x0 ∧ OwnM w9 w4.heap.size w5.heap.size ux1 x1 ∧ OwnI w9 w5.heap.size w6.heap.size ug0 y0 ∧ OwnI w9 w7.heap.size w8.heap.size ut0 x0) := Lib.hid ⟨(H8.out.1).below (hb.mono (by omega)), (H8.out.2.1).below (hb.mono (by omega)), (H8.out.2.2.1).trans (hb.mono (by omega)), (H8.out.2.2.2.1).below hb, (H8.out.2.2.2.2.1).below hb, (H8.out.2.2.2.2.2.1).below hb, (H8.out.2.2.2.2.2.2.1).below hb, (H8.out.2.2.2.2.2.2.2).below hb⟩
  clear hb H8
  go_wp2_with fail
  refine (toM _ x1 _ ((H9.out.2.1).rd (by omega)) hl1).mono ?_
  rintro e w10 ⟨ut1, rfl, ho, hb⟩
  have hs10 := hb.size
  have hq10_t1 : w9.heap.size ≤ w10.heap.size := hb.size
  have H10 : Hid (RdBI w10 w0.heap.size (.slice A0 x0.length c0) x0 ∧ RdBM w10 w0.heap.size (.slice A1 x1.length c1) x1 ∧ Below w0.heap.size w0 w10 ∧ OwnI w10 w2.heap.size w3.heap.size uw0 y0 ∧ OwnI w10 w3.heap.size w4.heap.size ux0 x0 ∧ OwnM w10 w4.heap.size w5.heap.size ux1 x1 ∧ OwnI w10 w5.heap.size w6.heap.size ug0 y0 ∧ OwnI w10 w7.heap.size w8.heap.size ut0 x0 ∧ OwnM w10 w9.heap.size w10.heap.size ut1 x1) := Lib.hid ⟨(H9.out.1).below (hb.mono (by omega)), (H9.out.2.1).below (hb.mono (by omega)), (H9.out.2.2.1).trans (hb.mono (by omega)), (H9.out.2.2.2.1).below hb, (H9.out.2.2.2.2.1).below hb, (H9.out.2.2.2.2.2.1).below hb, (H9.out.2.2.2.2.2.2.1).below hb, (H9.out.2.2.2.2.2.2.2).below hb, ho⟩
  clear hb H9 ho
  go_wp2_with fail
  refine (eqM _ _ _ _ _ ((H10.out.2.2.2.2.2.1).rd) ((H10.out.2.2.2.2.2.2.2.2).rd) true (decide_eq_true rfl)).mono ?_
  rintro e w11 ⟨rfl, hb⟩
  have hs11 := hb.size
  have H11 : Hid (RdBI w11 w0.heap.size (.slice A0 x0.length c0) x0 ∧ RdBM w11 w0.heap.size (.slice A1 x1.length c1) x1 ∧ Below w0.heap.size w0 w11 ∧ OwnI w11 w2.heap.size w3.heap.size uw0 y0 ∧ OwnI w11 w3.heap.size w4.heap.size ux0 x0 ∧ OwnM w11 w4.heap.size w5.heap.size ux1 x1 ∧ OwnI w11 w5.heap.size w6.heap.size ug0 y0 ∧ OwnI w11 w7.heap.size w8.heap.size ut0 x0 ∧ OwnM w11 w9.heap.size w10.heap.size ut1 x1) := Lib.hid ⟨(H10.out.1).below (hb.mono (by omega)), (H10.out.2.1).below (hb.mono (by omega)), (H10.out.2.2.1).trans (hb.mono (by omega)), (H10.out.2.2.2.1).below hb, (H10.out.2.2.2.2.1).below hb, (H10.out.2.2.2.2.2.1).below hb, (H10.out.2.2.2.2.2.2.1).below hb, (H10.out.2.2.2.2.2.2.2.1).below hb, (H10.out.2.2.2.2.2.2.2.2).below hb⟩
  clear hb H10
  go_wp2_with fail
  refine (markI _ _ _ _ _ _ (by omega) (Nat.le_trans hl0 (by omega)) (H11.out.2.2.2.2.1)).mono ?_
  rintro e w12 ⟨rfl, ho, hb⟩
  have hs12 := hb.size
  have H12 : Hid (RdBI w12 w0.heap.size (.slice A0 x0.length c0) x0 ∧ RdBM w12 w0.heap.size (.slice A1 x1.length c1) x1 ∧ Below w0.heap.size w0 w12 ∧ OwnI w12 w2.heap.size w3.heap.size uw0 y0 ∧ OwnI w12 w3.heap.size w4.heap.size ux0 (mkI (1) x0) ∧ OwnM w12 w4.heap.size w5.heap.size ux1 x1 ∧ OwnI w12 w5.heap.size w6.heap.size ug0 y0 ∧ OwnI w12 w7.heap.size w8.heap.size ut0 x0 ∧ OwnM w12 w9.heap.size w10.heap.size ut1 x1) := Lib.hid ⟨(H11.out.1).below (hb.below (by omega) (by omega)), (H11.out.2.1).below (hb.below (by omega) (by omega)), (H11.out.2.2.1).trans (hb.below (by omega) (by omega)), (H11.out.2.2.2.1).apart hb (by omega), ho, (H11.out.2.2.2.2.2.1).apart hb (by omega), (H11.out.2.2.2.2.2.2.1).apart hb (by omega), (H11.out.2.2.2.2.2.2.2.1).apart hb (by omega), (H11.out.2.2.2.2.2.2.2.2).apart hb (by omega)⟩
  clear hb H11 ho
  go_wp2_with fail
  refine (markM _ _ _ _ _ _ (by omega) (Nat.le_trans hk1 (by omega)) (H12.out.2.2.2.2.2.1)).mono ?_
  rintro e w13 ⟨rfl, ho, hb⟩
  have hs13 := hb.size
  have H13 : Hid (RdBI w13 w0.heap.size (.slice A0 x0.length c0) x0 ∧ RdBM w13 w0.heap.size (.slice A1 x1.length c1) x1 ∧ Below w0.heap.size w0 w13 ∧ OwnI w13 w2.heap.size w3.heap.size uw0 y0 ∧ OwnI w13 w3.heap.size w4.heap.size ux0 (mkI (1) x0) ∧ OwnM w13 w4.heap.size w5.heap.size ux1 (mkM (1 + (x0.length : Int)) x1) ∧ OwnI w13 w5.heap.size w6.heap.size ug0 y0 ∧ OwnI w13 w7.heap.size w8.heap.size ut0 x0 ∧ OwnM w13 w9.heap.size w10.heap.size ut1 x1) := Lib.hid ⟨(H12.out.1).below (hb.below (by omega) (by omega)), (H12.out.2.1).below (hb.below (by omega) (by omega)), (H12.out.2.2.1).trans (hb.below (by omega) (by omega)), (H12.out.2.2.2.1).apart hb (by omega), (H12.out.2.2.2.2.1).apart hb (by omega), ho, (H12.out.2.2.2.2.2.2.1).apart hb (by omega), (H12.out.2.2.2.2.2.2.2.1).apart hb (by omega), (H12.out.2.2.2.2.2.2.2.2).apart hb (by omega)⟩
  clear hb H12 ho
  go_wp2_with fail
  refine (eqI _ _ _ _ _ ((H13.out.2.2.2.2.2.2.1).rd) ((H13.out.2.2.2.1).rd) true (decide_eq_true rfl)).mono ?_
  rintro e w14 ⟨rfl, hb⟩
  have hs14 := hb.size
  have H14 : Hid (RdBI w14 w0.heap.size (.slice A0 x0.length c0) x0 ∧ RdBM w14 w0.heap.size (.slice A1 x1.length c1) x1 ∧ Below w0.heap.size w0 w14 ∧ OwnI w14 w2.heap.size w3.heap.size uw0 y0 ∧ OwnI w14 w3.heap.size w4.heap.size ux0 (mkI (1) x0) ∧ OwnM w14 w4.heap.size w5.heap.size ux1 (mkM (1 + (x0.length : Int)) x1) ∧ OwnI w14 w5.heap.size w6.heap.size ug0 y0 ∧ OwnI w14 w7.heap.size w8.heap.size ut0 x0 ∧ OwnM w14 w9.heap.size w10.heap.size ut1 x1) := Lib.hid ⟨(H13.out.1).below (hb.mono (by omega)), (H13.out.2.1).below (hb.mono (by omega)), (H13.out.2.2.1).trans (hb.mono (by omega)), (H13.out.2.2.2.1).below hb, (H13.out.2.2.2.2.1).below hb, (H13.out.2.2.2.2.2.1).below hb, (H13.out.2.2.2.2.2.2.1).below hb, (H13.out.2.2.2.2.2.2.2.1).below hb, (H13.out.2.2.2.2.2.2.2.2).below hb⟩
  clear hb H13
  go_wp2_with fail
  refine (markI _ _ _ _ _ _ (by omega) (Nat.le_trans Hy0.out (by omega)) (H14.out.2.2.2.2.2.2.1)).mono ?_
  rintro e w15 ⟨rfl, ho, hb⟩
  have hs15 := hb.size
  have H15 : Hid (RdBI w15 w0.heap.size (.slice A0 x0.length c0) x0 ∧ RdBM w15 w0.heap.size (.slice A1 x1.length c1) x1 ∧ Below w0.heap.size w0 w15 ∧ OwnI w15 w2.heap.size w3.heap.size uw0 y0 ∧ OwnI w15 w3.heap.size w4.heap.size ux0 (mkI (1) x0) ∧ OwnM w15 w4.heap.size w5.heap.size ux1 (mkM (1 + (x0.length : Int)) x1) ∧ OwnI w15 w5.heap.size w6.heap.size ug0 (mkI (1) y0) ∧ OwnI w15 w7.heap.size w8.heap.size ut0 x0 ∧ OwnM w15 w9.heap.size w10.heap.size ut1 x1) := Lib.hid ⟨(H14.out.1).below (hb.below (by omega) (by omega)), (H14.out.2.1).below (hb.below (by omega) (by omega)), (H14.out.2.2.1).trans (hb.below (by omega) (by omega)), (H14.out.2.2.2.1).apart hb (by omega), (H14.out.2.2.2.2.1).apart hb (by omega), (H14.out.2.2.2.2.2.1).apart hb (by omega), ho, (H14.out.2.2.2.2.2.2.2.1).apart hb (by omega), (H14.out.2.2.2.2.2.2.2.2).apart hb (by omega)⟩
  clear hb H14 ho
  go_wp2_with fail
  refine (heldI _ y0 _ _ (by omega) (Nat.le_trans Hy0.out (by omega)) ((H15.out.2.2.2.2.2.2.1).rd)).mono ?_
  rintro e w16 ⟨rfl, hb⟩
  have hs16 := hb.size
  have H16 : Hid (RdBI w16 w0.heap.size (.slice A0 x0.length c0) x0 ∧ RdBM w16 w0.heap.size (.slice A1 x1.length c1) x1 ∧ Below w0.heap.size w0 w16 ∧ OwnI w16 w2.heap.size w3.heap.size uw0 y0 ∧ OwnI w16 w3.heap.size w4.heap.size ux0 (mkI (1) x0) ∧ OwnM w16 w4.heap.size w5.heap.size ux1 (mkM (1 + (x0.length : Int)) x1) ∧ OwnI w16 w5.heap.size w6.heap.size ug0 (mkI (1) y0) ∧ OwnI w16 w7.heap.size w8.heap.size ut0 x0 ∧ OwnM w16 w9.heap.size w10.heap.size ut1 x1) := Lib.hid ⟨(H15.out.1).below (hb.mono (by omega)), (H15.out.2.1).below (hb.mono (by omega)), (H15.out.2.2.1).trans (hb.mono (by omega)), (H15.out.2.2.2.1).below hb, (H15.out.2.2.2.2.1).below hb, (H15.out.2.2.2.2.2.1).below hb, (H15.out.2.2.2.2.2.2.1).below hb, (H15.out.2.2.2.2.2.2.2.1).below hb, (H15.out.2.2.2.2.2.2.2.2).below hb⟩
  clear hb H15
  go_wp2_with fail
  refine (toI _ x0 _ ((H16.out.1).rd (by omega)) hl0).mono ?_
  rintro e w17 ⟨uz0, rfl, ho, hb⟩
  have hs17 := hb.size
  have hq17_z0 : w16.heap.size ≤ w17.heap.size := hb.size
  have H17 : Hid (RdBI w17 w0.heap.size (.slice A0 x0.length c0) x0 ∧ RdBM w17 w0.heap.size (.slice A1 x1.length c1) x1 ∧ Below w0.heap.size w0 w17 ∧ OwnI w17 w2.heap.size w3.heap.size uw0 y0 ∧ OwnI w17 w3.heap.size w4.heap.size ux0 (mkI (1) x0) ∧ OwnM w17 w4.heap.size w5.heap.size ux1 (mkM (1 + (x0.length : Int)) x1) ∧ OwnI w17 w5.heap.size w6.heap.size ug0 (mkI (1) y0) ∧ OwnI w17 w7.heap.size w8.heap.size ut0 x0 ∧ OwnM w17 w9.heap.size w10.heap.size ut1 x1 ∧ OwnI w17 w16.heap.size w17.heap.size uz0 x0) := Lib.hid ⟨(H16.out.1).below (hb.mono (by omega)), (H16.out.2.1).below (hb.mono (by omega)), (H16.out.2.2.1).trans (hb.mono (by omega)), (H16.out.2.2.2.1).below hb, (H16.out.2.2.2.2.1).below hb, (H16.out.2.2.2.2.2.1).below hb, (H16.out.2.2.2.2.2.2.1).below hb, (H16.out.2.2.2.2.2.2.2.1).below hb, (H16.out.2.2.2.2.2.2.2.2).below hb, ho⟩
  clear hb H16 ho
  go_wp2_with fail
  refine (toM _ x1 _ ((H17.out.2.1).rd (by omega)) hl1).mono ?_
  rintro e w18 ⟨uz1, rfl, ho, hb⟩
  have hs18 := hb.size
  have hq18_z1 : w17.heap.size ≤ w18.heap.size := hb.size
  have H18 : Hid (RdBI w18 w0.heap.size (.slice A0 x0.length c0) x0 ∧ RdBM w18 w0.heap.size (.slice A1 x1.length c1) x1 ∧ Below w0.heap.size w0 w18 ∧ OwnI w18 w2.heap.size w3.heap.size uw0 y0 ∧ OwnI w18 w3.heap.size w4.heap.size ux0 (mkI (1) x0) ∧ OwnM w18 w4.heap.size w5.heap.size ux1 (mkM (1 + (x0.length : Int)) x1) ∧ OwnI w18 w5.heap.size w6.heap.size ug0 (mkI (1) y0) ∧ OwnI w18 w7.heap.size w8.heap.size ut0 x0 ∧ OwnM w18 w9.heap.size w10.heap.size ut1 x1 ∧ OwnI w18 w16.heap.size w17.heap.size uz0 x0 ∧ OwnM w18 w17.heap.size w18.heap.size uz1 x1) := Lib.hid ⟨(H17.out.1).below (hb.mono (by omega)), (H17.out.2.1).below (hb.mono (by omega)), (H17.out.2.2.1).trans (hb.mono (by omega)), (H17.out.2.2.2.1).below hb, (H17.out.2.2.2.2.1).below hb, (H17.out.2.2.2.2.2.1).below hb, (H17.out.2.2.2.2.2.2.1).below hb, (H17.out.2.2.2.2.2.2.2.1).below hb, (H17.out.2.2.2.2.2.2.2.2.1).below hb, (H17.out.2.2.2.2.2.2.2.2.2).below hb, ho⟩
  clear hb H17 ho
  go_wp2_with fail
  refine (ProofRun_I _ x0 _ x1 _ ((H18.out.2.2.2.2.2.2.2.2.2.1).rd) hl0 ((H18.out.2.2.2.2.2.2.2.2.2.2).rd)  _ _ HR.out (HT.out.below (H18.out.2.2.1) hgl)).mono ?_
  rintro e w19 ⟨uh0, rfl, ho, hb⟩
  have hs19 := hb.size
  have hq19_h0 : w18.heap.size ≤ w19.heap.size := hb.size
  have H19 : Hid (RdBI w19 w0.heap.size (.slice A0 x0.length c0) x0 ∧ RdBM w19 w0.heap.size (.slice A1 x1.length c1) x1 ∧ Below w0.heap.size w0 w19 ∧ OwnI w19 w2.heap.size w3.heap.size uw0 y0 ∧ OwnI w19 w3.heap.size w4.heap.size ux0 (mkI (1) x0) ∧ OwnM w19 w4.heap.size w5.heap.size ux1 (mkM (1 + (x0.length : Int)) x1) ∧ OwnI w19 w5.heap.size w6.heap.size ug0 (mkI (1) y0) ∧ OwnI w19 w7.heap.size w8.heap.size ut0 x0 ∧ OwnM w19 w9.heap.size w10.heap.size ut1 x1 ∧ OwnI w19 w16.heap.size w17.heap.size uz0 x0 ∧ OwnM w19 w17.heap.size w18.heap.size uz1 x1 ∧ OwnI w19 w18.heap.size w19.heap.size uh0 y0) := Lib.hid ⟨(H18.out.1).below (hb.mono (by omega)), (H18.out.2.1).below (hb.mono (by omega)), (H18.out.2.2.1).trans (hb.mono (by omega)), (H18.out.2.2.2.1).below hb, (H18.out.2.2.2.2.1).below hb, (H18.out.2.2.2.2.2.1).below hb, (H18.out.2.2.2.2.2.2.1).below hb, (H18.out.2.2.2.2.2.2.2.1).below hb, (H18.out.2.2.2.2.2.2.2.2.1).below hb, (H18.out.2.2.2.2.2.2.2.2.2.1).below hb, (H18.out.2.2.2.2.2.2.2.2.2.2).below hb, ho⟩
  clear hb H18 ho
  go_wp2_with fail
  refine (eqI _ _ _ _ _ ((H19.out.2.2.2.2.2.2.2.2.2.2.2).rd) ((H19.out.2.2.2.1).rd) true (decide_eq_true rfl)).mono ?_
  rintro e w20 ⟨rfl, hb⟩
  have hs20 := hb.size
  have H20 : Hid (RdBI w20 w0.heap.size (.slice A0 x0.length c0) x0 ∧ RdBM w20 w0.heap.size (.slice A1 x1.length c1) x1 ∧ Below w0.heap.size w0 w20 ∧ OwnI w20 w2.heap.size w3.heap.size uw0 y0 ∧ OwnI w20 w3.heap.size w4.heap.size ux0 (mkI (1) x0) ∧ OwnM w20 w4.heap.size w5.heap.size ux1 (mkM (1 + (x0.length : Int)) x1) ∧ OwnI w20 w5.heap.size w6.heap.size ug0 (mkI (1) y0) ∧ OwnI w20 w7.heap.size w8.heap.size ut0 x0 ∧ OwnM w20 w9.heap.size w10.heap.size ut1 x1 ∧ OwnI w20 w16.heap.size w17.heap.size uz0 x0 ∧ OwnM w20 w17.heap.size w18.heap.size uz1 x1 ∧ OwnI w20 w18.heap.size w19.heap.size uh0 y0) := Lib.hid ⟨(H19.out.1).below (hb.mono (by omega)), (H19.out.2.1).below (hb.mono (by omega)), (H19.out.2.2.1).trans (hb.mono (by omega)), (H19.out.2.2.2.1).below hb, (H19.out.2.2.2.2.1).below hb, (H19.out.2.2.2.2.2.1).below hb, (H19.out.2.2.2.2.2.2.1).below hb, (H19.out.2.2.2.2.2.2.2.1).below hb, (H19.out.2.2.2.2.2.2.2.2.1).below hb, (H19.out.2.2.2.2.2.2.2.2.2.1).below hb, (H19.out.2.2.2.2.2.2.2.2.2.2.1).below hb, (H19.out.2.2.2.2.2.2.2.2.2.2.2).below hb⟩
  clear hb H19
  go_wp2_with fail
  refine (heldI _ y0 _ _ (by omega) (Nat.le_trans Hy0.out (by omega)) ((H20.out.2.2.2.2.2.2.1).rd)).mono ?_
  rintro e w21 ⟨rfl, hb⟩
  have hs21 := hb.size
  have H21 : Hid (RdBI w21 w0.heap.size (.slice A0 x0.length c0) x0 ∧ RdBM w21 w0.heap.size (.slice A1 x1.length c1) x1 ∧ Below w0.heap.size w0 w21 ∧ OwnI w21 w2.heap.size w3.heap.size uw0 y0 ∧ OwnI w21 w3.heap.size w4.heap.size ux0 (mkI (1) x0) ∧ OwnM w21 w4.heap.size w5.heap.size ux1 (mkM (1 + (x0.length : Int)) x1) ∧ OwnI w21 w5.heap.size w6.heap.size ug0 (mkI (1) y0) ∧ OwnI w21 w7.heap.size w8.heap.size ut0 x0 ∧ OwnM w21 w9.heap.size w10.heap.size ut1 x1 ∧ OwnI w21 w16.heap.size w17.heap.size uz0 x0 ∧ OwnM w21 w17.heap.size w18.heap.size uz1 x1 ∧ OwnI w21 w18.heap.size w19.heap.size uh0 y0) := Lib.hid ⟨(H20.out.1).below (hb.mono (by omega)), (H20.out.2.1).below (hb.mono (by omega)), (H20.out.2.2.1).trans (hb.mono (by omega)), (H20.out.2.2.2.1).below hb, (H20.out.2.2.2.2.1).below hb, (H20.out.2.2.2.2.2.1).below hb, (H20.out.2.2.2.2.2.2.1).below hb, (H20.out.2.2.2.2.2.2.2.1).below hb, (H20.out.2.2.2.2.2.2.2.2.1).below hb, (H20.out.2.2.2.2.2.2.2.2.2.1).below hb, (H20.out.2.2.2.2.2.2.2.2.2.2.1).below hb, (H20.out.2.2.2.2.2.2.2.2.2.2.2).below hb⟩
  clear hb H20
  go_wp2
  go_ret
  exact ⟨rfl, H21.out.2.2.1⟩

theorem exProofRun_named : Tryd.prog.globalNamed "loop.example/stackwords/impl.ruleTakes" = some 0 := by kernel_rfl
theorem exProofRun_type : (Tryd.prog.globals[0]?).map (·.type) = some 92 := by kernel_rfl

theorem exProofRun_walk : LawWalkL 7 Tryd.f7 Rows.fnExactProofRunRow.laid := by
  intro H enc W base args ds ps hval hA hL _
  rw [Tryd.params7] at hA hval
  obtain ⟨v0, v1, d0, d1, p0, p1, rfl, rfl, rfl, h0, h1⟩ := trodAll_two hA
  obtain ⟨A0, c0, zs0, rfl, hi0, hc0⟩ := ints_of_trod Tryd.underlying23 Tryd.underlying3 cells_int (hval 0 _ _ rfl rfl) h0
  obtain ⟨A1, c1, zs1, rfl, hi1⟩ := moves_of_trod (hval 1 _ _ rfl rfl) h1
  exact exProofRun_any A0 c0 zs0 A1 c1 zs1 W (RdI.mk hi0 hc0) hi1 (intTab_of_laid exProofRun_named exProofRun_type Tryd.underlying92 Tryd.underlying3 (by kernel_rfl) (by kernel_rfl) (zs := takesL) (List.mem_singleton.2 rfl) (by decide) hL)

noncomputable def exProofRun_world (os : Os) : World :=
  { World.holding Tryd.prog os ⟨#[], #[], []⟩ with heap := (World.holding Tryd.prog os ⟨#[], #[], []⟩).heap.modify 0 fun
      | .cells _ t frozen => .cells (intVals takesL).toArray t frozen
      | o => o }
theorem exProofRun_met (os : Os) : laidMet Tryd.prog Rows.fnExactProofRunRow.laid ((exProofRun_world os).forCall (fun _ _ => 0) ⟨#[], #[.slice none 0 0, .slice none 0 0], []⟩).memory :=
  laidMet_of_run' 8 (by kernel_rfl) (by kernel_rfl)
theorem exProofRun_reads (os : Os) {H : Type} (enc : TypeId × Value → H) : ∃ places, DataW.whole enc Tryd.prog ((exProofRun_world os).forCall (fun _ _ => 0) ⟨#[], #[.slice none 0 0, .slice none 0 0], []⟩).memory Tryd.f7.params.toList Rows.fnExactProofRunSpec.vars false #[.slice none 0 0, .slice none 0 0].toList 8 = some ([.nil, .nil], [intData takesL], places) := by
  have h : (DataW.whole enc Tryd.prog ((exProofRun_world os).forCall (fun _ _ => 0) ⟨#[], #[.slice none 0 0, .slice none 0 0], []⟩).memory Tryd.f7.params.toList Rows.fnExactProofRunSpec.vars false #[.slice none 0 0, .slice none 0 0].toList 8).map (fun x => (x.1, x.2.1)) = some ([.nil, .nil], [intData takesL]) := by kernel_rfl
  obtain ⟨⟨a, b, c⟩, h1, h2⟩ := Option.map_eq_some_iff.1 h
  simp only [Prod.mk.injEq] at h2
  obtain ⟨rfl, rfl⟩ := h2
  exact ⟨c, h1⟩
theorem exProofRun_readable : Tryd.prog.readableRec 92 = true ∧ 92 < Tryd.prog.types.size := ⟨by kernel_rfl, of_decide_eq_true (by kernel_rfl)⟩

set_option maxRecDepth 100000 in
theorem exProofRun_lifted (os : Os) (started : os.Started) (H : Type) (enc : TypeId × Value → H) (F : Stop.Interp) :
    ReturnsInHanded {} Tryd.checked os 7 .any ((OpenSpec.ofChange Rows.fnExactProofRunSpec).preRow enc Tryd.prog Tryd.f7 Rows.fnExactProofRunRow.domain false Rows.fnExactProofRunRow.laid) (((OpenSpec.ofChange Rows.fnExactProofRunSpec).at F).post enc Tryd.prog Tryd.f7 false true false false) := by
  obtain ⟨places, hx⟩ := exProofRun_reads os enc
  refine returnsInHanded_of_row (C := Tryd.checked) (s := OpenSpec.ofChange Rows.fnExactProofRunSpec) own started (by kernel_rfl) Tryd.func7
    (witness_row_at (enc := enc) (C := Tryd.checked) false (exProofRun_world os) #[.slice none 0 0, .slice none 0 0] rfl (by kernel_rfl) (by kernel_rfl) (by kernel_rfl)
      (OpenSpec.preRow_of_cond 8 hx (by kernel_rfl) (fun k hk => by cases hk) (by kernel_rfl) (exProofRun_met os))) ?_
  intro W base args ds gs before hval hW _ _ _ hL hsh _
  have hA := hW
  obtain ⟨p, q, hA, hV, _⟩ := hA
  refine (exProofRun_walk H enc W base args ds p hval hA hL hsh).mono fun e W' ⟨he, hb⟩ => ⟨_, he, ?_⟩
  obtain ⟨g, t, cs, fuel, d, p', rfl, _⟩ := trodVars_one hV
  have hd := (trodAll_length hA).2
  match ds, hd with
  | [d0, d1], _ =>
    refine post_lawV (s := Rows.fnExactProofRunSpec) laidOut hW (by kernel_rfl) ?_ rfl Tryd.underlying4 ⟨rfl, rfl, rfl⟩ hb
    intro n hn g t hg ht
    obtain rfl : n = "loop.example/stackwords/impl.ruleTakes" := by simpa [Rows.fnExactProofRunSpec] using hn
    obtain rfl := Option.some.inj (exProofRun_named.symm.trans hg)
    obtain rfl := Option.some.inj (exProofRun_type.symm.trans ht)
    exact exProofRun_readable

theorem exProofRun_said : Rows.FnExactProofRunSaid :=
  OpenClaim.holds_of_cond 7 Tryd.f7 rfl rfl rfl rfl rfl rfl rfl ⟨rfl, rfl, rfl, rfl, rfl⟩ rfl rfl rfl rfl rfl (by kernel_rfl) Tryd.func7 (by unfold joinedFacts; rw [pf_enter, pf_lifts, pf_make]; kernel_rfl)
    (of_decide_eq_true (by kernel_rfl)) (by unfold Func.isWrapper; first | (rw [if_pos (by decide +kernel)]; kernel_rfl) | (rw [if_neg (by decide +kernel)]; exact ⟨rfl, rfl⟩))
    (fun os started H enc _ F => by rw [OpenClaim.pre_eq_preRow]; exact exProofRun_lifted os started H enc F)

theorem exProofRun_plain (f : FuncId) (fn : Func) (hf : Tryd.pinned.checked.prog.funcNamed "loop.example/stackwords/laws.FnExactProofRun" = some f) (hfn : Tryd.pinned.checked.prog.funcs[f]? = some fn) :
    false = Tryd.pinned.checked.prog.looks [] ∧ ∀ (j : Nat) t, fn.params[j]? = some t → Tryd.pinned.checked.prog.wantsStandIn t = false := by
  obtain rfl : f = 7 := Option.some.inj ((show Tryd.prog.funcNamed "loop.example/stackwords/laws.FnExactProofRun" = some 7 by kernel_rfl).symm.trans hf) |>.symm
  obtain rfl : fn = Tryd.f7 := (Option.some.inj (Tryd.func7.symm.trans hfn)).symm
  refine ⟨by kernel_rfl, fun j t ht => ?_⟩
  rw [Tryd.params7] at ht
  have hm := Array.mem_of_getElem? ht
  simp only [List.mem_toArray, List.mem_cons, List.not_mem_nil, or_false] at hm
  rcases hm with rfl | rfl
  · exact (show Tryd.prog.wantsStandIn 23 = false by kernel_rfl)
  · exact (show Tryd.prog.wantsStandIn 50 = false by kernel_rfl)

/-- FnExactProofRun: the card, as it is given. -/
theorem exProofRun_card : Rows.FnExactProofRunCardSaid :=
  Claim7.holds_tied_plain_at .later [] _ _ _ _ exProofRun_said (fun _ h => by cases h) (by kernel_rfl) (fun _ h => by cases h) fnExactProofRun_row_tie rfl ⟨rfl, rfl⟩ (by kernel_rfl) rfl exProofRun_plain (by kernel_rfl)

end Go.Proofs.YtgbpbcghblmiaaaDoor
