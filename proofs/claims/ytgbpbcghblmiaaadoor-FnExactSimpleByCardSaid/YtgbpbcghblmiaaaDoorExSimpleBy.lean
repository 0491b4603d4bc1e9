/- SimpleBy answers at every program as its model. For every input; ruleTakes holds what the program's text lays. -/
import Derived.Test.YtgbpbcghblmiaaaDoorVt
import Derived.Test.YtgbpbcghblmiaaaDoorVu
import Derived.Test.YtgbpbcghblmiaaaDoorBb
import Derived.Test.YtgbpbcghblmiaaaDoorF1
import Derived.Test.YtgbpbcghblmiaaaDoorF2
import Derived.Test.YtgbpbcghblmiaaaDoorF3
import Derived.Test.YtgbpbcghblmiaaaDoorTie
import Derived.Test.YtgbpbcghblmiaaaDoorCards
import Derived.SevenTiedAt
namespace Go.Proofs.YtgbpbcghblmiaaaDoor
set_option maxRecDepth 100000
open Go.RowKit Go.WideShapes Go.ChangeShapes

set_option maxHeartbeats 1000000 in
theorem exSimpleBy_any (A0 : Option Addr) (c0 : Nat) (x0 : List Int) (w0 : World) (h0 : RdI w0 (.slice A0 x0.length c0) x0) (htab : IntTab w0 0 takesL) :
    Calls Tryd.prog 9 #[.slice A0 x0.length c0] w0 fun e w' => e = .returned (.bool true) ∧ Below w0.heap.size w0 w' := by
  have hgl := htab.lt
  have HT := Lib.hid htab; clear htab
  have hm0 := h0.len_le
  have HH0 := Lib.hid h0; clear h0
  by_cases hl0 : x0.length ≤ 1048576
  case neg =>
    go_enter Tryd.func9, Tryd.ntmps9
    go_wp2
    go_ret
    exact ⟨rfl, Below.refl _ _⟩
  generalize hR : simpleByR x0 = y0
  have hy0 : szM y0 ≤ 1000000 := by have := simpleByR_len x0; rw [hR] at this; exact this
  have Hy0 := Lib.hid hy0; clear hy0
  have HR := Lib.hid hR; clear hR
  have H0 : Hid (RdBI w0 w0.heap.size (.slice A0 x0.length c0) x0 ∧ Below w0.heap.size w0 w0) := Lib.hid ⟨HH0.out.at_, Below.refl _ _⟩
  clear HH0
  have hs0 : w0.heap.size ≤ w0.heap.size := Nat.le_refl _
  go_enter Tryd.func9, Tryd.ntmps9
  go_wp2_with fail
  refine (toI _ x0 _ ((H0.out.1).rd (by omega)) hl0).mono ?_
  rintro e w1 ⟨ut0, rfl, ho, hb⟩
  have hs1 := hb.size
  have hq1_t0 : w0.heap.size ≤ w1.heap.size := hb.size
  have H1 : Hid (RdBI w1 w0.heap.size (.slice A0 x0.length c0) x0 ∧ Below w0.heap.size w0 w1 ∧ OwnI w1 w0.heap.size w1.heap.size ut0 x0) := Lib.hid ⟨(H0.out.1).below (hb.mono (by omega)), (H0.out.2).trans (hb.mono (by omega)), ho⟩
  clear hb H0 ho
  go_wp2_with fail
  refine (SimpleBy_S _ x0 _ ((H1.out.2.2).rd) hl0 _ HR.out).mono ?_
  rintro e w2 ⟨uw0, rfl, ho, hb⟩
  have hs2 := hb.size
  have hq2_w0 : w1.heap.size ≤ w2.heap.size := hb.size
  have H2 : Hid (RdBI w2 w0.heap.size (.slice A0 x0.length c0) x0 ∧ Below w0.heap.size w0 w2 ∧ OwnM w2 w1.heap.size w2.heap.size uw0 y0) := Lib.hid ⟨(H1.out.1).below (hb.mono (by omega)), (H1.out.2.1).trans (hb.mono (by omega)), ho⟩
  clear hb H1 ho
  go_wp2_with fail
  refine (toI _ x0 _ ((H2.out.1).rd (by omega)) hl0).mono ?_
  rintro e w3 ⟨ux0, rfl, ho, hb⟩
  have hs3 := hb.size
  have hq3_x0 : w2.heap.size ≤ w3.heap.size := hb.size
  have H3 : Hid (RdBI w3 w0.heap.size (.slice A0 x0.length c0) x0 ∧ Below w0.heap.size w0 w3 ∧ OwnM w3 w1.heap.size w2.heap.size uw0 y0 ∧ OwnI w3 w2.heap.size w3.heap.size ux0 x0) := Lib.hid ⟨(H2.out.1).below (hb.mono (by omega)), (H2.out.2.1).trans (hb.mono (by omega)), (H2.out.2.2).below hb, ho⟩
  clear hb H2 ho
  go_wp2_with fail
  refine (SimpleBy_I _ x0 _ ((H3.out.2.2.2).rd) hl0 _ HR.out (HT.out.below (H3.out.2.1) hgl)).mono ?_
  rintro e w4 ⟨ug0, rfl, ho, hb⟩
  have hs4 := hb.size
  have hq4_g0 : w3.heap.size ≤ w4.heap.size := hb.size
  have H4 : Hid (RdBI w4 w0.heap.size (.slice A0 x0.length c0) x0 ∧ Below w0.heap.size w0 w4 ∧ OwnM w4 w1.heap.size w2.heap.size uw0 y0 ∧ OwnI w4 w2.heap.size w3.heap.size ux0 x0 ∧ OwnM w4 w3.heap.size w4.heap.size ug0 y0) := Lib.hid ⟨(H3.out.1).below (hb.mono (by omega)), (H3.out.2.1).trans (hb.mono (by omega)), (H3.out.2.2.1).below hb, (H3.out.2.2.2).below hb, ho⟩
  clear hb H3 ho
  go_wp2_with fail
  refine (eqM _ _ _ _ _ ((H4.out.2.2.2.2).rd) ((H4.out.2.2.1).rd) true (decide_eq_true rfl)).mono ?_
  rintro e w5 ⟨rfl, hb⟩
  have hs5 := hb.size
  have H5 : Hid (RdBI w5 w0.heap.size (.slice A0 x0.length c0) x0 ∧ Below w0.heap.size w0 w5 ∧ OwnM w5 w1.heap.size w2.heap.size uw0 y0 ∧ OwnI w5 w2.heap.size w3.heap.size ux0 x0 ∧ OwnM w5 w3.heap.size w4.heap.size ug0 y0) := Lib.hid ⟨(H4.out.1).below (hb.mono (by omega)), (H4.out.2.1).trans (hb.mono (by omega)), (H4.out.2.2.1).below hb, (H4.out.2.2.2.1).below hb, (H4.out.2.2.2.2).below hb⟩
  clear hb H4
  go_wp2_with fail
  refine (toI _ x0 _ ((H5.out.1).rd (by omega)) hl0).mono ?_
  rintro e w6 ⟨ut0, rfl, ho, hb⟩
  have hs6 := hb.size
  have hq6_t0 : w5.heap.size ≤ w6.heap.size := hb.size
  have H6 : Hid (RdBI w6 w0.heap.size (.slice A0 x0.length c0) x0 ∧ Below w0.heap.size w0 w6 ∧ OwnM w6 w1.heap.size w2.heap.size uw0 y0 ∧ OwnI w6 w2.heap.size w3.heap.size ux0 x0 ∧ OwnM w6 w3.heap.size w4.heap.size ug0 y0 ∧ OwnI w6 w5.heap.size w6.heap.size ut0 x0) := Lib.hid ⟨(H5.out.1).below (hb.mono (by omega)), (H5.out.2.1).trans (hb.mono (by omega)), (H5.out.2.2.1).below hb, (H5.out.2.2.2.1).below hb, (H5.out.2.2.2.2).below hb, ho⟩
  clear hb H5 ho
  go_wp2_with fail
  refine (eqI _ _ _ _ _ ((H6.out.2.2.2.1).rd) ((H6.out.2.2.2.2.2).rd) true (decide_eq_true rfl)).mono ?_
  rintro e w7 ⟨rfl, hb⟩
  have hs7 := hb.size
  have H7 : Hid (RdBI w7 w0.heap.size (.slice A0 x0.length c0) x0 ∧ Below w0.heap.size w0 w7 ∧ OwnM w7 w1.heap.size w2.heap.size uw0 y0 ∧ OwnI w7 w2.heap.size w3.heap.size ux0 x0 ∧ OwnM w7 w3.heap.size w4.heap.size ug0 y0 ∧ OwnI w7 w5.heap.size w6.heap.size ut0 x0) := Lib.hid ⟨(H6.out.1).below (hb.mono (by omega)), (H6.out.2.1).trans (hb.mono (by omega)), (H6.out.2.2.1).below hb, (H6.out.2.2.2.1).below hb, (H6.out.2.2.2.2.1).below hb, (H6.out.2.2.2.2.2).below hb⟩
  clear hb H6
  go_wp2_with fail
  refine (markI _ _ _ _ _ _ (by omega) (Nat.le_trans hl0 (by omega)) (H7.out.2.2.2.1)).mono ?_
  rintro e w8 ⟨rfl, ho, hb⟩
  have hs8 := hb.size
  have H8 : Hid (RdBI w8 w0.heap.size (.slice A0 x0.length c0) x0 ∧ Below w0.heap.size w0 w8 ∧ OwnM w8 w1.heap.size w2.heap.size uw0 y0 ∧ OwnI w8 w2.heap.size w3.heap.size ux0 (mkI (1) x0) ∧ OwnM w8 w3.heap.size w4.heap.size ug0 y0 ∧ OwnI w8 w5.heap.size w6.heap.size ut0 x0) := Lib.hid ⟨(H7.out.1).below (hb.below (by omega) (by omega)), (H7.out.2.1).trans (hb.below (by omega) (by omega)), (H7.out.2.2.1).apart hb (by omega), ho, (H7.out.2.2.2.2.1).apart hb (by omega), (H7.out.2.2.2.2.2).apart hb (by omega)⟩
  clear hb H7 ho
  go_wp2_with fail
  refine (eqM _ _ _ _ _ ((H8.out.2.2.2.2.1).rd) ((H8.out.2.2.1).rd) true (decide_eq_true rfl)).mono ?_
  rintro e w9 ⟨rfl, hb⟩
  have hs9 := hb.size
  have H9 : Hid (RdBI w9 w0.heap.size (.slice A0 x0.length c0) x0 ∧ Below w0.heap.size w0 w9 ∧ OwnM w9 w1.heap.size w2.heap.size uw0 y0 ∧ OwnI w9 w2.heap.size w3.heap.size ux0 (mkI (1) x0) ∧ OwnM w9 w3.heap.size w4.heap.size ug0 y0 ∧ OwnI w9 w5.heap.size w6.heap.size ut0 x0) := Lib.hid ⟨(H8.out.1).below (hb.mono (by omega)), (H8.out.2.1).trans (hb.mono (by omega)), (H8.out.2.2.1).below hb, (H8.out.2.2.2.1).below hb, (H8.out.2.2.2.2.1).below hb, (H8.out.2.2.2.2.2).below hb⟩
  clear hb H8
  go_wp2_with fail
  refine (markM _ _ _ _ _ _ (by omega) (Nat.le_trans Hy0.out (by omega)) (H9.out.2.2.2.2.1)).mono ?_
  rintro e w10 ⟨rfl, ho, hb⟩
  have hs10 := hb.size
  have H10 : Hid (RdBI w10 w0.heap.size (.slice A0 x0.length c0) x0 ∧ Below w0.heap.size w0 w10 ∧ OwnM w10 w1.heap.size w2.heap.size uw0 y0 ∧ OwnI w10 w2.heap.size w3.heap.size ux0 (mkI (1) x0) ∧ OwnM w10 w3.heap.size w4.heap.size ug0 (mkM (1) y0) ∧ OwnI w10 w5.heap.size w6.heap.size ut0 x0) := Lib.hid ⟨(H9.out.1).below (hb.below (by omega) (by omega)), (H9.out.2.1).trans (hb.below (by omega) (by omega)), (H9.out.2.2.1).apart hb (by omega), (H9.out.2.2.2.1).apart hb (by omega), ho, (H9.out.2.2.2.2.2).apart hb (by omega)⟩
  clear hb H9 ho
  go_wp2_with fail
  refine (heldM _ y0 _ _ (by omega) (Nat.le_trans Hy0.out (by omega)) ((H10.out.2.2.2.2.1).rd)).mono ?_
  rintro e w11 ⟨rfl, hb⟩
  have hs11 := hb.size
  have H11 : Hid (RdBI w11 w0.heap.size (.slice A0 x0.length c0) x0 ∧ Below w0.heap.size w0 w11 ∧ OwnM w11 w1.heap.size w2.heap.size uw0 y0 ∧ OwnI w11 w2.heap.size w3.heap.size ux0 (mkI (1) x0) ∧ OwnM w11 w3.heap.size w4.heap.size ug0 (mkM (1) y0) ∧ OwnI w11 w5.heap.size w6.heap.size ut0 x0) := Lib.hid ⟨(H10.out.1).below (hb.mono (by omega)), (H10.out.2.1).trans (hb.mono (by omega)), (H10.out.2.2.1).below hb, (H10.out.2.2.2.1).below hb, (H10.out.2.2.2.2.1).below hb, (H10.out.2.2.2.2.2).below hb⟩
  clear hb H10
  go_wp2_with fail
  refine (toI _ x0 _ ((H11.out.1).rd (by omega)) hl0).mono ?_
  rintro e w12 ⟨uz0, rfl, ho, hb⟩
  have hs12 := hb.size
  have hq12_z0 : w11.heap.size ≤ w12.heap.size := hb.size
  have H12 : Hid (RdBI w12 w0.heap.size (.slice A0 x0.length c0) x0 ∧ Below w0.heap.size w0 w12 ∧ OwnM w12 w1.heap.size w2.heap.size uw0 y0 ∧ OwnI w12 w2.heap.size w3.heap.size ux0 (mkI (1) x0) ∧ OwnM w12 w3.heap.size w4.heap.size ug0 (mkM (1) y0) ∧ OwnI w12 w5.heap.size w6.heap.size ut0 x0 ∧ OwnI w12 w11.heap.size w12.heap.size uz0 x0) := Lib.hid ⟨(H11.out.1).below (hb.mono (by omega)), (H11.out.2.1).trans (hb.mono (by omega)), (H11.out.2.2.1).below hb, (H11.out.2.2.2.1).below hb, (H11.out.2.2.2.2.1).below hb, (H11.out.2.2.2.2.2).below hb, ho⟩
  clear hb H11 ho
  go_wp2_with fail
  refine (SimpleBy_I _ x0 _ ((H12.out.2.2.2.2.2.2).rd) hl0 _ HR.out (HT.out.below (H12.out.2.1) hgl)).mono ?_
  rintro e w13 ⟨uh0, rfl, ho, hb⟩
  have hs13 := hb.size
  have hq13_h0 : w12.heap.size ≤ w13.heap.size := hb.size
  have H13 : Hid (RdBI w13 w0.heap.size (.slice A0 x0.length c0) x0 ∧ Below w0.heap.size w0 w13 ∧ OwnM w13 w1.heap.size w2.heap.size uw0 y0 ∧ OwnI w13 w2.heap.size w3.heap.size ux0 (mkI (1) x0) ∧ OwnM w13 w3.heap.size w4.heap.size ug0 (mkM (1) y0) ∧ OwnI w13 w5.heap.size w6.heap.size ut0 x0 ∧ OwnI w13 w11.heap.size w12.heap.size uz0 x0 ∧ OwnM w13 w12.heap.size w13.heap.size uh0 y0) := Lib.hid ⟨(H12.out.1).below (hb.mono (by omega)), (H12.out.2.1).trans (hb.mono (by omega)), (H12.out.2.2.1).below hb, (H12.out.2.2.2.1).below hb, (H12.out.2.2.2.2.1).below hb, (H12.out.2.2.2.2.2.1).below hb, (H12.out.2.2.2.2.2.2).below hb, ho⟩
  clear hb H12 ho
  go_wp2_with fail
  refine (eqM _ _ _ _ _ ((H13.out.2.2.2.2.2.2.2).rd) ((H13.out.2.2.1).rd) true (decide_eq_true rfl)).mono ?_
  rintro e w14 ⟨rfl, hb⟩
  have hs14 := hb.size
  have H14 : Hid (RdBI w14 w0.heap.size (.slice A0 x0.length c0) x0 ∧ Below w0.heap.size w0 w14 ∧ OwnM w14 w1.heap.size w2.heap.size uw0 y0 ∧ OwnI w14 w2.heap.size w3.heap.size ux0 (mkI (1) x0) ∧ OwnM w14 w3.heap.size w4.heap.size ug0 (mkM (1) y0) ∧ OwnI w14 w5.heap.size w6.heap.size ut0 x0 ∧ OwnI w14 w11.heap.size w12.heap.size uz0 x0 ∧ OwnM w14 w12.heap.size w13.heap.size uh0 y0) := Lib.hid ⟨(H13.out.1).below (hb.mono (by omega)), (H13.out.2.1).trans (hb.mono (by omega)), (H13.out.2.2.1).below hb, (H13.out.2.2.2.1).below hb, (H13.out.2.2.2.2.1).below hb, (H13.out.2.2.2.2.2.1).below hb, (H13.out.2.2.2.2.2.2.1).below hb, (H13.out.2.2.2.2.2.2.2).below hb⟩
  clear hb H13
  go_wp2_with fail
  refine (heldM _ y0 _ _ (by omega) (Nat.le_trans Hy0.out (by omega)) ((H14.out.2.2.2.2.1).rd)).mono ?_
  rintro e w15 ⟨rfl, hb⟩
  have hs15 := hb.size
  have H15 : Hid (RdBI w15 w0.heap.size (.slice A0 x0.length c0) x0 ∧ Below w0.heap.size w0 w15 ∧ OwnM w15 w1.heap.size w2.heap.size uw0 y0 ∧ OwnI w15 w2.heap.size w3.heap.size ux0 (mkI (1) x0) ∧ OwnM w15 w3.heap.size w4.heap.size ug0 (mkM (1) y0) ∧ OwnI w15 w5.heap.size w6.heap.size ut0 x0 ∧ OwnI w15 w11.heap.size w12.heap.size uz0 x0 ∧ OwnM w15 w12.heap.size w13.heap.size uh0 y0) := Lib.hid ⟨(H14.out.1).below (hb.mono (by omega)), (H14.out.2.1).trans (hb.mono (by omega)), (H14.out.2.2.1).below hb, (H14.out.2.2.2.1).below hb, (H14.out.2.2.2.2.1).below hb, (H14.out.2.2.2.2.2.1).below hb, (H14.out.2.2.2.2.2.2.1).below hb, (H14.out.2.2.2.2.2.2.2).below hb⟩
  clear hb H14
  go_wp2
  go_ret
  exact ⟨rfl, H15.out.2.1⟩

theorem exSimpleBy_named : Tryd.prog.globalNamed "loop.example/stackwords/impl.ruleTakes" = some 0 := by kernel_rfl
theorem exSimpleBy_type : (Tryd.prog.globals[0]?).map (·.type) = some 92 := by kernel_rfl

theorem exSimpleBy_walk : LawWalkL 9 Tryd.f9 Rows.fnExactSimpleByRow.laid := by
  intro H enc W base args ds ps hval hA hL _
  rw [Tryd.params9] at hA hval
  obtain ⟨v0, d0, rfl, rfl, h0⟩ := trodAll_one hA
  obtain ⟨A0, c0, zs0, rfl, hi0, hc0⟩ := ints_of_trod Tryd.underlying23 Tryd.underlying3 cells_int (hval 0 _ _ rfl rfl) h0
  exact exSimpleBy_any A0 c0 zs0 W (RdI.mk hi0 hc0) (intTab_of_laid exSimpleBy_named exSimpleBy_type Tryd.underlying92 Tryd.underlying3 (by kernel_rfl) (by kernel_rfl) (zs := takesL) (List.mem_singleton.2 rfl) (by decide) hL)

noncomputable def exSimpleBy_world (os : Os) : World :=
  { World.holding Tryd.prog os ⟨#[], #[], []⟩ with heap := (World.holding Tryd.prog os ⟨#[], #[], []⟩).heap.modify 0 fun
      | .cells _ t frozen => .cells (intVals takesL).toArray t frozen
      | o => o }
theorem exSimpleBy_met (os : Os) : laidMet Tryd.prog Rows.fnExactSimpleByRow.laid ((exSimpleBy_world os).forCall (fun _ _ => 0) ⟨#[], #[.slice none 0 0], []⟩).memory :=
  laidMet_of_run' 8 (by kernel_rfl) (by kernel_rfl)
theorem exSimpleBy_reads (os : Os) {H : Type} (enc : TypeId × Value → H) : ∃ places, DataW.whole enc Tryd.prog ((exSimpleBy_world os).forCall (fun _ _ => 0) ⟨#[], #[.slice none 0 0], []⟩).memory Tryd.f9.params.toList Rows.fnExactSimpleBySpec.vars false #[.slice none 0 0].toList 8 = some ([.nil], [intData takesL], places) := by
  have h : (DataW.whole enc Tryd.prog ((exSimpleBy_world os).forCall (fun _ _ => 0) ⟨#[], #[.slice none 0 0], []⟩).memory Tryd.f9.params.toList Rows.fnExactSimpleBySpec.vars false #[.slice none 0 0].toList 8).map (fun x => (x.1, x.2.1)) = some ([.nil], [intData takesL]) := by kernel_rfl
  obtain ⟨⟨a, b, c⟩, h1, h2⟩ := Option.map_eq_some_iff.1 h
  simp only [Prod.mk.injEq] at h2
  obtain ⟨rfl, rfl⟩ := h2
  exact ⟨c, h1⟩
theorem exSimpleBy_readable : Tryd.prog.readableRec 92 = true ∧ 92 < Tryd.prog.types.size := ⟨by kernel_rfl, of_decide_eq_true (by kernel_rfl)⟩

set_option maxRecDepth 100000 in
theorem exSimpleBy_lifted (os : Os) (started : os.Started) (H : Type) (enc : TypeId × Value → H) (F : Stop.Interp) :
    ReturnsInHanded {} Tryd.checked os 9 .any ((OpenSpec.ofChange Rows.fnExactSimpleBySpec).preRow enc Tryd.prog Tryd.f9 Rows.fnExactSimpleByRow.domain false Rows.fnExactSimpleByRow.laid) (((OpenSpec.ofChange Rows.fnExactSimpleBySpec).at F).post enc Tryd.prog Tryd.f9 false true false false) := by
  obtain ⟨places, hx⟩ := exSimpleBy_reads os enc
  refine returnsInHanded_of_row (C := Tryd.checked) (s := OpenSpec.ofChange Rows.fnExactSimpleBySpec) own started (by kernel_rfl) Tryd.func9
    (witness_row_at (enc := enc) (C := Tryd.checked) false (exSimpleBy_world os) #[.slice none 0 0] rfl (by kernel_rfl) (by kernel_rfl) (by kernel_rfl)
      (OpenSpec.preRow_of_cond 8 hx (by kernel_rfl) (fun k hk => by cases hk) (by kernel_rfl) (exSimpleBy_met os))) ?_
  intro W base args ds gs before hval hW _ _ _ hL hsh _
  have hA := hW
  obtain ⟨p, q, hA, hV, _⟩ := hA
  refine (exSimpleBy_walk H enc W base args ds p hval hA hL hsh).mono fun e W' ⟨he, hb⟩ => ⟨_, he, ?_⟩
  obtain ⟨g, t, cs, fuel, d, p', rfl, _⟩ := trodVars_one hV
  have hd := (trodAll_length hA).2
  match ds, hd with
  | [d0], _ =>
    refine post_lawV (s := Rows.fnExactSimpleBySpec) laidOut hW (by kernel_rfl) ?_ rfl Tryd.underlying4 ⟨rfl, rfl, rfl⟩ hb
    intro n hn g t hg ht
    obtain rfl : n = "loop.example/stackwords/impl.ruleTakes" := by simpa [Rows.fnExactSimpleBySpec] using hn
    obtain rfl := Option.some.inj (exSimpleBy_named.symm.trans hg)
    obtain rfl := Option.some.inj (exSimpleBy_type.symm.trans ht)
    exact exSimpleBy_readable

theorem exSimpleBy_said : Rows.FnExactSimpleBySaid :=
  OpenClaim.holds_of_cond 9 Tryd.f9 rfl rfl rfl rfl rfl rfl rfl ⟨rfl, rfl, rfl, rfl, rfl⟩ rfl rfl rfl rfl rfl (by kernel_rfl) Tryd.func9 (by unfold joinedFacts; rw [pf_enter, pf_lifts, pf_make]; kernel_rfl)
    (of_decide_eq_true (by kernel_rfl)) (by unfold Func.isWrapper; first | (rw [if_pos (by decide +kernel)]; kernel_rfl) | (rw [if_neg (by decide +kernel)]; exact ⟨rfl, rfl⟩))
    (fun os started H enc _ F => by rw [OpenClaim.pre_eq_preRow]; exact exSimpleBy_lifted os started H enc F)

theorem exSimpleBy_plain (f : FuncId) (fn : Func) (hf : Tryd.pinned.checked.prog.funcNamed "loop.example/stackwords/laws.FnExactSimpleBy" = some f) (hfn : Tryd.pinned.checked.prog.funcs[f]? = some fn) :
    false = Tryd.pinned.checked.prog.looks [] ∧ ∀ (j : Nat) t, fn.params[j]? = some t → Tryd.pinned.checked.prog.wantsStandIn t = false := by
  obtain rfl : f = 9 := Option.some.inj ((show Tryd.prog.funcNamed "loop.example/stackwords/laws.FnExactSimpleBy" = some 9 by kernel_rfl).symm.trans hf) |>.symm
  obtain rfl : fn = Tryd.f9 := (Option.some.inj (Tryd.func9.symm.trans hfn)).symm
  refine ⟨by kernel_rfl, fun j t ht => ?_⟩
  rw [Tryd.params9] at ht
  have hm := Array.mem_of_getElem? ht
  simp only [List.mem_toArray, List.mem_cons, List.not_mem_nil, or_false] at hm
  rcases hm with rfl
  · exact (show Tryd.prog.wantsStandIn 23 = false by kernel_rfl)

/-- FnExactSimpleBy: the card, as it is given. -/
theorem exSimpleBy_card : Rows.FnExactSimpleByCardSaid :=
  Claim7.holds_tied_plain_at .later [] _ _ _ _ exSimpleBy_said (fun _ h => by cases h) (by kernel_rfl) (fun _ h => by cases h) fnExactSimpleBy_row_tie rfl ⟨rfl, rfl⟩ (by kernel_rfl) rfl exSimpleBy_plain (by kernel_rfl)

end Go.Proofs.YtgbpbcghblmiaaaDoor
