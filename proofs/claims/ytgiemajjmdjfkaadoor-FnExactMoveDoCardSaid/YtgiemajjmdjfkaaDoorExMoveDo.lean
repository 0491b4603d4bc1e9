/- MoveDo answers at every program and move as its model. For every input; ruleTakes holds what the program's text lays. -/
import Derived.Test.YtgiemajjmdjfkaaDoorVp
import Derived.Test.YtgiemajjmdjfkaaDoorVk
import Derived.Test.YtgiemajjmdjfkaaDoorLiftD
import Derived.Test.YtgiemajjmdjfkaaDoorF1
import Derived.Test.YtgiemajjmdjfkaaDoorF2
import Derived.Test.YtgiemajjmdjfkaaDoorF3
import Derived.Deep.RegionWith
import Derived.Test.YtgiemajjmdjfkaaDoorTie
import Derived.Test.YtgiemajjmdjfkaaDoorCards
import Derived.SevenTiedAt
namespace Go.Proofs.YtgiemajjmdjfkaaDoor
set_option maxRecDepth 100000
open Go.RowKit Go.WideShapes Go.ChangeShapes

theorem moveDoR_len (p : List Int) (z a : Int) : szI (moveDoR p z a).1 ≤ 1000000 := by
  unfold szI
  rcases h : moveDoR p z a with ⟨q, b⟩
  rcases b with _ | _
  · have : q = [] := by
      unfold moveDoR at h
      rcases hm : moveR (partsR p) a with _ | x
      · rw [hm] at h; cases h; rfl
      · rw [hm] at h; dsimp only at h; split at h <;> cases h; rfl
    rw [this]; simp
  · have := validB_len (moveDoR_ok h).2
    dsimp only; omega
theorem toMove_any (x1 x2 : Int) (w : World) :
    Calls Tryd.prog 43 #[.agg #[.int .i64 x1, .int .i64 x2]] w fun e w' => e = .returned (.agg #[.int .i64 x1, .int .i64 x2]) ∧ Below w.heap.size w w' := by
  have hb : Below w.heap.size w (((w.alloc (.cells #[.int .i64 x1, .int .i64 x2] 56)).alloc (.cells #[.int .i64 x1, .int .i64 x2] 54)).alloc (.cells #[.int .i64 x1, .int .i64 x2] 54)) := (((Below.refl _ _).alloc (Nat.le_refl _) _).alloc (by simp) _).alloc (by simp; omega) _
  have hk := (Blk.new (w.alloc (.cells #[.int .i64 x1, .int .i64 x2] 56)) #[.int .i64 x1, .int .i64 x2] 54).below ((Below.refl _ _).alloc (Nat.le_refl _) (.cells #[.int .i64 x1, .int .i64 x2] 54)) (by simp)
  rw [World.size_alloc] at hk
  obtain ⟨c0, c1, _, _⟩ := Blk.two (show Blk _ (w.heap.size + 1) #[.int .i64 x1, .int .i64 x2] 54 from hk)
  have H := Lib.hid (And.intro hb (And.intro c0 c1)); clear hb hk c0 c1
  go_enter Tryd.func43, Tryd.ntmps43
  go_wp2
  obtain ⟨hb, c0, c1⟩ := H.out
  refine bodyPost_ret (v := .agg #[.int .i64 x1, .int .i64 x2]) (by simp [results, Tryd.results43, go_sem, c0, c1]) rfl ?_
  exact ⟨rfl, hb⟩

set_option maxHeartbeats 8000000 in
theorem exMoveDo_any (A0 : Option Addr) (c0 : Nat) (x0 : List Int) (x1 x2 : Int) (w0 : World) (h0 : RdI w0 (.slice A0 x0.length c0) x0) (htab : IntTab w0 0 takesL) :
    Calls Tryd.prog 8 #[.slice A0 x0.length c0, .agg #[.int .i64 x1, .int .i64 x2]] w0 fun e w' => e = .returned (.bool true) ∧ Below w0.heap.size w0 w' := by
  have hgl0 := htab.lt
  have hm0 := h0.len_le
  have hba : Below w0.heap.size w0 (w0.alloc (.cells #[.int .i64 x1, .int .i64 x2] 56)) := (Below.refl _ _).alloc (Nat.le_refl _) _
  have kb := Blk.new w0 #[.int .i64 x1, .int .i64 x2] 56
  obtain ⟨ka, kb1, _, _⟩ := kb.two
  have BA := Lib.hid hba
  have HH0 := Lib.hid (And.intro (h0.step hba) (htab.step hba)); clear h0 htab kb hba
  by_cases hl0 : x0.length ≤ 1048576
  case neg =>
    go_enter Tryd.func8, Tryd.ntmps8
    go_wp2
    go_ret
    exact ⟨rfl, BA.out⟩
  generalize hR : moveDoR x0 x1 x2 = R
  obtain ⟨y0, y1⟩ := R
  have hy0 : szI y0 ≤ 1000000 := by have := moveDoR_len x0 x1 x2; rw [hR] at this; exact this
  have Hy0 := Lib.hid hy0; clear hy0
  have HR := Lib.hid hR; clear hR
  have hbb1 : (y1 != y1) = false := by simp
  have cb := And.intro ka kb1; clear ka kb1
  have hgw : w0.heap.size < (w0.alloc (.cells #[.int .i64 x1, .int .i64 x2] 56)).heap.size := by simp
  have hgl : 0 < (w0.alloc (.cells #[.int .i64 x1, .int .i64 x2] 56)).heap.size := by rw [World.size_alloc]; omega
  have CB := Lib.hid cb; clear cb
  have HG := Lib.hid (And.intro hgw hgl); clear hgw hgl
  go_enter Tryd.func8, Tryd.ntmps8
  go_wp2_with fail
  generalize (w0.alloc (.cells #[.int .i64 x1, .int .i64 x2] 56)) = wa at *
  have cb := CB.out
  obtain ⟨hgw, hgl⟩ := HG.out
  have HT := Lib.hid HH0.out.2
  have H0 : Hid (RdBI wa wa.heap.size (.slice A0 x0.length c0) x0 ∧ Below wa.heap.size wa wa) := Lib.hid ⟨HH0.out.1.at_, Below.refl _ _⟩
  clear HH0
  have hd : Below wa.heap.size wa wa.drew := (Below.refl _ _).drew
  have HB := Lib.hid (And.intro ((H0.out.1).below (hd.mono (by omega))) ((H0.out.2).trans (hd.mono (by omega))))
  have d0 := (HB.out.2.cell (p := ⟨w0.heap.size, 0, none⟩) hgw).trans cb.1
  have d1 := (HB.out.2.cell (p := ⟨w0.heap.size, 1, none⟩) hgw).trans cb.2
  go_region_with (first
    | (go_at_call 41; have hX := hbM; refine (MoveDo_S _ x0 x1 x2 _ ((hoT.below hbM).rd) hl0 _ _ HR.out).mono ?_; rintro e w2 ⟨uw0, rfl, ho, hb⟩)
    | (go_at_call 43; have hX := hbT; refine (toMove_any x1 x2 _).mono ?_; rintro e wM ⟨rfl, hbM⟩)
    | (go_at_call 42; refine (toI _ x0 _ (HB.out.1.rd (by show _ ≤ wa.heap.size; omega)) hl0).mono ?_; rintro e wT ⟨uT, rfl, hoT, hbT⟩; have t0 := (hbT.cell (p := ⟨w0.heap.size, 0, none⟩) (by show w0.heap.size < wa.heap.size; omega)).trans d0; have t1 := (hbT.cell (p := ⟨w0.heap.size, 1, none⟩) (by show w0.heap.size < wa.heap.size; omega)).trans d1))
  all_goals (
    replace ho : OwnI w2 wa.heap.size w2.heap.size uw0 y0 := ⟨ho.own.mono (by have h1 := hbT.size; have h2 := hbM.size; show wa.heap.size ≤ _; exact Nat.le_trans h1 h2), ho.lt⟩
    replace hb : Below wa.heap.size wa w2 := hd.trans ((hbT.trans (hbM.mono hbT.size)).trans (hb.mono (Nat.le_trans hbT.size hbM.size)))
    clear hoT hbT hbM d0 d1 t0 t1 HB hd
    have hs2 : wa.heap.size ≤ w2.heap.size := hb.size
    have H2 : Hid (RdBI w2 wa.heap.size (.slice A0 x0.length c0) x0 ∧ Below wa.heap.size wa w2 ∧ OwnI w2 wa.heap.size w2.heap.size uw0 y0) := Lib.hid ⟨(H0.out.1).below hb, (H0.out.2).trans hb, ho⟩
    clear hb ho H0
    go_wp2_with fail
    refine (toI _ x0 _ ((H2.out.1).rd (by omega)) hl0).mono ?_
    rintro e w3 ⟨ux0, rfl, ho, hb⟩
    have hs3 := hb.size
    have hq3_x0 : w2.heap.size ≤ w3.heap.size := hb.size
    have H3 : Hid (RdBI w3 wa.heap.size (.slice A0 x0.length c0) x0 ∧ Below wa.heap.size wa w3 ∧ OwnI w3 wa.heap.size w2.heap.size uw0 y0 ∧ OwnI w3 w2.heap.size w3.heap.size ux0 x0) := Lib.hid ⟨(H2.out.1).below (hb.mono (by omega)), (H2.out.2.1).trans (hb.mono (by omega)), (H2.out.2.2).below hb, ho⟩
    clear hb H2 ho
    have e0 := ((H3.out.2.1).cell (p := ⟨w0.heap.size, 0, none⟩) hgw).trans cb.1
    have e1 := ((H3.out.2.1).cell (p := ⟨w0.heap.size, 1, none⟩) hgw).trans cb.2
    go_wp2_with fail
    refine (toMove_any x1 x2 _).mono ?_
    rintro e w3m ⟨rfl, hbm⟩
    have hsm := hbm.size
    have HM3 := Lib.hid (And.intro ((H3.out.2.2.2).below hbm) (And.intro ((H3.out.2.1).trans (hbm.mono (by omega))) hbm)); clear hbm
    go_wp2_with fail
    refine (MoveDo_I _ x0 x1 x2 _ HM3.out.1.rd hl0 _ _ HR.out (HT.out.below HM3.out.2.1 hgl)).mono ?_
    rintro e w4 ⟨ug0, rfl, ho, hb⟩
    replace ho : OwnI w4 w3.heap.size w4.heap.size ug0 y0 := ⟨ho.own.mono hsm, ho.lt⟩
    replace hb : Below w3.heap.size w3 w4 := HM3.out.2.2.trans (hb.mono hsm)
    clear HM3 e0 e1
    have hs4 := hb.size
    have hq4_g0 : w3.heap.size ≤ w4.heap.size := hb.size
    have H4 : Hid (RdBI w4 wa.heap.size (.slice A0 x0.length c0) x0 ∧ Below wa.heap.size wa w4 ∧ OwnI w4 wa.heap.size w2.heap.size uw0 y0 ∧ OwnI w4 w2.heap.size w3.heap.size ux0 x0 ∧ OwnI w4 w3.heap.size w4.heap.size ug0 y0) := Lib.hid ⟨(H3.out.1).below (hb.mono (by omega)), (H3.out.2.1).trans (hb.mono (by omega)), (H3.out.2.2.1).below hb, (H3.out.2.2.2).below hb, ho⟩
    clear hb H3 ho
    go_wp2_with fail
    refine (eqI _ _ _ _ _ ((H4.out.2.2.2.2).rd) ((H4.out.2.2.1).rd) true (decide_eq_true rfl)).mono ?_
    rintro e w5 ⟨rfl, hb⟩
    have hs5 := hb.size
    have H5 : Hid (RdBI w5 wa.heap.size (.slice A0 x0.length c0) x0 ∧ Below wa.heap.size wa w5 ∧ OwnI w5 wa.heap.size w2.heap.size uw0 y0 ∧ OwnI w5 w2.heap.size w3.heap.size ux0 x0 ∧ OwnI w5 w3.heap.size w4.heap.size ug0 y0) := Lib.hid ⟨(H4.out.1).below (hb.mono (by omega)), (H4.out.2.1).trans (hb.mono (by omega)), (H4.out.2.2.1).below hb, (H4.out.2.2.2.1).below hb, (H4.out.2.2.2.2).below hb⟩
    clear hb H4
    go_wp2_with fail
    refine (toI _ x0 _ ((H5.out.1).rd (by omega)) hl0).mono ?_
    rintro e w6 ⟨ut0, rfl, ho, hb⟩
    have hs6 := hb.size
    have hq6_t0 : w5.heap.size ≤ w6.heap.size := hb.size
    have H6 : Hid (RdBI w6 wa.heap.size (.slice A0 x0.length c0) x0 ∧ Below wa.heap.size wa w6 ∧ OwnI w6 wa.heap.size w2.heap.size uw0 y0 ∧ OwnI w6 w2.heap.size w3.heap.size ux0 x0 ∧ OwnI w6 w3.heap.size w4.heap.size ug0 y0 ∧ OwnI w6 w5.heap.size w6.heap.size ut0 x0) := Lib.hid ⟨(H5.out.1).below (hb.mono (by omega)), (H5.out.2.1).trans (hb.mono (by omega)), (H5.out.2.2.1).below hb, (H5.out.2.2.2.1).below hb, (H5.out.2.2.2.2).below hb, ho⟩
    clear hb H5 ho
    go_wp2_with fail
    refine (eqI _ _ _ _ _ ((H6.out.2.2.2.1).rd) ((H6.out.2.2.2.2.2).rd) true (decide_eq_true rfl)).mono ?_
    rintro e w7 ⟨rfl, hb⟩
    have hs7 := hb.size
    have H7 : Hid (RdBI w7 wa.heap.size (.slice A0 x0.length c0) x0 ∧ Below wa.heap.size wa w7 ∧ OwnI w7 wa.heap.size w2.heap.size uw0 y0 ∧ OwnI w7 w2.heap.size w3.heap.size ux0 x0 ∧ OwnI w7 w3.heap.size w4.heap.size ug0 y0 ∧ OwnI w7 w5.heap.size w6.heap.size ut0 x0) := Lib.hid ⟨(H6.out.1).below (hb.mono (by omega)), (H6.out.2.1).trans (hb.mono (by omega)), (H6.out.2.2.1).below hb, (H6.out.2.2.2.1).below hb, (H6.out.2.2.2.2.1).below hb, (H6.out.2.2.2.2.2).below hb⟩
    clear hb H6
    go_wp2_with fail
    refine (markI _ _ _ _ _ _ (by omega) (Nat.le_trans hl0 (by omega)) (H7.out.2.2.2.1)).mono ?_
    rintro e w8 ⟨rfl, ho, hb⟩
    have hs8 := hb.size
    have H8 : Hid (RdBI w8 wa.heap.size (.slice A0 x0.length c0) x0 ∧ Below wa.heap.size wa w8 ∧ OwnI w8 wa.heap.size w2.heap.size uw0 y0 ∧ OwnI w8 w2.heap.size w3.heap.size ux0 (mkI (1) x0) ∧ OwnI w8 w3.heap.size w4.heap.size ug0 y0 ∧ OwnI w8 w5.heap.size w6.heap.size ut0 x0) := Lib.hid ⟨(H7.out.1).below (hb.below (by omega) (by omega)), (H7.out.2.1).trans (hb.below (by omega) (by omega)), (H7.out.2.2.1).apart hb (by omega), ho, (H7.out.2.2.2.2.1).apart hb (by omega), (H7.out.2.2.2.2.2).apart hb (by omega)⟩
    clear hb H7 ho
    go_wp2_with fail
    refine (eqI _ _ _ _ _ ((H8.out.2.2.2.2.1).rd) ((H8.out.2.2.1).rd) true (decide_eq_true rfl)).mono ?_
    rintro e w9 ⟨rfl, hb⟩
    have hs9 := hb.size
    have H9 : Hid (RdBI w9 wa.heap.size (.slice A0 x0.length c0) x0 ∧ Below wa.heap.size wa w9 ∧ OwnI w9 wa.heap.size w2.heap.size uw0 y0 ∧ OwnI w9 w2.heap.size w3.heap.size ux0 (mkI (1) x0) ∧ OwnI w9 w3.heap.size w4.heap.size ug0 y0 ∧ OwnI w9 w5.heap.size w6.heap.size ut0 x0) := Lib.hid ⟨(H8.out.1).below (hb.mono (by omega)), (H8.out.2.1).trans (hb.mono (by omega)), (H8.out.2.2.1).below hb, (H8.out.2.2.2.1).below hb, (H8.out.2.2.2.2.1).below hb, (H8.out.2.2.2.2.2).below hb⟩
    clear hb H8
    go_wp2_with fail
    refine (markI _ _ _ _ _ _ (by omega) (Nat.le_trans Hy0.out (by omega)) (H9.out.2.2.2.2.1)).mono ?_
    rintro e w10 ⟨rfl, ho, hb⟩
    have hs10 := hb.size
    have H10 : Hid (RdBI w10 wa.heap.size (.slice A0 x0.length c0) x0 ∧ Below wa.heap.size wa w10 ∧ OwnI w10 wa.heap.size w2.heap.size uw0 y0 ∧ OwnI w10 w2.heap.size w3.heap.size ux0 (mkI (1) x0) ∧ OwnI w10 w3.heap.size w4.heap.size ug0 (mkI (1) y0) ∧ OwnI w10 w5.heap.size w6.heap.size ut0 x0) := Lib.hid ⟨(H9.out.1).below (hb.below (by omega) (by omega)), (H9.out.2.1).trans (hb.below (by omega) (by omega)), (H9.out.2.2.1).apart hb (by omega), (H9.out.2.2.2.1).apart hb (by omega), ho, (H9.out.2.2.2.2.2).apart hb (by omega)⟩
    clear hb H9 ho
    go_wp2_with fail
    refine (heldI _ y0 _ _ (by omega) (Nat.le_trans Hy0.out (by omega)) ((H10.out.2.2.2.2.1).rd)).mono ?_
    rintro e w11 ⟨rfl, hb⟩
    have hs11 := hb.size
    have H11 : Hid (RdBI w11 wa.heap.size (.slice A0 x0.length c0) x0 ∧ Below wa.heap.size wa w11 ∧ OwnI w11 wa.heap.size w2.heap.size uw0 y0 ∧ OwnI w11 w2.heap.size w3.heap.size ux0 (mkI (1) x0) ∧ OwnI w11 w3.heap.size w4.heap.size ug0 (mkI (1) y0) ∧ OwnI w11 w5.heap.size w6.heap.size ut0 x0) := Lib.hid ⟨(H10.out.1).below (hb.mono (by omega)), (H10.out.2.1).trans (hb.mono (by omega)), (H10.out.2.2.1).below hb, (H10.out.2.2.2.1).below hb, (H10.out.2.2.2.2.1).below hb, (H10.out.2.2.2.2.2).below hb⟩
    clear hb H10
    go_wp2_with fail
    have hd : Below w11.heap.size w11 w11.drew := (Below.refl _ _).drew
    have HB := Lib.hid (And.intro ((H11.out.1).below (hd.mono (by omega))) ((H11.out.2.1).trans (hd.mono (by omega))))
    have d0 := (HB.out.2.cell (p := ⟨w0.heap.size, 0, none⟩) hgw).trans cb.1
    have d1 := (HB.out.2.cell (p := ⟨w0.heap.size, 1, none⟩) hgw).trans cb.2
    go_region_with (first
      | (go_at_call 39; have hX := hbM; refine (MoveDo_I _ x0 x1 x2 _ ((hoT.below hbM).rd) hl0 _ _ HR.out (HT.out.below (HB.out.2.trans ((hbT.mono (by show _ ≤ w11.heap.size; omega)).trans (hbM.mono (by have := hbT.size; have h9 : w11.heap.size ≤ wT.heap.size := this; omega)))) hgl)).mono ?_; rintro e w13 ⟨uh0, rfl, ho, hb⟩)
      | (go_at_call 43; have hX := hbT; refine (toMove_any x1 x2 _).mono ?_; rintro e wM ⟨rfl, hbM⟩)
      | (go_at_call 42; refine (toI _ x0 _ (HB.out.1.rd (by show _ ≤ w11.heap.size; omega)) hl0).mono ?_; rintro e wT ⟨uT, rfl, hoT, hbT⟩; have t0 := (hbT.cell (p := ⟨w0.heap.size, 0, none⟩) (by show w0.heap.size < w11.heap.size; omega)).trans d0; have t1 := (hbT.cell (p := ⟨w0.heap.size, 1, none⟩) (by show w0.heap.size < w11.heap.size; omega)).trans d1))
    all_goals (
      replace ho : OwnI w13 w11.heap.size w13.heap.size uh0 y0 := ⟨ho.own.mono (by have h1 := hbT.size; have h2 := hbM.size; show w11.heap.size ≤ _; exact Nat.le_trans h1 h2), ho.lt⟩
      replace hb : Below w11.heap.size w11 w13 := hd.trans ((hbT.trans (hbM.mono hbT.size)).trans (hb.mono (Nat.le_trans hbT.size hbM.size)))
      clear hoT hbT hbM d0 d1 t0 t1 HB hd
      have hs13 : w11.heap.size ≤ w13.heap.size := hb.size
      have H13 : Hid (Below wa.heap.size wa w13 ∧ OwnI w13 wa.heap.size w2.heap.size uw0 y0 ∧ OwnI w13 w3.heap.size w4.heap.size ug0 (mkI (1) y0) ∧ OwnI w13 w11.heap.size w13.heap.size uh0 y0) := Lib.hid ⟨(H11.out.2.1).trans (hb.mono (by omega)), (H11.out.2.2.1).below hb, (H11.out.2.2.2.2.1).below hb, ho⟩
      clear hb ho H11
      go_wp2_with fail
      refine (eqI _ _ _ _ _ ((H13.out.2.2.2).rd) ((H13.out.2.1).rd) true (decide_eq_true rfl)).mono ?_
      rintro e w14 ⟨rfl, hb⟩
      have hs14 := hb.size
      have H14 := Lib.hid (And.intro ((H13.out.1).trans (hb.mono (by omega))) ((H13.out.2.2.1).below hb))
      clear hb H13
      go_wp2_with fail
      refine (heldI _ y0 _ _ (by omega) (Nat.le_trans Hy0.out (by omega)) ((H14.out.2).rd)).mono ?_
      rintro e w15 ⟨rfl, hb⟩
      have hs15 := hb.size
      have H15 := Lib.hid (BA.out.trans (((H14.out.1).trans (hb.mono (by omega))).mono (by omega)))
      clear hb H14
      go_wp2
      go_ret
      exact ⟨rfl, H15.out⟩))
theorem move_of_trod {H : Type} {enc : TypeId × Value → H} {W : World} {v : Value} {d : DataW H} {ps : List MemPlace} {base : Nat}
    (hval : Value.okWide Tryd.prog W .any base 56 v) (h : DataW.Trod enc Tryd.prog W 0 (fun _ => true) true 56 v d ps) : ∃ a b, v = .agg #[.int .i64 a, .int .i64 b] := by
  obtain ⟨v0, v1, y0, y1, n, rfl, _, _, h0, h1⟩ := Go.Joins.open_agg2 Tryd.underlying56 (by kernel_rfl) (by kernel_rfl) hval h
  obtain ⟨a, ha, _, _⟩ := DataW.trod_int Tryd.underlying3 h0
  obtain ⟨b, hb, _, _⟩ := DataW.trod_int Tryd.underlying3 h1
  obtain rfl : v0 = .int .i64 a := by simpa using ha
  obtain rfl : v1 = .int .i64 b := by simpa using hb
  exact ⟨a, b, rfl⟩
theorem exMoveDo_named : Tryd.prog.globalNamed "loop.example/stackwords/impl.ruleTakes" = some 0 := by kernel_rfl
theorem exMoveDo_type : (Tryd.prog.globals[0]?).map (·.type) = some 95 := by kernel_rfl

theorem exMoveDo_walk : LawWalkL 8 Tryd.f8 Rows.fnExactMoveDoRow.laid := by
  intro H enc W base args ds ps hval hA hL _
  rw [Tryd.params8] at hA hval
  obtain ⟨v0, v1, d0, d1, p0, p1, rfl, rfl, rfl, h0, h1⟩ := trodAll_two hA
  obtain ⟨A0, c0, zs0, rfl, hi0, hc0⟩ := ints_of_trod Tryd.underlying23 Tryd.underlying3 cells_int (hval 0 _ _ rfl rfl) h0
  obtain ⟨za1, zb1, rfl⟩ := move_of_trod (hval 1 _ _ rfl rfl) h1
  exact exMoveDo_any A0 c0 zs0 za1 zb1 W (RdI.mk hi0 hc0) (intTab_of_laid exMoveDo_named exMoveDo_type Tryd.underlying95 Tryd.underlying3 (by kernel_rfl) (by kernel_rfl) (zs := takesL) (List.mem_singleton.2 rfl) (by decide) hL)

noncomputable def exMoveDo_world (os : Os) : World :=
  { World.holding Tryd.prog os ⟨#[], #[], []⟩ with heap := (World.holding Tryd.prog os ⟨#[], #[], []⟩).heap.modify 0 fun
      | .cells _ t frozen => .cells (intVals takesL).toArray t frozen
      | o => o }
theorem exMoveDo_met (os : Os) : laidMet Tryd.prog Rows.fnExactMoveDoRow.laid ((exMoveDo_world os).forCall (fun _ _ => 0) ⟨#[], #[.slice none 0 0, .agg #[.int .i64 0, .int .i64 0]], []⟩).memory :=
  laidMet_of_run' 8 (by kernel_rfl) (by kernel_rfl)
theorem exMoveDo_reads (os : Os) {H : Type} (enc : TypeId × Value → H) : ∃ places, DataW.whole enc Tryd.prog ((exMoveDo_world os).forCall (fun _ _ => 0) ⟨#[], #[.slice none 0 0, .agg #[.int .i64 0, .int .i64 0]], []⟩).memory Tryd.f8.params.toList Rows.fnExactMoveDoSpec.vars false #[.slice none 0 0, .agg #[.int .i64 0, .int .i64 0]].toList 8 = some ([.nil, .agg [.lit (.int .i64 0), .lit (.int .i64 0)]], [intData takesL], places) := by
  have h : (DataW.whole enc Tryd.prog ((exMoveDo_world os).forCall (fun _ _ => 0) ⟨#[], #[.slice none 0 0, .agg #[.int .i64 0, .int .i64 0]], []⟩).memory Tryd.f8.params.toList Rows.fnExactMoveDoSpec.vars false #[.slice none 0 0, .agg #[.int .i64 0, .int .i64 0]].toList 8).map (fun x => (x.1, x.2.1)) = some ([.nil, .agg [.lit (.int .i64 0), .lit (.int .i64 0)]], [intData takesL]) := by kernel_rfl
  obtain ⟨⟨a, b, c⟩, h1, h2⟩ := Option.map_eq_some_iff.1 h
  simp only [Prod.mk.injEq] at h2
  obtain ⟨rfl, rfl⟩ := h2
  exact ⟨c, h1⟩
theorem exMoveDo_readable : Tryd.prog.readableRec 95 = true ∧ 95 < Tryd.prog.types.size := ⟨by kernel_rfl, of_decide_eq_true (by kernel_rfl)⟩

set_option maxRecDepth 100000 in
theorem exMoveDo_lifted (os : Os) (started : os.Started) (H : Type) (enc : TypeId × Value → H) (F : Stop.Interp) :
    ReturnsInHanded {} Tryd.checked os 8 .any ((OpenSpec.ofChange Rows.fnExactMoveDoSpec).preRow enc Tryd.prog Tryd.f8 Rows.fnExactMoveDoRow.domain false Rows.fnExactMoveDoRow.laid) (((OpenSpec.ofChange Rows.fnExactMoveDoSpec).at F).post enc Tryd.prog Tryd.f8 false true false false) := by
  obtain ⟨places, hx⟩ := exMoveDo_reads os enc
  refine returnsInHanded_of_row (C := Tryd.checked) (s := OpenSpec.ofChange Rows.fnExactMoveDoSpec) own started (by kernel_rfl) Tryd.func8
    (witness_row_at (enc := enc) (C := Tryd.checked) false (exMoveDo_world os) #[.slice none 0 0, .agg #[.int .i64 0, .int .i64 0]] rfl (by kernel_rfl) (by kernel_rfl) (by kernel_rfl)
      (OpenSpec.preRow_of_cond 8 hx (by kernel_rfl) (fun k hk => by cases hk) (by kernel_rfl) (exMoveDo_met os))) ?_
  intro W base args ds gs before hval hW _ _ _ hL hsh _
  have hA := hW
  obtain ⟨p, q, hA, hV, _⟩ := hA
  refine (exMoveDo_walk H enc W base args ds p hval hA hL hsh).mono fun e W' ⟨he, hb⟩ => ⟨_, he, ?_⟩
  obtain ⟨g, t, cs, fuel, d, p', rfl, _⟩ := trodVars_one hV
  have hd := (trodAll_length hA).2
  match ds, hd with
  | [d0, d1], _ =>
    refine post_lawV (s := Rows.fnExactMoveDoSpec) laidOut hW (by kernel_rfl) ?_ rfl Tryd.underlying4 ⟨rfl, rfl, rfl⟩ hb
    intro n hn g t hg ht
    obtain rfl : n = "loop.example/stackwords/impl.ruleTakes" := by simpa [Rows.fnExactMoveDoSpec] using hn
    obtain rfl := Option.some.inj (exMoveDo_named.symm.trans hg)
    obtain rfl := Option.some.inj (exMoveDo_type.symm.trans ht)
    exact exMoveDo_readable

theorem exMoveDo_said : Rows.FnExactMoveDoSaid :=
  OpenClaim.holds_of_cond 8 Tryd.f8 rfl rfl rfl rfl rfl rfl rfl ⟨rfl, rfl, rfl, rfl, rfl⟩ rfl rfl rfl rfl rfl (by kernel_rfl) Tryd.func8 (by unfold joinedFacts; rw [pf_enter, pf_lifts, pf_make]; kernel_rfl)
    (of_decide_eq_true (by kernel_rfl)) (by unfold Func.isWrapper; first | (rw [if_pos (by decide +kernel)]; kernel_rfl) | (rw [if_neg (by decide +kernel)]; exact ⟨rfl, rfl⟩))
    (fun os started H enc _ F => by rw [OpenClaim.pre_eq_preRow]; exact exMoveDo_lifted os started H enc F)

theorem exMoveDo_plain (f : FuncId) (fn : Func) (hf : Tryd.pinned.checked.prog.funcNamed "loop.example/stackwords/laws.FnExactMoveDo" = some f) (hfn : Tryd.pinned.checked.prog.funcs[f]? = some fn) :
    false = Tryd.pinned.checked.prog.looks [] ∧ ∀ (j : Nat) t, fn.params[j]? = some t → Tryd.pinned.checked.prog.wantsStandIn t = false := by
  obtain rfl : f = 8 := Option.some.inj ((show Tryd.prog.funcNamed "loop.example/stackwords/laws.FnExactMoveDo" = some 8 by kernel_rfl).symm.trans hf) |>.symm
  obtain rfl : fn = Tryd.f8 := (Option.some.inj (Tryd.func8.symm.trans hfn)).symm
  refine ⟨by kernel_rfl, fun j t ht => ?_⟩
  rw [Tryd.params8] at ht
  have hm := Array.mem_of_getElem? ht
  simp only [List.mem_toArray, List.mem_cons, List.not_mem_nil, or_false] at hm
  rcases hm with rfl | rfl
  · exact (show Tryd.prog.wantsStandIn 23 = false by kernel_rfl)
  · exact (show Tryd.prog.wantsStandIn 56 = false by kernel_rfl)

/-- FnExactMoveDo: the card, as it is given. -/
theorem exMoveDo_card : Rows.FnExactMoveDoCardSaid :=
  Claim7.holds_tied_plain_at .later [] _ _ _ _ exMoveDo_said (fun _ h => by cases h) (by kernel_rfl) (fun _ h => by cases h) fnExactMoveDo_row_tie rfl ⟨rfl, rfl⟩ (by kernel_rfl) rfl exMoveDo_plain (by kernel_rfl)

end Go.Proofs.YtgiemajjmdjfkaaDoor
