/- StepOf answers at every argument as its model, leaves the argument as it was, and its answer owns its memory. For every input. -/
import Derived.Test.YtkdpfiaegimnlaaTs
import Derived.Test.YtkdpfiaegimnlaaTm
import Derived.Test.YtkdpfiaegimnlaaLs
import Derived.Test.YtkdpfiaegimnlaaLift
import Derived.Test.YtkdpfiaegimnlaaB6
import Derived.Deep.RegionWith
namespace Go.Proofs.Ytkdpfiaegimnlaa
set_option maxRecDepth 100000
open Go.RowKit Go.WideShapes Go.ChangeShapes

theorem RdBI_at {w : World} {v : Value} {zs : List Int} (h : RdI w v zs) : RdBI w w.heap.size v zs := h.at_
theorem RdBS_at {w : World} {v : Value} {zss : List (List Int)} (h : RdS w v zss) : RdBS w w.heap.size v zss := h.at_
theorem leftT_ok {r : List Int} {s : List (List Int)} (hq : ¬ leftT 1048576 r s < 0) : r.length ≤ 1048576 ∧ s.length ≤ 1048576 ∧ szS s ≤ 1048576 := by
  unfold leftT at hq
  split at hq
  · omega
  · have := leftS_ok hq; omega
theorem stepOfR_len (r : List Int) (s : List (List Int)) : (stepOfR r s).1.length ≤ r.length + 125 ∧ szS (stepOfR r s).2.1 ≤ 1000000 := by
  unfold stepOfR
  split
  · rename_i hc
    simp only [stateB, Bool.and_eq_true] at hc
    have hok : okS r s.reverse := ⟨hc.1, by rw [stackB_reverse]; exact hc.2⟩
    rcases hs : stepR r s.reverse with _ | x
    · simp [szS]
    · obtain ⟨h1, h2⟩ := stepR_ok hok hs
      obtain ⟨h3, h4⟩ := stackB_all h1.2
      refine ⟨h2, ?_⟩
      have := szS_200 (zss := x.2.reverse) (fun zs hz => Nat.le_trans (valueB_len (h4 zs (by simpa using hz))).2 (by omega))
      rw [List.length_reverse] at this
      dsimp only
      omega
  · simp [szS]
theorem StepOf_IB (v0 v1 : Value) (x0 : List Int) (x1 : List (List Int)) (w : World) (h0 : RdI w v0 x0) (hl0 : x0.length ≤ 1048576) (h1 : RdS w v1 x1) (_ : x1.length ≤ 1048576) (_ : szS x1 ≤ 1048576) (y0 : List Int) (y1 : List (List Int)) (y2 : Bool) (hR : stepOfR x0 x1 = (y0, y1, y2)) :
    Calls Try.prog 45 #[.agg #[v0, v1]] w (StPost w y0 y1 y2) := StepOf_I v0 v1 x0 x1 w h0 hl0 h1 y0 y1 y2 hR
theorem StepOf_SB (v0 v1 : Value) (x0 : List Int) (x1 : List (List Int)) (w : World) (h0 : RdI w v0 x0) (hl0 : x0.length ≤ 1048576) (h1 : RdS w v1 x1) (_ : x1.length ≤ 1048576) (_ : szS x1 ≤ 1048576) (y0 : List Int) (y1 : List (List Int)) (y2 : Bool) (hR : stepOfR x0 x1 = (y0, y1, y2)) :
    Calls Try.prog 43 #[.agg #[v0, v1]] w (SdPost w y0 y1 y2) := StepOf_S v0 v1 x0 x1 w h0 hl0 h1 y0 y1 y2 hR

set_option maxHeartbeats 4000000 in
theorem exStepOf_any (A0 : Option Addr) (c0 : Nat) (r : List Int) (A1 : Option Addr) (c1 : Nat) (s : List (List Int)) (w0 : World) (h0 : RdI w0 (.slice A0 r.length c0) r) (h1 : RdS w0 (.slice A1 s.length c1) s) :
    Calls Try.prog 10 #[.agg #[.slice A0 r.length c0, .slice A1 s.length c1]] w0 fun e w' => e = .returned (.bool true) ∧ Below w0.heap.size w0 w' := by
  have hb0 : Below w0.heap.size w0 (w0.alloc (.cells #[.slice A0 r.length c0, .slice A1 s.length c1] 56)) := (Below.refl _ _).alloc (Nat.le_refl _) _
  have S0 := Lib.hid (And.intro (h0.step hb0) (And.intro (h1.step hb0) hb0)); clear h0 h1 hb0
  by_cases hq : leftT 1048576 r s < 0
  · go_enter Try.func10, Try.ntmps10
    go_wp2_with fail
    refine (szT_any _ _ r s 1048576 _ S0.out.1 S0.out.2.1 (by omega)).mono ?_
    rintro e w1 ⟨rfl, hb⟩
    have X := Lib.hid (S0.out.2.2.trans (hb.mono (by simp))); clear hb
    go_wp2
    go_ret
    exact ⟨rfl, X.out⟩
  have hq2 := leftT_ok hq
  obtain ⟨hl, hn, hs⟩ := hq2
  rcases hR : stepOfR r s with ⟨y0, y1, y2⟩
  have hy := stepOfR_len r s
  rw [hR] at hy
  obtain ⟨hy0, hy1⟩ := hy
  dsimp only at hy0 hy1
  have HR := Lib.hid hR; clear hR
  have hbb : (y2 != y2) = false := by simp
  go_enter Try.func10, Try.ntmps10
  go_wp2_with fail
  refine (szT_any _ _ r s 1048576 _ S0.out.1 S0.out.2.1 (by omega)).mono ?_
  rintro e w1 ⟨rfl, hb⟩
  have hs1 : w0.heap.size + 1 ≤ w1.heap.size := by have := hb.size; simpa using this
  have H1 : Hid (RdBI w1 (w0.heap.size + 1) (.slice A0 r.length c0) r ∧ RdBS w1 (w0.heap.size + 1) (.slice A1 s.length c1) s ∧ Below w0.heap.size w0 w1 ∧ Blk w1 (w0.heap.size) #[.slice A0 r.length c0, .slice A1 s.length c1] 56) := Lib.hid ⟨by have h := RdBI.below (RdBI_at S0.out.1) hb; rw [World.size_alloc] at h; exact h, by have h := RdBS.below (RdBS_at S0.out.2.1) hb; rw [World.size_alloc] at h; exact h, S0.out.2.2.trans (hb.mono (by simp)), (Blk.new w0 #[.slice A0 r.length c0, .slice A1 s.length c1] 56).below hb (by simp)⟩
  clear hb S0
  obtain ⟨b1_1_0, b1_1_1, _, _⟩ := Blk.two (H1.out.2.2.2)
  have b1_1_lt := Blk.lt (H1.out.2.2.2)
  go_wp2_with fail
  refine (toT _ _ r s _ ((H1.out.1).rd (by omega)) ((H1.out.2.1).rd (by omega)) hl hn hs).mono ?_
  rintro e w2 ⟨u0, u1, tm, rfl, hm1_t, hm2_t, ho0, ho1, hb⟩
  obtain ⟨tA0, tc0, rfl, _⟩ := ho0.rd
  obtain ⟨tA1, tc1, rfl, _⟩ := ho1.rd
  have hs2 := hb.size
  have H2 : Hid (RdBI w2 (w0.heap.size + 1) (.slice A0 r.length c0) r ∧ RdBS w2 (w0.heap.size + 1) (.slice A1 s.length c1) s ∧ Below w0.heap.size w0 w2 ∧ Blk w2 (w0.heap.size) #[.slice A0 r.length c0, .slice A1 s.length c1] 56 ∧ OwnI w2 (w1.heap.size) (tm) (.slice tA0 r.length tc0) r ∧ OwnS w2 (tm) (w2.heap.size) (.slice tA1 s.length tc1) s) := Lib.hid ⟨(H1.out.1).below (hb.mono (by omega)), (H1.out.2.1).below (hb.mono (by omega)), (H1.out.2.2.1).trans (hb.mono (by omega)), (H1.out.2.2.2).below hb (by omega), ho0, ho1⟩
  clear hb H1
  clear b1_1_0 b1_1_1 b1_1_lt
  obtain ⟨b1_2_0, b1_2_1, _, _⟩ := Blk.two (H2.out.2.2.2.1)
  have b1_2_lt := Blk.lt (H2.out.2.2.2.1)
  clear ho0 ho1
  go_wp2_with fail
  refine (StepOf_SB _ _ r s _ ((H2.out.2.2.2.2.1).rd) hl ((H2.out.2.2.2.2.2).rd) hn hs y0 y1 y2 HR.out).mono ?_
  rintro e w3 ⟨u0, u1, rfl, hr0, hr1, hb⟩
  obtain ⟨wA0, wc0, rfl, _⟩ := id hr0
  obtain ⟨wA1, wc1, rfl, _⟩ := id hr1
  have ho0 := hr0.at_; have ho1 := hr1.at_; clear hr0 hr1
  have hs3 := hb.size
  have H3 : Hid (RdBI w3 (w0.heap.size + 1) (.slice A0 r.length c0) r ∧ RdBS w3 (w0.heap.size + 1) (.slice A1 s.length c1) s ∧ Below w0.heap.size w0 w3 ∧ Blk w3 (w0.heap.size) #[.slice A0 r.length c0, .slice A1 s.length c1] 56 ∧ OwnI w3 (w1.heap.size) (tm) (.slice tA0 r.length tc0) r ∧ OwnS w3 (tm) (w2.heap.size) (.slice tA1 s.length tc1) s ∧ RdBI w3 (w3.heap.size) (.slice wA0 y0.length wc0) y0 ∧ RdBS w3 (w3.heap.size) (.slice wA1 y1.length wc1) y1) := Lib.hid ⟨(H2.out.1).below (hb.mono (by omega)), (H2.out.2.1).below (hb.mono (by omega)), (H2.out.2.2.1).trans (hb.mono (by omega)), (H2.out.2.2.2.1).below hb (by omega), (H2.out.2.2.2.2.1).below hb, (H2.out.2.2.2.2.2).below hb, ho0, ho1⟩
  clear hb H2
  clear b1_2_0 b1_2_1 b1_2_lt
  obtain ⟨b1_3_0, b1_3_1, _, _⟩ := Blk.two (H3.out.2.2.2.1)
  have b1_3_lt := Blk.lt (H3.out.2.2.2.1)
  clear ho0 ho1
  go_wp2_with fail
  have hba : Below w3.heap.size w3 (w3.alloc (.cells #[.slice wA0 y0.length wc0, .slice wA1 y1.length wc1] 58)) := (Below.refl _ _).alloc (Nat.le_refl _) _
  have bx := Blk.new w3 #[.slice wA0 y0.length wc0, .slice wA1 y1.length wc1] 58
  refine (toT _ _ r s _ (((H3.out.1).below (hba.mono (by omega))).rd (by rw [World.size_alloc]; omega)) (((H3.out.2.1).below (hba.mono (by omega))).rd (by rw [World.size_alloc]; omega)) hl hn hs).mono ?_
  rintro e w4 ⟨u0, u1, xm, rfl, hm1_x, hm2_x, ho0, ho1, hb⟩
  obtain ⟨xA0, xc0, rfl, _⟩ := ho0.rd
  obtain ⟨xA1, xc1, rfl, _⟩ := ho1.rd
  rw [World.size_alloc] at hm1_x ho0
  have hs4 : w3.heap.size + 1 ≤ w4.heap.size := by have := hb.size; rw [World.size_alloc] at this; exact this
  replace bx := bx.below hb (by rw [World.size_alloc]; omega)
  replace hb : Below w3.heap.size w3 w4 := hba.trans (hb.mono (by rw [World.size_alloc]; omega))
  clear hba
  have H4 : Hid (RdBI w4 (w0.heap.size + 1) (.slice A0 r.length c0) r ∧ RdBS w4 (w0.heap.size + 1) (.slice A1 s.length c1) s ∧ Below w0.heap.size w0 w4 ∧ Blk w4 (w0.heap.size) #[.slice A0 r.length c0, .slice A1 s.length c1] 56 ∧ OwnI w4 (w1.heap.size) (tm) (.slice tA0 r.length tc0) r ∧ OwnS w4 (tm) (w2.heap.size) (.slice tA1 s.length tc1) s ∧ RdBI w4 (w3.heap.size) (.slice wA0 y0.length wc0) y0 ∧ RdBS w4 (w3.heap.size) (.slice wA1 y1.length wc1) y1 ∧ OwnI w4 (w3.heap.size + 1) (xm) (.slice xA0 r.length xc0) r ∧ OwnS w4 (xm) (w4.heap.size) (.slice xA1 s.length xc1) s ∧ Blk w4 (w3.heap.size) #[.slice wA0 y0.length wc0, .slice wA1 y1.length wc1] 58) := Lib.hid ⟨(H3.out.1).below (hb.mono (by omega)), (H3.out.2.1).below (hb.mono (by omega)), (H3.out.2.2.1).trans (hb.mono (by omega)), (H3.out.2.2.2.1).below hb (by omega), (H3.out.2.2.2.2.1).below hb, (H3.out.2.2.2.2.2.1).below hb, (H3.out.2.2.2.2.2.2.1).below (hb.mono (by omega)), (H3.out.2.2.2.2.2.2.2).below (hb.mono (by omega)), ho0, ho1, bx⟩
  clear hb H3 bx
  clear b1_3_0 b1_3_1 b1_3_lt
  obtain ⟨b1_4_0, b1_4_1, _, _⟩ := Blk.two (H4.out.2.2.2.1)
  have b1_4_lt := Blk.lt (H4.out.2.2.2.1)
  obtain ⟨bw_4_0, bw_4_1, _, _⟩ := Blk.two (H4.out.2.2.2.2.2.2.2.2.2.2)
  have bw_4_lt := Blk.lt (H4.out.2.2.2.2.2.2.2.2.2.2)
  clear ho0 ho1
  go_wp2_with fail
  have hba : Below w4.heap.size w4 (w4.alloc (.cells #[.slice xA0 r.length xc0, .slice xA1 s.length xc1] 58)) := (Below.refl _ _).alloc (Nat.le_refl _) _
  have bx := Blk.new w4 #[.slice xA0 r.length xc0, .slice xA1 s.length xc1] 58
  refine (StepOf_IB _ _ r s _ (((H4.out.2.2.2.2.2.2.2.2.1).below hba).rd) hl (((H4.out.2.2.2.2.2.2.2.2.2.1).below hba).rd) hn hs y0 y1 y2 HR.out).mono ?_
  rintro e w5 ⟨u0, u1, gm, rfl, hm1_g, hm2_g, ho0, ho1, hb⟩
  obtain ⟨gA0, gc0, rfl, _⟩ := ho0.rd
  obtain ⟨gA1, gc1, rfl, _⟩ := ho1.rd
  rw [World.size_alloc] at hm1_g ho0
  have hs5 : w4.heap.size + 1 ≤ w5.heap.size := by have := hb.size; rw [World.size_alloc] at this; exact this
  replace bx := bx.below hb (by rw [World.size_alloc]; omega)
  replace hb : Below w4.heap.size w4 w5 := hba.trans (hb.mono (by rw [World.size_alloc]; omega))
  clear hba
  have H5 : Hid (RdBI w5 (w0.heap.size + 1) (.slice A0 r.length c0) r ∧ RdBS w5 (w0.heap.size + 1) (.slice A1 s.length c1) s ∧ Below w0.heap.size w0 w5 ∧ Blk w5 (w0.heap.size) #[.slice A0 r.length c0, .slice A1 s.length c1] 56 ∧ OwnI w5 (w1.heap.size) (tm) (.slice tA0 r.length tc0) r ∧ OwnS w5 (tm) (w2.heap.size) (.slice tA1 s.length tc1) s ∧ RdBI w5 (w3.heap.size) (.slice wA0 y0.length wc0) y0 ∧ RdBS w5 (w3.heap.size) (.slice wA1 y1.length wc1) y1 ∧ OwnI w5 (w3.heap.size + 1) (xm) (.slice xA0 r.length xc0) r ∧ OwnS w5 (xm) (w4.heap.size) (.slice xA1 s.length xc1) s ∧ Blk w5 (w3.heap.size) #[.slice wA0 y0.length wc0, .slice wA1 y1.length wc1] 58 ∧ OwnI w5 (w4.heap.size + 1) (gm) (.slice gA0 y0.length gc0) y0 ∧ OwnS w5 (gm) (w5.heap.size) (.slice gA1 y1.length gc1) y1 ∧ Blk w5 (w4.heap.size) #[.slice xA0 r.length xc0, .slice xA1 s.length xc1] 58) := Lib.hid ⟨(H4.out.1).below (hb.mono (by omega)), (H4.out.2.1).below (hb.mono (by omega)), (H4.out.2.2.1).trans (hb.mono (by omega)), (H4.out.2.2.2.1).below hb (by omega), (H4.out.2.2.2.2.1).below hb, (H4.out.2.2.2.2.2.1).below hb, (H4.out.2.2.2.2.2.2.1).below (hb.mono (by omega)), (H4.out.2.2.2.2.2.2.2.1).below (hb.mono (by omega)), (H4.out.2.2.2.2.2.2.2.2.1).below hb, (H4.out.2.2.2.2.2.2.2.2.2.1).below hb, (H4.out.2.2.2.2.2.2.2.2.2.2).below hb (by omega), ho0, ho1, bx⟩
  clear hb H4 bx
  clear b1_4_0 b1_4_1 b1_4_lt bw_4_0 bw_4_1 bw_4_lt
  obtain ⟨b1_5_0, b1_5_1, _, _⟩ := Blk.two (H5.out.2.2.2.1)
  have b1_5_lt := Blk.lt (H5.out.2.2.2.1)
  obtain ⟨bw_5_0, bw_5_1, _, _⟩ := Blk.two (H5.out.2.2.2.2.2.2.2.2.2.2.1)
  have bw_5_lt := Blk.lt (H5.out.2.2.2.2.2.2.2.2.2.2.1)
  obtain ⟨bx_5_0, bx_5_1, _, _⟩ := Blk.two (H5.out.2.2.2.2.2.2.2.2.2.2.2.2.2)
  have bx_5_lt := Blk.lt (H5.out.2.2.2.2.2.2.2.2.2.2.2.2.2)
  clear ho0 ho1
  go_wp2_with fail
  have hba : Below w5.heap.size w5 (w5.alloc (.cells #[.slice gA0 y0.length gc0, .slice gA1 y1.length gc1] 58)) := (Below.refl _ _).alloc (Nat.le_refl _) _
  have bx := Blk.new w5 #[.slice gA0 y0.length gc0, .slice gA1 y1.length gc1] 58
  refine (eqT _ _ _ _ y0 y0 y1 y1 _ (((H5.out.2.2.2.2.2.2.2.2.2.2.2.1).below hba).rd) (((H5.out.2.2.2.2.2.2.2.2.2.2.2.2.1).below hba).rd) (((H5.out.2.2.2.2.2.2.1).below (hba.mono (by omega))).rd (by rw [World.size_alloc]; omega)) (((H5.out.2.2.2.2.2.2.2.1).below (hba.mono (by omega))).rd (by rw [World.size_alloc]; omega)) true (by simp)).mono ?_
  rintro e w6 ⟨rfl, hb⟩
  have hs6 : w5.heap.size + 1 ≤ w6.heap.size := by have := hb.size; rw [World.size_alloc] at this; exact this
  replace bx := bx.below hb (by rw [World.size_alloc]; omega)
  replace hb : Below w5.heap.size w5 w6 := hba.trans (hb.mono (by rw [World.size_alloc]; omega))
  clear hba
  have H6 : Hid (RdBI w6 (w0.heap.size + 1) (.slice A0 r.length c0) r ∧ RdBS w6 (w0.heap.size + 1) (.slice A1 s.length c1) s ∧ Below w0.heap.size w0 w6 ∧ Blk w6 (w0.heap.size) #[.slice A0 r.length c0, .slice A1 s.length c1] 56 ∧ OwnI w6 (w1.heap.size) (tm) (.slice tA0 r.length tc0) r ∧ OwnS w6 (tm) (w2.heap.size) (.slice tA1 s.length tc1) s ∧ RdBI w6 (w3.heap.size) (.slice wA0 y0.length wc0) y0 ∧ RdBS w6 (w3.heap.size) (.slice wA1 y1.length wc1) y1 ∧ OwnI w6 (w3.heap.size + 1) (xm) (.slice xA0 r.length xc0) r ∧ OwnS w6 (xm) (w4.heap.size) (.slice xA1 s.length xc1) s ∧ Blk w6 (w3.heap.size) #[.slice wA0 y0.length wc0, .slice wA1 y1.length wc1] 58 ∧ OwnI w6 (w4.heap.size + 1) (gm) (.slice gA0 y0.length gc0) y0 ∧ OwnS w6 (gm) (w5.heap.size) (.slice gA1 y1.length gc1) y1 ∧ Blk w6 (w4.heap.size) #[.slice xA0 r.length xc0, .slice xA1 s.length xc1] 58 ∧ Blk w6 (w5.heap.size) #[.slice gA0 y0.length gc0, .slice gA1 y1.length gc1] 58) := Lib.hid ⟨(H5.out.1).below (hb.mono (by omega)), (H5.out.2.1).below (hb.mono (by omega)), (H5.out.2.2.1).trans (hb.mono (by omega)), (H5.out.2.2.2.1).below hb (by omega), (H5.out.2.2.2.2.1).below hb, (H5.out.2.2.2.2.2.1).below hb, (H5.out.2.2.2.2.2.2.1).below (hb.mono (by omega)), (H5.out.2.2.2.2.2.2.2.1).below (hb.mono (by omega)), (H5.out.2.2.2.2.2.2.2.2.1).below hb, (H5.out.2.2.2.2.2.2.2.2.2.1).below hb, (H5.out.2.2.2.2.2.2.2.2.2.2.1).below hb (by omega), (H5.out.2.2.2.2.2.2.2.2.2.2.2.1).below hb, (H5.out.2.2.2.2.2.2.2.2.2.2.2.2.1).below hb, (H5.out.2.2.2.2.2.2.2.2.2.2.2.2.2).below hb (by omega), bx⟩
  clear hb H5 bx
  clear b1_5_0 b1_5_1 b1_5_lt bw_5_0 bw_5_1 bw_5_lt bx_5_0 bx_5_1 bx_5_lt
  obtain ⟨b1_6_0, b1_6_1, _, _⟩ := Blk.two (H6.out.2.2.2.1)
  have b1_6_lt := Blk.lt (H6.out.2.2.2.1)
  obtain ⟨bw_6_0, bw_6_1, _, _⟩ := Blk.two (H6.out.2.2.2.2.2.2.2.2.2.2.1)
  have bw_6_lt := Blk.lt (H6.out.2.2.2.2.2.2.2.2.2.2.1)
  obtain ⟨bx_6_0, bx_6_1, _, _⟩ := Blk.two (H6.out.2.2.2.2.2.2.2.2.2.2.2.2.2.1)
  have bx_6_lt := Blk.lt (H6.out.2.2.2.2.2.2.2.2.2.2.2.2.2.1)
  obtain ⟨bg_6_0, bg_6_1, _, _⟩ := Blk.two (H6.out.2.2.2.2.2.2.2.2.2.2.2.2.2.2)
  have bg_6_lt := Blk.lt (H6.out.2.2.2.2.2.2.2.2.2.2.2.2.2.2)
  go_wp2_with fail
  have hd : Below w6.heap.size w6 w6.drew := (Below.refl _ _).drew
  have HZ : Hid (w6.drew.heap.size = w6.heap.size) := Lib.hid rfl
  go_region_with (first
    | (go_at_call 44; refine (toT _ _ r s _ (((H6.out.1).below (hd.mono (by omega))).rd (by rw [HZ.out]; omega)) (((H6.out.2.1).below (hd.mono (by omega))).rd (by rw [HZ.out]; omega)) hl hn hs).mono ?_; rintro e wA ⟨q0, q1, mA, rfl, hmA1, hmA2, hoA0, hoA1, hbA⟩; obtain ⟨x60, x61, _, _⟩ := Blk.two (((H6.out.2.2.2.2.2.2.2.2.2.2.2.2.2.1).below hd (by omega)).below hbA (by rw [HZ.out]; omega)); obtain ⟨C0, e0, rfl, _⟩ := hoA0.rd; obtain ⟨C1, e1, rfl, _⟩ := hoA1.rd)
    | (go_at_call 46; refine (eqT _ _ _ _ r r s s _ (((H6.out.2.2.2.2.2.2.2.2.1).below hd).below hbA).rd (((H6.out.2.2.2.2.2.2.2.2.2.1).below hd).below hbA).rd hoA0.rd hoA1.rd true (by simp)).mono ?_; rintro e w7 ⟨rfl, hbB⟩))
  all_goals (
    have hb : Below w6.heap.size w6 w7 := hd.trans ((hbA.mono (by rw [HZ.out]; omega)).trans (hbB.mono (by have := hbA.size; rw [HZ.out] at this; omega)))
    clear hbA hbB hoA0 hoA1 hmA1 hmA2 hd HZ x60 x61
    have hs7 := hb.size
    have H7 : Hid (RdBI w7 (w0.heap.size + 1) (.slice A0 r.length c0) r ∧ RdBS w7 (w0.heap.size + 1) (.slice A1 s.length c1) s ∧ Below w0.heap.size w0 w7 ∧ Blk w7 (w0.heap.size) #[.slice A0 r.length c0, .slice A1 s.length c1] 56 ∧ RdBI w7 (w3.heap.size) (.slice wA0 y0.length wc0) y0 ∧ RdBS w7 (w3.heap.size) (.slice wA1 y1.length wc1) y1 ∧ OwnI w7 (w3.heap.size + 1) (xm) (.slice xA0 r.length xc0) r ∧ OwnS w7 (xm) (w4.heap.size) (.slice xA1 s.length xc1) s ∧ Blk w7 (w3.heap.size) #[.slice wA0 y0.length wc0, .slice wA1 y1.length wc1] 58 ∧ OwnI w7 (w4.heap.size + 1) (gm) (.slice gA0 y0.length gc0) y0 ∧ OwnS w7 (gm) (w5.heap.size) (.slice gA1 y1.length gc1) y1 ∧ Blk w7 (w4.heap.size) #[.slice xA0 r.length xc0, .slice xA1 s.length xc1] 58 ∧ Blk w7 (w5.heap.size) #[.slice gA0 y0.length gc0, .slice gA1 y1.length gc1] 58) := Lib.hid ⟨(H6.out.1).below (hb.mono (by omega)), (H6.out.2.1).below (hb.mono (by omega)), (H6.out.2.2.1).trans (hb.mono (by omega)), (H6.out.2.2.2.1).below hb (by omega), (H6.out.2.2.2.2.2.2.1).below (hb.mono (by omega)), (H6.out.2.2.2.2.2.2.2.1).below (hb.mono (by omega)), (H6.out.2.2.2.2.2.2.2.2.1).below hb, (H6.out.2.2.2.2.2.2.2.2.2.1).below hb, (H6.out.2.2.2.2.2.2.2.2.2.2.1).below hb (by omega), (H6.out.2.2.2.2.2.2.2.2.2.2.2.1).below hb, (H6.out.2.2.2.2.2.2.2.2.2.2.2.2.1).below hb, (H6.out.2.2.2.2.2.2.2.2.2.2.2.2.2.1).below hb (by omega), (H6.out.2.2.2.2.2.2.2.2.2.2.2.2.2.2).below hb (by omega)⟩
    clear hb H6
    clear b1_6_0 b1_6_1 b1_6_lt bw_6_0 bw_6_1 bw_6_lt bx_6_0 bx_6_1 bx_6_lt bg_6_0 bg_6_1 bg_6_lt
    obtain ⟨b1_7_0, b1_7_1, _, _⟩ := Blk.two (H7.out.2.2.2.1)
    have b1_7_lt := Blk.lt (H7.out.2.2.2.1)
    obtain ⟨bw_7_0, bw_7_1, _, _⟩ := Blk.two (H7.out.2.2.2.2.2.2.2.2.1)
    have bw_7_lt := Blk.lt (H7.out.2.2.2.2.2.2.2.2.1)
    obtain ⟨bx_7_0, bx_7_1, _, _⟩ := Blk.two (H7.out.2.2.2.2.2.2.2.2.2.2.2.1)
    have bx_7_lt := Blk.lt (H7.out.2.2.2.2.2.2.2.2.2.2.2.1)
    obtain ⟨bg_7_0, bg_7_1, _, _⟩ := Blk.two (H7.out.2.2.2.2.2.2.2.2.2.2.2.2)
    have bg_7_lt := Blk.lt (H7.out.2.2.2.2.2.2.2.2.2.2.2.2)
    go_wp2_with fail
    refine (markT _ _ _ _ 1 _ _ _ _ (by omega) (by unfold szI; omega) (by omega) (H7.out.2.2.2.2.2.2.1) (H7.out.2.2.2.2.2.2.2.1) (by omega) (by omega) (by omega)).mono ?_
    rintro e w8 ⟨rfl, ho0, ho1, hb⟩
    have hs8 := hb.size
    have H8 : Hid (RdBI w8 (w0.heap.size + 1) (.slice A0 r.length c0) r ∧ RdBS w8 (w0.heap.size + 1) (.slice A1 s.length c1) s ∧ Below w0.heap.size w0 w8 ∧ Blk w8 (w0.heap.size) #[.slice A0 r.length c0, .slice A1 s.length c1] 56 ∧ RdBI w8 (w3.heap.size) (.slice wA0 y0.length wc0) y0 ∧ RdBS w8 (w3.heap.size) (.slice wA1 y1.length wc1) y1 ∧ OwnI w8 (w3.heap.size + 1) (xm) (.slice xA0 r.length xc0) (mkI 1 r) ∧ OwnS w8 (xm) (w4.heap.size) (.slice xA1 s.length xc1) (mkS (1 + (r.length : Int)) s) ∧ Blk w8 (w3.heap.size) #[.slice wA0 y0.length wc0, .slice wA1 y1.length wc1] 58 ∧ OwnI w8 (w4.heap.size + 1) (gm) (.slice gA0 y0.length gc0) y0 ∧ OwnS w8 (gm) (w5.heap.size) (.slice gA1 y1.length gc1) y1 ∧ Blk w8 (w4.heap.size) #[.slice xA0 r.length xc0, .slice xA1 s.length xc1] 58 ∧ Blk w8 (w5.heap.size) #[.slice gA0 y0.length gc0, .slice gA1 y1.length gc1] 58) := Lib.hid ⟨(H7.out.1).below (hb.below (by omega) (by omega)), (H7.out.2.1).below (hb.below (by omega) (by omega)), (H7.out.2.2.1).trans (hb.below (by omega) (by omega)), (H7.out.2.2.2.1).apart hb (by omega), (H7.out.2.2.2.2.1).below (hb.below (by omega) (by omega)), (H7.out.2.2.2.2.2.1).below (hb.below (by omega) (by omega)), ho0, ho1, (H7.out.2.2.2.2.2.2.2.2.1).apart hb (by omega), (H7.out.2.2.2.2.2.2.2.2.2.1).apart hb (by omega), (H7.out.2.2.2.2.2.2.2.2.2.2.1).apart hb (by omega), (H7.out.2.2.2.2.2.2.2.2.2.2.2.1).apart hb (by omega), (H7.out.2.2.2.2.2.2.2.2.2.2.2.2).apart hb (by omega)⟩
    clear hb H7 ho0 ho1
    clear b1_7_0 b1_7_1 b1_7_lt bw_7_0 bw_7_1 bw_7_lt bx_7_0 bx_7_1 bx_7_lt bg_7_0 bg_7_1 bg_7_lt
    obtain ⟨b1_8_0, b1_8_1, _, _⟩ := Blk.two (H8.out.2.2.2.1)
    have b1_8_lt := Blk.lt (H8.out.2.2.2.1)
    obtain ⟨bw_8_0, bw_8_1, _, _⟩ := Blk.two (H8.out.2.2.2.2.2.2.2.2.1)
    have bw_8_lt := Blk.lt (H8.out.2.2.2.2.2.2.2.2.1)
    obtain ⟨bx_8_0, bx_8_1, _, _⟩ := Blk.two (H8.out.2.2.2.2.2.2.2.2.2.2.2.1)
    have bx_8_lt := Blk.lt (H8.out.2.2.2.2.2.2.2.2.2.2.2.1)
    obtain ⟨bg_8_0, bg_8_1, _, _⟩ := Blk.two (H8.out.2.2.2.2.2.2.2.2.2.2.2.2)
    have bg_8_lt := Blk.lt (H8.out.2.2.2.2.2.2.2.2.2.2.2.2)
    go_wp2_with fail
    refine (eqT _ _ _ _ y0 y0 y1 y1 _ ((H8.out.2.2.2.2.2.2.2.2.2.1).rd) ((H8.out.2.2.2.2.2.2.2.2.2.2.1).rd) ((H8.out.2.2.2.2.1).rd (by omega)) ((H8.out.2.2.2.2.2.1).rd (by omega)) true (by simp)).mono ?_
    rintro e w9 ⟨rfl, hb⟩
    have hs9 := hb.size
    have H9 : Hid (RdBI w9 (w0.heap.size + 1) (.slice A0 r.length c0) r ∧ RdBS w9 (w0.heap.size + 1) (.slice A1 s.length c1) s ∧ Below w0.heap.size w0 w9 ∧ Blk w9 (w0.heap.size) #[.slice A0 r.length c0, .slice A1 s.length c1] 56 ∧ RdBI w9 (w3.heap.size) (.slice wA0 y0.length wc0) y0 ∧ RdBS w9 (w3.heap.size) (.slice wA1 y1.length wc1) y1 ∧ OwnI w9 (w3.heap.size + 1) (xm) (.slice xA0 r.length xc0) (mkI 1 r) ∧ OwnS w9 (xm) (w4.heap.size) (.slice xA1 s.length xc1) (mkS (1 + (r.length : Int)) s) ∧ Blk w9 (w3.heap.size) #[.slice wA0 y0.length wc0, .slice wA1 y1.length wc1] 58 ∧ OwnI w9 (w4.heap.size + 1) (gm) (.slice gA0 y0.length gc0) y0 ∧ OwnS w9 (gm) (w5.heap.size) (.slice gA1 y1.length gc1) y1 ∧ Blk w9 (w4.heap.size) #[.slice xA0 r.length xc0, .slice xA1 s.length xc1] 58 ∧ Blk w9 (w5.heap.size) #[.slice gA0 y0.length gc0, .slice gA1 y1.length gc1] 58) := Lib.hid ⟨(H8.out.1).below (hb.mono (by omega)), (H8.out.2.1).below (hb.mono (by omega)), (H8.out.2.2.1).trans (hb.mono (by omega)), (H8.out.2.2.2.1).below hb (by omega), (H8.out.2.2.2.2.1).below (hb.mono (by omega)), (H8.out.2.2.2.2.2.1).below (hb.mono (by omega)), (H8.out.2.2.2.2.2.2.1).below hb, (H8.out.2.2.2.2.2.2.2.1).below hb, (H8.out.2.2.2.2.2.2.2.2.1).below hb (by omega), (H8.out.2.2.2.2.2.2.2.2.2.1).below hb, (H8.out.2.2.2.2.2.2.2.2.2.2.1).below hb, (H8.out.2.2.2.2.2.2.2.2.2.2.2.1).below hb (by omega), (H8.out.2.2.2.2.2.2.2.2.2.2.2.2).below hb (by omega)⟩
    clear hb H8
    clear b1_8_0 b1_8_1 b1_8_lt bw_8_0 bw_8_1 bw_8_lt bx_8_0 bx_8_1 bx_8_lt bg_8_0 bg_8_1 bg_8_lt
    obtain ⟨b1_9_0, b1_9_1, _, _⟩ := Blk.two (H9.out.2.2.2.1)
    have b1_9_lt := Blk.lt (H9.out.2.2.2.1)
    obtain ⟨bw_9_0, bw_9_1, _, _⟩ := Blk.two (H9.out.2.2.2.2.2.2.2.2.1)
    have bw_9_lt := Blk.lt (H9.out.2.2.2.2.2.2.2.2.1)
    obtain ⟨bx_9_0, bx_9_1, _, _⟩ := Blk.two (H9.out.2.2.2.2.2.2.2.2.2.2.2.1)
    have bx_9_lt := Blk.lt (H9.out.2.2.2.2.2.2.2.2.2.2.2.1)
    obtain ⟨bg_9_0, bg_9_1, _, _⟩ := Blk.two (H9.out.2.2.2.2.2.2.2.2.2.2.2.2)
    have bg_9_lt := Blk.lt (H9.out.2.2.2.2.2.2.2.2.2.2.2.2)
    go_wp2_with fail
    refine (markT _ _ _ _ 1 _ _ _ _ (by omega) (by unfold szI; omega) (by omega) (H9.out.2.2.2.2.2.2.2.2.2.1) (H9.out.2.2.2.2.2.2.2.2.2.2.1) (by omega) (by omega) (by omega)).mono ?_
    rintro e w10 ⟨rfl, ho0, ho1, hb⟩
    have hs10 := hb.size
    have H10 : Hid (RdBI w10 (w0.heap.size + 1) (.slice A0 r.length c0) r ∧ RdBS w10 (w0.heap.size + 1) (.slice A1 s.length c1) s ∧ Below w0.heap.size w0 w10 ∧ Blk w10 (w0.heap.size) #[.slice A0 r.length c0, .slice A1 s.length c1] 56 ∧ RdBI w10 (w3.heap.size) (.slice wA0 y0.length wc0) y0 ∧ RdBS w10 (w3.heap.size) (.slice wA1 y1.length wc1) y1 ∧ OwnI w10 (w3.heap.size + 1) (xm) (.slice xA0 r.length xc0) (mkI 1 r) ∧ OwnS w10 (xm) (w4.heap.size) (.slice xA1 s.length xc1) (mkS (1 + (r.length : Int)) s) ∧ Blk w10 (w3.heap.size) #[.slice wA0 y0.length wc0, .slice wA1 y1.length wc1] 58 ∧ OwnI w10 (w4.heap.size + 1) (gm) (.slice gA0 y0.length gc0) (mkI 1 y0) ∧ OwnS w10 (gm) (w5.heap.size) (.slice gA1 y1.length gc1) (mkS (1 + (y0.length : Int)) y1) ∧ Blk w10 (w4.heap.size) #[.slice xA0 r.length xc0, .slice xA1 s.length xc1] 58 ∧ Blk w10 (w5.heap.size) #[.slice gA0 y0.length gc0, .slice gA1 y1.length gc1] 58) := Lib.hid ⟨(H9.out.1).below (hb.below (by omega) (by omega)), (H9.out.2.1).below (hb.below (by omega) (by omega)), (H9.out.2.2.1).trans (hb.below (by omega) (by omega)), (H9.out.2.2.2.1).apart hb (by omega), (H9.out.2.2.2.2.1).below (hb.below (by omega) (by omega)), (H9.out.2.2.2.2.2.1).below (hb.below (by omega) (by omega)), (H9.out.2.2.2.2.2.2.1).apart hb (by omega), (H9.out.2.2.2.2.2.2.2.1).apart hb (by omega), (H9.out.2.2.2.2.2.2.2.2.1).apart hb (by omega), ho0, ho1, (H9.out.2.2.2.2.2.2.2.2.2.2.2.1).apart hb (by omega), (H9.out.2.2.2.2.2.2.2.2.2.2.2.2).apart hb (by omega)⟩
    clear hb H9 ho0 ho1
    clear b1_9_0 b1_9_1 b1_9_lt bw_9_0 bw_9_1 bw_9_lt bx_9_0 bx_9_1 bx_9_lt bg_9_0 bg_9_1 bg_9_lt
    obtain ⟨b1_10_0, b1_10_1, _, _⟩ := Blk.two (H10.out.2.2.2.1)
    have b1_10_lt := Blk.lt (H10.out.2.2.2.1)
    obtain ⟨bw_10_0, bw_10_1, _, _⟩ := Blk.two (H10.out.2.2.2.2.2.2.2.2.1)
    have bw_10_lt := Blk.lt (H10.out.2.2.2.2.2.2.2.2.1)
    obtain ⟨bx_10_0, bx_10_1, _, _⟩ := Blk.two (H10.out.2.2.2.2.2.2.2.2.2.2.2.1)
    have bx_10_lt := Blk.lt (H10.out.2.2.2.2.2.2.2.2.2.2.2.1)
    obtain ⟨bg_10_0, bg_10_1, _, _⟩ := Blk.two (H10.out.2.2.2.2.2.2.2.2.2.2.2.2)
    have bg_10_lt := Blk.lt (H10.out.2.2.2.2.2.2.2.2.2.2.2.2)
    go_wp2_with fail
    refine (heldT _ _ y0 y1 1 _ (by omega) (by unfold szI; omega) (by omega) ((H10.out.2.2.2.2.2.2.2.2.2.1).rd) ((H10.out.2.2.2.2.2.2.2.2.2.2.1).rd)).mono ?_
    rintro e w11 ⟨rfl, hb⟩
    have hs11 := hb.size
    have H11 : Hid (RdBI w11 (w0.heap.size + 1) (.slice A0 r.length c0) r ∧ RdBS w11 (w0.heap.size + 1) (.slice A1 s.length c1) s ∧ Below w0.heap.size w0 w11 ∧ Blk w11 (w0.heap.size) #[.slice A0 r.length c0, .slice A1 s.length c1] 56 ∧ RdBI w11 (w3.heap.size) (.slice wA0 y0.length wc0) y0 ∧ RdBS w11 (w3.heap.size) (.slice wA1 y1.length wc1) y1 ∧ OwnI w11 (w3.heap.size + 1) (xm) (.slice xA0 r.length xc0) (mkI 1 r) ∧ OwnS w11 (xm) (w4.heap.size) (.slice xA1 s.length xc1) (mkS (1 + (r.length : Int)) s) ∧ Blk w11 (w3.heap.size) #[.slice wA0 y0.length wc0, .slice wA1 y1.length wc1] 58 ∧ OwnI w11 (w4.heap.size + 1) (gm) (.slice gA0 y0.length gc0) (mkI 1 y0) ∧ OwnS w11 (gm) (w5.heap.size) (.slice gA1 y1.length gc1) (mkS (1 + (y0.length : Int)) y1) ∧ Blk w11 (w4.heap.size) #[.slice xA0 r.length xc0, .slice xA1 s.length xc1] 58 ∧ Blk w11 (w5.heap.size) #[.slice gA0 y0.length gc0, .slice gA1 y1.length gc1] 58) := Lib.hid ⟨(H10.out.1).below (hb.mono (by omega)), (H10.out.2.1).below (hb.mono (by omega)), (H10.out.2.2.1).trans (hb.mono (by omega)), (H10.out.2.2.2.1).below hb (by omega), (H10.out.2.2.2.2.1).below (hb.mono (by omega)), (H10.out.2.2.2.2.2.1).below (hb.mono (by omega)), (H10.out.2.2.2.2.2.2.1).below hb, (H10.out.2.2.2.2.2.2.2.1).below hb, (H10.out.2.2.2.2.2.2.2.2.1).below hb (by omega), (H10.out.2.2.2.2.2.2.2.2.2.1).below hb, (H10.out.2.2.2.2.2.2.2.2.2.2.1).below hb, (H10.out.2.2.2.2.2.2.2.2.2.2.2.1).below hb (by omega), (H10.out.2.2.2.2.2.2.2.2.2.2.2.2).below hb (by omega)⟩
    clear hb H10
    clear b1_10_0 b1_10_1 b1_10_lt bw_10_0 bw_10_1 bw_10_lt bx_10_0 bx_10_1 bx_10_lt bg_10_0 bg_10_1 bg_10_lt
    obtain ⟨b1_11_0, b1_11_1, _, _⟩ := Blk.two (H11.out.2.2.2.1)
    have b1_11_lt := Blk.lt (H11.out.2.2.2.1)
    obtain ⟨bw_11_0, bw_11_1, _, _⟩ := Blk.two (H11.out.2.2.2.2.2.2.2.2.1)
    have bw_11_lt := Blk.lt (H11.out.2.2.2.2.2.2.2.2.1)
    obtain ⟨bx_11_0, bx_11_1, _, _⟩ := Blk.two (H11.out.2.2.2.2.2.2.2.2.2.2.2.1)
    have bx_11_lt := Blk.lt (H11.out.2.2.2.2.2.2.2.2.2.2.2.1)
    obtain ⟨bg_11_0, bg_11_1, _, _⟩ := Blk.two (H11.out.2.2.2.2.2.2.2.2.2.2.2.2)
    have bg_11_lt := Blk.lt (H11.out.2.2.2.2.2.2.2.2.2.2.2.2)
    go_wp2_with fail
    refine (toT _ _ r s _ ((H11.out.1).rd (by omega)) ((H11.out.2.1).rd (by omega)) hl hn hs).mono ?_
    rintro e w12 ⟨u0, u1, zm, rfl, hm1_z, hm2_z, ho0, ho1, hb⟩
    obtain ⟨zA0, zc0, rfl, _⟩ := ho0.rd
    obtain ⟨zA1, zc1, rfl, _⟩ := ho1.rd
    have hs12 := hb.size
    have H12 : Hid (RdBI w12 (w0.heap.size + 1) (.slice A0 r.length c0) r ∧ RdBS w12 (w0.heap.size + 1) (.slice A1 s.length c1) s ∧ Below w0.heap.size w0 w12 ∧ Blk w12 (w0.heap.size) #[.slice A0 r.length c0, .slice A1 s.length c1] 56 ∧ RdBI w12 (w3.heap.size) (.slice wA0 y0.length wc0) y0 ∧ RdBS w12 (w3.heap.size) (.slice wA1 y1.length wc1) y1 ∧ OwnI w12 (w3.heap.size + 1) (xm) (.slice xA0 r.length xc0) (mkI 1 r) ∧ OwnS w12 (xm) (w4.heap.size) (.slice xA1 s.length xc1) (mkS (1 + (r.length : Int)) s) ∧ Blk w12 (w3.heap.size) #[.slice wA0 y0.length wc0, .slice wA1 y1.length wc1] 58 ∧ OwnI w12 (w4.heap.size + 1) (gm) (.slice gA0 y0.length gc0) (mkI 1 y0) ∧ OwnS w12 (gm) (w5.heap.size) (.slice gA1 y1.length gc1) (mkS (1 + (y0.length : Int)) y1) ∧ Blk w12 (w4.heap.size) #[.slice xA0 r.length xc0, .slice xA1 s.length xc1] 58 ∧ Blk w12 (w5.heap.size) #[.slice gA0 y0.length gc0, .slice gA1 y1.length gc1] 58 ∧ OwnI w12 (w11.heap.size) (zm) (.slice zA0 r.length zc0) r ∧ OwnS w12 (zm) (w12.heap.size) (.slice zA1 s.length zc1) s) := Lib.hid ⟨(H11.out.1).below (hb.mono (by omega)), (H11.out.2.1).below (hb.mono (by omega)), (H11.out.2.2.1).trans (hb.mono (by omega)), (H11.out.2.2.2.1).below hb (by omega), (H11.out.2.2.2.2.1).below (hb.mono (by omega)), (H11.out.2.2.2.2.2.1).below (hb.mono (by omega)), (H11.out.2.2.2.2.2.2.1).below hb, (H11.out.2.2.2.2.2.2.2.1).below hb, (H11.out.2.2.2.2.2.2.2.2.1).below hb (by omega), (H11.out.2.2.2.2.2.2.2.2.2.1).below hb, (H11.out.2.2.2.2.2.2.2.2.2.2.1).below hb, (H11.out.2.2.2.2.2.2.2.2.2.2.2.1).below hb (by omega), (H11.out.2.2.2.2.2.2.2.2.2.2.2.2).below hb (by omega), ho0, ho1⟩
    clear hb H11
    clear b1_11_0 b1_11_1 b1_11_lt bw_11_0 bw_11_1 bw_11_lt bx_11_0 bx_11_1 bx_11_lt bg_11_0 bg_11_1 bg_11_lt
    obtain ⟨b1_12_0, b1_12_1, _, _⟩ := Blk.two (H12.out.2.2.2.1)
    have b1_12_lt := Blk.lt (H12.out.2.2.2.1)
    obtain ⟨bw_12_0, bw_12_1, _, _⟩ := Blk.two (H12.out.2.2.2.2.2.2.2.2.1)
    have bw_12_lt := Blk.lt (H12.out.2.2.2.2.2.2.2.2.1)
    obtain ⟨bx_12_0, bx_12_1, _, _⟩ := Blk.two (H12.out.2.2.2.2.2.2.2.2.2.2.2.1)
    have bx_12_lt := Blk.lt (H12.out.2.2.2.2.2.2.2.2.2.2.2.1)
    obtain ⟨bg_12_0, bg_12_1, _, _⟩ := Blk.two (H12.out.2.2.2.2.2.2.2.2.2.2.2.2.1)
    have bg_12_lt := Blk.lt (H12.out.2.2.2.2.2.2.2.2.2.2.2.2.1)
    clear ho0 ho1
    go_wp2_with fail
    refine (StepOf_IB _ _ r s _ ((H12.out.2.2.2.2.2.2.2.2.2.2.2.2.2.1).rd) hl ((H12.out.2.2.2.2.2.2.2.2.2.2.2.2.2.2).rd) hn hs y0 y1 y2 HR.out).mono ?_
    rintro e w13 ⟨u0, u1, hm, rfl, hm1_h, hm2_h, ho0, ho1, hb⟩
    obtain ⟨hA0, hc0, rfl, _⟩ := ho0.rd
    obtain ⟨hA1, hc1, rfl, _⟩ := ho1.rd
    have hs13 := hb.size
    have H13 : Hid (RdBI w13 (w0.heap.size + 1) (.slice A0 r.length c0) r ∧ RdBS w13 (w0.heap.size + 1) (.slice A1 s.length c1) s ∧ Below w0.heap.size w0 w13 ∧ Blk w13 (w0.heap.size) #[.slice A0 r.length c0, .slice A1 s.length c1] 56 ∧ RdBI w13 (w3.heap.size) (.slice wA0 y0.length wc0) y0 ∧ RdBS w13 (w3.heap.size) (.slice wA1 y1.length wc1) y1 ∧ OwnI w13 (w3.heap.size + 1) (xm) (.slice xA0 r.length xc0) (mkI 1 r) ∧ OwnS w13 (xm) (w4.heap.size) (.slice xA1 s.length xc1) (mkS (1 + (r.length : Int)) s) ∧ Blk w13 (w3.heap.size) #[.slice wA0 y0.length wc0, .slice wA1 y1.length wc1] 58 ∧ OwnI w13 (w4.heap.size + 1) (gm) (.slice gA0 y0.length gc0) (mkI 1 y0) ∧ OwnS w13 (gm) (w5.heap.size) (.slice gA1 y1.length gc1) (mkS (1 + (y0.length : Int)) y1) ∧ Blk w13 (w4.heap.size) #[.slice xA0 r.length xc0, .slice xA1 s.length xc1] 58 ∧ Blk w13 (w5.heap.size) #[.slice gA0 y0.length gc0, .slice gA1 y1.length gc1] 58 ∧ OwnI w13 (w11.heap.size) (zm) (.slice zA0 r.length zc0) r ∧ OwnS w13 (zm) (w12.heap.size) (.slice zA1 s.length zc1) s ∧ OwnI w13 (w12.heap.size) (hm) (.slice hA0 y0.length hc0) y0 ∧ OwnS w13 (hm) (w13.heap.size) (.slice hA1 y1.length hc1) y1) := Lib.hid ⟨(H12.out.1).below (hb.mono (by omega)), (H12.out.2.1).below (hb.mono (by omega)), (H12.out.2.2.1).trans (hb.mono (by omega)), (H12.out.2.2.2.1).below hb (by omega), (H12.out.2.2.2.2.1).below (hb.mono (by omega)), (H12.out.2.2.2.2.2.1).below (hb.mono (by omega)), (H12.out.2.2.2.2.2.2.1).below hb, (H12.out.2.2.2.2.2.2.2.1).below hb, (H12.out.2.2.2.2.2.2.2.2.1).below hb (by omega), (H12.out.2.2.2.2.2.2.2.2.2.1).below hb, (H12.out.2.2.2.2.2.2.2.2.2.2.1).below hb, (H12.out.2.2.2.2.2.2.2.2.2.2.2.1).below hb (by omega), (H12.out.2.2.2.2.2.2.2.2.2.2.2.2.1).below hb (by omega), (H12.out.2.2.2.2.2.2.2.2.2.2.2.2.2.1).below hb, (H12.out.2.2.2.2.2.2.2.2.2.2.2.2.2.2).below hb, ho0, ho1⟩
    clear hb H12
    clear b1_12_0 b1_12_1 b1_12_lt bw_12_0 bw_12_1 bw_12_lt bx_12_0 bx_12_1 bx_12_lt bg_12_0 bg_12_1 bg_12_lt
    obtain ⟨b1_13_0, b1_13_1, _, _⟩ := Blk.two (H13.out.2.2.2.1)
    have b1_13_lt := Blk.lt (H13.out.2.2.2.1)
    obtain ⟨bw_13_0, bw_13_1, _, _⟩ := Blk.two (H13.out.2.2.2.2.2.2.2.2.1)
    have bw_13_lt := Blk.lt (H13.out.2.2.2.2.2.2.2.2.1)
    obtain ⟨bx_13_0, bx_13_1, _, _⟩ := Blk.two (H13.out.2.2.2.2.2.2.2.2.2.2.2.1)
    have bx_13_lt := Blk.lt (H13.out.2.2.2.2.2.2.2.2.2.2.2.1)
    obtain ⟨bg_13_0, bg_13_1, _, _⟩ := Blk.two (H13.out.2.2.2.2.2.2.2.2.2.2.2.2.1)
    have bg_13_lt := Blk.lt (H13.out.2.2.2.2.2.2.2.2.2.2.2.2.1)
    clear ho0 ho1
    go_wp2_with fail
    have hba : Below w13.heap.size w13 (w13.alloc (.cells #[.slice hA0 y0.length hc0, .slice hA1 y1.length hc1] 58)) := (Below.refl _ _).alloc (Nat.le_refl _) _
    have bx := Blk.new w13 #[.slice hA0 y0.length hc0, .slice hA1 y1.length hc1] 58
    refine (eqT _ _ _ _ y0 y0 y1 y1 _ (((H13.out.2.2.2.2.2.2.2.2.2.2.2.2.2.2.2.1).below hba).rd) (((H13.out.2.2.2.2.2.2.2.2.2.2.2.2.2.2.2.2).below hba).rd) (((H13.out.2.2.2.2.1).below (hba.mono (by omega))).rd (by rw [World.size_alloc]; omega)) (((H13.out.2.2.2.2.2.1).below (hba.mono (by omega))).rd (by rw [World.size_alloc]; omega)) true (by simp)).mono ?_
    rintro e w14 ⟨rfl, hb⟩
    have hs14 : w13.heap.size + 1 ≤ w14.heap.size := by have := hb.size; rw [World.size_alloc] at this; exact this
    replace bx := bx.below hb (by rw [World.size_alloc]; omega)
    replace hb : Below w13.heap.size w13 w14 := hba.trans (hb.mono (by rw [World.size_alloc]; omega))
    clear hba
    have H14 : Hid (RdBI w14 (w0.heap.size + 1) (.slice A0 r.length c0) r ∧ RdBS w14 (w0.heap.size + 1) (.slice A1 s.length c1) s ∧ Below w0.heap.size w0 w14 ∧ Blk w14 (w0.heap.size) #[.slice A0 r.length c0, .slice A1 s.length c1] 56 ∧ RdBI w14 (w3.heap.size) (.slice wA0 y0.length wc0) y0 ∧ RdBS w14 (w3.heap.size) (.slice wA1 y1.length wc1) y1 ∧ OwnI w14 (w3.heap.size + 1) (xm) (.slice xA0 r.length xc0) (mkI 1 r) ∧ OwnS w14 (xm) (w4.heap.size) (.slice xA1 s.length xc1) (mkS (1 + (r.length : Int)) s) ∧ Blk w14 (w3.heap.size) #[.slice wA0 y0.length wc0, .slice wA1 y1.length wc1] 58 ∧ OwnI w14 (w4.heap.size + 1) (gm) (.slice gA0 y0.length gc0) (mkI 1 y0) ∧ OwnS w14 (gm) (w5.heap.size) (.slice gA1 y1.length gc1) (mkS (1 + (y0.length : Int)) y1) ∧ Blk w14 (w4.heap.size) #[.slice xA0 r.length xc0, .slice xA1 s.length xc1] 58 ∧ Blk w14 (w5.heap.size) #[.slice gA0 y0.length gc0, .slice gA1 y1.length gc1] 58 ∧ OwnI w14 (w11.heap.size) (zm) (.slice zA0 r.length zc0) r ∧ OwnS w14 (zm) (w12.heap.size) (.slice zA1 s.length zc1) s ∧ OwnI w14 (w12.heap.size) (hm) (.slice hA0 y0.length hc0) y0 ∧ OwnS w14 (hm) (w13.heap.size) (.slice hA1 y1.length hc1) y1 ∧ Blk w14 (w13.heap.size) #[.slice hA0 y0.length hc0, .slice hA1 y1.length hc1] 58) := Lib.hid ⟨(H13.out.1).below (hb.mono (by omega)), (H13.out.2.1).below (hb.mono (by omega)), (H13.out.2.2.1).trans (hb.mono (by omega)), (H13.out.2.2.2.1).below hb (by omega), (H13.out.2.2.2.2.1).below (hb.mono (by omega)), (H13.out.2.2.2.2.2.1).below (hb.mono (by omega)), (H13.out.2.2.2.2.2.2.1).below hb, (H13.out.2.2.2.2.2.2.2.1).below hb, (H13.out.2.2.2.2.2.2.2.2.1).below hb (by omega), (H13.out.2.2.2.2.2.2.2.2.2.1).below hb, (H13.out.2.2.2.2.2.2.2.2.2.2.1).below hb, (H13.out.2.2.2.2.2.2.2.2.2.2.2.1).below hb (by omega), (H13.out.2.2.2.2.2.2.2.2.2.2.2.2.1).below hb (by omega), (H13.out.2.2.2.2.2.2.2.2.2.2.2.2.2.1).below hb, (H13.out.2.2.2.2.2.2.2.2.2.2.2.2.2.2.1).below hb, (H13.out.2.2.2.2.2.2.2.2.2.2.2.2.2.2.2.1).below hb, (H13.out.2.2.2.2.2.2.2.2.2.2.2.2.2.2.2.2).below hb, bx⟩
    clear hb H13 bx
    clear b1_13_0 b1_13_1 b1_13_lt bw_13_0 bw_13_1 bw_13_lt bx_13_0 bx_13_1 bx_13_lt bg_13_0 bg_13_1 bg_13_lt
    obtain ⟨b1_14_0, b1_14_1, _, _⟩ := Blk.two (H14.out.2.2.2.1)
    have b1_14_lt := Blk.lt (H14.out.2.2.2.1)
    obtain ⟨bw_14_0, bw_14_1, _, _⟩ := Blk.two (H14.out.2.2.2.2.2.2.2.2.1)
    have bw_14_lt := Blk.lt (H14.out.2.2.2.2.2.2.2.2.1)
    obtain ⟨bx_14_0, bx_14_1, _, _⟩ := Blk.two (H14.out.2.2.2.2.2.2.2.2.2.2.2.1)
    have bx_14_lt := Blk.lt (H14.out.2.2.2.2.2.2.2.2.2.2.2.1)
    obtain ⟨bg_14_0, bg_14_1, _, _⟩ := Blk.two (H14.out.2.2.2.2.2.2.2.2.2.2.2.2.1)
    have bg_14_lt := Blk.lt (H14.out.2.2.2.2.2.2.2.2.2.2.2.2.1)
    obtain ⟨bh_14_0, bh_14_1, _, _⟩ := Blk.two (H14.out.2.2.2.2.2.2.2.2.2.2.2.2.2.2.2.2.2)
    have bh_14_lt := Blk.lt (H14.out.2.2.2.2.2.2.2.2.2.2.2.2.2.2.2.2.2)
    go_wp2_with fail
    refine (heldT _ _ y0 y1 1 _ (by omega) (by unfold szI; omega) (by omega) ((H14.out.2.2.2.2.2.2.2.2.2.1).rd) ((H14.out.2.2.2.2.2.2.2.2.2.2.1).rd)).mono ?_
    rintro e w15 ⟨rfl, hb⟩
    have hs15 := hb.size
    have H15 : Hid (RdBI w15 (w0.heap.size + 1) (.slice A0 r.length c0) r ∧ RdBS w15 (w0.heap.size + 1) (.slice A1 s.length c1) s ∧ Below w0.heap.size w0 w15 ∧ Blk w15 (w0.heap.size) #[.slice A0 r.length c0, .slice A1 s.length c1] 56 ∧ RdBI w15 (w3.heap.size) (.slice wA0 y0.length wc0) y0 ∧ RdBS w15 (w3.heap.size) (.slice wA1 y1.length wc1) y1 ∧ OwnI w15 (w3.heap.size + 1) (xm) (.slice xA0 r.length xc0) (mkI 1 r) ∧ OwnS w15 (xm) (w4.heap.size) (.slice xA1 s.length xc1) (mkS (1 + (r.length : Int)) s) ∧ Blk w15 (w3.heap.size) #[.slice wA0 y0.length wc0, .slice wA1 y1.length wc1] 58 ∧ OwnI w15 (w4.heap.size + 1) (gm) (.slice gA0 y0.length gc0) (mkI 1 y0) ∧ OwnS w15 (gm) (w5.heap.size) (.slice gA1 y1.length gc1) (mkS (1 + (y0.length : Int)) y1) ∧ Blk w15 (w4.heap.size) #[.slice xA0 r.length xc0, .slice xA1 s.length xc1] 58 ∧ Blk w15 (w5.heap.size) #[.slice gA0 y0.length gc0, .slice gA1 y1.length gc1] 58 ∧ OwnI w15 (w11.heap.size) (zm) (.slice zA0 r.length zc0) r ∧ OwnS w15 (zm) (w12.heap.size) (.slice zA1 s.length zc1) s ∧ OwnI w15 (w12.heap.size) (hm) (.slice hA0 y0.length hc0) y0 ∧ OwnS w15 (hm) (w13.heap.size) (.slice hA1 y1.length hc1) y1 ∧ Blk w15 (w13.heap.size) #[.slice hA0 y0.length hc0, .slice hA1 y1.length hc1] 58) := Lib.hid ⟨(H14.out.1).below (hb.mono (by omega)), (H14.out.2.1).below (hb.mono (by omega)), (H14.out.2.2.1).trans (hb.mono (by omega)), (H14.out.2.2.2.1).below hb (by omega), (H14.out.2.2.2.2.1).below (hb.mono (by omega)), (H14.out.2.2.2.2.2.1).below (hb.mono (by omega)), (H14.out.2.2.2.2.2.2.1).below hb, (H14.out.2.2.2.2.2.2.2.1).below hb, (H14.out.2.2.2.2.2.2.2.2.1).below hb (by omega), (H14.out.2.2.2.2.2.2.2.2.2.1).below hb, (H14.out.2.2.2.2.2.2.2.2.2.2.1).below hb, (H14.out.2.2.2.2.2.2.2.2.2.2.2.1).below hb (by omega), (H14.out.2.2.2.2.2.2.2.2.2.2.2.2.1).below hb (by omega), (H14.out.2.2.2.2.2.2.2.2.2.2.2.2.2.1).below hb, (H14.out.2.2.2.2.2.2.2.2.2.2.2.2.2.2.1).below hb, (H14.out.2.2.2.2.2.2.2.2.2.2.2.2.2.2.2.1).below hb, (H14.out.2.2.2.2.2.2.2.2.2.2.2.2.2.2.2.2.1).below hb, (H14.out.2.2.2.2.2.2.2.2.2.2.2.2.2.2.2.2.2).below hb (by omega)⟩
    clear hb H14
    clear b1_14_0 b1_14_1 b1_14_lt bw_14_0 bw_14_1 bw_14_lt bx_14_0 bx_14_1 bx_14_lt bg_14_0 bg_14_1 bg_14_lt bh_14_0 bh_14_1 bh_14_lt
    obtain ⟨b1_15_0, b1_15_1, _, _⟩ := Blk.two (H15.out.2.2.2.1)
    have b1_15_lt := Blk.lt (H15.out.2.2.2.1)
    obtain ⟨bw_15_0, bw_15_1, _, _⟩ := Blk.two (H15.out.2.2.2.2.2.2.2.2.1)
    have bw_15_lt := Blk.lt (H15.out.2.2.2.2.2.2.2.2.1)
    obtain ⟨bx_15_0, bx_15_1, _, _⟩ := Blk.two (H15.out.2.2.2.2.2.2.2.2.2.2.2.1)
    have bx_15_lt := Blk.lt (H15.out.2.2.2.2.2.2.2.2.2.2.2.1)
    obtain ⟨bg_15_0, bg_15_1, _, _⟩ := Blk.two (H15.out.2.2.2.2.2.2.2.2.2.2.2.2.1)
    have bg_15_lt := Blk.lt (H15.out.2.2.2.2.2.2.2.2.2.2.2.2.1)
    obtain ⟨bh_15_0, bh_15_1, _, _⟩ := Blk.two (H15.out.2.2.2.2.2.2.2.2.2.2.2.2.2.2.2.2.2)
    have bh_15_lt := Blk.lt (H15.out.2.2.2.2.2.2.2.2.2.2.2.2.2.2.2.2.2)
    go_wp2
    go_ret
    exact ⟨rfl, H15.out.2.2.1⟩)

theorem exStepOf_walk : LawWalk 10 Try.f10 := by
  intro H enc W base args ds ps hval hA
  rw [Try.params10] at hA hval
  obtain ⟨v0, d0, rfl, rfl, h0⟩ := trodAll_one hA
  obtain ⟨A0, c0, zs0, B0, d0, ss0, rfl, hi0, hj0⟩ := state_of_trod (hval 0 _ _ rfl rfl) h0
  exact exStepOf_any A0 c0 zs0 B0 d0 ss0 W hi0 hj0

set_option maxRecDepth 100000 in
theorem exStepOf_lifted (os : Os) (started : os.Started) (H : Type) (enc : TypeId × Value → H) :
    ReturnsInHanded {} Try.checked os 10 .any (Rows.fnExactStepOfSpec.pre6 enc Try.prog Try.f10 Rows.fnExactStepOfRow.domain false) (Rows.fnExactStepOfSpec.post enc Try.prog Try.f10 false true false false) := by
  refine returnsInHanded_of_change (C := Try.checked) own started (by kernel_rfl) Try.func10
    (ChangeSpec.witness6 (enc := enc) (C := Try.checked) false ⟨#[], #[.agg #[.slice none 0 0, .slice none 0 0]], []⟩ 8 (by kernel_rfl) (by kernel_rfl) (by kernel_rfl) (by kernel_rfl)) ?_
  intro W base args ds gs before hval hW _ _
  exact law_contract laidOut rfl (by kernel_rfl) rfl (fun H ds hd => by
    match ds, hd with
    | [d0], _ => exact ⟨rfl, rfl, rfl⟩) exStepOf_walk W base args ds gs before hval hW

/-- FnExactStepOf: the row as it is given. -/
theorem exStepOf_holds : Rows.FnExactStepOfSaid :=
  OpenClaim.holds_of_wide 10 Try.f10 rfl rfl rfl rfl rfl rfl rfl ⟨rfl, rfl, rfl, rfl, rfl⟩ rfl rfl rfl rfl rfl (by kernel_rfl) Try.func10 (by unfold joinedFacts; rw [pf_enter, pf_lifts, pf_make]; kernel_rfl)
    (of_decide_eq_true (by kernel_rfl)) (by unfold Func.isWrapper; first | (rw [if_pos (by decide +kernel)]; kernel_rfl) | (rw [if_neg (by decide +kernel)]; exact ⟨rfl, rfl⟩))
    (fun os started H enc _ => exStepOf_lifted os started H enc)

end Go.Proofs.Ytkdpfiaegimnlaa
