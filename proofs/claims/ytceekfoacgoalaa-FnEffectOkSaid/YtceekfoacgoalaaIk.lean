/- The draw DrawEffectOk. -/
import Derived.Test.YtceekfoacgoalaaIi
namespace Go.Proofs.Ytceekfoacgoalaa
set_option maxRecDepth 100000
open Go.RowKit Go.WideShapes Go.Deep

set_option maxHeartbeats 1000000 in
theorem DrawEffectOk_any (v : Value) (zs : List Int) (w : World) (h : RdC w v zs) : Calls Try.prog 7 #[v] w (DrawnE w) := by
  obtain ⟨W, hW⟩ : ∃ W, w.alloc (.cells #[.slice none 0 0, .slice none 0 0] 25) = W := ⟨_, rfl⟩
  have hbW : Below w.heap.size w W := by rw [← hW]; exact (Below.refl _ _).alloc (Nat.le_refl _) _
  have hz : W.heap.size = w.heap.size + 1 := by rw [← hW]; simp
  have kR : Blk W w.heap.size #[.slice none 0 0, .slice none 0 0] 25 := by rw [← hW]; exact Blk.new w _ _
  have H := Lib.hid (And.intro ((RdBC.below h hbW).rd hbW.size) (And.intro hbW kR)); clear h hbW kR
  go_enter Try.func7, Try.ntmps7
  go_wp2_with fail
  try rw [hW]
  refine (l20Open_any v zs W H.out.1).mono ?_
  rintro e w1 ⟨g, bs, rfl, hr, hg, hb⟩
  have hgl := hr.lt
  have hz1 := hb.size
  have X := Lib.hid (And.intro hr hb); clear hr hb
  go_wp2_with fail
  refine (pick w1 g 0 3 bs w1 (RS.refl X.out.1) (by omega) (by omega)).mono ?_
  rintro e w2 ⟨k, rfl, hk0, hk1, hr2, hg2⟩
  have hz2 := hg2.size
  have Y := Lib.hid (And.intro hr2 hg2); clear hr2 hg2
  by_cases hk : k = 0
  · subst hk
    go_wp2_with fail
    refine (rowV1 2 100000000000 (by omega) (by omega) w1 g 1 bs w2 Y.out.1 (by omega)).mono ?_
    rintro e w3 ⟨u0, a, p3, rfl, o3, hl3, hr3, hp3, hg3, _⟩
    have hz3 := hg3.size
    have T3 := Lib.hid (And.intro hr3 (And.intro (Y.out.2.trans hg3) o3)); clear hr3 hg3 o3
    go_wp2_with fail
    refine (rowV1 2 100000000000 (by omega) (by omega) w1 g p3 bs w3 T3.out.1 (by omega)).mono ?_
    rintro e w4 ⟨u1, b, p4, rfl, o4, hl4, hr4, hp4, hg4, _⟩
    have hz4 := hg4.size
    have hbb := below_of_within X.out.2 hg (T3.out.2.1.trans hg4)
    have Z := Lib.hid (And.intro (H.out.2.2.below hbb (by omega)) (And.intro (H.out.2.1.trans (hbb.mono (by omega))) (And.intro (T3.out.2.2.apart hg4 (.inr (by omega))).own (o4.own.mono hz3))))
    obtain ⟨A0, c0, rfl, _⟩ := T3.out.2.2.rd
    obtain ⟨A1, c1, rfl, _⟩ := o4.rd
    clear hbb hg4 o4 hr4 T3 Y X H
    have r0 := Z.out.1.cell 0
    have r1 := Z.out.1.cell 1
    have r2 := Z.out.1.free 0
    have r3 := Z.out.1.free 1
    simp only [List.getElem?_toArray, List.getElem?_cons_zero, List.getElem?_cons_succ] at r0 r1
    go_wp2
    have kq := (Z.out.1.set 0 (.slice A0 a.length c0)).set 1 (.slice A1 b.length c1)
    have q0 := kq.cell 0
    have q1 := kq.cell 1
    simp only [List.setIfInBounds_toArray, List.set_cons_zero, List.set_cons_succ, List.getElem?_toArray, List.getElem?_cons_zero, List.getElem?_cons_succ] at q0 q1
    refine bodyPost_ret (v := .agg #[.slice A0 a.length c0, .slice A1 b.length c1]) (by simp [results, Try.results7, go_sem, q0, q1]) rfl ?_
    exact drawn_e Z.out.2.2.1 Z.out.2.2.2 Z.out.1 (by omega) (by omega) Z.out.2.1
  · go_wp2_with fail
    refine (effect_any 4 w1 g 1 bs w2 (by omega) Y.out.1 (by omega)).mono ?_
    rintro e w3 ⟨u0, u1, a, b, p', rfl, h0, h1, hl0, hl1, _, _, hw⟩
    obtain ⟨A0, c0, rfl, _⟩ := h0.ints
    obtain ⟨A1, c1, rfl, _⟩ := h1.ints
    have hbb := below_of_within X.out.2 hg (Y.out.2.trans hw)
    have Z := Lib.hid (And.intro (H.out.2.2.below hbb (by omega)) (And.intro (H.out.2.1.trans (hbb.mono (by omega))) (And.intro h0 h1))); clear hbb h0 h1 hw X H Y
    have r0 := Z.out.1.cell 0
    have r1 := Z.out.1.cell 1
    have r2 := Z.out.1.free 0
    have r3 := Z.out.1.free 1
    simp only [List.getElem?_toArray, List.getElem?_cons_zero, List.getElem?_cons_succ] at r0 r1
    go_wp2
    have kq := (Z.out.1.set 0 (.slice A0 a.length c0)).set 1 (.slice A1 b.length c1)
    have q0 := kq.cell 0
    have q1 := kq.cell 1
    simp only [List.setIfInBounds_toArray, List.set_cons_zero, List.set_cons_succ, List.getElem?_toArray, List.getElem?_cons_zero, List.getElem?_cons_succ] at q0 q1
    refine bodyPost_ret (v := .agg #[.slice A0 a.length c0, .slice A1 b.length c1]) (by simp [results, Try.results7, go_sem, q0, q1]) rfl ?_
    exact drawn_e Z.out.2.2.1 Z.out.2.2.2 Z.out.1 hl0 hl1 Z.out.2.1
end Go.Proofs.Ytceekfoacgoalaa
