/- The draw of an effect: DrawEffectText. -/
import Derived.Test.YtceekfoacgoalaaDoorIi
namespace Go.Proofs.YtceekfoacgoalaaDoor
set_option maxRecDepth 100000
open Go.RowKit Go.WideShapes Go.Deep

set_option maxHeartbeats 1000000 in
theorem DrawEffectText_any (v : Value) (zs : List Int) (w : World) (h : RdC w v zs) : Calls Tryd.prog 10 #[v] w (DrawnE w) := by
  obtain ⟨W, hW⟩ : ∃ W, w.alloc (.cells #[.slice none 0 0, .slice none 0 0] 27) = W := ⟨_, rfl⟩
  have hbW : Below w.heap.size w W := by rw [← hW]; exact (Below.refl _ _).alloc (Nat.le_refl _) _
  have hz : W.heap.size = w.heap.size + 1 := by rw [← hW]; simp
  have kR : Blk W w.heap.size #[.slice none 0 0, .slice none 0 0] 27 := by rw [← hW]; exact Blk.new w _ _
  have H := Lib.hid (And.intro ((RdBC.below h hbW).rd hbW.size) (And.intro hbW kR)); clear h hbW kR
  go_enter Tryd.func10, Tryd.ntmps10
  go_wp2_with fail
  try rw [hW]
  refine (l20Open_any v zs W H.out.1).mono ?_
  rintro e w1 ⟨g, bs, rfl, hr, hg, hb⟩
  have hgl := hr.lt
  have hz1 := hb.size
  have X := Lib.hid (And.intro hr hb); clear hr hb
  go_wp2_with fail
  refine (effect_any 9 w1 g 0 bs w1 (by omega) (RS.refl X.out.1) (by omega)).mono ?_
  rintro e w2 ⟨u0, u1, a, b, p', rfl, h0, h1, hl0, hl1, _, _, hw⟩
  obtain ⟨A0, c0, rfl, _⟩ := h0.ints
  obtain ⟨A1, c1, rfl, _⟩ := h1.ints
  have hbb := below_of_within X.out.2 hg hw
  have Y := Lib.hid (And.intro (H.out.2.2.below hbb (by omega)) (And.intro (H.out.2.1.trans (hbb.mono (by omega))) (And.intro h0 h1))); clear hbb h0 h1 hw X H
  have r0 := Y.out.1.cell 0
  have r1 := Y.out.1.cell 1
  have r2 := Y.out.1.free 0
  have r3 := Y.out.1.free 1
  simp only [List.getElem?_toArray, List.getElem?_cons_zero, List.getElem?_cons_succ] at r0 r1
  go_wp2
  have kq := (Y.out.1.set 0 (.slice A0 a.length c0)).set 1 (.slice A1 b.length c1)
  have q0 := kq.cell 0
  have q1 := kq.cell 1
  simp only [List.setIfInBounds_toArray, List.set_cons_zero, List.set_cons_succ, List.getElem?_toArray, List.getElem?_cons_zero, List.getElem?_cons_succ] at q0 q1
  refine bodyPost_ret (v := .agg #[.slice A0 a.length c0, .slice A1 b.length c1]) (by simp [results, Tryd.results10, go_sem, q0, q1]) rfl ?_
  exact drawn_e Y.out.2.2.1 Y.out.2.2.2 Y.out.1 hl0 hl1 Y.out.2.1
end Go.Proofs.YtceekfoacgoalaaDoor
