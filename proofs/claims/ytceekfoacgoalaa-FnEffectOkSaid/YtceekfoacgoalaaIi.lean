/- The draw of an effect: DrawNeedsOf. -/
import Derived.Test.YtceekfoacgoalaaIh
namespace Go.Proofs.Ytceekfoacgoalaa
set_option maxRecDepth 100000
open Go.RowKit Go.WideShapes Go.Deep

def DrawnE (w : World) (e : Ending) (w' : World) : Prop := ∃ (u0 u1 : Value) (a b : List Int), e = .returned (.agg #[u0, u1]) ∧ RdI w' u0 a ∧ RdI w' u1 b ∧ a.length ≤ 200 ∧ b.length ≤ 200 ∧ Below w.heap.size w w'
theorem drawn_e {w X : World} {lo : Nat} {u0 u1 : Value} {a b : List Int} (h0 : Own X lo u0 a) (h1 : Own X lo u1 b) (hR : Blk X w.heap.size #[.slice none 0 0, .slice none 0 0] 25) (ha : a.length ≤ 200) (hb : b.length ≤ 200) (hw : Below w.heap.size w X) : DrawnE w (.returned (.agg #[u0, u1])) ((X.setCell ⟨w.heap.size, 0, none⟩ u0).setCell ⟨w.heap.size, 1, none⟩ u1) := by
  have k1 := hR.set 0 u0
  exact ⟨u0, u1, a, b, rfl, (own_off (own_off h0 hR 0) k1 1).ints, (own_off (own_off h1 hR 0) k1 1).ints, ha, hb, (hw.setCell (p := ⟨w.heap.size, 0, none⟩) (Nat.le_refl _) _).setCell (p := ⟨w.heap.size, 1, none⟩) (Nat.le_refl _) _⟩
theorem DrawNeedsOf_any (v : Value) (zs : List Int) (w : World) (h : RdC w v zs) : Calls Try.prog 12 #[v] w (DrawnE w) := by
  obtain ⟨W, hW⟩ : ∃ W, w.alloc (.cells #[.slice none 0 0, .slice none 0 0] 25) = W := ⟨_, rfl⟩
  have hbW : Below w.heap.size w W := by rw [← hW]; exact (Below.refl _ _).alloc (Nat.le_refl _) _
  have hz : W.heap.size = w.heap.size + 1 := by rw [← hW]; simp
  have kR : Blk W w.heap.size #[.slice none 0 0, .slice none 0 0] 25 := by rw [← hW]; exact Blk.new w _ _
  have H := Lib.hid (And.intro ((RdBC.below h hbW).rd hbW.size) (And.intro hbW kR)); clear h hbW kR
  go_enter Try.func12, Try.ntmps12
  go_wp2_with fail
  try rw [hW]
  refine (l20Open_any v zs W H.out.1).mono ?_
  rintro e w1 ⟨g, bs, rfl, hr, hg, hb⟩
  have hgl := hr.lt
  have hz1 := hb.size
  have X := Lib.hid (And.intro hr hb); clear hr hb
  go_wp2_with fail
  refine (effect_any 9 w1 g 0 bs w1 (by omega) (RS.refl X.out.1) (by omega)).mono ?_
  rintro e w2 ⟨u0, u1, a, b, p', rfl, h0, h1, hl0, hl1, _, _, hw⟩
  obtain ⟨A0, c0, rfl, _⟩ := h0.ints
  obtain ⟨A1, c1, rfl, _⟩ := h1.ints
  have hbb := below_of_within X.out.2 hg hw
  have Y := Lib.hid (And.intro (H.out.2.2.below hbb (by omega)) (And.intro (H.out.2.1.trans (hbb.mono (by omega))) (And.intro h0 h1))); clear hbb h0 h1 hw X H
  have r0 := Y.out.1.cell 0
  have r1 := Y.out.1.cell 1
  have r2 := Y.out.1.free 0
  have r3 := Y.out.1.free 1
  simp only [List.getElem?_toArray, List.getElem?_cons_zero, List.getElem?_cons_succ] at r0 r1
  go_wp2
  have kq := (Y.out.1.set 0 (.slice A0 a.length c0)).set 1 (.slice A1 b.length c1)
  have q0 := kq.cell 0
  have q1 := kq.cell 1
  simp only [List.setIfInBounds_toArray, List.set_cons_zero, List.set_cons_succ, List.getElem?_toArray, List.getElem?_cons_zero, List.getElem?_cons_succ] at q0 q1
  refine bodyPost_ret (v := .agg #[.slice A0 a.length c0, .slice A1 b.length c1]) (by simp [results, Try.results12, go_sem, q0, q1]) rfl ?_
  exact drawn_e Y.out.2.2.1 Y.out.2.2.2 Y.out.1 hl0 hl1 Y.out.2.1
end Go.Proofs.Ytceekfoacgoalaa
