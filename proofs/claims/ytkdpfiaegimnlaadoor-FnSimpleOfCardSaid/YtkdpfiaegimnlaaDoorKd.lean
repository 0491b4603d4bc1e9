/- The draws of chapter 5's programs alone. -/
import Derived.Test.YtkdpfiaegimnlaaDoorKn
namespace Go.Proofs.YtkdpfiaegimnlaaDoor
set_option maxRecDepth 100000
open Go.RowKit Go.WideShapes

def DrawnK (w : World) (e : Ending) (w' : World) : Prop := ∃ p zp, e = .returned p ∧ OwnI w' w.heap.size w'.heap.size p zp ∧ zp.length ≤ 61 ∧ Below w.heap.size w w'
theorem DrawSimpleOf_any (v : Value) (zs : List Int) (w : World) (h : RdC w v zs) : Calls Tryd.prog 11 #[v] w (DrawnK w) := by
  have H := Lib.hid h; clear h
  go_enter Tryd.func11, Tryd.ntmps11
  go_wp2_with fail
  refine (l20Open_any v zs _ H.out).mono ?_
  rintro e w1 ⟨g, bs, rfl, hr, hg, hb⟩
  have X := Lib.hid (And.intro hr hb); clear hr hb
  have hs := X.out.2.size
  go_wp2_with fail
  refine (known w1 g 0 bs _ (RS.refl X.out.1) (by omega)).mono ?_
  rintro e w2 ⟨p, zp, p2, rfl, ho, hl, hr2, hp2, hg2⟩
  have T := Lib.hid (And.intro (below_of_within X.out.2 hg hg2) ho); clear hr2 hg2 ho
  go_wp2_with fail
  go_ret
  exact ⟨_, zp, rfl, ⟨T.out.2.own.mono (by omega), fun q hq => by have := T.out.2.lt q hq; omega⟩, hl, T.out.1⟩
end Go.Proofs.YtkdpfiaegimnlaaDoor
