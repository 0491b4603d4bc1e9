/- The draw of an effect: DrawNeedsOf. -/
import Derived.Test.YtceekfoacgoalaaDoorIh
namespace Go.Proofs.YtceekfoacgoalaaDoor
set_option maxRecDepth 100000
open Go.RowKit Go.WideShapes Go.Deep

def DrawnE (w : World) (e : Ending) (w' : World) : Prop := ∃ (u0 u1 : Value) (a b : List Int), e = .returned (.agg #[u0, u1]) ∧ RdI w' u0 a ∧ RdI w' u1 b ∧ a.length ≤ 200 ∧ b.length ≤ 200 ∧ Below w.heap.size w w'
theorem drawn_e {w X : World} {lo : Nat} {u0 u1 : Value} {a b : List Int} (h0 : Own X lo u0 a) (h1 : Own X lo u1 b) (hR : Blk X w.heap.size #[.slice none 0 0, .slice none 0 0] 27) (ha : a.length ≤ 200) (hb : b.length ≤ 200) (hw : Below w.heap.size w X) : DrawnE w (.returned (.agg #[u0, u1])) ((X.setCell ⟨w.heap.size, 0, none⟩ u0).setCell ⟨w.heap.size, 1, none⟩ u1) := by
  have k1 := hR.set 0 u0
  exact ⟨u0, u1, a, b, rfl, (own_off (own_off h0 hR 0) k1 1).ints, (own_off (own_off h1 hR 0) k1 1).ints, ha, hb, (hw.setCell (p := ⟨w.heap.size, 0, none⟩) (Nat.le_refl _) _).setCell (p := ⟨w.heap.size, 1, none⟩) (Nat.le_refl _) _⟩
end Go.Proofs.YtceekfoacgoalaaDoor
