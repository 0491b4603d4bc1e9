/- The draws of a bench, of a deed, of a deed's text. -/
import Derived.Test.YtjblecinkedppaaGreatDoorHx
import Derived.Test.YtjblecinkedppaaGreatDoorBx
import Derived.Test.YtjblecinkedppaaGreatDoorBm
import Derived.Test.YtjblecinkedppaaGreatDoorI
namespace Go.Proofs.YtjblecinkedppaaGreatDoor
set_option maxRecDepth 100000
open Go.RowKit Go.WideShapes

def DrawnBV (w : World) (e : Ending) (w' : World) : Prop := ∃ (vn vp : Value) (n : List Int) (ps : List (List UInt8)), e = .returned (.agg #[vn, vp]) ∧ RdI w' vn n ∧ RdT w' vp ps ∧ n.length ≤ 61 ∧ ps.length ≤ 21 ∧ (∀ t ∈ ps, t.length ≤ 400) ∧ Below w.heap.size w w'
theorem setTwo {w X : World} {h : Nat} (hb : Below h w X) (a b : Value) : Below h w ((X.setCell ⟨h, 0, none⟩ a).setCell ⟨h, 1, none⟩ b) := (hb.setCell (p := ⟨h, 0, none⟩) (Nat.le_refl _) _).setCell (p := ⟨h, 1, none⟩) (Nat.le_refl _) _
def DrawnDT (w : World) (e : Ending) (w' : World) : Prop := ∃ (k : Int) (S : ByteArray), e = .returned (.agg #[.int .i64 k, .string S]) ∧ 0 ≤ k ∧ k ≤ 5 ∧ S.size ≤ 402 ∧ Below w.heap.size w w'
def lits6d : List (List UInt8) := [[], [48], [32], [10], [93], [98, 97, 99, 107]]
theorem lits6d_len : ∀ t ∈ lits6d, t.length ≤ 4 := by decide
def SpPost (w : World) (g L : Nat) (e : Ending) (w' : World) : Prop := ∃ (T : ByteArray), e = .returned (.string T) ∧ T.size ≤ L ∧ Within g (g + 1) w w'
def DrawnRDd (w : World) (e : Ending) (w' : World) : Prop := ∃ (S : ByteArray), e = .returned (.string S) ∧ S.size ≤ 500 ∧ Below w.heap.size w w'
end Go.Proofs.YtjblecinkedppaaGreatDoor
