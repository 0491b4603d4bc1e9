/- The model's l3Named at a letter, and at the type of numbers. -/
import Derived.Test.YtaobijmjlkdphaaDoorTq
import Derived.Test.YtaobijmjlkdphaaDoorTn
import Derived.BigQuiet
namespace Go.Proofs.YtaobijmjlkdphaaDoor
set_option maxRecDepth 100000
open Go.RowKit Go.WideShapes

def NamRel (L : List (Int × Int)) (kn : Int × Int) (w : World) (nv kv : Value) (wr : World) : Prop := ∃ (j : Nat) (m : Int), kv = .int .i64 j ∧ nv = .int .i64 m ∧ 0 ≤ m ∧ m ≤ j ∧ j < L.length ∧ kn ∈ L.drop j ∧ rank L kn = m + rank (L.drop j) kn ∧ Below w.heap.size w wr
def NamPost (zs : List Int) (w : World) (e : Ending) (w' : World) : Prop := ∃ u, e = .returned u ∧ OwnI w' w.heap.size w'.heap.size u zs ∧ Below w.heap.size w w'
theorem drop_split {L : List (Int × Int)} {j : Nat} (h : j < L.length) : L.drop j = L[j] :: L.drop (j + 1) := List.drop_eq_getElem_cons h
end Go.Proofs.YtaobijmjlkdphaaDoor
