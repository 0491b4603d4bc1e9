/- The program's runner: contracts of put, takeNum, takeProg, dup, swap, reckon, call, choose, dip. -/
import Derived.Test.YthnpcgmidnkffaaRa
import Derived.Test.YthnpcgmidnkffaaH
namespace Go.Proofs.Ythnpcgmidnkffaa
set_option maxRecDepth 100000
open Go.RowKit Go.WideShapes

theorem ownsRow_form {w : World} {lo n : Nat} {e : TypeId} {v : Value} {xs : List Value} (h : w.ownsRow lo e 1 v n xs) : ∃ A c, v = .slice A n c := by
  rcases h.2 with ⟨rfl, h0⟩ | ⟨g', cap, cur, rfl, _⟩
  · exact ⟨none, 0, by rw [h0]⟩
  · exact ⟨_, _, rfl⟩
def putR (zs rest : List Int) (st : List (List Int)) : Option (List Int × List (List Int)) := if zs.length ≤ 60 ∧ st.length < 20 then some (rest, zs :: st) else none
def numR : List (List Int) → Int × Bool
  | [] => (0, false)
  | a :: _ => if 1 < a.length then (0, false) else (a.getD 0 0, true)
def dupR (rest : List Int) : List (List Int) → Option (List Int × List (List Int))
  | [] => none
  | a :: s1 => if s1.length + 2 ≤ 20 then some (rest, a :: a :: s1) else none
def swapR (rest : List Int) : List (List Int) → Option (List Int × List (List Int))
  | a :: b :: s2 => some (rest, b :: a :: s2)
  | _ => none
end Go.Proofs.Ythnpcgmidnkffaa
