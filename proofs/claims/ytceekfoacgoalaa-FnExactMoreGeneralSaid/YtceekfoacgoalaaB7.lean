/- Several texts in one. -/
import Derived.Test.YtceekfoacgoalaaRn
import Derived.RangeFuncNested
import Derived.RangeFuncBound
import Derived.RangeFuncCalls
import Derived.RangeFuncLeaves
import Derived.RangeFuncBox
import Derived.Shelf.Abstract
import Derived.Shelf.RegionOpen
import Derived.OwnWalkIn
import Derived.TacticsInMore
import Derived.LoopNIn
import Derived.LoopIn
import Derived.Test.YtceekfoacgoalaaB3
/- The program's runner: 'for _, w := range slices.Backward(words)': words put ahead of the rest. -/
namespace Go.Proofs.Ytceekfoacgoalaa
set_option maxRecDepth 100000
open Go.RowKit Go.WideShapes Go.Shelf
attribute [local go_sem] Oper.semAt_some

abbrev I64 := { z : Int // InK .i64 z }
def d64 : I64 := ⟨0, wf_small 0 (by omega)⟩
/-- What has come when k rounds are over: the last element, the one before it, .. -/
def bk (zs : List I64) (k : Nat) : List (Nat × I64) := (List.range k).map fun j => (zs.length - 1 - j, zs.getD (zs.length - 1 - j) d64)
theorem bk_succ (zs : List I64) (k : Nat) : bk zs (k + 1) = bk zs k ++ [(zs.length - 1 - k, zs.getD (zs.length - 1 - k) d64)] := by simp [bk, List.range_succ]
theorem bk_length (zs : List I64) (k : Nat) : (bk zs k).length = k := by simp [bk]
/-- The words that have come, in the order in which they are done. -/
def came (pre : List (Nat × I64)) : List Int := (pre.map (·.2.1)).reverse
theorem came_snoc (pre : List (Nat × I64)) (x : Nat × I64) : came (pre ++ [x]) = x.2.1 :: came pre := by simp [came]
theorem came_bk (zs : List I64) (k : Nat) (hk : k ≤ zs.length) : came (bk zs k) = (zs.drop (zs.length - k)).map (·.1) := by
  induction k with
  | zero => simp [came, bk]
  | succ k ih =>
    rw [bk_succ, came_snoc, ih (by omega)]
    have h1 : zs.length - (k + 1) < zs.length := by omega
    rw [List.drop_eq_getElem_cons h1, show zs.length - (k + 1) + 1 = zs.length - k from by omega, List.map_cons]
    congr 1
    simp only [List.getD, show zs.length - 1 - k = zs.length - (k + 1) from by omega, List.getElem?_eq_getElem h1, Option.getD_some]
theorem came_all (zs : List I64) : came (bk zs zs.length) = zs.map (·.1) := by rw [came_bk zs _ (Nat.le_refl _)]; simp

end Go.Proofs.Ytceekfoacgoalaa

/- The program's runner: contracts of put, takeNum, takeProg, dup, swap, reckon, call, choose, dip. -/
namespace Go.Proofs.Ytceekfoacgoalaa
set_option maxRecDepth 100000
open Go.RowKit Go.WideShapes

theorem ownsRow_form {w : World} {lo n : Nat} {e : TypeId} {v : Value} {xs : List Value} (h : w.ownsRow lo e 1 v n xs) : ∃ A c, v = .slice A n c := by
  rcases h.2 with ⟨rfl, h0⟩ | ⟨g', cap, cur, rfl, _⟩
  · exact ⟨none, 0, by rw [h0]⟩
  · exact ⟨_, _, rfl⟩
def putR (zs rest : List Int) (st : List (List Int)) : Option (List Int × List (List Int)) := if zs.length ≤ 60 ∧ st.length < 20 then some (rest, zs :: st) else none
def numR : List (List Int) → Int × Bool
  | [] => (0, false)
  | a :: _ => if 1 < a.length then (0, false) else (a.getD 0 0, true)
def dupR (rest : List Int) : List (List Int) → Option (List Int × List (List Int))
  | [] => none
  | a :: s1 => if s1.length + 2 ≤ 20 then some (rest, a :: a :: s1) else none
def swapR (rest : List Int) : List (List Int) → Option (List Int × List (List Int))
  | a :: b :: s2 => some (rest, b :: a :: s2)
  | _ => none
end Go.Proofs.Ytceekfoacgoalaa
