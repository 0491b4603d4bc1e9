/- Chapter 7: PlacesThen, the program's and the model's. -/
import Derived.Test.YtkiedpdhehehfaaJb
import Derived.Test.YtkiedpdhehehfaaJh
import Derived.Test.YtkiedpdhehehfaaB1
namespace Go.Proofs.Ytkiedpdhehehfaa
set_option maxRecDepth 100000
open Go.RowKit Go.WideShapes

theorem allB_drop (many : Int) (zs : List Int) (k : Nat) (h : k < zs.length) : allB many (zs.drop k) = (decide (0 ≤ zs.getD k 0) && decide (zs.getD k 0 < many) && allB many (zs.drop (k + 1))) := by
  unfold allB
  rw [List.drop_eq_getElem_cons h, List.all_cons]; simp [List.getD, List.getElem?_eq_getElem h]
theorem fillGet (ys : List Int) (n k : Nat) (hn : ys.length = n) (h : k < n) : ((ys.take k ++ List.replicate (n - k) 0).map (Value.int .i64))[k]? = some (.int .i64 0) := by subst hn; exact fill_get ys k h
theorem fillSet (ys : List Int) (n k : Nat) (hn : ys.length = n) (h : k < n) : ((ys.take k ++ List.replicate (n - k) 0).map (Value.int .i64)).set k (.int .i64 (ys.getD k 0)) = (ys.take (k + 1) ++ List.replicate (n - (k + 1)) 0).map (Value.int .i64) := by subst hn; exact fill_set ys k h
theorem allB_get {m : Int} {zs : List Int} (h : allB m zs = true) (k : Nat) (hk : k < zs.length) : ∃ n : Nat, zs.getD k 0 = n ∧ (n : Int) < m := by
  have h1 := allB_mem h (zs.getD k 0) (by simp [List.getD, List.getElem?_eq_getElem hk])
  exact ⟨(zs.getD k 0).toNat, by omega, by omega⟩

def thenL (a b : List Int) (k : Nat) : List Int := (b.take k).map fun z => a.getD z.toNat 0
theorem thenL_len (a b : List Int) (k : Nat) : (thenL a b k).length ≤ b.length := by unfold thenL; simp; omega
theorem thenOne {a b : List Int} {k : Nat} (hk : k < b.length) : thenL a b (k + 1) = thenL a b k ++ [a.getD (b.getD k 0).toNat 0] := by
  unfold thenL
  rw [List.take_add_one, List.map_append]; simp [List.getD, List.getElem?_eq_getElem hk]
theorem placesThenR_len (a b : List Int) : szI (placesThenR a b).1 ≤ 1000000 := by
  unfold placesThenR szI
  split
  · rename_i h; rw [List.length_map]; omega
  · simp
end Go.Proofs.Ytkiedpdhehehfaa
