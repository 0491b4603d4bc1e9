/- Contracts of chapter 2's tests: values and stacks; the program's and the model's. -/
import Derived.Test.YthnpcgmidnkffaaMa
namespace Go.Proofs.Ythnpcgmidnkffaa
set_option maxRecDepth 100000
open Go.RowKit Go.WideShapes

theorem all_take_snoc (zss : List (List Int)) (k : Nat) (zs : List Int) (h : zss[k]? = some zs) (ht : (zss.take k).all valueB = true) : (zss.take (k + 1)).all valueB = valueB zs := by
  rw [List.take_add_one, List.all_append, ht, h]; simp
theorem all_no (zss : List (List Int)) (k : Nat) (zs : List Int) (h : zss[k]? = some zs) (hf : valueB zs = false) : zss.all valueB = false := by
  rw [List.all_eq_false]; exact ⟨zs, List.mem_of_getElem? h, by simp [hf]⟩

end Go.Proofs.Ythnpcgmidnkffaa
