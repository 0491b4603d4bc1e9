/- Contracts of chapter 2's tests, in the form that the exact laws take. -/
import Derived.Test.YtgiemajjmdjfkaaDoorSp
namespace Go.Proofs.YtgiemajjmdjfkaaDoor
set_option maxRecDepth 100000
open Go.RowKit Go.WideShapes

theorem ValueOk_I (v0 : Value) (x0 : List Int) (w : World) (h0 : RdI w v0 x0) (_ : x0.length ≤ 1048576) (y0 : Bool) (hR : valueB x0 = y0) :
    Calls Tryd.prog 100 #[v0] w fun e w' => e = .returned (.bool y0) ∧ Below w.heap.size w w' := by
  subst hR
  refine (ValueOk_any v0 x0 w h0).mono ?_
  rintro e w' ⟨rfl, rfl⟩
  exact ⟨rfl, Below.refl _ _⟩
theorem ValueOk_S (v0 : Value) (x0 : List Int) (w : World) (h0 : RdI w v0 x0) (_ : x0.length ≤ 1048576) (y0 : Bool) (hR : valueB x0 = y0) :
    Calls Tryd.prog 117 #[v0] w fun e w' => e = .returned (.bool y0) ∧ Below w.heap.size w w' := by
  subst hR
  refine (specValueOk_any v0 x0 w h0).mono ?_
  rintro e w' ⟨rfl, rfl⟩
  exact ⟨rfl, Below.refl _ _⟩
theorem StackOk_I (v0 : Value) (x0 : List (List Int)) (w : World) (h0 : RdS w v0 x0) (_ : x0.length ≤ 1048576) (_ : szS x0 ≤ 1048576) (y0 : Bool) (hR : stackB x0 = y0) :
    Calls Tryd.prog 65 #[v0] w fun e w' => e = .returned (.bool y0) ∧ Below w.heap.size w w' := by
  subst hR
  refine (StackOk_any v0 x0 w h0).mono ?_
  rintro e w' ⟨rfl, rfl⟩
  exact ⟨rfl, Below.refl _ _⟩
theorem stackProgR_len (s : List (List Int)) : szI (stackProgR s).1 ≤ 1000000 := by
  unfold stackProgR szI; split
  · rename_i h; have := h.2; show s.flatten.length ≤ _; omega
  · simp
theorem progStackR_len (p : List Int) : szS (progStackR p).1 ≤ 1000000 := by
  unfold progStackR; split
  · exact partsR_len p
  · simp [szS]
end Go.Proofs.YtgiemajjmdjfkaaDoor
