/- What the laws of chapter 2 call, in their words; pure facts on stacks and programs. -/
import Derived.Test.YtgiemajjmdjfkaaDoorDb
import Derived.Test.YtgiemajjmdjfkaaDoorPp
import Derived.Test.YtgiemajjmdjfkaaDoorSp
namespace Go.Proofs.YtgiemajjmdjfkaaDoor
set_option maxRecDepth 100000
open Go.RowKit Go.WideShapes

theorem StackOk_B (v : Value) (zss : List (List Int)) (w : World) (h : RdS w v zss) (b : Bool) (hb : stackB zss = b) :
    Calls Tryd.prog 65 #[v] w fun e w' => e = .returned (.bool b) ∧ Below w.heap.size w w' := by
  refine (StackOk_any v zss w h).mono ?_
  rintro e w' ⟨rfl, rfl⟩; exact ⟨by rw [hb], Below.refl _ _⟩
theorem ValueOk_B (v : Value) (zs : List Int) (w : World) (h : RdI w v zs) (b : Bool) (hb : valueB zs = b) :
    Calls Tryd.prog 100 #[v] w fun e w' => e = .returned (.bool b) ∧ Below w.heap.size w w' := by
  refine (ValueOk_any v zs w h).mono ?_
  rintro e w' ⟨rfl, rfl⟩; exact ⟨by rw [hb], Below.refl _ _⟩
theorem specValueOk_B (v : Value) (zs : List Int) (w : World) (h : RdI w v zs) (b : Bool) (hb : valueB zs = b) :
    Calls Tryd.prog 117 #[v] w fun e w' => e = .returned (.bool b) ∧ Below w.heap.size w w' := by
  refine (specValueOk_any v zs w h).mono ?_
  rintro e w' ⟨rfl, rfl⟩; exact ⟨by rw [hb], Below.refl _ _⟩

theorem progStack_back {p : List Int} {s : List (List Int)} (h : progStackR p = (s, true)) : stackB s = true ∧ stackProgR s = (p, true) := by
  unfold progStackR at h
  split at h
  · rename_i hc
    injection h with h1 _
    subst h1
    have h2 := (parts_ok hc.1).2
    have h3 := validB_len hc.1
    refine ⟨hc.2, ?_⟩
    unfold stackProgR
    rw [h2, if_pos ⟨hc.2, h3⟩]
  · cases h
theorem progStack_no {p : List Int} {s : List (List Int)} (h : progStackR p = (s, false)) : s = [] := by
  unfold progStackR at h
  split at h
  · cases h
  · cases h; rfl
theorem stackProg_no {p : List Int} {s : List (List Int)} (h : stackProgR s = (p, false)) : p = [] := by
  unfold stackProgR at h
  split at h
  · cases h
  · cases h; rfl
end Go.Proofs.YtgiemajjmdjfkaaDoor
