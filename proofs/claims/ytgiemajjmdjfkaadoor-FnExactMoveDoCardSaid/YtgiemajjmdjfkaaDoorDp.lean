/- Contracts of ProgDepth, the program's and the model's. -/
import Derived.Test.YtgiemajjmdjfkaaDoorV
namespace Go.Proofs.YtgiemajjmdjfkaaDoor
set_option maxRecDepth 100000
open Go.RowKit Go.WideShapes

/-- From o brackets open, m the most so far: the most. -/
def depthFrom : Int → Int → List Int → Int
  | _, m, [] => m
  | o, m, z :: zs => depthFrom (o + brk z) (if m < o + brk z then o + brk z else m) zs
theorem depthFrom_drop (o m : Int) (zs : List Int) (k : Nat) (h : k < zs.length) :
    depthFrom o m (zs.drop k) = depthFrom (o + brk (zs.getD k 0)) (if m < o + brk (zs.getD k 0) then o + brk (zs.getD k 0) else m) (zs.drop (k + 1)) := by
  rw [List.drop_eq_getElem_cons h, depthFrom]; simp [List.getD, List.getElem?_eq_getElem h]
def depthR (p : List Int) : Int := if validB p = true then depthFrom 0 0 p else -1

theorem ProgValid_I (v0 : Value) (x0 : List Int) (w : World) (h0 : RdI w v0 x0) (_ : x0.length ≤ 1048576) (y0 : Bool) (hR : validB x0 = y0) :
    Calls Tryd.prog 35 #[v0] w fun e w' => e = .returned (.bool y0) ∧ Below w.heap.size w w' := by
  obtain ⟨A, c, rfl, hi0, _⟩ := h0
  refine (ProgValid_any A c x0 w hi0).mono ?_
  rw [hR]
  rintro e w' ⟨rfl, rfl⟩
  exact ⟨rfl, Below.refl _ _⟩
theorem ProgValid_S (v0 : Value) (x0 : List Int) (w : World) (h0 : RdI w v0 x0) (_ : x0.length ≤ 1048576) (y0 : Bool) (hR : validB x0 = y0) :
    Calls Tryd.prog 28 #[v0] w fun e w' => e = .returned (.bool y0) ∧ Below w.heap.size w w' := by
  obtain ⟨A, c, rfl, hi0, _⟩ := h0
  refine (specValid_any A c x0 w hi0).mono ?_
  rw [hR]
  rintro e w' ⟨rfl, rfl⟩
  exact ⟨rfl, Below.refl _ _⟩
end Go.Proofs.YtgiemajjmdjfkaaDoor
