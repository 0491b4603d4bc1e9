/- NeedsOf, the program's and the model's. -/
import Derived.Test.YtceekfoacgoalaaDoorTz
import Derived.Deep.RegionHeld3
namespace Go.Proofs.YtceekfoacgoalaaDoor
set_option maxRecDepth 100000
open Go.RowKit Go.WideShapes Go.Deep

def leadR : List Int → Nat
  | [] => 0
  | z :: zs => if z = 4 then leadR zs + 1 else 0
theorem lead_lt {n : Nat} : ∀ {zs r : List Int}, eat n true zs = some r → leadR zs < zs.length := by
  induction n with
  | zero => intro zs r h; cases h
  | succ n ih =>
    intro zs r h
    rcases zs with _ | ⟨z, zs⟩
    · rw [eat] at h; simp at h
    · rw [eat_t] at h
      rw [leadR, List.length_cons]
      by_cases h3 : z = 3
      · rw [if_neg (by omega)]; omega
      rw [if_neg h3] at h
      by_cases h4 : z = 4
      · rw [if_pos h4] at h ⊢
        rcases h5 : eat n true zs with _ | r1
        · rw [h5] at h; cases h
        · have := ih h5; omega
      · rw [if_neg h4]; omega
theorem lead_row {zs : List Int} (h : rowB zs = true) : leadR zs < zs.length ∧ zs.length ≤ 150 := by
  obtain ⟨h1, h2, _⟩ := wholeR_some (wholeR_of_row h [])
  exact ⟨lead_lt h2, h1⟩
theorem lead_drop {zs : List Int} {k : Nat} (hk : k < zs.length) : leadR (zs.drop k) = if zs.getD k 0 = 4 then leadR (zs.drop (k + 1)) + 1 else 0 := by
  rw [List.drop_eq_getElem_cons hk, leadR]
  simp [List.getD, List.getElem?_eq_getElem hk]
def needsR (a b : List Int) : Int × Int := if effB a b = true then ((leadR a : Int), (leadR b : Int)) else (-1, -1)
theorem effB_rows {a b : List Int} (h : effB a b = true) : rowB a = true ∧ rowB b = true := by
  rcases ha : rowB a with _ | _
  · rw [effB_no (.inl ha)] at h; cases h
  · rcases hb : rowB b with _ | _
    · rw [effB_no (.inr hb)] at h; cases h
    · exact ⟨rfl, rfl⟩
end Go.Proofs.YtceekfoacgoalaaDoor
