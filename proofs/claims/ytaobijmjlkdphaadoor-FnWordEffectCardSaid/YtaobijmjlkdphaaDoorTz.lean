/- The model's l3Tidy and EffectOk. -/
import Derived.Test.YtaobijmjlkdphaaDoorTy
import Derived.Test.YtaobijmjlkdphaaDoorB5
import Derived.Test.YtaobijmjlkdphaaDoorTl
namespace Go.Proofs.YtaobijmjlkdphaaDoor
set_option maxRecDepth 100000
open Go.RowKit Go.WideShapes Go.Deep

theorem wholeR_some {zs : List Int} {ls l : List (Int × Int)} (h : wholeR zs ls = some l) : zs.length ≤ 150 ∧ eat zs.length true zs = some [] ∧ l = lets zs.length true zs ls := by
  unfold wholeR at h
  split at h
  · rename_i hc; cases h; exact ⟨hc.1, hc.2, rfl⟩
  · cases h
theorem wholeR_of_row {zs : List Int} (h : rowB zs = true) (ls : List (Int × Int)) : wholeR zs ls = some (lets zs.length true zs ls) := by
  unfold rowB at h
  rcases h3 : wholeR zs [] with _ | l
  · rw [h3] at h; cases h
  · obtain ⟨h1, h2, _⟩ := wholeR_some h3
    unfold wholeR; rw [if_pos ⟨h1, h2⟩]
def TidyPost (N0 N1 : List Int) (w : World) (e : Ending) (w' : World) : Prop := ∃ u0 u1, e = .returned (.agg #[u0, u1]) ∧ RdI w' u0 N0 ∧ RdI w' u1 N1 ∧ Below w.heap.size w w'
theorem effB_no {a b : List Int} (h : rowB a = false ∨ rowB b = false) : effB a b = false := by
  unfold effB effL
  rcases h3 : wholeR a [] with _ | la
  · simp
  · rcases h with h | h
    · unfold rowB at h; rw [h3] at h; cases h
    · simp only [Option.bind_some]
      rcases h4 : wholeR b la with _ | lb
      · rfl
      · obtain ⟨h5, h6, _⟩ := wholeR_some h4
        unfold rowB wholeR at h; rw [if_pos ⟨h5, h6⟩] at h; cases h
theorem effB_yes {a b : List Int} (ha : rowB a = true) (hb : rowB b = true) : ∃ la lb, wholeR a [] = some la ∧ wholeR b la = some lb ∧ effB a b = nameB 0 0 lb := by
  refine ⟨_, _, wholeR_of_row ha [], wholeR_of_row hb _, ?_⟩
  unfold effB effL
  rw [wholeR_of_row ha []]
  simp only [Option.bind_some]
  rw [wholeR_of_row hb]
end Go.Proofs.YtaobijmjlkdphaaDoor
