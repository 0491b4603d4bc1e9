/- The model's l3Named, l3Tidy, EffectOk. -/
import Derived.Test.YtaobijmjlkdphaaDoorTx
import Derived.Test.YtaobijmjlkdphaaDoorTe
namespace Go.Proofs.YtaobijmjlkdphaaDoor
set_option maxRecDepth 100000
open Go.RowKit Go.WideShapes Go.Deep

theorem occ_bd {n : Nat} {b : Bool} {zs r : List Int} (h : eat n b zs = some r) : ∀ x ∈ occ n b zs, (x.1 = 1 ∨ x.1 = 3) ∧ 0 ≤ x.2 ∧ x.2 ≤ 999 := by
  induction n generalizing b zs r with
  | zero => cases h
  | succ n ih =>
    have two : ∀ b2, (eat n true zs.tail).bind (eat n b2) = some r → ∀ x ∈ occ n true zs.tail ++ occ n b2 ((eat n true zs.tail).getD []), (x.1 = 1 ∨ x.1 = 3) ∧ 0 ≤ x.2 ∧ x.2 ≤ 999 := fun b2 hr x hx => by
      rcases h3 : eat n true zs.tail with _ | r1
      · rw [h3] at hr; cases hr
      · rw [h3] at hr hx
        rcases List.mem_append.1 hx with h4 | h4
        · exact ih h3 x h4
        · exact ih (b := b2) (zs := r1) hr x h4
    intro x hx
    rcases b with _ | _
    · rw [eat] at h
      rw [occ] at hx
      split at h
      · rename_i e; rw [if_pos e] at hx; cases hx
      rename_i e0
      rw [if_neg e0] at hx
      split at h
      · rename_i e; rw [if_pos e] at hx
        split at h
        · rename_i hb; rw [List.mem_singleton] at hx; subst hx; exact ⟨.inl rfl, hb⟩
        · cases h
      rename_i e1
      rw [if_neg e1] at hx
      split at h
      · exact two _ h x hx
      · cases h
    · rw [eat] at h
      rw [occ] at hx
      split at h
      · rename_i e; rw [if_pos e] at hx
        split at h
        · rename_i hb; rw [List.mem_singleton] at hx; subst hx; exact ⟨.inr rfl, hb⟩
        · cases h
      rename_i e0
      rw [if_neg e0] at hx
      split at h
      · exact two _ h x hx
      · cases h
end Go.Proofs.YtaobijmjlkdphaaDoor
