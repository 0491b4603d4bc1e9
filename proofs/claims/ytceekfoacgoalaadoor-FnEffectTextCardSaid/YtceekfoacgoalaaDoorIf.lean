/- Named rows are rows. -/
import Derived.Test.YtceekfoacgoalaaDoorIe
import Derived.Test.YtceekfoacgoalaaDoorBr
namespace Go.Proofs.YtceekfoacgoalaaDoor
set_option maxRecDepth 100000
open Go.RowKit Go.WideShapes

theorem nam_eat (n : Nat) : ∀ (b : Bool) (zs r : List Int) (L : List (Int × Int)), eat n b zs = some r → (∀ x, 0 ≤ rank L x ∧ rank L x ≤ 999) → eat (nam n b zs L).length b (nam n b zs L) = some [] := by
  induction n with
  | zero => intro b zs r L h _; cases h
  | succ n ih =>
    intro b zs r L h hL
    rcases zs with _ | ⟨z, xs⟩
    · rcases b with _ | _
      · simp [eat] at h
      · simp [eat] at h
    · rcases b with _ | _
      · rw [eat_f] at h
        rw [nam_f]
        split at h
        · rename_i h0; rw [if_pos h0]; exact eat_num
        · rename_i h0
          rw [if_neg h0]
          split at h
          · rename_i h1; rw [if_pos h1]; exact eat_any (hL _)
          · rename_i h1
            rw [if_neg h1]
            split at h
            · obtain ⟨r1, h2, h3⟩ := Option.bind_eq_some_iff.1 h
              rw [h2, Option.getD_some]
              exact eat_two (ih true xs r1 L h2 hL) (ih true r1 r L h3 hL)
            · cases h
      · rw [eat_t] at h
        rw [nam_t]
        split at h
        · rename_i h0; rw [if_pos h0]; exact eat_rest (hL _)
        · rename_i h0
          rw [if_neg h0]
          split at h
          · obtain ⟨r1, h2, h3⟩ := Option.bind_eq_some_iff.1 h
            rw [h2, Option.getD_some]
            exact eat_put (ih true xs r1 L h2 hL) (ih false r1 r L h3 hL)
          · cases h
theorem nam_len {n : Nat} {b : Bool} {zs r : List Int} (h : eat n b zs = some r) (L : List (Int × Int)) : (nam n b zs L).length + r.length = zs.length := (nam_iff h L).2
end Go.Proofs.YtceekfoacgoalaaDoor
