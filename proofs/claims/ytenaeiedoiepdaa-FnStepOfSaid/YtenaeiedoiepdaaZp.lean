/- Chapter 2, plain: a step with a value more at the bottom, and with words more behind the rest. -/
import Derived.Test.YtenaeiedoiepdaaTo
import Derived.Test.YtenaeiedoiepdaaB8
namespace Go.Proofs.Ytenaeiedoiepdaa
set_option maxRecDepth 100000

theorem stepOfR_form {r y0 : List Int} {s y1 : List (List Int)} (h : stepOfR r s = (y0, y1, true)) : restB r = true ∧ stackB s = true ∧ ∃ x, stepR r s.reverse = some x ∧ y0 = x.1 ∧ y1 = x.2.reverse := by
  unfold stepOfR at h
  split at h
  · rename_i hc
    simp only [stateB, Bool.and_eq_true] at hc
    rcases hs : stepR r s.reverse with _ | x
    · rw [hs] at h; cases h
    · rw [hs] at h; cases h; exact ⟨hc.1, hc.2, x, rfl, rfl, rfl⟩
  · cases h
theorem stepOfR_mk {r : List Int} {s : List (List Int)} {x : List Int × List (List Int)} (hr : restB r = true) (hs : stackB s = true) (h : stepR r s.reverse = some x) : stepOfR r s = (x.1, x.2.reverse, true) := by
  unfold stepOfR
  rw [if_pos (by simp [stateB, hr, hs]), h]
theorem stepOfR_no {r y0 : List Int} {s y1 : List (List Int)} (h : stepOfR r s = (y0, y1, false)) : y0 = [] ∧ y1 = [] := by
  unfold stepOfR at h
  split at h
  · split at h
    · cases h
    · cases h; exact ⟨rfl, rfl⟩
  · cases h; exact ⟨rfl, rfl⟩
theorem stepOfR_ok {r y0 : List Int} {s y1 : List (List Int)} (h : stepOfR r s = (y0, y1, true)) : stateB y0 y1 = true ∧ stackB y1 = true ∧ y0.length ≤ r.length + 125 := by
  obtain ⟨hr, hs, x, hx, rfl, rfl⟩ := stepOfR_form h
  have hok : okS r s.reverse := ⟨hr, by rw [stackB_reverse]; exact hs⟩
  obtain ⟨h1, h2⟩ := stepR_ok hok hx
  have h3 : stackB x.2.reverse = true := by rw [stackB_reverse]; exact h1.2
  exact ⟨by simp [stateB, h1.1, h3], h3, h2⟩
theorem stackB_low {s : List (List Int)} (h : stackB s = true) (hl : s.length < 20) : stackB ([7] :: s) = true := by
  unfold stackB at *
  simp only [Bool.and_eq_true, decide_eq_true_eq] at *
  refine ⟨by rw [List.length_cons]; omega, ?_⟩
  rw [List.all_cons, h.2, Bool.and_true, valueB_num]
  decide
theorem stepOfR_low {r y0 : List Int} {s y1 : List (List Int)} (h : stepOfR r s = (y0, y1, true)) (hs : s.length < 20) (hy : y1.length < 20) : stepOfR r ([7] :: s) = (y0, [7] :: y1, true) := by
  obtain ⟨hr, hst, x, hx, rfl, rfl⟩ := stepOfR_form h
  have h1 := (stepOfR_ok h).2.1
  have h2 : stackB (x.2 ++ [[7]]) = true := by
    have := stackB_low h1 hy
    rw [← stackB_reverse]; simpa using this
  have h3 := stepR_low_told (t := [[7]]) hr hx h2
  have h4 := stepOfR_mk (s := [7] :: s) hr (stackB_low hst hs) (by rw [List.reverse_cons]; exact h3)
  rw [h4]; simp
theorem restB_more : restB [5, 1001] = true := by decide
theorem stepOfR_more {r y0 : List Int} {s y1 : List (List Int)} (h : stepOfR r s = (y0, y1, true)) : stepOfR (r ++ [5, 1001]) s = (y0 ++ [5, 1001], y1, true) := by
  obtain ⟨hr, hst, x, hx, rfl, rfl⟩ := stepOfR_form h
  exact stepOfR_mk (restB_append hr restB_more) hst (stepR_app hr [5, 1001] hx)
end Go.Proofs.Ytenaeiedoiepdaa
