/- Stacks as programs: pure facts. -/
import Derived.Test.YtgiemajjmdjfkaaDoorLb
import Derived.Test.YtgiemajjmdjfkaaDoorRr
import Derived.Test.YtgiemajjmdjfkaaDoorT
namespace Go.Proofs.YtgiemajjmdjfkaaDoor
set_option maxRecDepth 100000
open Go.RowKit Go.WideShapes

theorem cutAt_append {o : Int} {l : List Int} {n : Nat} (h : cutAt o l = some n) (r : List Int) : cutAt o (l ++ r) = some n := by
  induction l generalizing o n with
  | nil => simp [cutAt] at h
  | cons z t ih =>
    rw [List.cons_append, cutAt]
    rw [cutAt] at h
    by_cases h0 : o + brk z = 0
    · rw [if_pos h0] at h ⊢; exact h
    · rw [if_neg h0] at h ⊢
      rcases hx : cutAt (o + brk z) t with _ | q
      · rw [hx] at h; simp at h
      · rw [hx] at h; rw [ih hx]; exact h
theorem cutAt_value {v : List Int} (h : valueB v = true) : cutAt 0 v = some v.length := by
  rcases valueB_cases h with ⟨z, rfl, h0, h9⟩ | ⟨m, rfl, hm, hl⟩
  · have hb : brk z = 0 := by unfold brk; rw [if_neg (by omega), if_neg (by omega)]
    rw [cutAt, hb, if_pos (by omega)]; rfl
  · have hf : fitsFrom 0 m = true := by
      simp only [validB, Bool.and_eq_true] at hm; exact hm.2
    have hb : brk 1012 = 1 := rfl
    rw [cutAt, hb, if_neg (by omega), cutAt_wrap (Int.le_refl 0) hf]
    simp
theorem step_value {v r : List Int} {st : List (List Int)} (h : valueB v = true) (hs : stackB (v :: st) = true) : stepR (v ++ r) st = some (r, v :: st) := by
  have hc := cutAt_append (cutAt_value h) r
  rcases valueB_cases h with ⟨z, rfl, h0, h9⟩ | ⟨m, rfl, hm, hl⟩
  · refine stepR_some ?_ hs
    rw [List.singleton_append, l2R, if_pos h9]
  · refine stepR_some ?_ hs
    generalize hv : (1012 :: (m ++ [1013]) : List Int) = v at *
    have h2 : l2R (v ++ r) st = some ((v ++ r).drop ((cutAt 0 (v ++ r)).getD 0), (v ++ r).take ((cutAt 0 (v ++ r)).getD 0) :: st) := by
      rw [← hv, List.cons_append, l2R, if_neg (by omega), if_pos rfl]
    rw [h2, hc]
    simp
theorem stackB_tail {v : List Int} {st : List (List Int)} (h : stackB (v :: st) = true) : stackB st = true := by
  obtain ⟨h1, h2⟩ := stackB_all h
  exact stackB_mk (by rw [List.length_cons] at h1; omega) (fun u hu => h2 u (List.mem_cons_of_mem _ hu))
theorem stackB_suffix {a st : List (List Int)} (h : stackB (a ++ st) = true) : stackB st = true := by
  induction a with
  | nil => exact h
  | cons v a ih => exact ih (stackB_tail h)
theorem run_values {zss : List (List Int)} : ∀ {f : Nat} {st : List (List Int)}, stackB (zss.reverse ++ st) = true → zss.length ≤ f → runR f zss.flatten st = some (zss.reverse ++ st, zss.length) := by
  induction zss with
  | nil => intro f st _ _; simp [runR_nil]
  | cons v zss ih =>
    intro f st hs hf
    have hs' : stackB (zss.reverse ++ v :: st) = true := by
      have : (v :: zss).reverse ++ st = zss.reverse ++ v :: st := by simp
      rw [← this]; exact hs
    have hsv := stackB_suffix hs'
    have hv := (stackB_all hsv).2 v List.mem_cons_self
    have hl := valueB_len hv
    obtain ⟨g, rfl⟩ : ∃ g, f = g + 1 := ⟨f - 1, by rw [List.length_cons] at hf; omega⟩
    have hst := step_value (r := zss.flatten) hv hsv
    have hi := ih (f := g) (st := v :: st) hs' (by rw [List.length_cons] at hf; omega)
    rw [List.flatten_cons]
    rcases v with _ | ⟨z, v⟩
    · simp at hl
    · rw [List.cons_append] at hst ⊢
      rw [runR, hst]
      dsimp only
      rw [hi]
      simp
theorem parts_values {zss : List (List Int)} (h : ∀ v ∈ zss, valueB v = true) : partsFrom 0 [] zss.flatten = zss := by
  induction zss with
  | nil => rfl
  | cons v zss ih =>
    rw [List.flatten_cons, partsFrom_cut (cutAt_append (cutAt_value (h v List.mem_cons_self)) _)]
    simp [ih (fun u hu => h u (List.mem_cons_of_mem _ hu))]
theorem run_stack {s : List (List Int)} (hs : stackB s = true) (hv : validB s.flatten = true) : runOfR s.flatten [] = (s, (s.length : Int), true) := by
  have h := run_values (zss := s) (f := 2000) (st := []) (by rw [List.append_nil, stackB_reverse]; exact hs) (by have := (stackB_all hs).1; omega)
  unfold runOfR
  rw [if_pos ⟨hv, rfl⟩]
  rw [show ([] : List (List Int)).reverse = [] from rfl, h]
  simp
theorem stackProg_back {p : List Int} {s : List (List Int)} (h : stackProgR s = (p, true)) : stackB s = true ∧ s.length ≤ 20 ∧ runOfR p [] = (s, (s.length : Int), true) ∧ progStackR p = (s, true) ∧ p.length ≤ 60 := by
  unfold stackProgR at h
  split at h
  · rename_i hc
    injection h with h1 _
    subst h1
    have hv : validB s.flatten = true := by rw [flatten_valid hc.1, decide_eq_true hc.2]
    refine ⟨hc.1, (stackB_all hc.1).1, run_stack hc.1 hv, ?_, hc.2⟩
    unfold progStackR
    have hp : partsR s.flatten = s := by rw [partsR, if_pos hv]; exact parts_values (stackB_all hc.1).2
    rw [hp, if_pos ⟨hv, hc.1⟩]
  · cases h
theorem value_run {v : List Int} (h : valueB v = true) : runOfR v [] = ([v], 1, true) := by
  have hs : stackB [v] = true := stackB_mk (by simp) (by simpa using h)
  obtain ⟨h1, h2⟩ := valueB_words h
  have hv : validB [v].flatten = true := by
    simp only [List.flatten_cons, List.flatten_nil, List.append_nil, validB, Bool.and_eq_true, decide_eq_true_eq]
    exact ⟨⟨(valueB_len h).2, h1⟩, h2⟩
  have := run_stack hs hv
  simpa using this
theorem quote_value {p q : List Int} (h : quoteR p = (q, true)) : valueB q = true := by
  unfold quoteR at h
  split at h
  · rename_i hc
    injection h with h1 _
    rw [← h1, valueB_wrap, decide_eq_true hc.2, hc.1]; rfl
  · cases h
end Go.Proofs.YtgiemajjmdjfkaaDoor
