/- Parts of programs: pure facts. -/
import Derived.Test.YtgiemajjmdjfkaaDoorPb
namespace Go.Proofs.YtgiemajjmdjfkaaDoor
set_option maxRecDepth 100000
open Go.RowKit Go.WideShapes

theorem cutAt_take {o : Int} {l : List Int} {n : Nat} (h : cutAt o l = some n) : cutAt o (l.take n) = some n ∧ (fitsFrom o l = true → fitsFrom o (l.take n) = true) := by
  induction l generalizing o n with
  | nil => simp [cutAt] at h
  | cons z r ih =>
    rw [cutAt] at h
    by_cases h0 : o + brk z = 0
    · rw [if_pos h0] at h
      injection h with h; subst h
      simp [cutAt, h0, fitsFrom]
    · rw [if_neg h0] at h
      rcases h1 : cutAt (o + brk z) r with _ | m
      · rw [h1] at h; simp at h
      · rw [h1] at h
        simp at h; subst h
        obtain ⟨h2, h3⟩ := ih h1
        refine ⟨by rw [List.take_succ_cons, cutAt, if_neg h0, h2]; rfl, fun hf => ?_⟩
        rw [fitsFrom] at hf
        rw [List.take_succ_cons, fitsFrom]
        by_cases hn : o + brk z < 0
        · simp [hn] at hf
        · rw [if_neg hn] at hf ⊢; exact h3 hf
theorem parts_all (N : Nat) : ∀ l : List Int, l.length ≤ N → fitsFrom 0 l = true →
    (∀ q ∈ partsFrom 0 [] l, fitsFrom 0 q = true ∧ cutAt 0 q = some q.length ∧ q.length ≤ l.length ∧ ∀ z ∈ q, z ∈ l) ∧ (partsFrom 0 [] l).flatten = l := by
  induction N with
  | zero =>
    intro l hl _
    have : l = [] := List.eq_nil_of_length_eq_zero (by omega)
    subst this; simp [partsFrom]
  | succ N ih =>
    intro l hl hf
    by_cases hn : l = []
    · subst hn; simp [partsFrom]
    · obtain ⟨n, hc, h1, h2, h3⟩ := cutAt_fits hf hn
      rw [partsFrom_cut hc]
      obtain ⟨i1, i2⟩ := ih (l.drop n) (by simp; omega) h3
      obtain ⟨t1, t2⟩ := cutAt_take hc
      have hlen : (l.take n).length = n := by simp; omega
      refine ⟨?_, ?_⟩
      · intro q hq
        rw [List.nil_append, List.mem_cons] at hq
        rcases hq with rfl | hq
        · exact ⟨t2 hf, by rw [hlen]; exact t1, by omega, fun z hz => List.mem_of_mem_take hz⟩
        · obtain ⟨j1, j2, j3, j4⟩ := i1 q hq
          exact ⟨j1, j2, by simp at j3; omega, fun z hz => List.mem_of_mem_drop (j4 z hz)⟩
      · rw [List.nil_append, List.flatten_cons, i2, List.take_append_drop]
theorem parts_ok {p : List Int} (hp : validB p = true) : (∀ q ∈ partsR p, validB q = true ∧ partsR q = [q] ∧ q.length ≤ 60) ∧ (partsR p).flatten = p := by
  have hl := validB_len hp
  have hp' := hp
  simp only [validB, Bool.and_eq_true, decide_eq_true_eq] at hp
  obtain ⟨h1, h2⟩ := parts_all p.length p (Nat.le_refl _) hp.2
  rw [partsR, if_pos hp']
  refine ⟨fun q hq => ?_, h2⟩
  obtain ⟨j1, j2, j3, j4⟩ := h1 q hq
  have hv : validB q = true := by
    simp only [validB, Bool.and_eq_true, decide_eq_true_eq]
    exact ⟨⟨by omega, List.all_eq_true.2 fun z hz => List.all_eq_true.1 hp.1.2 z (j4 z hz)⟩, j1⟩
  refine ⟨hv, ?_, by omega⟩
  rw [partsR, if_pos hv, partsFrom_cut j2]
  simp [partsFrom]
theorem partsR_bad {p : List Int} (hp : validB p = false) : partsR p = [] := by rw [partsR, if_neg (by simp [hp])]
theorem partsR_count {p : List Int} : (partsR p).length ≤ 60 := by
  unfold partsR
  split
  · rename_i h
    have hl := validB_len h
    have : ∀ (l : List Int) (o : Int) (cur : List Int), (partsFrom o cur l).length ≤ l.length := by
      intro l
      induction l with
      | nil => simp [partsFrom]
      | cons z r ih =>
        intro o cur
        rw [partsFrom]; split
        · have := ih 0 []; simp; omega
        · have := ih (o + brk z) (cur ++ [z]); simp; omega
    have := this p 0 []
    omega
  · simp
theorem flatten_take_succ (zss : List (List Int)) (k : Nat) (s : List Int) (h : zss[k]? = some s) : (zss.take (k + 1)).flatten = (zss.take k).flatten ++ s := by
  rw [List.take_add_one, h]; simp
theorem flatten_take_le (zss : List (List Int)) (k : Nat) : (zss.take k).flatten.length ≤ zss.flatten.length := by
  conv => rhs; rw [← List.take_append_drop k zss]
  rw [List.flatten_append, List.length_append]; omega
end Go.Proofs.YtgiemajjmdjfkaaDoor
