/- Contracts of the model's ProgThen and ProgQuote. -/
import Derived.Test.YtgiemajjmdjfkaaDoorS
import Derived.Test.YtgiemajjmdjfkaaDoorT
namespace Go.Proofs.YtgiemajjmdjfkaaDoor
set_option maxRecDepth 100000
open Go.RowKit Go.WideShapes

theorem fitsFrom_append {o : Int} {p : List Int} (q : List Int) (h : fitsFrom o p = true) : fitsFrom o (p ++ q) = fitsFrom 0 q := by
  induction p generalizing o with
  | nil => simp [fitsFrom] at h; subst h; rfl
  | cons z zs ih =>
    rw [fitsFrom] at h
    rw [List.cons_append, fitsFrom]
    by_cases hn : o + brk z < 0
    · simp [hn] at h
    · rw [if_neg hn] at h ⊢; exact ih h
theorem validB_append {p q : List Int} (hp : validB p = true) (hq : validB q = true) : validB (p ++ q) = decide (p.length + q.length ≤ 60) := by
  simp only [validB, Bool.and_eq_true, decide_eq_true_eq] at hp hq
  simp [validB, fitsFrom_append q hp.2, hq.2]
  intro _
  exact ⟨by simpa using hp.1.2, by simpa using hq.1.2⟩
theorem fitsFrom_shift {o : Int} {p : List Int} (q : List Int) (d : Int) (hd : 0 ≤ d) (h : fitsFrom o p = true) : fitsFrom (o + d) (p ++ q) = fitsFrom d q := by
  induction p generalizing o with
  | nil => simp [fitsFrom] at h; subst h; simp
  | cons z zs ih =>
    rw [fitsFrom] at h
    rw [List.cons_append, fitsFrom]
    by_cases hn : o + brk z < 0
    · simp [hn] at h
    · rw [if_neg hn] at h; rw [if_neg (by omega), show o + d + brk z = o + brk z + d from by omega]; exact ih h
theorem validB_quote {p : List Int} (hp : validB p = true) : validB (1012 :: (p ++ [1013])) = decide (p.length + 2 ≤ 60) := by
  simp only [validB, Bool.and_eq_true, decide_eq_true_eq] at hp
  have hb1 : brk 1012 = 1 := rfl
  have hb2 : brk 1013 = -1 := rfl
  have hf : fitsFrom 0 (1012 :: (p ++ [1013])) = true := by
    rw [fitsFrom, hb1, if_neg (by omega), fitsFrom_shift [1013] 1 (by omega) hp.2]
    rfl
  have hw : (1012 :: (p ++ [1013])).all isWordB = true := by
    simp only [List.all_cons, List.all_append, hp.1.2]; rfl
  rw [validB, hf, hw]
  simp

end Go.Proofs.YtgiemajjmdjfkaaDoor
