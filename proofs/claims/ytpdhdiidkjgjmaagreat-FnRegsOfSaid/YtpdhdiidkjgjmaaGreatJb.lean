/- Chapter 7: IsShuffle, the program's and the model's. -/
import Derived.Test.YtpdhdiidkjgjmaaGreatJa
import Derived.Test.YtpdhdiidkjgjmaaGreatB4
namespace Go.Proofs.YtpdhdiidkjgjmaaGreat
set_option maxRecDepth 100000
open Go.RowKit Go.WideShapes

/-- The same, at values. -/
theorem RdI.sub {w : World} {b off : Nat} {zs : List Int} (h : Ints w (some ⟨b, off, none⟩) zs) (i n c' : Nat) (hi : i + n ≤ zs.length) (hc : n ≤ c') : RdI w (.slice (some ⟨b, off + i, none⟩) n c') ((zs.drop i).take n) := by
  have h1 : ((zs.drop i).take n).length = n := by simp; omega
  refine ⟨some ⟨b, off + i, none⟩, c', ?_, h.sub i n hi, by omega⟩
  rw [h1]
theorem moves_cases {l : List Int} (hf : fitsFrom 0 l = true) :
    l = [] ∨ (∃ z r, l = z :: r ∧ (1001 ≤ z ∧ z ≤ 1003) ∧ fitsFrom 0 r = true ∧ shufFrom 1002 l = shufFrom 1002 r) ∨
    (∃ inner r, l = 1012 :: (inner ++ 1013 :: r) ∧ fitsFrom 0 inner = true ∧ fitsFrom 0 r = true ∧ cutAt 0 l = some (inner.length + 2) ∧
      shufFrom 1002 l = (decide (r.getD 0 0 = 1004) && decide (0 < r.length) && shufFrom 1002 inner && shufFrom 1002 (r.drop 1)) ∧ (r.getD 0 0 = 1004 → fitsFrom 0 (r.drop 1) = true)) ∨
    (∃ z r, l = z :: r ∧ ¬ (1001 ≤ z ∧ z ≤ 1003) ∧ z ≠ 1012 ∧ shufFrom 1002 l = false) := by
  cases l with
  | nil => exact .inl rfl
  | cons z r =>
    right
    by_cases h1 : 1001 ≤ z ∧ z ≤ 1003
    · left
      have hb : brk z = 0 := by unfold brk; rw [if_neg (by omega), if_neg (by omega)]
      rw [fitsFrom, hb, if_neg (by omega)] at hf
      refine ⟨z, r, rfl, h1, by simpa using hf, ?_⟩
      have e1 : mvB z = true := by
        have : z = 1001 ∨ z = 1002 ∨ z = 1003 := by omega
        rcases this with rfl | rfl | rfl <;> rfl
      have e2 : (z == 1004) = false := by rw [beq_eq_false_iff_ne]; omega
      rw [shufFrom, e1, e2, shufFrom_same (b := z) (c := 1002) r (by rw [show (z == 1013) = false from by rw [beq_eq_false_iff_ne]; omega]; rfl)]
      rfl
    · right
      by_cases ho : z = 1012
      · subst ho
        left
        obtain ⟨inner, rest, rfl, i1, i2, i3⟩ := cut_open hf
        refine ⟨inner, rest, rfl, i1, i2, i3, ?_, ?_⟩
        · rw [shufFrom, shufFrom_end, shufFrom_same (b := 1012) (c := 1002) inner (by decide)]
          cases rest with
          | nil => simp [shufFrom]
          | cons y q =>
            rw [shufFrom]
            by_cases hy : y = 1004
            · subst hy
              rw [shufFrom_same (b := 1004) (c := 1002) q (by decide)]
              simp [mvB]
            · have : (y == 1004) = false := by rw [beq_eq_false_iff_ne]; exact hy
              rw [this]; simp [hy]
        · intro hy
          cases rest with
          | nil => simp at hy
          | cons y q =>
            have hy' : y = 1004 := by simpa using hy
            subst hy'
            have hb : brk 1004 = 0 := rfl
            rw [fitsFrom, hb, if_neg (by omega)] at i2
            exact i2
      · right
        refine ⟨z, r, rfl, h1, ho, ?_⟩
        rw [shufFrom]
        by_cases h4 : z = 1004
        · subst h4; simp
        by_cases h3 : z = 1013
        · subst h3
          have hb : brk 1013 = -1 := rfl
          rw [fitsFrom, hb] at hf; simp at hf
        have : mvB z = false := by
          simp [mvB]; omega
        rw [this]; rfl

theorem shufB_long {zs : List Int} (h : 60 < zs.length) : shufB zs = false := by
  rw [shufB, validB, show decide (zs.length ≤ 60) = false from decide_eq_false (by omega)]; rfl
end Go.Proofs.YtpdhdiidkjgjmaaGreat
