/- Chapter 7: each value as often as its place is in a row (the program). -/
import Derived.Test.YtkdpfiaegimnlaaJf
import Derived.Test.YtkdpfiaegimnlaaJt
namespace Go.Proofs.Ytkdpfiaegimnlaa
set_option maxRecDepth 100000
open Go.RowKit Go.WideShapes

/-- How often each number below n is in a row. -/
def cntL (n : Nat) (l : List Int) : List Int := (List.range n).map fun j : Nat => ((l.count (j : Int) : Nat) : Int)
theorem cntL_len (n : Nat) (l : List Int) : (cntL n l).length = n := by simp [cntL]
theorem cntL_get (n : Nat) (l : List Int) (j : Nat) (h : j < n) : (cntL n l)[j]? = some ((l.count (j : Int) : Nat) : Int) := by
  simp [cntL, List.getElem?_map, List.getElem?_range h]
theorem cntL_nil (n : Nat) : cntL n [] = List.replicate n 0 := by
  apply List.ext_getElem
  · simp [cntL]
  · intro i h1 h2; simp [cntL]
theorem cntL_snoc (n : Nat) (l : List Int) (j : Nat) : cntL n (l ++ [(j : Int)]) = (cntL n l).set j (((l.count (j : Int) : Nat) : Int) + 1) := by
  apply List.ext_getElem
  · simp [cntL]
  · intro i h1 h2
    rw [List.getElem_set]
    simp only [cntL, List.getElem_map, List.getElem_range, List.count_append]
    by_cases hij : j = i
    · subst hij; simp
    · rw [if_neg hij, List.count_singleton]
      have : ((j : Int) == (i : Int)) = false := by rw [beq_eq_false_iff_ne]; omega
      rw [this]; simp
theorem count_take_succ {l : List Int} {k : Nat} (hk : k < l.length) : l.take (k + 1) = l.take k ++ [l.getD k 0] := by
  rw [List.take_add_one]; simp [List.getD, List.getElem?_eq_getElem hk]
theorem oftenR_succ (many : Nat) (places : List Int) (j : Nat) : oftenR many places (j + 1) = oftenR many places j ++ oftenAt many places j := by simp [oftenR, List.range_succ]
def upsR (many : Nat) (k m : Nat) : List Int := (List.replicate m (underR (many - 1 - k) 1001)).flatten
theorem upsR_succ (many k m : Nat) : upsR many k (m + 1) = upsR many k m ++ underR (many - 1 - k) 1001 := by
  unfold upsR; rw [List.replicate_succ', List.flatten_append]; simp
theorem upsR_len (many k m : Nat) : (upsR many k m).length = m * (3 * (many - 1 - k) + 1) := by
  induction m with
  | zero => simp [upsR]
  | succ m ih => rw [upsR_succ, List.length_append, ih, underR_len, Nat.add_mul, Nat.one_mul]
theorem oftenAt_len (many : Nat) (places : List Int) (k : Nat) (hm : many ≤ 5) (hp : places.length ≤ 5) : (oftenAt many places k).length ≤ 100 := by
  unfold oftenAt
  split
  · rw [underR_len]; omega
  · have h1 := upsR_len many k (places.count (k : Int) - 1)
    unfold upsR at h1
    rw [h1]
    have h2 : places.count (k : Int) ≤ places.length := List.count_le_length
    exact Nat.le_trans (Nat.mul_le_mul (show _ ≤ 5 by omega) (show _ ≤ 13 by omega)) (by omega)
theorem oftenR_len (many : Nat) (places : List Int) (hm : many ≤ 5) (hp : places.length ≤ 5) (j : Nat) : (oftenR many places j).length ≤ 100 * j := by
  induction j with
  | zero => simp [oftenR]
  | succ j ih => rw [oftenR_succ, List.length_append]; have := oftenAt_len many places j hm hp; omega

end Go.Proofs.Ytkdpfiaegimnlaa
