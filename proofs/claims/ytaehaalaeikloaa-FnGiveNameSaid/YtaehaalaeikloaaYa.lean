/- Chapter 9, pure: names, programs with names, dictionaries. -/
import Derived.Test.YtaehaalaeikloaaB1
import Derived.Test.YtaehaalaeikloaaB2
namespace Go.Proofs.Ytaehaalaeikloaa
set_option maxRecDepth 100000
open Go.RowKit Go.WideShapes

def nmB (n : Nat) (z : Int) : Bool := decide (1101 ≤ z) && decide (z < 1101 + (n : Int))
def wdB (n : Nat) (z : Int) : Bool := nmB n z || isWordB z
def plainR (n : Nat) (zs : List Int) : List Int := zs.map fun z => if nmB n z = true then 1001 else z
def usesB (n : Nat) (zs : List Int) : Bool := decide (zs.length ≤ 60) && (zs.all (wdB n) && fitsFrom 0 zs)
theorem nmB_brk {n : Nat} {z : Int} (h : nmB n z = true) : brk z = 0 := by
  simp only [nmB, Bool.and_eq_true, decide_eq_true_eq] at h
  unfold brk; rw [if_neg (by omega), if_neg (by omega)]
theorem plain_all (n : Nat) (zs : List Int) : (plainR n zs).all isWordB = zs.all (wdB n) := by
  unfold plainR
  rw [List.all_map]
  congr 1
  funext z
  simp only [Function.comp, wdB]
  split
  · rename_i h; rw [h]; rfl
  · rename_i h; simp [h]
theorem plain_fits (n : Nat) (zs : List Int) : ∀ o : Int, fitsFrom o (plainR n zs) = fitsFrom o zs := by
  unfold plainR
  induction zs with
  | nil => intro o; rfl
  | cons z zs ih =>
    intro o
    rw [List.map_cons, fitsFrom, fitsFrom]
    have : brk (if nmB n z = true then 1001 else z) = brk z := by
      split
      · rename_i h; rw [nmB_brk h]; rfl
      · rfl
    rw [this, ih]
theorem plain_l1 (n : Nat) (zs : List Int) : l1From 0 (plainR n zs) = (zs.all (wdB n) && fitsFrom 0 zs) := by
  rw [l1From_eq _ _ (by omega), plain_all, plain_fits]
def keptR (n : Nat) (zs : List Int) : List Int := zs.filter fun z => !nmB n z
theorem kept_all (n : Nat) (zs : List Int) : (keptR n zs).all isWordB = zs.all (wdB n) := by
  unfold keptR
  induction zs with
  | nil => rfl
  | cons z zs ih =>
    rw [List.filter_cons, List.all_cons]
    rcases h : nmB n z with _ | _
    · have hw : wdB n z = isWordB z := by rw [wdB, h, Bool.false_or]
      simp only [Bool.not_false, if_true, List.all_cons, ih, hw]
    · have hw : wdB n z = true := by rw [wdB, h, Bool.true_or]
      rw [hw, Bool.true_and]
      simpa using ih
theorem kept_fits (n : Nat) (zs : List Int) : ∀ o : Int, 0 ≤ o → fitsFrom o (keptR n zs) = fitsFrom o zs := by
  unfold keptR
  induction zs with
  | nil => intro o _; rfl
  | cons z zs ih =>
    intro o ho
    rw [List.filter_cons]
    rcases h : nmB n z with _ | _
    · simp only [Bool.not_false, if_true]
      rw [fitsFrom, fitsFrom]
      by_cases hn : o + brk z < 0
      · rw [if_pos hn, if_pos hn]
      · rw [if_neg hn, if_neg hn, ih _ (by omega)]
    · rw [fitsFrom, nmB_brk h, Int.add_zero, if_neg (show ¬ o < 0 by omega)]
      simpa using ih o ho
theorem kept_valid {n : Nat} {zs : List Int} (h : zs.length ≤ 60) : validB (keptR n zs) = (zs.all (wdB n) && fitsFrom 0 zs) := by
  have hl : (keptR n zs).length ≤ 60 := Nat.le_trans (List.length_filter_le _ _) h
  rw [validB, kept_all, kept_fits n zs 0 (by omega), decide_eq_true hl, Bool.true_and]
theorem uses_kept (n : Nat) (zs : List Int) : usesB n zs = if zs.length ≤ 60 then validB (keptR n zs) else false := by
  split
  · rename_i h; rw [kept_valid h, usesB, decide_eq_true h, Bool.true_and]
  · rename_i h; rw [usesB, decide_eq_false h, Bool.false_and]
theorem uses_plain (n : Nat) (zs : List Int) : usesB n zs = (decide (zs.length ≤ 60) && l1From 0 (plainR n zs)) := by
  rw [plain_l1]; rfl
def dictFrom : Nat → List (List Int) → Bool
  | _, [] => true
  | k, q :: d => usesB k q && dictFrom (k + 1) d
def dictB (d : List (List Int)) : Bool := decide (d.length ≤ 6) && dictFrom 0 d
def usesOkB (d : List (List Int)) (p : List Int) : Bool := dictB d && usesB d.length p
theorem dict_drop {k : Nat} {d : List (List Int)} (hk : k < d.length) (n : Nat) : dictFrom n (d.drop k) = (usesB n d[k] && dictFrom (n + 1) (d.drop (k + 1))) := by
  rw [List.drop_eq_getElem_cons hk, dictFrom]
theorem dictFrom_append (a b : List (List Int)) : ∀ k, dictFrom k (a ++ b) = (dictFrom k a && dictFrom (k + a.length) b) := by
  induction a with
  | nil => intro k; simp [dictFrom]
  | cons q a ih =>
    intro k
    rw [List.cons_append, dictFrom, dictFrom, ih, Bool.and_assoc, List.length_cons, show k + 1 + a.length = k + (a.length + 1) from by omega]
theorem dict_get {d : List (List Int)} : ∀ {k j : Nat} {q : List Int}, dictFrom k d = true → d[j]? = some q → usesB (k + j) q = true := by
  induction d with
  | nil => intro k j q _ h; simp at h
  | cons x d ih =>
    intro k j q h hj
    rw [dictFrom, Bool.and_eq_true] at h
    rcases j with _ | j
    · simp at hj; subst hj; exact h.1
    · have := ih h.2 (by simpa using hj); rwa [show k + 1 + j = k + (j + 1) from by omega] at this
theorem uses_mono {n m : Nat} {p : List Int} (h : usesB n p = true) (hm : n ≤ m) : usesB m p = true := by
  simp only [usesB, Bool.and_eq_true, decide_eq_true_eq] at h ⊢
  refine ⟨h.1, ?_, h.2.2⟩
  rw [List.all_eq_true] at h ⊢
  intro z hz
  have := h.2.1 z hz
  simp only [wdB, nmB, Bool.or_eq_true, Bool.and_eq_true, decide_eq_true_eq] at this ⊢
  rcases this with h | h
  · exact .inl (by omega)
  · exact .inr h
theorem uses_of_valid {n : Nat} {p : List Int} (h : validB p = true) : usesB n p = true := by
  simp only [validB, Bool.and_eq_true, decide_eq_true_eq] at h
  simp only [usesB, Bool.and_eq_true, decide_eq_true_eq]
  refine ⟨h.1.1, ?_, h.2⟩
  rw [List.all_eq_true]
  intro z hz
  rw [wdB, (List.all_eq_true.1 h.1.2) z hz, Bool.or_true]
theorem uses_len {n : Nat} {p : List Int} (h : usesB n p = true) : p.length ≤ 60 := by
  simp only [usesB, Bool.and_eq_true, decide_eq_true_eq] at h; exact h.1
theorem dictB_parts {d : List (List Int)} (h : dictB d = true) : d.length ≤ 6 ∧ dictFrom 0 d = true := by
  simpa [dictB] using h
theorem dictB_take {d : List (List Int)} (h : dictB d = true) (k : Nat) : dictB (d.take k) = true := by
  obtain ⟨h1, h2⟩ := dictB_parts h
  rw [← List.take_append_drop k d, dictFrom_append, Bool.and_eq_true] at h2
  simp only [dictB, Bool.and_eq_true, decide_eq_true_eq]
  exact ⟨by rw [List.length_take]; omega, h2.1⟩

end Go.Proofs.Ytaehaalaeikloaa
