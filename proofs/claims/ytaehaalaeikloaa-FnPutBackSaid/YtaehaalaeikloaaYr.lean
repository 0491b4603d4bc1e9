/- Chapter 9, pure: what the laws say. -/
import Derived.Test.YtaehaalaeikloaaYj
import Derived.Test.YtaehaalaeikloaaYi
import Derived.Test.YtaehaalaeikloaaB6
namespace Go.Proofs.Ytaehaalaeikloaa
set_option maxRecDepth 100000
open Go.RowKit Go.WideShapes

theorem szS_small {d : List (List Int)} (h : d.length ≤ 7 ∧ ∀ zs ∈ d, zs.length ≤ 200) : szS d ≤ 1048576 := by
  have := szS_200 h.2; omega
theorem twice_no {d : List (List Int)} {p y : List Int} (h : twiceR d p = (y, false)) : y = [] := by
  unfold twiceR at h
  split at h
  · rcases ht : twiceAtR p with _ | ⟨m, a⟩
    · rw [ht] at h; cases h; rfl
    · rw [ht] at h; cases h
  · cases h; rfl
theorem twice_yes {d : List (List Int)} {p y : List Int} (h : twiceR d p = (y, true)) : usesOkB d p = true ∧ usesOkB d y = true ∧ 2 ≤ y.length ∧ 2 * y.length ≤ p.length ∧ ∃ a, bgB y (p.drop a) = true ∧ standsB y (p.drop (a + y.length)) = true := by
  obtain ⟨hu, m, a, he, hm, ht⟩ := twice_some (d := d) (p := p) (by rw [h])
  rw [h] at he
  dsimp only at he
  have hu2 := hu
  simp only [usesOkB, Bool.and_eq_true] at hu2 ⊢
  simp only [twI, Bool.and_eq_true, decide_eq_true_eq] at ht
  have hl := wds_len (p := p) (m := m) (a := a) (by omega)
  have hbg := wds_bg (p := p) (m := m) (a := a) (by omega)
  have hu3 := hu2.2
  simp only [usesB, Bool.and_eq_true, decide_eq_true_eq] at hu3
  subst he
  refine ⟨hu2, ⟨hu2.1, ?_⟩, by omega, by omega, a, hbg, by rw [hl]; exact ht.2.2⟩
  simp only [usesB, Bool.and_eq_true, decide_eq_true_eq]
  exact ⟨by omega, wds_all hu3.2.1 m a, ht.2.1⟩
theorem uses_name {d : List (List Int)} (h : dictB d = true) {k : Nat} (hk : k < d.length) : usesOkB d [1101 + (k : Int)] = true := by
  simp only [usesOkB, Bool.and_eq_true]
  refine ⟨h, ?_⟩
  simp only [usesB, Bool.and_eq_true, decide_eq_true_eq]
  refine ⟨by simp, ?_, ?_⟩
  · rw [List.all_cons, List.all_nil, wdB, nmB_iff.2 ⟨k, hk, rfl⟩]; rfl
  · have hb : brk (1101 + (k : Int)) = 0 := nmB_brk (n := d.length) (nmB_iff.2 ⟨k, hk, rfl⟩)
    rw [fitsFrom, hb, if_neg (by omega)]; rfl
theorem means_no {d : List (List Int)} {p y : List Int} (h : meansR d p = (y, false)) : y = [] := by
  unfold meansR at h
  split at h <;> cases h
  rfl
theorem means_yes {d : List (List Int)} {p y : List Int} (h : meansR d p = (y, true)) : usesOkB d p = true ∧ y = flatR d p ∧ y.length ≤ 60 ∧ validB y = true := by
  unfold meansR at h
  split at h
  · rename_i hc
    cases h
    have hu := hc.1
    simp only [usesOkB, Bool.and_eq_true] at hu
    have hg := flat_good (dictB_parts hu.1).2 hu.2
    exact ⟨hc.1, rfl, hc.2, by rw [validB, decide_eq_true hc.2, hg.1, hg.2]; rfl⟩
  · cases h
theorem means_len (d : List (List Int)) (p : List Int) : (meansR d p).1.length ≤ 60 := by
  unfold meansR
  split
  · rename_i h; exact h.2
  · simp
theorem means_self {d : List (List Int)} {p y : List Int} (h : meansR d p = (y, true)) : meansR d y = (y, true) := by
  obtain ⟨h1, h2, h3, h4⟩ := means_yes h
  simp only [usesOkB, Bool.and_eq_true] at h1
  have hw : y.all isWordB = true := by simp only [validB, Bool.and_eq_true] at h4; exact h4.1.2
  have hu : usesOkB d y = true := by simp only [usesOkB, Bool.and_eq_true]; exact ⟨h1.1, uses_of_valid h4⟩
  rw [meansR, flat_words hw, if_pos ⟨hu, h3⟩]
theorem means_name {d : List (List Int)} (hd : dictB d = true) {k : Nat} {q : List Int} (hq : d[k]? = some q) : meansR d [1101 + (k : Int)] = meansR d q := by
  have hk : k < d.length := by
    rcases Nat.lt_or_ge k d.length with h | h
    · exact h
    · rw [List.getElem?_eq_none h] at hq; cases hq
  have h1 := uses_name hd hk
  have h2 : usesOkB d q = true := by
    simp only [usesOkB, Bool.and_eq_true]
    have := dict_get (dictB_parts hd).2 hq
    exact ⟨hd, uses_mono this (by omega)⟩
  unfold meansR
  rw [flat_name (dictB_parts hd).2 hq, h1, h2]
theorem means_twice {d : List (List Int)} {p y z : List Int} (h : meansR d p = (y, true)) (ht : meansR d (p ++ p) = (z, true)) : z = y ++ y := by
  obtain ⟨_, h2, _⟩ := means_yes h
  obtain ⟨_, t2, _⟩ := means_yes ht
  rw [t2, flat_append, h2]
end Go.Proofs.Ytaehaalaeikloaa
