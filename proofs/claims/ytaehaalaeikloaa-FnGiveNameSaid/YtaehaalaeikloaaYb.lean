/- Chapter 9, pure: what names mean; a name put back. -/
import Derived.Test.YtaehaalaeikloaaYa
namespace Go.Proofs.Ytaehaalaeikloaa
set_option maxRecDepth 100000
open Go.RowKit Go.WideShapes

def pbR (name : Int) (ws p : List Int) : List Int := p.flatMap fun z => if z = name then ws else [z]
def namesR (d : List (List Int)) (p : List Int) : List Int := if usesOkB d p = true then (List.range d.length).map (fun (k : Nat) => ((p.count ((1101 : Int) + (k : Int)) : Nat) : Int)) else []
def subR (ms : List (List Int)) (z : Int) : List Int := if z < 1101 then [z] else ms.getD (z - 1101).toNat []
def flatsR (d : List (List Int)) : List (List Int) := d.foldl (fun ms q => ms ++ [q.flatMap (subR ms)]) []
def flatR (d : List (List Int)) (p : List Int) : List Int := p.flatMap (subR (flatsR d))
def meansR (d : List (List Int)) (p : List Int) : List Int × Bool := if usesOkB d p = true ∧ (flatR d p).length ≤ 60 then (flatR d p, true) else ([], false)
theorem flats_snoc (d : List (List Int)) (q : List Int) : flatsR (d ++ [q]) = flatsR d ++ [flatR d q] := by
  unfold flatsR flatR
  rw [List.foldl_append]; rfl
theorem snocCases {α : Type} (d : List α) : d = [] ∨ ∃ d' q, d = d' ++ [q] := by
  rcases List.eq_nil_or_concat d with h | ⟨d', q, h⟩
  · exact .inl h
  · exact .inr ⟨d', q, by simpa using h⟩
theorem snocInd {α : Type} {P : List α → Prop} (h0 : P []) (h1 : ∀ d q, P d → P (d ++ [q])) (d : List α) : P d := by
  have : ∀ n (d : List α), d.length = n → P d := by
    intro n
    induction n with
    | zero => intro d h; rw [List.eq_nil_of_length_eq_zero h]; exact h0
    | succ n ih =>
      intro d h
      rcases snocCases d with rfl | ⟨d', q, rfl⟩
      · exact h0
      · exact h1 d' q (ih d' (by simpa using h))
  exact this d.length d rfl
theorem flats_length (d : List (List Int)) : (flatsR d).length = d.length := by
  induction d using snocInd with
  | h0 => rfl
  | h1 d q ih => rw [flats_snoc, List.length_append, List.length_append, ih]; rfl
theorem uses_all {n : Nat} {p : List Int} (h : usesB n p = true) : ∀ z ∈ p, nmB n z = true ∨ isWordB z = true := by
  simp only [usesB, Bool.and_eq_true, decide_eq_true_eq] at h
  intro z hz
  have := (List.all_eq_true.1 h.2.1) z hz
  simpa [wdB] using this
theorem isWordB_lt {z : Int} (h : isWordB z = true) : 0 ≤ z ∧ z ≤ 1013 := by
  simp [isWordB, isNumB] at h; omega
theorem nmB_iff {n : Nat} {z : Int} : nmB n z = true ↔ ∃ k : Nat, k < n ∧ z = 1101 + (k : Int) := by
  simp only [nmB, Bool.and_eq_true, decide_eq_true_eq]
  constructor
  · intro h; exact ⟨(z - 1101).toNat, by omega, by omega⟩
  · rintro ⟨k, h1, rfl⟩; omega
theorem sub_name (ms : List (List Int)) (k : Nat) : subR ms (1101 + (k : Int)) = ms.getD k [] := by
  rw [subR, if_neg (by omega), show (1101 + (k : Int) - 1101).toNat = k from by omega]
theorem sub_word (ms : List (List Int)) {z : Int} (h : isWordB z = true) : subR ms z = [z] := by
  have := isWordB_lt h; rw [subR, if_pos (by omega)]
theorem flatMap_congr' {f g : Int → List Int} {p : List Int} (h : ∀ z ∈ p, f z = g z) : p.flatMap f = p.flatMap g := by
  induction p with
  | nil => rfl
  | cons z p ih => rw [List.flatMap_cons, List.flatMap_cons, h z (by simp), ih fun x hx => h x (by simp [hx])]
theorem getD_left {α : Type} {a b : List α} {k : Nat} {x : α} (h : k < a.length) : (a ++ b).getD k x = a.getD k x := by
  simp [List.getD, List.getElem?_append_left h]
theorem getD_last {α : Type} {a : List α} {q x : α} : (a ++ [q]).getD a.length x = q := by simp [List.getD]
theorem flat_left {d : List (List Int)} (q : List Int) {p : List Int} (h : usesB d.length p = true) : flatR (d ++ [q]) p = flatR d p := by
  unfold flatR
  rw [flats_snoc]
  refine flatMap_congr' fun z hz => ?_
  rcases uses_all h z hz with h1 | h1
  · obtain ⟨k, hk, rfl⟩ := nmB_iff.1 h1
    rw [sub_name, sub_name, getD_left (by rw [flats_length]; exact hk)]
  · rw [sub_word _ h1, sub_word _ h1]
theorem flat_longer {d : List (List Int)} (e : List (List Int)) {p : List Int} (h : usesB d.length p = true) : flatR (d ++ e) p = flatR d p := by
  induction e using snocInd with
  | h0 => rw [List.append_nil]
  | h1 e q ih => rw [← List.append_assoc, flat_left q (uses_mono h (by simp)), ih]
theorem flats_get {d : List (List Int)} (hd : dictFrom 0 d = true) {k : Nat} {q : List Int} (hq : d[k]? = some q) : (flatsR d).getD k [] = flatR d q := by
  induction d using snocInd with
  | h0 => simp at hq
  | h1 d x ih =>
    rw [dictFrom_append, Bool.and_eq_true] at hd
    by_cases hk : k < d.length
    · rw [List.getElem?_append_left hk] at hq
      rw [flats_snoc, getD_left (by rw [flats_length]; exact hk), ih hd.1 hq]
      refine (flat_left x ?_).symm
      have := dict_get hd.1 hq
      exact uses_mono this (by omega)
    · have hk' : k = d.length := by
        rcases Nat.lt_or_ge k (d ++ [x]).length with h | h
        · simp at h; omega
        · rw [List.getElem?_eq_none h] at hq; cases hq
      subst hk'
      simp at hq; subst hq
      have hl : (flatsR d).length = d.length := flats_length d
      rw [flats_snoc, ← hl, getD_last]
      refine (flat_left x ?_).symm
      have := hd.2
      simp [dictFrom] at this
      exact this
theorem flatMap_allW {f : Int → List Int} {p : List Int} (h : ∀ z ∈ p, (f z).all isWordB = true) : (p.flatMap f).all isWordB = true := by
  rw [List.all_eq_true]
  intro y hy
  obtain ⟨z, hz, hy⟩ := List.mem_flatMap.1 hy
  exact (List.all_eq_true.1 (h z hz)) y hy
theorem fits_flat {f : Int → List Int} : ∀ (p : List Int) (o : Int), 0 ≤ o → (∀ z ∈ p, (f z = [z]) ∨ (brk z = 0 ∧ fitsFrom 0 (f z) = true)) → fitsFrom o (p.flatMap f) = fitsFrom o p := by
  have hshift : ∀ (q r : List Int) (d : Int), 0 ≤ d → ∀ o : Int, 0 ≤ o → fitsFrom o q = true → fitsFrom (o + d) (q ++ r) = fitsFrom d r := by
    intro q r d hd
    induction q with
    | nil => intro o ho h; simp [fitsFrom] at h; subst h; simp
    | cons z q ih =>
      intro o ho h
      rw [fitsFrom] at h
      by_cases hn : o + brk z < 0
      · rw [if_pos hn] at h; cases h
      · rw [if_neg hn] at h
        rw [List.cons_append, fitsFrom, if_neg (by omega), show o + d + brk z = o + brk z + d from by omega]
        exact ih _ (by omega) h
  intro p
  induction p with
  | nil => intro o _ _; rfl
  | cons z p ih =>
    intro o ho h
    rw [List.flatMap_cons]
    have hr := fun o' (ho' : 0 ≤ o') => ih o' ho' fun x hx => h x (by simp [hx])
    rcases h z (by simp) with h1 | ⟨h1, h2⟩
    · rw [h1, List.cons_append, List.nil_append, fitsFrom, fitsFrom]
      by_cases hn : o + brk z < 0
      · rw [if_pos hn, if_pos hn]
      · rw [if_neg hn, if_neg hn]; exact hr _ (by omega)
    · have := hshift (f z) (p.flatMap f) o ho 0 (by omega) h2
      rw [Int.zero_add] at this
      rw [this, hr o ho, fitsFrom, h1, Int.add_zero, if_neg (by omega)]
theorem sub_good {d : List (List Int)} (hd : dictFrom 0 d = true) : ∀ k, k < d.length → ((flatsR d).getD k []).all isWordB = true ∧ fitsFrom 0 ((flatsR d).getD k []) = true := by
  induction d using snocInd with
  | h0 => intro k hk; simp at hk
  | h1 d x ih =>
    rw [dictFrom_append, Bool.and_eq_true] at hd
    intro k hk
    rw [flats_snoc]
    by_cases hk' : k < d.length
    · rw [getD_left (by rw [flats_length]; exact hk')]
      exact ih hd.1 k hk'
    · have : k = (flatsR d).length := by rw [flats_length]; simp at hk; omega
      subst this
      rw [getD_last]
      have hx : usesB d.length x = true := by have := hd.2; simpa [dictFrom] using this
      constructor
      · refine flatMap_allW fun z hz => ?_
        rcases uses_all hx z hz with h1 | h1
        · obtain ⟨j, hj, rfl⟩ := nmB_iff.1 h1
          rw [sub_name]; exact (ih hd.1 j hj).1
        · rw [sub_word _ h1]; simp [h1]
      · rw [flatR, fits_flat x 0 (by omega)]
        · simp only [usesB, Bool.and_eq_true] at hx; exact hx.2.2
        · intro z hz
          rcases uses_all hx z hz with h1 | h1
          · right
            refine ⟨nmB_brk h1, ?_⟩
            obtain ⟨j, hj, rfl⟩ := nmB_iff.1 h1
            rw [sub_name]; exact (ih hd.1 j hj).2
          · exact .inl (sub_word _ h1)
theorem flat_good {d : List (List Int)} (hd : dictFrom 0 d = true) {p : List Int} (hp : usesB d.length p = true) : (flatR d p).all isWordB = true ∧ fitsFrom 0 (flatR d p) = true := by
  constructor
  · refine flatMap_allW fun z hz => ?_
    rcases uses_all hp z hz with h1 | h1
    · obtain ⟨j, hj, rfl⟩ := nmB_iff.1 h1
      rw [sub_name]; exact (sub_good hd j hj).1
    · rw [sub_word _ h1]; simp [h1]
  · rw [flatR, fits_flat p 0 (by omega)]
    · simp only [usesB, Bool.and_eq_true] at hp; exact hp.2.2
    · intro z hz
      rcases uses_all hp z hz with h1 | h1
      · right
        refine ⟨nmB_brk h1, ?_⟩
        obtain ⟨j, hj, rfl⟩ := nmB_iff.1 h1
        rw [sub_name]; exact (sub_good hd j hj).2
      · exact .inl (sub_word _ h1)
theorem flat_words {d : List (List Int)} {p : List Int} (h : p.all isWordB = true) : flatR d p = p := by
  unfold flatR
  rw [flatMap_congr' (g := fun z => [z]) fun z hz => sub_word _ ((List.all_eq_true.1 h) z hz)]
  simp
theorem flat_append (d : List (List Int)) (p q : List Int) : flatR d (p ++ q) = flatR d p ++ flatR d q := by
  unfold flatR; rw [List.flatMap_append]
theorem flat_name {d : List (List Int)} (hd : dictFrom 0 d = true) {k : Nat} {q : List Int} (hq : d[k]? = some q) : flatR d [1101 + (k : Int)] = flatR d q := by
  have : flatR d [1101 + (k : Int)] = subR (flatsR d) (1101 + (k : Int)) := by simp [flatR]
  rw [this, sub_name, flats_get hd hq]
theorem flat_put {d : List (List Int)} {q : List Int} {p : List Int} (hp : usesB (d.length + 1) p = true) :
    flatR (d ++ [q]) p = flatR d (pbR (1101 + (d.length : Int)) q p) := by
  unfold flatR pbR
  rw [List.flatMap_assoc]
  refine flatMap_congr' fun z hz => ?_
  rw [flats_snoc]
  by_cases hzn : z = 1101 + (d.length : Int)
  · subst hzn
    rw [if_pos rfl, sub_name, show d.length = (flatsR d).length from (flats_length d).symm, getD_last]; rfl
  · rw [if_neg hzn]
    rcases uses_all hp z hz with h1 | h1
    · obtain ⟨k, hk, rfl⟩ := nmB_iff.1 h1
      have : k < d.length := by omega
      rw [sub_name, getD_left (by rw [flats_length]; exact this)]
      simp [sub_name]
    · rw [sub_word _ h1]; simp [sub_word _ h1]
theorem put_fits {n : Nat} {q p : List Int} (hq : usesB n q = true) (hp : usesB (n + 1) p = true) : usesB n (pbR (1101 + (n : Int)) q p) = decide ((pbR (1101 + (n : Int)) q p).length ≤ 60) := by
  have ha : (pbR (1101 + (n : Int)) q p).all (wdB n) = true := by
    rw [List.all_eq_true]
    intro y hy
    obtain ⟨z, hz, hy⟩ := List.mem_flatMap.1 hy
    by_cases hzn : z = 1101 + (n : Int)
    · rw [if_pos hzn] at hy
      simp only [usesB, Bool.and_eq_true] at hq
      exact (List.all_eq_true.1 hq.2.1) y hy
    · rw [if_neg hzn] at hy
      simp at hy; subst hy
      rcases uses_all hp y hz with h1 | h1
      · obtain ⟨k, hk, rfl⟩ := nmB_iff.1 h1
        rw [wdB, nmB_iff.2 ⟨k, by omega, rfl⟩, Bool.true_or]
      · rw [wdB, h1, Bool.or_true]
  have hf : fitsFrom 0 (pbR (1101 + (n : Int)) q p) = true := by
    rw [pbR, fits_flat p 0 (by omega)]
    · simp only [usesB, Bool.and_eq_true] at hp; exact hp.2.2
    · intro z hz
      by_cases hzn : z = 1101 + (n : Int)
      · right
        subst hzn
        rw [if_pos rfl]
        simp only [usesB, Bool.and_eq_true] at hq
        exact ⟨nmB_brk (n := n + 1) (nmB_iff.2 ⟨n, by omega, rfl⟩), hq.2.2⟩
      · left; rw [if_neg hzn]
  rw [usesB, ha, hf]; simp

end Go.Proofs.Ytaehaalaeikloaa
