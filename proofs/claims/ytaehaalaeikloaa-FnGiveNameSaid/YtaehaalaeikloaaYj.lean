/- Chapter 9, pure: names put in place one after the other, rows that are too long cut. -/
import Derived.Test.YtaehaalaeikloaaYc
namespace Go.Proofs.Ytaehaalaeikloaa
set_option maxRecDepth 100000
open Go.RowKit Go.WideShapes

def nwR (p : List Int) : Nat := p.countP isWordB
def cutR : Nat → List Int → List Int
  | _, [] => []
  | c, z :: r => if 60 < (if isWordB z = true then c + 1 else c) then [z] else z :: cutR (if isWordB z = true then c + 1 else c) r
def partR (ms : List (List Int)) (j : Nat) (p : List Int) : List Int := p.flatMap fun z => if nmB j z = true then ms.getD (z - 1101).toNat [] else [z]
theorem nw_append (a b : List Int) : nwR (a ++ b) = nwR a + nwR b := List.countP_append
theorem nw_cons (z : Int) (r : List Int) : nwR (z :: r) = nwR r + if isWordB z = true then 1 else 0 := by unfold nwR; rw [List.countP_cons]
theorem nw_le (p : List Int) : nwR p ≤ p.length := List.countP_le_length
theorem nw_all {p : List Int} (h : p.all isWordB = true) : nwR p = p.length := by
  unfold nwR; rw [List.countP_eq_length]; exact List.all_eq_true.1 h
theorem cut_same : ∀ (p : List Int) (c : Nat), nwR p + c ≤ 60 → cutR c p = p := by
  intro p
  induction p with
  | nil => intro c _; rfl
  | cons z r ih =>
    intro c h
    rw [nw_cons] at h
    rw [cutR]
    split at h
    · rename_i hz
      rw [if_pos hz, if_neg (by omega), ih (c + 1) (by omega)]
    · rename_i hz
      rw [if_neg hz, if_neg (by omega), ih c (by omega)]
theorem cut_long : ∀ (p : List Int) (c : Nat), c ≤ 60 → 60 < nwR p + c → nwR (cutR c p) + c = 61 := by
  intro p
  induction p with
  | nil => intro c hc h; simp [nwR] at h; omega
  | cons z r ih =>
    intro c hc h
    rw [nw_cons] at h
    rw [cutR]
    by_cases hz : isWordB z = true
    · simp only [if_pos hz] at h ⊢
      by_cases hc2 : 60 < c + 1
      · rw [if_pos hc2, nw_cons, if_pos hz]; simp [nwR]; omega
      · rw [if_neg hc2, nw_cons, if_pos hz]
        have := ih (c + 1) (by omega) (by omega); omega
    · simp only [if_neg hz] at h ⊢
      rw [if_neg (by omega), nw_cons, if_neg hz]
      have := ih c hc (by omega); omega
theorem cut_mem : ∀ (p : List Int) (c : Nat) (z : Int), z ∈ cutR c p → z ∈ p := by
  intro p
  induction p with
  | nil => intro c z h; exact h
  | cons x r ih =>
    intro c z h
    rw [cutR] at h
    generalize (if isWordB x = true then c + 1 else c) = c' at h
    split at h
    · simp at h; subst h; simp
    · rcases List.mem_cons.1 h with h | h
      · subst h; simp
      · exact List.mem_cons_of_mem _ (ih _ z h)
theorem cut_len : ∀ (p : List Int) (c : Nat), (cutR c p).length ≤ p.length := by
  intro p
  induction p with
  | nil => intro c; simp [cutR]
  | cons x r ih =>
    intro c
    rw [cutR]
    generalize (if isWordB x = true then c + 1 else c) = c'
    split
    · simp
    · have := ih c'; simp only [List.length_cons]; omega
def nnR (p : List Int) : Nat := p.countP fun z => !isWordB z
theorem nn_nw (p : List Int) : nnR p + nwR p = p.length := by
  unfold nnR nwR
  induction p with
  | nil => rfl
  | cons z r ih =>
    rw [List.countP_cons, List.countP_cons, List.length_cons]
    rcases isWordB z with _ | _ <;> simp <;> omega
theorem nn_append (a b : List Int) : nnR (a ++ b) = nnR a + nnR b := List.countP_append
theorem nn_cut : ∀ (p : List Int) (c : Nat), nnR (cutR c p) ≤ nnR p := by
  intro p
  induction p with
  | nil => intro c; simp [cutR]
  | cons x r ih =>
    intro c
    rw [cutR]
    have hx : nnR (x :: r) = nnR [x] + nnR r := by rw [show x :: r = [x] ++ r from rfl, nn_append]
    generalize (if isWordB x = true then c + 1 else c) = c'
    split
    · rw [hx]; omega
    · rw [show x :: cutR c' r = [x] ++ cutR c' r from rfl, nn_append, hx]
      have := ih c'; omega
theorem nn_words {p : List Int} (h : p.all isWordB = true) : nnR p = 0 := by have := nn_nw p; rw [nw_all h] at this; omega
theorem pb_cons (nm : Int) (W : List Int) (z : Int) (r : List Int) : pbR nm W (z :: r) = (if z = nm then W else [z]) ++ pbR nm W r := by unfold pbR; rw [List.flatMap_cons]
theorem pb_nn {nm : Int} {W : List Int} (hW : W.all isWordB = true) (p : List Int) : nnR (pbR nm W p) ≤ nnR p := by
  induction p with
  | nil => simp [pbR]
  | cons z r ih =>
    rw [pb_cons, nn_append]
    have hx : nnR (z :: r) = nnR [z] + nnR r := by rw [show z :: r = [z] ++ r from rfl, nn_append]
    split
    · rw [nn_words hW]; omega
    · omega
theorem pb_nw {nm : Int} (hn : isWordB nm = false) (W p : List Int) : nwR p ≤ nwR (pbR nm W p) := by
  induction p with
  | nil => simp [pbR]
  | cons z r ih =>
    rw [pb_cons, nw_append, nw_cons]
    by_cases h : z = nm
    · subst h; rw [if_pos rfl, hn, if_neg (by simp)]; omega
    · rw [if_neg h, nw_cons]; have : nwR ([] : List Int) = 0 := rfl; omega
theorem pb_has {nm : Int} {p : List Int} (h : nm ∈ p) (W : List Int) : nwR W ≤ nwR (pbR nm W p) := by
  induction p with
  | nil => simp at h
  | cons z r ih =>
    rw [pb_cons, nw_append]
    rcases List.mem_cons.1 h with h | h
    · rw [if_pos h.symm]; omega
    · have := ih h; omega
theorem pb_none {nm : Int} {p : List Int} (h : nm ∉ p) (W : List Int) : pbR nm W p = p := by
  induction p with
  | nil => rfl
  | cons z r ih =>
    rw [pb_cons, if_neg (fun e => h (by rw [e]; simp)), ih (fun e => h (by simp [e]))]; rfl
theorem pb_len (nm : Int) (W p : List Int) (M : Nat) (hM : W.length ≤ M) (h1 : 1 ≤ M) : (pbR nm W p).length ≤ M * p.length := by
  induction p with
  | nil => simp [pbR]
  | cons z r ih =>
    rw [pb_cons, List.length_append, List.length_cons, Nat.mul_succ]
    have : (if z = nm then W else [z]).length ≤ M := by split; exact hM; exact h1
    omega
theorem pb_mem {nm : Int} {W p : List Int} {z : Int} (h : z ∈ pbR nm W p) : z ∈ W ∨ (z ∈ p ∧ z ≠ nm) := by
  obtain ⟨x, hx, hz⟩ := List.mem_flatMap.1 h
  by_cases e : x = nm
  · rw [if_pos e] at hz; exact .inl hz
  · rw [if_neg e] at hz; simp at hz; subst hz; exact .inr ⟨hx, e⟩
theorem part_zero9 (ms : List (List Int)) (p : List Int) : partR ms 0 p = p := by
  unfold partR
  rw [flatMap_congr' (g := fun z => [z]) fun z _ => if_neg (by intro h; obtain ⟨k, hk, _⟩ := nmB_iff.1 h; omega)]
  simp
theorem nm_word (k : Nat) : isWordB (1101 + (k : Int)) = false := by
  rcases h : isWordB (1101 + (k : Int)) with _ | _
  · rfl
  · have := isWordB_lt h; omega
theorem part_next {ms : List (List Int)} (hw : ∀ k, (ms.getD k []).all isWordB = true) (j : Nat) (p : List Int) : pbR (1101 + (j : Int)) (ms.getD j []) (partR ms j p) = partR ms (j + 1) p := by
  unfold partR pbR
  rw [List.flatMap_assoc]
  refine flatMap_congr' fun z hz => ?_
  by_cases h1 : nmB j z = true
  · rw [if_pos h1]
    obtain ⟨k, hk, rfl⟩ := nmB_iff.1 h1
    rw [if_pos (nmB_iff.2 ⟨k, by omega, rfl⟩), show (1101 + (k : Int) - 1101).toNat = k from by omega]
    rw [flatMap_congr' (g := fun z => [z]) fun y hy => if_neg (by intro e; subst e; have := (List.all_eq_true.1 (hw k)) _ hy; rw [nm_word] at this; cases this)]
    simp
  · rw [if_neg h1]
    by_cases h2 : z = 1101 + (j : Int)
    · subst h2
      rw [if_pos (nmB_iff.2 ⟨j, by omega, rfl⟩), show (1101 + (j : Int) - 1101).toNat = j from by omega]
      simp
    · have h3 : ¬ nmB (j + 1) z = true := by
        intro e
        obtain ⟨k, hk, rfl⟩ := nmB_iff.1 e
        by_cases hkj : k = j
        · exact h2 (by rw [hkj])
        · exact h1 (nmB_iff.2 ⟨k, by omega, rfl⟩)
      rw [if_neg h3]
      simp [h2]
structure SimAt (ms : List (List Int)) (j i : Nat) (q cur : List Int) : Prop where
  left : ∀ z ∈ cur, isWordB z = true ∨ ∃ k : Nat, j ≤ k ∧ k < i ∧ z = 1101 + (k : Int)
  few : nnR cur ≤ 60
  most : nwR cur ≤ 61
  same : (cur = partR ms j q ∧ nwR cur ≤ 60) ∨ (nwR cur = 61 ∧ 60 < nwR (partR ms j q))
theorem SimAt.len {ms : List (List Int)} {j i : Nat} {q cur : List Int} (h : SimAt ms j i q cur) : cur.length ≤ 121 := by
  have := nn_nw cur; have := h.few; have := h.most; omega
theorem SimAt.start {ms : List (List Int)} {i : Nat} {q : List Int} (h : usesB i q = true) : SimAt ms 0 i q q := by
  have hl := uses_len h
  refine ⟨fun z hz => ?_, ?_, ?_, .inl ⟨(part_zero9 ms q).symm, ?_⟩⟩
  · rcases uses_all h z hz with h1 | h1
    · obtain ⟨k, hk, rfl⟩ := nmB_iff.1 h1
      exact .inr ⟨k, Nat.zero_le _, hk, rfl⟩
    · exact .inl h1
  · have := nn_nw q; omega
  · have := nw_le q; omega
  · have := nw_le q; omega
theorem SimAt.words {ms : List (List Int)} {j : Nat} {q cur : List Int} (h : SimAt ms j j q cur) : cur.all isWordB = true := by
  rw [List.all_eq_true]
  intro z hz
  rcases h.left z hz with h1 | ⟨k, h1, h2, _⟩
  · exact h1
  · omega
theorem SimAt.next {ms : List (List Int)} (hw : ∀ k, (ms.getD k []).all isWordB = true) {j i : Nat} {qj q W cur : List Int} (hj : SimAt ms j j qj W) (hq : partR ms j qj = ms.getD j []) (h : SimAt ms j i q cur) :
    SimAt ms (j + 1) i q (cutR 0 (pbR (1101 + (j : Int)) W cur)) := by
  have hWw := hj.words
  have hpn := part_next hw j q
  have hlong : 60 < nwR (pbR (1101 + (j : Int)) W cur) → 60 < nwR (partR ms (j + 1) q) → SimAt ms (j + 1) i q (cutR 0 (pbR (1101 + (j : Int)) W cur)) := fun h1 h2 => by
    have hc := cut_long (pbR (1101 + (j : Int)) W cur) 0 (by omega) (by omega)
    refine ⟨fun z hz => ?_, Nat.le_trans (Nat.le_trans (nn_cut _ _) (pb_nn hWw cur)) h.few, by omega, .inr ⟨by omega, h2⟩⟩
    rcases pb_mem (cut_mem _ _ z hz) with h3 | ⟨h3, h4⟩
    · exact .inl ((List.all_eq_true.1 hWw) z h3)
    · rcases h.left z h3 with h5 | ⟨k, k1, k2, rfl⟩
      · exact .inl h5
      · exact .inr ⟨k, by omega, k2, rfl⟩
  have hshort : nwR (pbR (1101 + (j : Int)) W cur) ≤ 60 → pbR (1101 + (j : Int)) W cur = partR ms (j + 1) q → SimAt ms (j + 1) i q (cutR 0 (pbR (1101 + (j : Int)) W cur)) := fun h1 h2 => by
    rw [cut_same _ 0 (by omega)]
    refine ⟨fun z hz => ?_, Nat.le_trans (pb_nn hWw cur) h.few, by omega, .inl ⟨h2, h1⟩⟩
    rcases pb_mem hz with h3 | ⟨h3, h4⟩
    · exact .inl ((List.all_eq_true.1 hWw) z h3)
    · rcases h.left z h3 with h5 | ⟨k, k1, k2, rfl⟩
      · exact .inl h5
      · exact .inr ⟨k, by omega, k2, rfl⟩
  rcases h.same with ⟨hs, hn⟩ | ⟨hn, hs⟩
  · rcases hj.same with ⟨js, jn⟩ | ⟨jn, js⟩
    · have he : pbR (1101 + (j : Int)) W cur = partR ms (j + 1) q := by rw [← hpn, hs, js, hq]
      by_cases h60 : nwR (pbR (1101 + (j : Int)) W cur) ≤ 60
      · exact hshort h60 he
      · exact hlong (by omega) (by rw [← he]; omega)
    · by_cases hm : (1101 + (j : Int)) ∈ cur
      · refine hlong ?_ ?_
        · have := pb_has hm W; omega
        · rw [← hpn, ← hs]
          have := pb_has hm (ms.getD j [])
          rw [hq] at js; omega
      · refine hshort (by rw [pb_none hm]; exact hn) ?_
        rw [pb_none hm, ← hpn, ← hs, pb_none hm]
  · refine hlong ?_ ?_
    · have := pb_nw (nm_word j) W cur; omega
    · rw [← hpn]
      have := pb_nw (nm_word j) (ms.getD j []) (partR ms j q); omega
theorem part_all {d : List (List Int)} {j : Nat} {p : List Int} (h : usesB j p = true) : partR (flatsR d) j p = flatR d p := by
  unfold partR flatR
  refine flatMap_congr' fun z hz => ?_
  rcases uses_all h z hz with h1 | h1
  · rw [if_pos h1]
    obtain ⟨k, hk, rfl⟩ := nmB_iff.1 h1
    rw [sub_name, show (1101 + (k : Int) - 1101).toNat = k from by omega]
  · have := isWordB_lt h1
    rw [if_neg (by intro e; obtain ⟨k, hk, rfl⟩ := nmB_iff.1 e; omega), sub_word _ h1]
theorem flats_words {d : List (List Int)} (hd : dictFrom 0 d = true) (k : Nat) : ((flatsR d).getD k []).all isWordB = true := by
  by_cases hk : k < d.length
  · exact (sub_good hd k hk).1
  · rw [List.getD, List.getElem?_eq_none (by rw [flats_length]; omega)]; rfl
theorem part_row {d : List (List Int)} (hd : dictFrom 0 d = true) {j : Nat} {q : List Int} (hq : d[j]? = some q) : partR (flatsR d) j q = (flatsR d).getD j [] := by
  have hu := dict_get hd hq
  rw [Nat.zero_add] at hu
  rw [part_all hu, flats_get hd hq]
theorem SimAt.done {d : List (List Int)} {p cur : List Int} (hp : usesB d.length p = true) (h : SimAt (flatsR d) d.length d.length p cur) : (cur = flatR d p ∧ cur.length ≤ 60) ∨ (60 < cur.length ∧ 60 < (flatR d p).length) := by
  have hw := h.words
  have hl := nw_all hw
  rcases h.same with ⟨h1, h2⟩ | ⟨h1, h2⟩
  · left; rw [part_all hp] at h1; exact ⟨h1, by omega⟩
  · right; rw [part_all hp] at h2; have := nw_le (flatR d p); exact ⟨by omega, by omega⟩
theorem cut_step {c : Nat} {zs : List Int} {k : Nat} (hk : k < zs.length) : cutR c (zs.drop k) = if 60 < (if isWordB (zs.getD k 0) = true then c + 1 else c) then [zs.getD k 0] else zs.getD k 0 :: cutR (if isWordB (zs.getD k 0) = true then c + 1 else c) (zs.drop (k + 1)) := by
  rw [List.drop_eq_getElem_cons hk, cutR]
  simp [List.getD, List.getElem?_eq_getElem hk]
theorem nw_take {zs : List Int} {k : Nat} (hk : k < zs.length) : nwR (zs.take (k + 1)) = if isWordB (zs.getD k 0) = true then nwR (zs.take k) + 1 else nwR (zs.take k) := by
  rw [List.take_add_one, nw_append]
  simp only [List.getElem?_eq_getElem hk, List.getD, Option.getD_some, Option.toList_some]
  rw [nw_cons]
  have : nwR ([] : List Int) = 0 := rfl
  split <;> omega
theorem take_snoc {zs : List Int} {k : Nat} (hk : k < zs.length) : zs.take (k + 1) = zs.take k ++ [zs.getD k 0] := by
  rw [List.take_add_one]
  simp [List.getElem?_eq_getElem hk, List.getD]
theorem pb_take {nm : Int} {W zs : List Int} {k : Nat} (hk : k < zs.length) : pbR nm W (zs.take (k + 1)) = pbR nm W (zs.take k) ++ (if zs.getD k 0 = nm then W else [zs.getD k 0]) := by
  rw [take_snoc hk]
  unfold pbR
  rw [List.flatMap_append]
  simp
theorem nw_take_le (zs : List Int) (k : Nat) : nwR (zs.take k) ≤ nwR zs := by
  conv => rhs; rw [← List.take_append_drop k zs, nw_append]
  omega
end Go.Proofs.Ytaehaalaeikloaa
