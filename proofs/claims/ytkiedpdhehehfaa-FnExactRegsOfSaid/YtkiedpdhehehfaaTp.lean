/- The model's letters: what is eaten is a beginning; l1Same; l3Letters. -/
import Derived.Test.YtkiedpdhehehfaaTe
import Derived.Deep.RegionWith
namespace Go.Proofs.Ytkiedpdhehehfaa
set_option maxRecDepth 100000
open Go.RowKit Go.WideShapes

theorem eat_f (n : Nat) (z : Int) (xs : List Int) : eat (n + 1) false (z :: xs) = if z = 0 then some xs else if z = 1 then (if 0 ≤ xs.headD (-1) ∧ xs.headD (-1) ≤ 999 then some xs.tail else none) else if z = 2 then (eat n true xs).bind (eat n true) else none := rfl
theorem eat_t (n : Nat) (z : Int) (xs : List Int) : eat (n + 1) true (z :: xs) = if z = 3 then (if 0 ≤ xs.headD (-1) ∧ xs.headD (-1) ≤ 999 then some xs.tail else none) else if z = 4 then (eat n true xs).bind (eat n false) else none := rfl
theorem eat_pre {n : Nat} {b : Bool} {xs r : List Int} (h : eat n b xs = some r) : ∃ p, xs = p ++ r ∧ p ≠ [] ∧ (∀ s, eat n b (p ++ s) = some s) ∧ (∀ s ls, lets n b (p ++ s) ls = lets n b xs ls) := by
  induction n generalizing b xs r with
  | zero => cases h
  | succ n ih =>
    rcases xs with _ | ⟨z, xs⟩
    · exfalso; have := eat_len h; simp at this
    have lett : ∀ b2 (q : Int), (∀ y s, 0 ≤ y ∧ y ≤ 999 → eat (n + 1) b2 (q :: y :: s) = some s) → (∀ y s ls, lets (n + 1) b2 (q :: y :: s) ls = addL ls ((if b2 = true then 3 else 1), y)) → z = q → b = b2 → (0 ≤ xs.headD (-1) ∧ xs.headD (-1) ≤ 999) → some xs.tail = some r → ∃ p, z :: xs = p ++ r ∧ p ≠ [] ∧ (∀ s, eat (n + 1) b (p ++ s) = some s) ∧ (∀ s ls, lets (n + 1) b (p ++ s) ls = lets (n + 1) b (z :: xs) ls) := by
      rintro b2 q h1 h2 rfl rfl hc hr
      rcases xs with _ | ⟨y, xs⟩
      · simp at hc
      · cases hr
        refine ⟨[z, y], rfl, by simp, fun s => h1 y s (by simpa using hc), fun s ls => ?_⟩
        rw [show [z, y] ++ s = z :: y :: s from rfl, h2, h2]
    have two : ∀ b1 b2 (q : Int), (∀ s, eat (n + 1) b1 (q :: s) = (eat n true s).bind (eat n b2)) → (∀ s ls, lets (n + 1) b1 (q :: s) ls = lets n b2 ((eat n true s).getD []) (lets n true s ls)) → z = q → b = b1 → (eat n true xs).bind (eat n b2) = some r → ∃ p, z :: xs = p ++ r ∧ p ≠ [] ∧ (∀ s, eat (n + 1) b (p ++ s) = some s) ∧ (∀ s ls, lets (n + 1) b (p ++ s) ls = lets (n + 1) b (z :: xs) ls) := by
      rintro b1 b2 q h1 h2 rfl rfl hr
      rcases h3 : eat n true xs with _ | r1
      · rw [h3] at hr; cases hr
      · rw [h3] at hr
        obtain ⟨p1, e1, _, f1, g1⟩ := ih h3
        obtain ⟨p2, e2, _, f2, g2⟩ := ih hr
        refine ⟨z :: (p1 ++ p2), by rw [e1, e2]; simp, by simp, fun s => ?_, fun s ls => ?_⟩
        · rw [List.cons_append, h1, List.append_assoc, f1]; exact f2 s
        · rw [List.cons_append, h2, h2, List.append_assoc, f1, h3, g1]
          simp only [Option.getD_some]
          rw [g2]
    rcases b with _ | _
    · rw [eat_f] at h
      by_cases e : z = 0
      · rw [if_pos e] at h
        cases h
        subst e
        exact ⟨[0], rfl, by simp, fun s => by simp [eat], fun s ls => by simp [lets]⟩
      rw [if_neg e] at h
      by_cases e : z = 1
      · rw [if_pos e] at h
        by_cases hc : 0 ≤ xs.headD (-1) ∧ xs.headD (-1) ≤ 999
        · rw [if_pos hc] at h
          exact lett false 1 (fun y s hy => by simp [eat, hy]) (fun y s ls => by simp [lets]) e rfl hc h
        · rw [if_neg hc] at h; cases h
      rw [if_neg e] at h
      by_cases e : z = 2
      · rw [if_pos e] at h
        exact two false true 2 (fun s => by simp [eat]) (fun s ls => by simp [lets]) e rfl h
      · rw [if_neg e] at h; cases h
    · rw [eat_t] at h
      by_cases e : z = 3
      · rw [if_pos e] at h
        by_cases hc : 0 ≤ xs.headD (-1) ∧ xs.headD (-1) ≤ 999
        · rw [if_pos hc] at h
          exact lett true 3 (fun y s hy => by simp [eat, hy]) (fun y s ls => by simp [lets]) e rfl hc h
        · rw [if_neg hc] at h; cases h
      rw [if_neg e] at h
      by_cases e : z = 4
      · rw [if_pos e] at h
        exact two true false 4 (fun s => by simp [eat]) (fun s ls => by simp [lets]) e rfl h
      · rw [if_neg e] at h; cases h
theorem eat_mono {n m : Nat} {b : Bool} {xs r : List Int} (h : eat n b xs = some r) (hm : n ≤ m) : eat m b xs = some r := by
  induction n generalizing m b xs r with
  | zero => cases h
  | succ n ih =>
    obtain ⟨m, rfl⟩ : ∃ q, m = q + 1 := ⟨m - 1, by omega⟩
    have h2 : ∀ b2, (eat n true xs.tail).bind (eat n b2) = some r → (eat m true xs.tail).bind (eat m b2) = some r := fun b2 hr => by
      rcases h3 : eat n true xs.tail with _ | r1
      · rw [h3] at hr; cases hr
      · rw [h3] at hr
        rw [ih h3 (by omega)]; exact ih hr (by omega)
    rcases b with _ | _
    · rw [eat] at h ⊢
      split at h
      · rename_i e; rw [if_pos e]; exact h
      rename_i e0
      rw [if_neg e0]
      split at h
      · rename_i e; rw [if_pos e]; exact h
      rename_i e1
      rw [if_neg e1]
      split at h
      · rename_i e; rw [if_pos e]; exact h2 _ h
      · cases h
    · rw [eat] at h ⊢
      split at h
      · rename_i e; rw [if_pos e]; exact h
      rename_i e0
      rw [if_neg e0]
      split at h
      · rename_i e; rw [if_pos e]; exact h2 _ h
      · cases h
theorem addL_len (ls : List (Int × Int)) (kn : Int × Int) : (addL ls kn).length ≤ ls.length + 1 := by unfold addL; split <;> simp
theorem lets_len {n : Nat} {b : Bool} {xs r : List Int} (h : eat n b xs = some r) (ls : List (Int × Int)) : (lets n b xs ls).length + r.length ≤ ls.length + xs.length := by
  induction n generalizing b xs r ls with
  | zero => cases h
  | succ n ih =>
    have hl := eat_len h
    have two : ∀ b2, (eat n true xs.tail).bind (eat n b2) = some r → (lets n b2 ((eat n true xs.tail).getD []) (lets n true xs.tail ls)).length + r.length ≤ ls.length + xs.length := fun b2 hr => by
      rcases h3 : eat n true xs.tail with _ | r1
      · rw [h3] at hr; cases hr
      · rw [h3] at hr
        have i1 := ih h3 ls
        have i2 := ih hr (lets n true xs.tail ls)
        simp only [Option.getD_some]
        rw [List.length_tail] at i1
        omega
    have hadd := fun kn => addL_len ls kn
    rcases b with _ | _
    · rw [eat] at h
      rw [lets]
      split at h
      · rename_i e; rw [if_pos e]; omega
      rename_i e0
      rw [if_neg e0]
      split at h
      · rename_i e; rw [if_pos e]; have := hadd (1, xs.tail.headD (-1)); omega
      rename_i e1
      rw [if_neg e1]
      split at h
      · exact two _ h
      · cases h
    · rw [eat] at h
      rw [lets]
      split at h
      · rename_i e; rw [if_pos e]; have := hadd (3, xs.tail.headD (-1)); omega
      rename_i e0
      rw [if_neg e0]
      split at h
      · exact two _ h
      · cases h

/-- A letter as the model has it. -/
def code (kn : Int × Int) : Int := 2 * kn.2 + (if kn.1 = 3 then 1 else 0)
theorem code_inj {x y : Int × Int} (hx : x.1 = 1 ∨ x.1 = 3) (hy : y.1 = 1 ∨ y.1 = 3) (h : code x = code y) : x = y := by
  obtain ⟨a, b⟩ := x
  obtain ⟨c, d⟩ := y
  simp only [code] at h hx hy
  rcases hx with rfl | rfl <;> rcases hy with rfl | rfl <;> simp at h ⊢ <;> omega
theorem code_mem {x : Int × Int} {ls : List (Int × Int)} (hx : x.1 = 1 ∨ x.1 = 3) (hl : ∀ y ∈ ls, y.1 = 1 ∨ y.1 = 3) : code x ∈ ls.map code ↔ x ∈ ls := by
  constructor
  · intro h
    obtain ⟨y, hy, e⟩ := List.mem_map.1 h
    rw [← code_inj (hl y hy) hx e]; exact hy
  · exact fun h => List.mem_map.2 ⟨x, h, rfl⟩
/-- Where a row, or a type, ends that begins at k. -/
theorem end_ok {n : Nat} {b : Bool} {zs r : List Int} {k : Nat} (h : eat n b (zs.drop k) = some r) : endAt zs.length b zs k = ((zs.length - r.length : Nat) : Int) ∧ k < zs.length ∧ r.length ≤ zs.length ∧ zs.drop (zs.length - r.length) = r ∧ k ≤ zs.length - r.length := by
  have hl := eat_len h
  rw [List.length_drop] at hl
  have h1 : eat zs.length b (zs.drop k) = some r := by
    rcases Nat.le_total n zs.length with hn | hn
    · exact eat_mono h hn
    · rw [← eat_fuel (n := n) (by rw [List.length_drop]; omega) (by rw [List.length_drop]; omega)]; exact h
  obtain ⟨m, hr, hm⟩ := eat_suffix h
  rw [List.length_drop] at hm
  have hrl : r.length = zs.length - k - m := by rw [hr, List.length_drop, List.length_drop]
  refine ⟨by rw [endAt, h1, endOf], by omega, by omega, ?_, by omega⟩
  rw [hrl, show zs.length - (zs.length - k - m) = k + m by omega, hr, List.drop_drop]
end Go.Proofs.Ytkiedpdhehehfaa
