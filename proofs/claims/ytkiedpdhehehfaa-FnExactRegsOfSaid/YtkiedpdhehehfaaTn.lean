/- Letters named in order: what the model's tidy rows come to (pure). -/
import Derived.Test.YtkiedpdhehehfaaTp
namespace Go.Proofs.Ytkiedpdhehehfaa
set_option maxRecDepth 100000
open Go.RowKit Go.WideShapes

/-- The place of a letter among those of its kind. -/
def rank : List (Int × Int) → Int × Int → Int
  | [], _ => 0
  | x :: r, kn => if x = kn then 0 else (if x.1 = kn.1 then 1 else 0) + rank r kn
/-- The row with its letters called by their places. -/
def nam : Nat → Bool → List Int → List (Int × Int) → List Int
  | 0, _, _, _ => []
  | n + 1, true, zs, L => if zs.headD (-1) = 3 then [3, rank L (3, zs.tail.headD (-1))] else 4 :: (nam n true zs.tail L ++ nam n false ((eat n true zs.tail).getD []) L)
  | n + 1, false, zs, L => if zs.headD (-1) = 0 then [0] else if zs.headD (-1) = 1 then [1, rank L (1, zs.tail.headD (-1))] else 2 :: (nam n true zs.tail L ++ nam n true ((eat n true zs.tail).getD []) L)
/-- The letters that stand there. -/
def occ : Nat → Bool → List Int → List (Int × Int)
  | 0, _, _ => []
  | n + 1, true, zs => if zs.headD (-1) = 3 then [(3, zs.tail.headD (-1))] else occ n true zs.tail ++ occ n false ((eat n true zs.tail).getD [])
  | n + 1, false, zs => if zs.headD (-1) = 0 then [] else if zs.headD (-1) = 1 then [(1, zs.tail.headD (-1))] else occ n true zs.tail ++ occ n true ((eat n true zs.tail).getD [])

theorem nam_f (n : Nat) (z : Int) (xs : List Int) (L : List (Int × Int)) : nam (n + 1) false (z :: xs) L = if z = 0 then [0] else if z = 1 then [1, rank L (1, xs.headD (-1))] else 2 :: (nam n true xs L ++ nam n true ((eat n true xs).getD []) L) := rfl
theorem nam_t (n : Nat) (z : Int) (xs : List Int) (L : List (Int × Int)) : nam (n + 1) true (z :: xs) L = if z = 3 then [3, rank L (3, xs.headD (-1))] else 4 :: (nam n true xs L ++ nam n false ((eat n true xs).getD []) L) := rfl
theorem occ_f (n : Nat) (z : Int) (xs : List Int) : occ (n + 1) false (z :: xs) = if z = 0 then [] else if z = 1 then [(1, xs.headD (-1))] else occ n true xs ++ occ n true ((eat n true xs).getD []) := rfl
theorem occ_t (n : Nat) (z : Int) (xs : List Int) : occ (n + 1) true (z :: xs) = if z = 3 then [(3, xs.headD (-1))] else occ n true xs ++ occ n false ((eat n true xs).getD []) := rfl
theorem two_iff {A B t r r1 : List Int} {P Q : Prop} (hA : A.length + r1.length = t.length) (h1 : A ++ r1 = t ↔ P) (h2 : B ++ r = r1 ↔ Q) (_ : B.length + r.length = r1.length) (ht : ∃ p, t = p ++ r1) : (A ++ B) ++ r = t ↔ P ∧ Q := by
  obtain ⟨p, rfl⟩ := ht
  rw [← h1, ← h2, List.append_assoc]
  rw [List.length_append] at hA
  constructor
  · intro h
    have := List.append_inj h (by omega)
    exact ⟨by rw [this.1], this.2⟩
  · rintro ⟨h3, h4⟩
    rw [h4]; exact h3
theorem nam_iff {n : Nat} {b : Bool} {zs r : List Int} (h : eat n b zs = some r) (L : List (Int × Int)) : (nam n b zs L ++ r = zs ↔ ∀ kn ∈ occ n b zs, rank L kn = kn.2) ∧ (nam n b zs L).length + r.length = zs.length := by
  induction n generalizing b zs r with
  | zero => cases h
  | succ n ih =>
    rcases zs with _ | ⟨z, xs⟩
    · exfalso; have := eat_len h; simp at this
    have two : ∀ b2 (q : Int), (eat n true xs).bind (eat n b2) = some r → z = q → ((q :: (nam n true xs L ++ nam n b2 ((eat n true xs).getD []) L)) ++ r = z :: xs ↔ ∀ kn ∈ occ n true xs ++ occ n b2 ((eat n true xs).getD []), rank L kn = kn.2) ∧ (q :: (nam n true xs L ++ nam n b2 ((eat n true xs).getD []) L)).length + r.length = (z :: xs).length := by
      rintro b2 q hr rfl
      rcases h3 : eat n true xs with _ | r1
      · rw [h3] at hr; cases hr
      · rw [h3] at hr
        obtain ⟨i1, i2⟩ := ih h3
        obtain ⟨j1, j2⟩ := ih hr
        obtain ⟨p, hp, _⟩ := eat_pre h3
        simp only [Option.getD_some]
        have hh := two_iff i2 i1 j1 j2 ⟨p, hp⟩
        refine ⟨?_, by simp only [List.length_cons, List.length_append]; omega⟩
        rw [List.cons_append, List.cons.injEq]
        simp only [true_and]
        rw [hh]
        simp only [List.mem_append]
        constructor
        · rintro ⟨k1, k2⟩ kn (hk | hk)
          · exact k1 kn hk
          · exact k2 kn hk
        · exact fun k => ⟨fun kn hk => k kn (.inl hk), fun kn hk => k kn (.inr hk)⟩
    have lett : ∀ q : Int, (0 ≤ xs.headD (-1) ∧ xs.headD (-1) ≤ 999) → some xs.tail = some r → z = q → ([q, rank L (q, xs.headD (-1))] ++ r = z :: xs ↔ ∀ kn ∈ [(q, xs.headD (-1))], rank L kn = kn.2) ∧ ([q, rank L (q, xs.headD (-1))] : List Int).length + r.length = (z :: xs).length := by
      rintro q hc hr rfl
      rcases xs with _ | ⟨y, xs⟩
      · simp at hc
      · cases hr
        simp only [List.headD_cons, List.tail_cons, List.mem_singleton, forall_eq]
        refine ⟨?_, by simp; omega⟩
        simp
    rcases b with _ | _
    · rw [eat_f] at h
      rw [nam_f, occ_f]
      by_cases e : z = 0
      · rw [if_pos e] at h
        cases h
        rw [if_pos e, if_pos e, e]
        simp
        omega
      rw [if_neg e] at h
      rw [if_neg e, if_neg e]
      by_cases e : z = 1
      · rw [if_pos e] at h
        rw [if_pos e, if_pos e]
        by_cases hc : 0 ≤ xs.headD (-1) ∧ xs.headD (-1) ≤ 999
        · rw [if_pos hc] at h; exact lett 1 hc h e
        · rw [if_neg hc] at h; cases h
      rw [if_neg e] at h
      rw [if_neg e, if_neg e]
      by_cases e : z = 2
      · rw [if_pos e] at h; exact two true 2 h e
      · rw [if_neg e] at h; cases h
    · rw [eat_t] at h
      rw [nam_t, occ_t]
      by_cases e : z = 3
      · rw [if_pos e] at h
        rw [if_pos e, if_pos e]
        by_cases hc : 0 ≤ xs.headD (-1) ∧ xs.headD (-1) ≤ 999
        · rw [if_pos hc] at h; exact lett 3 hc h e
        · rw [if_neg hc] at h; cases h
      rw [if_neg e] at h
      rw [if_neg e, if_neg e]
      by_cases e : z = 4
      · rw [if_pos e] at h; exact two false 4 h e
      · rw [if_neg e] at h; cases h
theorem addL_mem {ls : List (Int × Int)} {kn x : Int × Int} : x ∈ addL ls kn ↔ x ∈ ls ∨ x = kn := by
  unfold addL
  split
  · rename_i h
    exact ⟨.inl, fun h2 => h2.elim id (fun e => by rw [e]; exact h)⟩
  · simp
theorem lets_mem {n : Nat} {b : Bool} {zs r : List Int} (h : eat n b zs = some r) {ls : List (Int × Int)} {x : Int × Int} : x ∈ lets n b zs ls ↔ x ∈ ls ∨ x ∈ occ n b zs := by
  induction n generalizing b zs r ls with
  | zero => cases h
  | succ n ih =>
    have two : ∀ b2, (eat n true zs.tail).bind (eat n b2) = some r → (x ∈ lets n b2 ((eat n true zs.tail).getD []) (lets n true zs.tail ls) ↔ x ∈ ls ∨ x ∈ occ n true zs.tail ++ occ n b2 ((eat n true zs.tail).getD [])) := fun b2 hr => by
      rcases h3 : eat n true zs.tail with _ | r1
      · rw [h3] at hr; cases hr
      · rw [h3] at hr
        simp only [Option.getD_some]
        rw [ih hr, ih h3, List.mem_append, or_assoc]
    rcases b with _ | _
    · rw [eat] at h
      rw [lets, occ]
      split at h
      · rename_i e; rw [if_pos e, if_pos e]; simp
      rename_i e0
      rw [if_neg e0, if_neg e0]
      split at h
      · rename_i e; rw [if_pos e, if_pos e, addL_mem]; simp
      rename_i e1
      rw [if_neg e1, if_neg e1]
      split at h
      · exact two _ h
      · cases h
    · rw [eat] at h
      rw [lets, occ]
      split at h
      · rename_i e; rw [if_pos e, if_pos e, addL_mem]; simp
      rename_i e0
      rw [if_neg e0, if_neg e0]
      split at h
      · exact two _ h
      · cases h
theorem addL_nodup {ls : List (Int × Int)} {kn : Int × Int} (h : ls.Nodup) : (addL ls kn).Nodup := by
  unfold addL
  split
  · exact h
  · rename_i hn
    rw [List.nodup_append]
    exact ⟨h, by simp, fun a ha b hb e => by simp at hb; subst hb; exact hn (by rw [← e]; exact ha)⟩
theorem lets_nodup (n : Nat) (b : Bool) (zs : List Int) (ls : List (Int × Int)) (h : ls.Nodup) : (lets n b zs ls).Nodup := by
  induction n generalizing b zs ls with
  | zero => exact h
  | succ n ih =>
    rcases b with _ | _
    · rw [lets]
      split
      · exact h
      split
      · exact addL_nodup h
      · exact ih _ _ _ (ih _ _ _ h)
    · rw [lets]
      split
      · exact addL_nodup h
      · exact ih _ _ _ (ih _ _ _ h)
/-- Named in order is: each by its place. -/
theorem nameB_rank (l : List (Int × Int)) (a b : Int) (hn : l.Nodup) (hk : ∀ x ∈ l, x.1 = 1 ∨ x.1 = 3) : nameB a b l = true ↔ ∀ x ∈ l, rank l x + (if x.1 = 1 then a else b) = x.2 := by
  induction l generalizing a b with
  | nil => simp [nameB]
  | cons x r ih =>
    obtain ⟨k, m⟩ := x
    rw [List.nodup_cons] at hn
    have hr := fun a b => ih a b hn.2 (fun y hy => hk y (by simp [hy]))
    have hne : ∀ y ∈ r, (k, m) ≠ y := fun y hy e => hn.1 (by rw [e]; exact hy)
    have hkx := hk (k, m) (by simp)
    have htail : ∀ (a' b' : Int), (∀ y ∈ r, (if k = y.1 then 1 else 0) + (if y.1 = 1 then a else b) = (if y.1 = 1 then a' else b')) → ((∀ y ∈ r, rank ((k, m) :: r) y + (if y.1 = 1 then a else b) = y.2) ↔ (∀ y ∈ r, rank r y + (if y.1 = 1 then a' else b') = y.2)) := fun a' b' h => by
      constructor
      · intro h2 y hy
        have := h2 y hy
        rw [rank, if_neg (hne y hy)] at this
        have := h y hy
        omega
      · intro h2 y hy
        have := h2 y hy
        rw [rank, if_neg (hne y hy)]
        have := h y hy
        omega
    have h0 : rank ((k, m) :: r) (k, m) = 0 := by rw [rank, if_pos rfl]
    simp only [List.mem_cons, forall_eq_or_imp, h0]
    rw [nameB]
    rcases hkx with rfl | rfl
    · rw [if_pos rfl, if_pos rfl, Bool.and_eq_true, beq_iff_eq, hr, htail (a + 1) b (fun y hy => by
        rcases hk y (by simp [hy]) with e | e <;> rw [e] <;> simp <;> omega)]
      simp only [Int.zero_add]
      exact ⟨fun h => ⟨h.1.symm, h.2⟩, fun h => ⟨h.1.symm, h.2⟩⟩
    · rw [if_neg (by decide), if_neg (by decide), Bool.and_eq_true, beq_iff_eq, hr, htail a (b + 1) (fun y hy => by
        rcases hk y (by simp [hy]) with e | e <;> rw [e] <;> simp <;> omega)]
      simp only [Int.zero_add]
      exact ⟨fun h => ⟨h.1.symm, h.2⟩, fun h => ⟨h.1.symm, h.2⟩⟩
/-- The tidy rows are the rows exactly if the letters are named in order. -/
theorem tidy_iff {a b : List Int} {la lb : List (Int × Int)} (ha : wholeR a [] = some la) (hb : wholeR b la = some lb) : (decide (nam a.length true a lb = a) && decide (nam b.length true b lb = b)) = nameB 0 0 lb := by
  unfold wholeR at ha hb
  split at ha
  · rename_i h1
    split at hb
    · rename_i h2
      cases ha
      cases hb
      have hn := lets_nodup b.length true b _ (lets_nodup a.length true a [] (by simp))
      have hk := lets_kinds b.length true b _ (lets_kinds a.length true a [] (by simp))
      have e1 := (nam_iff h1.2 (lets b.length true b (lets a.length true a []))).1
      have e2 := (nam_iff h2.2 (lets b.length true b (lets a.length true a []))).1
      have hm := fun x => lets_mem (x := x) h2.2 (ls := lets a.length true a [])
      have hm2 := fun x => lets_mem (x := x) h1.2 (ls := [])
      rw [List.append_nil] at e1 e2
      rw [Bool.eq_iff_iff, Bool.and_eq_true, decide_eq_true_eq, decide_eq_true_eq, e1, e2, nameB_rank _ 0 0 hn hk]
      have h00 : ∀ x : Int × Int, (if x.1 = 1 then (0 : Int) else 0) = 0 := fun x => by split <;> rfl
      simp only [h00, Int.add_zero]
      constructor
      · rintro ⟨k1, k2⟩ x hx
        rcases (hm x).1 hx with h | h
        · rcases (hm2 x).1 h with h | h
          · cases h
          · exact k1 x h
        · exact k2 x h
      · exact fun k => ⟨fun x hx => k x ((hm x).2 (.inl ((hm2 x).2 (.inr hx)))), fun x hx => k x ((hm x).2 (.inr hx))⟩
    · cases hb
  · cases ha
end Go.Proofs.Ytkiedpdhehehfaa
