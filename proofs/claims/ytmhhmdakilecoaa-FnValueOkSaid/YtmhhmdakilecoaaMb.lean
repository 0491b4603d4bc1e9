/- Chapter 2, plain: a step keeps what is valid; runs. -/
import Derived.Test.YtmhhmdakilecoaaMa
namespace Go.Proofs.Ytmhhmdakilecoaa
set_option maxRecDepth 100000

theorem restB_drop_tail {w : Int} {r : List Int} (h : restB (w :: r) = true) (h1 : w ≠ 1012) : restB r = true := by
  have hb : brk w = 0 := by
    rcases brk_cases w with ⟨h2, _⟩ | ⟨_, h2⟩ | ⟨_, _, h3⟩
    · exact absurd h2 h1
    · simp only [restB, Bool.and_eq_true] at h
      have := h.2
      rw [fitsFrom, h2] at this
      simp at this
    · exact h3
  exact restB_tail h hb
theorem stackB_all {st : List (List Int)} (h : stackB st = true) : st.length ≤ 20 ∧ ∀ v ∈ st, valueB v = true := by
  simp only [stackB, Bool.and_eq_true, decide_eq_true_eq, List.all_eq_true] at h
  exact h
theorem times_rest {a b r : List Int} (ha : valueB a = true) (hb : valueB b = true) (hr : restB r = true) (h1 : 1 < a.length) (h2 : ¬ 1 < b.length) (h3 : 0 < b.getD 0 0) : restB (inside a ++ ((b.getD 0 0 - 1) :: a) ++ [1011] ++ r) = true := by
  obtain ⟨_, hn, hn9⟩ := num_of_value hb h2
  have e : inside a ++ ((b.getD 0 0 - 1) :: a) ++ [1011] ++ r = inside a ++ ([b.getD 0 0 - 1] ++ (a ++ ([1011] ++ r))) := by simp
  rw [e]
  refine restB_append (inside_rest ha h1) (restB_append ?_ (restB_append (valueB_rest ha) (restB_append (restB_one rfl rfl) hr)))
  exact valueB_rest (by rw [valueB_num]; generalize b.getD 0 0 = q at *; simp [isNumB]; omega)

theorem l2R_ok {r : List Int} {st : List (List Int)} {x : List Int × List (List Int)} (h : okS r st) (hx : l2R r st = some x) : restB x.1 = true ∧ x.1.length ≤ r.length + 125 := by
  obtain ⟨hr, hs⟩ := h
  obtain ⟨hl, hv⟩ := stackB_all hs
  rcases r with _ | ⟨w, r⟩
  · simp [l2R] at hx
  · by_cases hw : w = 1012
    · subst hw
      obtain ⟨n, m, hc, hn, h2, ht, hf, ha, hnm, hd⟩ := quote_cut hr
      rw [l2R, if_neg (by omega), if_pos rfl, hc] at hx
      cases hx
      exact ⟨hd, by simp; omega⟩
    · have hr' := restB_drop_tail hr hw
      rw [l2R] at hx
      split at hx
      · cases hx; exact ⟨hr', by simp; omega⟩
      · rcases st with _ | ⟨a, s1⟩
        · cases hx
        · have va := hv a (by simp)
          obtain ⟨la1, la2⟩ := valueB_len va
          have lia := @inside_len a
          unfold opR opR1 at hx; dsimp only at hx
          split at hx
          · cases hx; exact ⟨hr', by simp; omega⟩
          · split at hx
            · cases hx; exact ⟨hr', by simp; omega⟩
            · split at hx
              · rename_i hc
                cases hx
                exact ⟨restB_append (inside_rest va hc.2) hr', by simp; omega⟩
              · rcases s1 with _ | ⟨b, s2⟩
                · cases hx
                · have vb := hv b (by simp)
                  obtain ⟨lb1, lb2⟩ := valueB_len vb
                  have lib := @inside_len b
                  dsimp only at hx
                  unfold opR2 at hx
                  split at hx
                  · cases hx; exact ⟨hr', by simp; omega⟩
                  · split at hx
                    · rename_i hc
                      cases hx
                      exact ⟨by rw [List.append_assoc]; exact restB_append (inside_rest va hc.2) (restB_append (valueB_rest vb) hr'), by simp; omega⟩
                    · split at hx
                      · rename_i hc
                        cases hx
                        dsimp only
                        split
                        · rename_i h0
                          exact ⟨times_rest va vb hr' hc.2.1 hc.2.2 h0, by simp; omega⟩
                        · exact ⟨hr', by simp; omega⟩
                      · split at hx
                        · cases hx; exact ⟨hr', by simp; omega⟩
                        · rcases s2 with _ | ⟨c, s3⟩
                          · cases hx
                          · dsimp only at hx
                            rw [opR3] at hx
                            split at hx
                            · rename_i hc
                              cases hx
                              dsimp only
                              split
                              · exact ⟨restB_append (inside_rest vb hc.2.2.1) hr', by simp; omega⟩
                              · exact ⟨restB_append (inside_rest va hc.2.1) hr', by simp; omega⟩
                            · cases hx
theorem stepR_ok {r : List Int} {st : List (List Int)} {x : List Int × List (List Int)} (h : okS r st) (hx : stepR r st = some x) : okS x.1 x.2 ∧ x.1.length ≤ r.length + 125 := by
  unfold stepR at hx
  rcases hl : l2R r st with _ | y
  · rw [hl] at hx; cases hx
  · rw [hl] at hx
    dsimp only at hx
    split at hx
    · rename_i hs
      cases hx
      obtain ⟨h1, h2⟩ := l2R_ok h hl
      exact ⟨⟨h1, hs⟩, h2⟩
    · cases hx

/-- What a run leaves, in so many steps at most; and how many it takes. -/
def runR : Nat → List Int → List (List Int) → Option (List (List Int) × Nat)
  | _, [], st => some (st, 0)
  | 0, _ :: _, _ => none
  | f + 1, w :: r, st => match stepR (w :: r) st with
    | none => none
    | some x => (runR f x.1 x.2).map fun y => (y.1, y.2 + 1)
def runOfR (p : List Int) (s : List (List Int)) : List (List Int) × Int × Bool :=
  if validB p = true ∧ stackB s = true then match runR 2000 p s.reverse with
    | some x => (x.1.reverse, ((x.2 : Nat) : Int), true)
    | none => ([], 0, false)
  else ([], 0, false)
theorem stackB_reverse (s : List (List Int)) : stackB s.reverse = stackB s := by
  simp [stackB]
theorem runR_nil (f : Nat) (st : List (List Int)) : runR f [] st = some (st, 0) := by cases f <;> rfl
theorem runR_stack {f : Nat} {r : List Int} {st : List (List Int)} {x : List (List Int) × Nat} (h : okS r st) (hx : runR f r st = some x) : stackB x.1 = true ∧ x.2 ≤ f := by
  induction f generalizing r st x with
  | zero =>
    rcases r with _ | ⟨w, r⟩
    · cases hx; exact ⟨h.2, by simp⟩
    · cases hx
  | succ f ih =>
    rcases r with _ | ⟨w, r⟩
    · cases hx; exact ⟨h.2, by simp⟩
    · rw [runR] at hx
      rcases hs : stepR (w :: r) st with _ | y
      · rw [hs] at hx; cases hx
      · rw [hs] at hx
        dsimp only at hx
        obtain ⟨z, hz, rfl⟩ := Option.map_eq_some_iff.1 hx
        obtain ⟨h1, h2⟩ := ih (stepR_ok h hs).1 hz
        exact ⟨h1, by simp; omega⟩
theorem runOfR_ok {p : List Int} {s : List (List Int)} (h : (runOfR p s).2.2 = true) : validB p = true ∧ stackB s = true ∧ ∃ x, runR 2000 p s.reverse = some x ∧ runOfR p s = (x.1.reverse, ((x.2 : Nat) : Int), true) ∧ stackB x.1.reverse = true ∧ x.2 ≤ 2000 := by
  unfold runOfR at h ⊢
  split at h
  · rename_i hc
    rw [if_pos hc]
    rcases hr : runR 2000 p s.reverse with _ | x
    · rw [hr] at h; cases h
    · obtain ⟨h1, h2⟩ := runR_stack ⟨validB_rest hc.1, by rw [stackB_reverse]; exact hc.2⟩ hr
      exact ⟨hc.1, hc.2, x, rfl, rfl, by rw [stackB_reverse]; exact h1, h2⟩
  · cases h
theorem runOfR_no {p : List Int} {s : List (List Int)} (h : (runOfR p s).2.2 = false) : runOfR p s = ([], 0, false) := by
  unfold runOfR at h ⊢
  split at h
  · rename_i hc
    rw [if_pos hc]
    rcases hr : runR 2000 p s.reverse with _ | x
    · rfl
    · rw [hr] at h; cases h
  · rename_i hc
    rw [if_neg hc]
end Go.Proofs.Ytmhhmdakilecoaa
