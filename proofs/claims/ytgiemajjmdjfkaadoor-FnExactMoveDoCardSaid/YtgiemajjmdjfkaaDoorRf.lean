/- Chapter 2, plain: runs one behind the other, runs with a value more at the bottom. -/
import Derived.Test.YtgiemajjmdjfkaaDoorLq
namespace Go.Proofs.YtgiemajjmdjfkaaDoor
set_option maxRecDepth 100000

theorem stepR_iff {r : List Int} {st : List (List Int)} {x : List Int × List (List Int)} : stepR r st = some x ↔ l2R r st = some x ∧ stackB x.2 = true := by
  unfold stepR
  rcases h : l2R r st with _ | y
  · simp
  · dsimp only
    constructor
    · intro hx
      split at hx
      · rename_i hs; cases hx; exact ⟨rfl, hs⟩
      · cases hx
    · rintro ⟨h1, h2⟩
      cases h1
      rw [if_pos h2]
theorem opR3_app {w : Int} {r a b c : List Int} {s3 : List (List Int)} {x : List Int × List (List Int)} (q : List Int) (t : List (List Int)) (h : opR3 w r a b c s3 = some x) : opR3 w (r ++ q) a b c (s3 ++ t) = some (x.1 ++ q, x.2 ++ t) := by
  unfold opR3 at *
  split at h
  · rename_i hc
    rw [if_pos hc]; cases h; simp
  · cases h
theorem opR2_app {w : Int} {r a b : List Int} {s2 : List (List Int)} {x : List Int × List (List Int)} (q : List Int) (t : List (List Int)) (h : opR2 w r a b s2 = some x) : opR2 w (r ++ q) a b (s2 ++ t) = some (x.1 ++ q, x.2 ++ t) := by
  unfold opR2 at *
  split at h
  · rename_i hc; rw [if_pos hc]; cases h; simp
  · rename_i h1
    rw [if_neg h1]
    split at h
    · rename_i hc; rw [if_pos hc]; cases h; simp
    · rename_i h2
      rw [if_neg h2]
      split at h
      · rename_i hc
        rw [if_pos hc]; cases h
        dsimp only
        split <;> simp
      · rename_i h3
        rw [if_neg h3]
        split at h
        · rename_i hc; rw [if_pos hc]; cases h; simp
        · rename_i h4
          rw [if_neg h4]
          rcases s2 with _ | ⟨c, s3⟩
          · cases h
          · exact opR3_app q t h
theorem opR1_app {w : Int} {r a : List Int} {s1 : List (List Int)} {x : List Int × List (List Int)} (q : List Int) (t : List (List Int)) (h : opR1 w r a s1 = some x) : opR1 w (r ++ q) a (s1 ++ t) = some (x.1 ++ q, x.2 ++ t) := by
  unfold opR1 at *
  split at h
  · rename_i hc; rw [if_pos hc]; cases h; simp
  · rename_i h1
    rw [if_neg h1]
    split at h
    · rename_i hc; rw [if_pos hc]; cases h; simp
    · rename_i h2
      rw [if_neg h2]
      split at h
      · rename_i hc; rw [if_pos hc]; cases h; simp
      · rename_i h3
        rw [if_neg h3]
        rcases s1 with _ | ⟨b, s2⟩
        · cases h
        · exact opR2_app q t h
/-- A step with words more behind the rest, and with values more at the bottom. -/
theorem l2R_app {r : List Int} {st : List (List Int)} {x : List Int × List (List Int)} (hr : restB r = true) (q : List Int) (t : List (List Int)) (h : l2R r st = some x) : l2R (r ++ q) (st ++ t) = some (x.1 ++ q, x.2 ++ t) := by
  rcases r with _ | ⟨w, r⟩
  · cases h
  · rw [List.cons_append, l2R] at *
    split at h
    · rename_i hc; rw [if_pos hc]; cases h; rfl
    · rename_i h1
      rw [if_neg h1]
      split at h
      · rename_i hc
        rw [if_pos hc]
        subst hc
        obtain ⟨n, m, hn, hle, -⟩ := quote_cut hr
        have hn2 := cutAt_append hn q
        rw [List.cons_append] at hn2
        rw [hn] at h
        rw [hn2]
        simp only [Option.getD_some] at *
        cases h
        rw [← List.cons_append, List.drop_append_of_le_length (by simpa using hle), List.take_append_of_le_length (by simpa using hle)]
        rfl
      · rename_i h2
        rw [if_neg h2]
        rcases st with _ | ⟨a, s1⟩
        · cases h
        · exact opR1_app q t h
theorem stepR_app {r : List Int} {st : List (List Int)} {x : List Int × List (List Int)} (hr : restB r = true) (q : List Int) (h : stepR r st = some x) : stepR (r ++ q) st = some (x.1 ++ q, x.2) := by
  rw [stepR_iff] at *
  have h1 := l2R_app hr q [] h.1
  simp only [List.append_nil] at h1
  exact ⟨h1, h.2⟩
/-- With values more at the bottom a step leads to the same with these values, if it is told. -/
theorem stepR_low {r : List Int} {st t : List (List Int)} {x y : List Int × List (List Int)} (hr : restB r = true) (h : stepR r st = some x) (hy : stepR r (st ++ t) = some y) : y = (x.1, x.2 ++ t) := by
  rw [stepR_iff] at *
  have h1 := l2R_app hr [] t h.1
  simp only [List.append_nil] at h1
  rw [h1] at hy
  obtain ⟨hy, _⟩ := hy
  cases hy; rfl
theorem stepR_low_told {r : List Int} {st t : List (List Int)} {x : List Int × List (List Int)} (hr : restB r = true) (h : stepR r st = some x) (ht : stackB (x.2 ++ t) = true) : stepR r (st ++ t) = some (x.1, x.2 ++ t) := by
  rw [stepR_iff] at *
  have h1 := l2R_app hr [] t h.1
  simp only [List.append_nil] at h1
  exact ⟨h1, ht⟩
theorem runR_app {f : Nat} {p : List Int} {st : List (List Int)} {x : List (List Int) × Nat} (h : okS p st) (hx : runR f p st = some x) (q : List Int) (g : Nat) : runR (x.2 + g) (p ++ q) st = (runR g q x.1).map fun y => (y.1, y.2 + x.2) := by
  induction f generalizing p st x with
  | zero =>
    rcases p with _ | ⟨w, r⟩
    · cases hx; simp
    · cases hx
  | succ f ih =>
    rcases p with _ | ⟨w, r⟩
    · cases hx; simp
    · rw [runR] at hx
      rcases hs : stepR (w :: r) st with _ | y
      · rw [hs] at hx; cases hx
      · rw [hs] at hx
        dsimp only at hx
        obtain ⟨z, hz, rfl⟩ := Option.map_eq_some_iff.1 hx
        have h1 := ih (stepR_ok h hs).1 hz
        have h2 := stepR_app h.1 q hs
        rw [List.cons_append] at h2
        rw [List.cons_append, show z.2 + 1 + g = (z.2 + g) + 1 by omega, runR, h2]
        dsimp only
        rw [h1, Option.map_map]
        rfl
theorem runR_mono {f g : Nat} {p : List Int} {st : List (List Int)} {x : List (List Int) × Nat} (hx : runR f p st = some x) (hg : x.2 ≤ g) : runR g p st = some x := by
  induction f generalizing p st x g with
  | zero =>
    rcases p with _ | ⟨w, r⟩
    · cases hx; exact runR_nil _ _
    · cases hx
  | succ f ih =>
    rcases p with _ | ⟨w, r⟩
    · cases hx; exact runR_nil _ _
    · rw [runR] at hx
      rcases hs : stepR (w :: r) st with _ | y
      · rw [hs] at hx; cases hx
      · rw [hs] at hx
        dsimp only at hx
        obtain ⟨z, hz, rfl⟩ := Option.map_eq_some_iff.1 hx
        dsimp only at hg
        obtain ⟨k, rfl⟩ : ∃ k, g = k + 1 := ⟨g - 1, by omega⟩
        rw [runR, hs]
        dsimp only
        rw [ih hz (by omega)]
        rfl
theorem runR_low {f : Nat} {p : List Int} {st t : List (List Int)} {x y : List (List Int) × Nat} (h : okS p st) (hx : runR f p st = some x) (hy : runR f p (st ++ t) = some y) : y = (x.1 ++ t, x.2) := by
  induction f generalizing p st x y with
  | zero =>
    rcases p with _ | ⟨w, r⟩
    · cases hx; cases hy; rfl
    · cases hx
  | succ f ih =>
    rcases p with _ | ⟨w, r⟩
    · cases hx; cases hy; rfl
    · rw [runR] at hx hy
      rcases hs : stepR (w :: r) st with _ | u
      · rw [hs] at hx; cases hx
      · rw [hs] at hx
        rcases hs2 : stepR (w :: r) (st ++ t) with _ | u2
        · rw [hs2] at hy; cases hy
        · rw [hs2] at hy
          dsimp only at hx hy
          obtain ⟨z, hz, rfl⟩ := Option.map_eq_some_iff.1 hx
          obtain ⟨z2, hz2, rfl⟩ := Option.map_eq_some_iff.1 hy
          have e := stepR_low h.1 hs hs2
          subst e
          have e2 := ih (stepR_ok h hs).1 hz hz2
          subst e2
          rfl
theorem runOfR_mk {p : List Int} {s : List (List Int)} {x : List (List Int) × Nat} (hp : validB p = true) (hs : stackB s = true) (h : runR 2000 p s.reverse = some x) : runOfR p s = (x.1.reverse, ((x.2 : Nat) : Int), true) := by
  rw [runOfR, if_pos ⟨hp, hs⟩, h]
/-- Both told, then the second one of what the first one leaves. -/
theorem run_both {p q both : List Int} {s left one : List (List Int)} {n a : Int} (h : runOfR p s = (left, n, true)) (ht : thenR p q = (both, true)) (hu : runOfR both s = (one, a, true)) : ∃ b, runOfR q left = (one, b, true) ∧ a = n + b := by
  obtain ⟨hp, hs, x, hx, he, hsx, hle⟩ := runOfR_ok (by rw [h])
  rw [h] at he
  simp only [Prod.mk.injEq] at he
  obtain ⟨rfl, rfl, -⟩ := he
  unfold thenR at ht
  split at ht
  · rename_i hc
    simp only [Prod.mk.injEq] at ht
    obtain ⟨rfl, -⟩ := ht
    obtain ⟨hb, -, y, hy, he, -, hly⟩ := runOfR_ok (by rw [hu])
    rw [hu] at he
    simp only [Prod.mk.injEq] at he
    obtain ⟨rfl, rfl, -⟩ := he
    have h1 := runR_app ⟨validB_rest hp, by rw [stackB_reverse]; exact hs⟩ hx q (2000 - x.2)
    rw [show x.2 + (2000 - x.2) = 2000 by omega, hy] at h1
    obtain ⟨z, hz, hzy⟩ := Option.map_eq_some_iff.1 h1.symm
    subst hzy
    dsimp only at hly ⊢
    refine ⟨((z.2 : Nat) : Int), ?_, by omega⟩
    refine runOfR_mk hc.2.1 hsx ?_
    rw [List.reverse_reverse]
    exact runR_mono hz (by omega)
  · simp only [Prod.mk.injEq] at ht
    cases ht.2
theorem run_join {p q both : List Int} {s left two : List (List Int)} {n b : Int} (h : runOfR p s = (left, n, true)) (ht : thenR p q = (both, true)) (hv : runOfR q left = (two, b, true)) (hf : n + b ≤ 2000) (hb : validB both = true) : runOfR both s = (two, n + b, true) := by
  obtain ⟨hp, hs, x, hx, he, hsx, hle⟩ := runOfR_ok (by rw [h])
  rw [h] at he
  simp only [Prod.mk.injEq] at he
  obtain ⟨rfl, rfl, -⟩ := he
  obtain ⟨hq, -, y, hy, he, -, hly⟩ := runOfR_ok (by rw [hv])
  rw [hv] at he
  simp only [Prod.mk.injEq] at he
  obtain ⟨rfl, rfl, -⟩ := he
  rw [List.reverse_reverse] at hy
  unfold thenR at ht
  split at ht
  · simp only [Prod.mk.injEq] at ht
    obtain ⟨rfl, -⟩ := ht
    have h1 := runR_app ⟨validB_rest hp, by rw [stackB_reverse]; exact hs⟩ hx q (2000 - x.2)
    rw [show x.2 + (2000 - x.2) = 2000 by omega, runR_mono hy (show y.2 ≤ 2000 - x.2 by omega)] at h1
    rw [runOfR_mk hb hs h1]
    dsimp only
    simp only [Prod.mk.injEq]
    exact ⟨trivial, by omega, trivial⟩
  · simp only [Prod.mk.injEq] at ht
    cases ht.2
/-- With a value more at the bottom. -/
theorem run_low {p v : List Int} {s left low : List (List Int)} {n c : Int} (h : runOfR p s = (left, n, true)) (hw : runOfR p (v :: s) = (low, c, true)) : c = n ∧ low = v :: left := by
  obtain ⟨hp, hs, x, hx, he, hsx, hle⟩ := runOfR_ok (by rw [h])
  rw [h] at he
  simp only [Prod.mk.injEq] at he
  obtain ⟨rfl, rfl, -⟩ := he
  obtain ⟨-, -, y, hy, he, -, hly⟩ := runOfR_ok (by rw [hw])
  rw [hw] at he
  simp only [Prod.mk.injEq] at he
  obtain ⟨rfl, rfl, -⟩ := he
  rw [List.reverse_cons] at hy
  have e := runR_low ⟨validB_rest hp, by rw [stackB_reverse]; exact hs⟩ hx hy
  subst e
  simp
end Go.Proofs.YtgiemajjmdjfkaaDoor
