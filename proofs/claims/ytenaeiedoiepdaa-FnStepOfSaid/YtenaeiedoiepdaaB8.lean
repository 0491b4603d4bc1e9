/- Several texts in one. -/
import Derived.Test.YtenaeiedoiepdaaB6
import Derived.Test.YtenaeiedoiepdaaRr
import Derived.Test.YtenaeiedoiepdaaB2
/- Stacks as programs: pure facts. -/
namespace Go.Proofs.Ytenaeiedoiepdaa
set_option maxRecDepth 100000
open Go.RowKit Go.WideShapes

theorem cutAt_append {o : Int} {l : List Int} {n : Nat} (h : cutAt o l = some n) (r : List Int) : cutAt o (l ++ r) = some n := by
  induction l generalizing o n with
  | nil => simp [cutAt] at h
  | cons z t ih =>
    rw [List.cons_append, cutAt]
    rw [cutAt] at h
    by_cases h0 : o + brk z = 0
    · rw [if_pos h0] at h ⊢; exact h
    · rw [if_neg h0] at h ⊢
      rcases hx : cutAt (o + brk z) t with _ | q
      · rw [hx] at h; simp at h
      · rw [hx] at h; rw [ih hx]; exact h
theorem cutAt_value {v : List Int} (h : valueB v = true) : cutAt 0 v = some v.length := by
  rcases valueB_cases h with ⟨z, rfl, h0, h9⟩ | ⟨m, rfl, hm, hl⟩
  · have hb : brk z = 0 := by unfold brk; rw [if_neg (by omega), if_neg (by omega)]
    rw [cutAt, hb, if_pos (by omega)]; rfl
  · have hf : fitsFrom 0 m = true := by
      simp only [validB, Bool.and_eq_true] at hm; exact hm.2
    have hb : brk 1012 = 1 := rfl
    rw [cutAt, hb, if_neg (by omega), cutAt_wrap (Int.le_refl 0) hf]
    simp
theorem step_value {v r : List Int} {st : List (List Int)} (h : valueB v = true) (hs : stackB (v :: st) = true) : stepR (v ++ r) st = some (r, v :: st) := by
  have hc := cutAt_append (cutAt_value h) r
  rcases valueB_cases h with ⟨z, rfl, h0, h9⟩ | ⟨m, rfl, hm, hl⟩
  · refine stepR_some ?_ hs
    rw [List.singleton_append, l2R, if_pos h9]
  · refine stepR_some ?_ hs
    generalize hv : (1012 :: (m ++ [1013]) : List Int) = v at *
    have h2 : l2R (v ++ r) st = some ((v ++ r).drop ((cutAt 0 (v ++ r)).getD 0), (v ++ r).take ((cutAt 0 (v ++ r)).getD 0) :: st) := by
      rw [← hv, List.cons_append, l2R, if_neg (by omega), if_pos rfl]
    rw [h2, hc]
    simp
theorem stackB_tail {v : List Int} {st : List (List Int)} (h : stackB (v :: st) = true) : stackB st = true := by
  obtain ⟨h1, h2⟩ := stackB_all h
  exact stackB_mk (by rw [List.length_cons] at h1; omega) (fun u hu => h2 u (List.mem_cons_of_mem _ hu))
theorem stackB_suffix {a st : List (List Int)} (h : stackB (a ++ st) = true) : stackB st = true := by
  induction a with
  | nil => exact h
  | cons v a ih => exact ih (stackB_tail h)
theorem run_values {zss : List (List Int)} : ∀ {f : Nat} {st : List (List Int)}, stackB (zss.reverse ++ st) = true → zss.length ≤ f → runR f zss.flatten st = some (zss.reverse ++ st, zss.length) := by
  induction zss with
  | nil => intro f st _ _; simp [runR_nil]
  | cons v zss ih =>
    intro f st hs hf
    have hs' : stackB (zss.reverse ++ v :: st) = true := by
      have : (v :: zss).reverse ++ st = zss.reverse ++ v :: st := by simp
      rw [← this]; exact hs
    have hsv := stackB_suffix hs'
    have hv := (stackB_all hsv).2 v List.mem_cons_self
    have hl := valueB_len hv
    obtain ⟨g, rfl⟩ : ∃ g, f = g + 1 := ⟨f - 1, by rw [List.length_cons] at hf; omega⟩
    have hst := step_value (r := zss.flatten) hv hsv
    have hi := ih (f := g) (st := v :: st) hs' (by rw [List.length_cons] at hf; omega)
    rw [List.flatten_cons]
    rcases v with _ | ⟨z, v⟩
    · simp at hl
    · rw [List.cons_append] at hst ⊢
      rw [runR, hst]
      dsimp only
      rw [hi]
      simp
theorem parts_values {zss : List (List Int)} (h : ∀ v ∈ zss, valueB v = true) : partsFrom 0 [] zss.flatten = zss := by
  induction zss with
  | nil => rfl
  | cons v zss ih =>
    rw [List.flatten_cons, partsFrom_cut (cutAt_append (cutAt_value (h v List.mem_cons_self)) _)]
    simp [ih (fun u hu => h u (List.mem_cons_of_mem _ hu))]
theorem run_stack {s : List (List Int)} (hs : stackB s = true) (hv : validB s.flatten = true) : runOfR s.flatten [] = (s, (s.length : Int), true) := by
  have h := run_values (zss := s) (f := 2000) (st := []) (by rw [List.append_nil, stackB_reverse]; exact hs) (by have := (stackB_all hs).1; omega)
  unfold runOfR
  rw [if_pos ⟨hv, rfl⟩]
  rw [show ([] : List (List Int)).reverse = [] from rfl, h]
  simp
theorem stackProg_back {p : List Int} {s : List (List Int)} (h : stackProgR s = (p, true)) : stackB s = true ∧ s.length ≤ 20 ∧ runOfR p [] = (s, (s.length : Int), true) ∧ progStackR p = (s, true) ∧ p.length ≤ 60 := by
  unfold stackProgR at h
  split at h
  · rename_i hc
    injection h with h1 _
    subst h1
    have hv : validB s.flatten = true := by rw [flatten_valid hc.1, decide_eq_true hc.2]
    refine ⟨hc.1, (stackB_all hc.1).1, run_stack hc.1 hv, ?_, hc.2⟩
    unfold progStackR
    have hp : partsR s.flatten = s := by rw [partsR, if_pos hv]; exact parts_values (stackB_all hc.1).2
    rw [hp, if_pos ⟨hv, hc.1⟩]
  · cases h
theorem value_run {v : List Int} (h : valueB v = true) : runOfR v [] = ([v], 1, true) := by
  have hs : stackB [v] = true := stackB_mk (by simp) (by simpa using h)
  obtain ⟨h1, h2⟩ := valueB_words h
  have hv : validB [v].flatten = true := by
    simp only [List.flatten_cons, List.flatten_nil, List.append_nil, validB, Bool.and_eq_true, decide_eq_true_eq]
    exact ⟨⟨(valueB_len h).2, h1⟩, h2⟩
  have := run_stack hs hv
  simpa using this
theorem quote_value {p q : List Int} (h : quoteR p = (q, true)) : valueB q = true := by
  unfold quoteR at h
  split at h
  · rename_i hc
    injection h with h1 _
    rw [← h1, valueB_wrap, decide_eq_true hc.2, hc.1]; rfl
  · cases h
end Go.Proofs.Ytenaeiedoiepdaa

/- Chapter 2, plain: runs one behind the other, runs with a value more at the bottom. -/
namespace Go.Proofs.Ytenaeiedoiepdaa
set_option maxRecDepth 100000

theorem stepR_iff {r : List Int} {st : List (List Int)} {x : List Int × List (List Int)} : stepR r st = some x ↔ l2R r st = some x ∧ stackB x.2 = true := by
  unfold stepR
  rcases h : l2R r st with _ | y
  · simp
  · dsimp only
    constructor
    · intro hx
      split at hx
      · rename_i hs; cases hx; exact ⟨rfl, hs⟩
      · cases hx
    · rintro ⟨h1, h2⟩
      cases h1
      rw [if_pos h2]
theorem opR3_app {w : Int} {r a b c : List Int} {s3 : List (List Int)} {x : List Int × List (List Int)} (q : List Int) (t : List (List Int)) (h : opR3 w r a b c s3 = some x) : opR3 w (r ++ q) a b c (s3 ++ t) = some (x.1 ++ q, x.2 ++ t) := by
  unfold opR3 at *
  split at h
  · rename_i hc
    rw [if_pos hc]; cases h; simp
  · cases h
theorem opR2_app {w : Int} {r a b : List Int} {s2 : List (List Int)} {x : List Int × List (List Int)} (q : List Int) (t : List (List Int)) (h : opR2 w r a b s2 = some x) : opR2 w (r ++ q) a b (s2 ++ t) = some (x.1 ++ q, x.2 ++ t) := by
  unfold opR2 at *
  split at h
  · rename_i hc; rw [if_pos hc]; cases h; simp
  · rename_i h1
    rw [if_neg h1]
    split at h
    · rename_i hc; rw [if_pos hc]; cases h; simp
    · rename_i h2
      rw [if_neg h2]
      split at h
      · rename_i hc
        rw [if_pos hc]; cases h
        dsimp only
        split <;> simp
      · rename_i h3
        rw [if_neg h3]
        split at h
        · rename_i hc; rw [if_pos hc]; cases h; simp
        · rename_i h4
          rw [if_neg h4]
          rcases s2 with _ | ⟨c, s3⟩
          · cases h
          · exact opR3_app q t h
theorem opR1_app {w : Int} {r a : List Int} {s1 : List (List Int)} {x : List Int × List (List Int)} (q : List Int) (t : List (List Int)) (h : opR1 w r a s1 = some x) : opR1 w (r ++ q) a (s1 ++ t) = some (x.1 ++ q, x.2 ++ t) := by
  unfold opR1 at *
  split at h
  · rename_i hc; rw [if_pos hc]; cases h; simp
  · rename_i h1
    rw [if_neg h1]
    split at h
    · rename_i hc; rw [if_pos hc]; cases h; simp
    · rename_i h2
      rw [if_neg h2]
      split at h
      · rename_i hc; rw [if_pos hc]; cases h; simp
      · rename_i h3
        rw [if_neg h3]
        rcases s1 with _ | ⟨b, s2⟩
        · cases h
        · exact opR2_app q t h
/-- A step with words more behind the rest, and with values more at the bottom. -/
theorem l2R_app {r : List Int} {st : List (List Int)} {x : List Int × List (List Int)} (hr : restB r = true) (q : List Int) (t : List (List Int)) (h : l2R r st = some x) : l2R (r ++ q) (st ++ t) = some (x.1 ++ q, x.2 ++ t) := by
  rcases r with _ | ⟨w, r⟩
  · cases h
  · rw [List.cons_append, l2R] at *
    split at h
    · rename_i hc; rw [if_pos hc]; cases h; rfl
    · rename_i h1
      rw [if_neg h1]
      split at h
      · rename_i hc
        rw [if_pos hc]
        subst hc
        obtain ⟨n, m, hn, hle, -⟩ := quote_cut hr
        have hn2 := cutAt_append hn q
        rw [List.cons_append] at hn2
        rw [hn] at h
        rw [hn2]
        simp only [Option.getD_some] at *
        cases h
        rw [← List.cons_append, List.drop_append_of_le_length (by simpa using hle), List.take_append_of_le_length (by simpa using hle)]
        rfl
      · rename_i h2
        rw [if_neg h2]
        rcases st with _ | ⟨a, s1⟩
        · cases h
        · exact opR1_app q t h
theorem stepR_app {r : List Int} {st : List (List Int)} {x : List Int × List (List Int)} (hr : restB r = true) (q : List Int) (h : stepR r st = some x) : stepR (r ++ q) st = some (x.1 ++ q, x.2) := by
  rw [stepR_iff] at *
  have h1 := l2R_app hr q [] h.1
  simp only [List.append_nil] at h1
  exact ⟨h1, h.2⟩
/-- With values more at the bottom a step leads to the same with these values, if it is told. -/
theorem stepR_low {r : List Int} {st t : List (List Int)} {x y : List Int × List (List Int)} (hr : restB r = true) (h : stepR r st = some x) (hy : stepR r (st ++ t) = some y) : y = (x.1, x.2 ++ t) := by
  rw [stepR_iff] at *
  have h1 := l2R_app hr [] t h.1
  simp only [List.append_nil] at h1
  rw [h1] at hy
  obtain ⟨hy, _⟩ := hy
  cases hy; rfl
theorem stepR_low_told {r : List Int} {st t : List (List Int)} {x : List Int × List (List Int)} (hr : restB r = true) (h : stepR r st = some x) (ht : stackB (x.2 ++ t) = true) : stepR r (st ++ t) = some (x.1, x.2 ++ t) := by
  rw [stepR_iff] at *
  have h1 := l2R_app hr [] t h.1
  simp only [List.append_nil] at h1
  exact ⟨h1, ht⟩
theorem runR_app {f : Nat} {p : List Int} {st : List (List Int)} {x : List (List Int) × Nat} (h : okS p st) (hx : runR f p st = some x) (q : List Int) (g : Nat) : runR (x.2 + g) (p ++ q) st = (runR g q x.1).map fun y => (y.1, y.2 + x.2) := by
  induction f generalizing p st x with
  | zero =>
    rcases p with _ | ⟨w, r⟩
    · cases hx; simp
    · cases hx
  | succ f ih =>
    rcases p with _ | ⟨w, r⟩
    · cases hx; simp
    · rw [runR] at hx
      rcases hs : stepR (w :: r) st with _ | y
      · rw [hs] at hx; cases hx
      · rw [hs] at hx
        dsimp only at hx
        obtain ⟨z, hz, rfl⟩ := Option.map_eq_some_iff.1 hx
        have h1 := ih (stepR_ok h hs).1 hz
        have h2 := stepR_app h.1 q hs
        rw [List.cons_append] at h2
        rw [List.cons_append, show z.2 + 1 + g = (z.2 + g) + 1 by omega, runR, h2]
        dsimp only
        rw [h1, Option.map_map]
        rfl
theorem runR_mono {f g : Nat} {p : List Int} {st : List (List Int)} {x : List (List Int) × Nat} (hx : runR f p st = some x) (hg : x.2 ≤ g) : runR g p st = some x := by
  induction f generalizing p st x g with
  | zero =>
    rcases p with _ | ⟨w, r⟩
    · cases hx; exact runR_nil _ _
    · cases hx
  | succ f ih =>
    rcases p with _ | ⟨w, r⟩
    · cases hx; exact runR_nil _ _
    · rw [runR] at hx
      rcases hs : stepR (w :: r) st with _ | y
      · rw [hs] at hx; cases hx
      · rw [hs] at hx
        dsimp only at hx
        obtain ⟨z, hz, rfl⟩ := Option.map_eq_some_iff.1 hx
        dsimp only at hg
        obtain ⟨k, rfl⟩ : ∃ k, g = k + 1 := ⟨g - 1, by omega⟩
        rw [runR, hs]
        dsimp only
        rw [ih hz (by omega)]
        rfl
theorem runR_low {f : Nat} {p : List Int} {st t : List (List Int)} {x y : List (List Int) × Nat} (h : okS p st) (hx : runR f p st = some x) (hy : runR f p (st ++ t) = some y) : y = (x.1 ++ t, x.2) := by
  induction f generalizing p st x y with
  | zero =>
    rcases p with _ | ⟨w, r⟩
    · cases hx; cases hy; rfl
    · cases hx
  | succ f ih =>
    rcases p with _ | ⟨w, r⟩
    · cases hx; cases hy; rfl
    · rw [runR] at hx hy
      rcases hs : stepR (w :: r) st with _ | u
      · rw [hs] at hx; cases hx
      · rw [hs] at hx
        rcases hs2 : stepR (w :: r) (st ++ t) with _ | u2
        · rw [hs2] at hy; cases hy
        · rw [hs2] at hy
          dsimp only at hx hy
          obtain ⟨z, hz, rfl⟩ := Option.map_eq_some_iff.1 hx
          obtain ⟨z2, hz2, rfl⟩ := Option.map_eq_some_iff.1 hy
          have e := stepR_low h.1 hs hs2
          subst e
          have e2 := ih (stepR_ok h hs).1 hz hz2
          subst e2
          rfl
theorem runOfR_mk {p : List Int} {s : List (List Int)} {x : List (List Int) × Nat} (hp : validB p = true) (hs : stackB s = true) (h : runR 2000 p s.reverse = some x) : runOfR p s = (x.1.reverse, ((x.2 : Nat) : Int), true) := by
  rw [runOfR, if_pos ⟨hp, hs⟩, h]
/-- Both told, then the second one of what the first one leaves. -/
theorem run_both {p q both : List Int} {s left one : List (List Int)} {n a : Int} (h : runOfR p s = (left, n, true)) (ht : thenR p q = (both, true)) (hu : runOfR both s = (one, a, true)) : ∃ b, runOfR q left = (one, b, true) ∧ a = n + b := by
  obtain ⟨hp, hs, x, hx, he, hsx, hle⟩ := runOfR_ok (by rw [h])
  rw [h] at he
  simp only [Prod.mk.injEq] at he
  obtain ⟨rfl, rfl, -⟩ := he
  unfold thenR at ht
  split at ht
  · rename_i hc
    simp only [Prod.mk.injEq] at ht
    obtain ⟨rfl, -⟩ := ht
    obtain ⟨hb, -, y, hy, he, -, hly⟩ := runOfR_ok (by rw [hu])
    rw [hu] at he
    simp only [Prod.mk.injEq] at he
    obtain ⟨rfl, rfl, -⟩ := he
    have h1 := runR_app ⟨validB_rest hp, by rw [stackB_reverse]; exact hs⟩ hx q (2000 - x.2)
    rw [show x.2 + (2000 - x.2) = 2000 by omega, hy] at h1
    obtain ⟨z, hz, hzy⟩ := Option.map_eq_some_iff.1 h1.symm
    subst hzy
    dsimp only at hly ⊢
    refine ⟨((z.2 : Nat) : Int), ?_, by omega⟩
    refine runOfR_mk hc.2.1 hsx ?_
    rw [List.reverse_reverse]
    exact runR_mono hz (by omega)
  · simp only [Prod.mk.injEq] at ht
    cases ht.2
theorem run_join {p q both : List Int} {s left two : List (List Int)} {n b : Int} (h : runOfR p s = (left, n, true)) (ht : thenR p q = (both, true)) (hv : runOfR q left = (two, b, true)) (hf : n + b ≤ 2000) (hb : validB both = true) : runOfR both s = (two, n + b, true) := by
  obtain ⟨hp, hs, x, hx, he, hsx, hle⟩ := runOfR_ok (by rw [h])
  rw [h] at he
  simp only [Prod.mk.injEq] at he
  obtain ⟨rfl, rfl, -⟩ := he
  obtain ⟨hq, -, y, hy, he, -, hly⟩ := runOfR_ok (by rw [hv])
  rw [hv] at he
  simp only [Prod.mk.injEq] at he
  obtain ⟨rfl, rfl, -⟩ := he
  rw [List.reverse_reverse] at hy
  unfold thenR at ht
  split at ht
  · simp only [Prod.mk.injEq] at ht
    obtain ⟨rfl, -⟩ := ht
    have h1 := runR_app ⟨validB_rest hp, by rw [stackB_reverse]; exact hs⟩ hx q (2000 - x.2)
    rw [show x.2 + (2000 - x.2) = 2000 by omega, runR_mono hy (show y.2 ≤ 2000 - x.2 by omega)] at h1
    rw [runOfR_mk hb hs h1]
    dsimp only
    simp only [Prod.mk.injEq]
    exact ⟨trivial, by omega, trivial⟩
  · simp only [Prod.mk.injEq] at ht
    cases ht.2
/-- With a value more at the bottom. -/
theorem run_low {p v : List Int} {s left low : List (List Int)} {n c : Int} (h : runOfR p s = (left, n, true)) (hw : runOfR p (v :: s) = (low, c, true)) : c = n ∧ low = v :: left := by
  obtain ⟨hp, hs, x, hx, he, hsx, hle⟩ := runOfR_ok (by rw [h])
  rw [h] at he
  simp only [Prod.mk.injEq] at he
  obtain ⟨rfl, rfl, -⟩ := he
  obtain ⟨-, -, y, hy, he, -, hly⟩ := runOfR_ok (by rw [hw])
  rw [hw] at he
  simp only [Prod.mk.injEq] at he
  obtain ⟨rfl, rfl, -⟩ := he
  rw [List.reverse_cons] at hy
  have e := runR_low ⟨validB_rest hp, by rw [stackB_reverse]; exact hs⟩ hx hy
  subst e
  simp
end Go.Proofs.Ytenaeiedoiepdaa
