/- Several texts in one. -/
import Derived.Test.YtceekfoacgoalaaBc
/- Chapter 2, plain: values, stacks, what a step does, what a run leaves. Chapter 2, plain: a step keeps what is valid; runs. -/
namespace Go.Proofs.Ytceekfoacgoalaa
set_option maxRecDepth 100000

theorem brk_one {z : Int} (h : brk z ≤ -1) : z = 1013 := by
  unfold brk at h
  split at h
  · omega
  · split at h
    · assumption
    · omega
theorem cutAt_wrap {o : Int} {m : List Int} (ho : 0 ≤ o) (h : fitsFrom o m = true) : cutAt (o + 1) (m ++ [1013]) = some (m.length + 1) := by
  induction m generalizing o with
  | nil =>
    simp [fitsFrom] at h; subst h
    rfl
  | cons z r ih =>
    rw [fitsFrom] at h
    by_cases hn : o + brk z < 0
    · simp [hn] at h
    · rw [if_neg hn] at h
      rw [List.cons_append, cutAt, if_neg (by omega), show o + 1 + brk z = o + brk z + 1 from by omega, ih (by omega) h]
      rfl
theorem wrap_cut {o : Int} {l : List Int} (ho : 0 ≤ o) (h : fitsFrom (o + 1) l = true) (hc : cutAt (o + 1) l = some l.length) : ∃ m, l = m ++ [1013] ∧ fitsFrom o m = true := by
  induction l generalizing o with
  | nil => simp [cutAt] at hc
  | cons z r ih =>
    rw [fitsFrom] at h
    rw [cutAt] at hc
    by_cases hn : o + 1 + brk z < 0
    · simp [hn] at h
    · rw [if_neg hn] at h
      by_cases h0 : o + 1 + brk z = 0
      · rw [if_pos h0] at hc
        injection hc with hc
        have hr : r = [] := List.eq_nil_of_length_eq_zero (by rw [List.length_cons] at hc; omega)
        subst hr
        have hz : z = 1013 := brk_one (by omega)
        subst hz
        have h1 : brk 1013 = -1 := rfl
        exact ⟨[], rfl, by rw [fitsFrom, beq_iff_eq]; omega⟩
      · rw [if_neg h0] at hc
        rcases hr : cutAt (o + 1 + brk z) r with _ | q
        · rw [hr] at hc; simp at hc
        · rw [hr] at hc
          simp at hc
          obtain ⟨m, rfl, hm⟩ := ih (o := o + brk z) (by omega) (by rwa [show o + brk z + 1 = o + 1 + brk z from by omega]) (by rw [show o + brk z + 1 = o + 1 + brk z from by omega, hr, hc])
          exact ⟨z :: m, rfl, by rw [fitsFrom, if_neg (by omega)]; exact hm⟩

theorem cutAt_takeM {o : Int} {l : List Int} {n : Nat} (h : cutAt o l = some n) : cutAt o (l.take n) = some n ∧ (fitsFrom o l = true → fitsFrom o (l.take n) = true) := by
  induction l generalizing o n with
  | nil => simp [cutAt] at h
  | cons z r ih =>
    rw [cutAt] at h
    by_cases h0 : o + brk z = 0
    · rw [if_pos h0] at h
      injection h with h; subst h
      simp [cutAt, h0, fitsFrom]
    · rw [if_neg h0] at h
      rcases h1 : cutAt (o + brk z) r with _ | m
      · rw [h1] at h; simp at h
      · rw [h1] at h
        simp at h; subst h
        obtain ⟨h2, h3⟩ := ih h1
        refine ⟨by rw [List.take_succ_cons, cutAt, if_neg h0, h2]; rfl, fun hf => ?_⟩
        rw [fitsFrom] at hf
        rw [List.take_succ_cons, fitsFrom]
        by_cases hn : o + brk z < 0
        · simp [hn] at hf
        · rw [if_neg hn] at hf ⊢; exact h3 hf

def inside (v : List Int) : List Int := (v.drop 1).take (v.length - 2)
def isQ (v : List Int) : Bool := decide (2 ≤ v.length) && (v.getD 0 0 == 1012) && (v.getD (v.length - 1) 0 == 1013)
/-- A value: a number alone, or a program in brackets. -/
def valueB (v : List Int) : Bool := if v.length = 1 then isNumB (v.getD 0 0) else isQ v && decide (v.length ≤ 60) && validB (inside v)
def stackB (s : List (List Int)) : Bool := decide (s.length ≤ 20) && s.all valueB

theorem inside_wrap (m : List Int) : inside (1012 :: (m ++ [1013])) = m := by
  simp [inside]
theorem isQ_wrap (m : List Int) : isQ (1012 :: (m ++ [1013])) = true := by
  simp [isQ, List.getD]
theorem isQ_form {v : List Int} (h : isQ v = true) : v = 1012 :: (inside v ++ [1013]) := by
  simp only [isQ, Bool.and_eq_true, decide_eq_true_eq, beq_iff_eq] at h
  obtain ⟨⟨h2, h0⟩, h1⟩ := h
  rcases v with _ | ⟨a, t⟩
  · simp at h2
  · simp at h0; subst h0
    rcases List.eq_nil_or_concat t with rfl | ⟨m, z, rfl⟩
    · simp at h2
    · rw [List.concat_eq_append] at *
      have hz : z = 1013 := by simpa [List.getD] using h1
      subst hz
      rw [inside_wrap]
theorem valueB_cases {v : List Int} (h : valueB v = true) : (∃ z, v = [z] ∧ 0 ≤ z ∧ z ≤ 999) ∨ (∃ m, v = 1012 :: (m ++ [1013]) ∧ validB m = true ∧ m.length + 2 ≤ 60) := by
  rw [valueB] at h
  split at h
  · rename_i h1
    rcases v with _ | ⟨z, _ | ⟨y, t⟩⟩
    · simp at h1
    · simp [isNumB] at h; exact .inl ⟨z, rfl, h⟩
    · simp at h1
  · simp only [Bool.and_eq_true, decide_eq_true_eq] at h
    obtain ⟨⟨hq, hl⟩, hv⟩ := h
    have hf := isQ_form hq
    refine .inr ⟨inside v, hf, hv, ?_⟩
    rw [hf] at hl; simp at hl; omega
theorem valueB_num {z : Int} : valueB [z] = isNumB z := by simp [valueB]
theorem valueB_wrap {m : List Int} : valueB (1012 :: (m ++ [1013])) = (decide (m.length + 2 ≤ 60) && validB m) := by
  rw [valueB, if_neg (by simp), isQ_wrap, inside_wrap]; simp
/-- As the model tells a value. -/
theorem valueB_spec (v : List Int) : valueB v = if v.length = 1 then isNumB (v.getD 0 0) else validB v && decide (2 ≤ v.length) && (v.getD 0 0 == 1012) && decide (cutAt 0 v = some v.length) := by
  by_cases h1 : v.length = 1
  · rw [valueB, if_pos h1, if_pos h1]
  · rw [if_neg h1, Bool.eq_iff_iff]
    constructor
    · intro h
      rcases valueB_cases h with ⟨z, rfl, _⟩ | ⟨m, rfl, hm, hl⟩
      · simp at h1
      · rw [validB_quote hm]
        have hf : fitsFrom 0 m = true := by
          simp only [validB, Bool.and_eq_true] at hm; exact hm.2
        have hc := cutAt_wrap (by omega) hf
        have hb : brk 1012 = 1 := rfl
        simp only [Bool.and_eq_true, decide_eq_true_eq]
        refine ⟨⟨⟨hl, by simp⟩, by simp⟩, ?_⟩
        rw [cutAt, hb, if_neg (by omega), hc]
        simp
    · intro h
      simp only [Bool.and_eq_true, decide_eq_true_eq, beq_iff_eq] at h
      obtain ⟨⟨⟨hv, h2⟩, h0⟩, hc⟩ := h
      rcases v with _ | ⟨a, t⟩
      · simp at h2
      · simp at h0; subst h0
        have hb : brk 1012 = 1 := rfl
        simp only [validB, Bool.and_eq_true, decide_eq_true_eq] at hv
        obtain ⟨⟨hl, ha⟩, hf⟩ := hv
        rw [fitsFrom, hb, if_neg (by omega)] at hf
        rw [cutAt, hb, if_neg (by omega)] at hc
        have hc' : cutAt (0 + 1) t = some t.length := by
          rcases hx : cutAt (0 + 1) t with _ | q
          · rw [hx] at hc; simp at hc
          · rw [hx] at hc; simp at hc; rw [hc]
        obtain ⟨m, rfl, hm⟩ := wrap_cut (Int.le_refl 0) hf hc'
        rw [valueB_wrap]
        simp only [List.all_cons, List.all_append, Bool.and_eq_true] at ha
        simp at hl
        simp only [validB, Bool.and_eq_true, decide_eq_true_eq]
        exact ⟨by omega, ⟨by omega, ha.2.1⟩, hm⟩
theorem valueB_len {v : List Int} (h : valueB v = true) : 1 ≤ v.length ∧ v.length ≤ 60 := by
  rcases valueB_cases h with ⟨z, rfl, _⟩ | ⟨m, rfl, hm, hl⟩
  · simp
  · simp; omega
theorem valueB_isQ {v : List Int} (h : valueB v = true) : isQ v = decide (1 < v.length) := by
  rcases valueB_cases h with ⟨z, rfl, _⟩ | ⟨m, rfl, hm, hl⟩
  · simp [isQ]
  · rw [isQ_wrap]; simp
theorem valueB_words {v : List Int} (h : valueB v = true) : v.all isWordB = true ∧ fitsFrom 0 v = true := by
  rcases valueB_cases h with ⟨z, rfl, h0, h9⟩ | ⟨m, rfl, hm, hl⟩
  · have hb : brk z = 0 := by unfold brk; rw [if_neg (by omega), if_neg (by omega)]
    refine ⟨by simp [isWordB, isNumB, h0, h9], ?_⟩
    rw [fitsFrom, hb, if_neg (by omega)]; rfl
  · have hq := validB_quote hm
    rw [decide_eq_true hl] at hq
    simp only [validB, Bool.and_eq_true] at hq
    exact ⟨hq.1.2, hq.2⟩

/-- What OpAdd, OpSub, OpMul, OpLess make of two numbers. -/
def reck (w a b : Int) : Int := if w = 1006 then (a + b) % 1000 else if w = 1007 then (a - b + 1000) % 1000 else if w = 1008 then a * b % 1000 else if a < b then 1 else 0
theorem reck_num {w a b : Int} : 0 ≤ reck w a b ∧ reck w a b ≤ 999 := by
  unfold reck; repeat' split
  all_goals omega

/-- One step; the stack's upper value comes first. -/
def opR3 (w : Int) (r a b c : List Int) (s3 : List (List Int)) : Option (List Int × List (List Int)) :=
  if w = 1010 ∧ 1 < a.length ∧ 1 < b.length ∧ ¬ 1 < c.length then some ((if 0 < c.getD 0 0 then inside b else inside a) ++ r, s3) else none
def opR2 (w : Int) (r a b : List Int) (s2 : List (List Int)) : Option (List Int × List (List Int)) :=
  if w = 1003 then some (r, b :: a :: s2)
  else if w = 1004 ∧ 1 < a.length then some (inside a ++ b ++ r, s2)
  else if w = 1011 ∧ 1 < a.length ∧ ¬ 1 < b.length then some (if 0 < b.getD 0 0 then inside a ++ ((b.getD 0 0 - 1) :: a) ++ [1011] ++ r else r, s2)
  else if (1006 ≤ w ∧ w ≤ 1009) ∧ ¬ 1 < a.length ∧ ¬ 1 < b.length then some (r, [reck w (b.getD 0 0) (a.getD 0 0)] :: s2)
  else match s2 with
    | [] => none
    | c :: s3 => opR3 w r a b c s3
def opR1 (w : Int) (r a : List Int) (s1 : List (List Int)) : Option (List Int × List (List Int)) :=
  if w = 1001 then some (r, a :: a :: s1)
  else if w = 1002 then some (r, s1)
  else if w = 1005 ∧ 1 < a.length then some (inside a ++ r, s1)
  else match s1 with
    | [] => none
    | b :: s2 => opR2 w r a b s2
def opR (w : Int) (r : List Int) : List (List Int) → Option (List Int × List (List Int))
  | [] => none
  | a :: s1 => opR1 w r a s1
def l2R : List Int → List (List Int) → Option (List Int × List (List Int))
  | [], _ => none
  | w :: r, st =>
    if w ≤ 999 then some (r, [w] :: st)
    else if w = 1012 then some ((w :: r).drop ((cutAt 0 (w :: r)).getD 0), (w :: r).take ((cutAt 0 (w :: r)).getD 0) :: st)
    else opR w r st
def stepR (r : List Int) (st : List (List Int)) : Option (List Int × List (List Int)) :=
  match l2R r st with
  | none => none
  | some x => if stackB x.2 = true then some x else none

def restB (r : List Int) : Bool := r.all isWordB && fitsFrom 0 r
def okS (r : List Int) (st : List (List Int)) : Prop := restB r = true ∧ stackB st = true

theorem restB_append {p q : List Int} (hp : restB p = true) (hq : restB q = true) : restB (p ++ q) = true := by
  simp only [restB, Bool.and_eq_true] at *
  exact ⟨by rw [List.all_append, hp.1, hq.1]; rfl, by rw [fitsFrom_append q hp.2]; exact hq.2⟩
theorem restB_one {z : Int} (h : isWordB z = true) (hb : brk z = 0) : restB [z] = true := by
  simp [restB, h, fitsFrom, hb]
theorem restB_tail {w : Int} {r : List Int} (h : restB (w :: r) = true) (hb : brk w = 0) : restB r = true := by
  simp only [restB, Bool.and_eq_true, List.all_cons] at *
  refine ⟨h.1.2, ?_⟩
  have := h.2
  rw [fitsFrom, hb] at this
  simpa using this
theorem validB_rest {p : List Int} (h : validB p = true) : restB p = true := by
  simp only [validB, restB, Bool.and_eq_true] at *
  exact ⟨h.1.2, h.2⟩
theorem valueB_rest {v : List Int} (h : valueB v = true) : restB v = true := by
  simp only [restB, Bool.and_eq_true]; exact valueB_words h
theorem inside_rest {v : List Int} (h : valueB v = true) (hl : 1 < v.length) : restB (inside v) = true := by
  rcases valueB_cases h with ⟨z, rfl, _⟩ | ⟨m, rfl, hm, _⟩
  · simp at hl
  · rw [inside_wrap]; exact validB_rest hm
theorem inside_len {v : List Int} : (inside v).length ≤ v.length := by
  simp [inside]; omega
theorem num_of_value {v : List Int} (h : valueB v = true) (hl : ¬ 1 < v.length) : v = [v.getD 0 0] ∧ 0 ≤ v.getD 0 0 ∧ v.getD 0 0 ≤ 999 := by
  rcases valueB_cases h with ⟨z, rfl, h0⟩ | ⟨m, rfl, hm, _⟩
  · exact ⟨rfl, h0⟩
  · simp at hl
/-- The program in brackets with which a rest begins. -/
theorem quote_cut {r : List Int} (h : restB (1012 :: r) = true) : ∃ n m, cutAt 0 (1012 :: r) = some n ∧ n ≤ r.length + 1 ∧ 2 ≤ n ∧ (1012 :: r).take n = 1012 :: (m ++ [1013]) ∧ fitsFrom 0 m = true ∧ m.all isWordB = true ∧ n = m.length + 2 ∧ restB ((1012 :: r).drop n) = true := by
  simp only [restB, Bool.and_eq_true] at h
  obtain ⟨n, hc, h1, hn, hd⟩ := cutAt_fits h.2 (by simp)
  obtain ⟨t1, t2⟩ := cutAt_takeM hc
  have t2 := t2 h.2
  have hlen : ((1012 :: r).take n).length = n := by rw [List.length_take]; omega
  have hb : brk 1012 = 1 := rfl
  rcases n with _ | n
  · omega
  · rw [List.take_succ_cons] at t1 t2
    rw [fitsFrom, hb, if_neg (by omega)] at t2
    rw [cutAt, hb, if_neg (by omega)] at t1
    have hl2 : (r.take n).length = n := by simpa using hlen
    have hc' : cutAt (0 + 1) (r.take n) = some (r.take n).length := by
      rcases hx : cutAt (0 + 1) (r.take n) with _ | q
      · rw [hx] at t1; simp at t1
      · rw [hx] at t1; simp at t1; rw [hl2, t1]
    obtain ⟨m, hm, hf⟩ := wrap_cut (Int.le_refl 0) t2 hc'
    have hml : n = m.length + 1 := by
      rw [hm] at hl2; simp at hl2; omega
    refine ⟨n + 1, m, hc, by simpa using hn, by omega, by rw [List.take_succ_cons, hm], hf, ?_, by omega, ?_⟩
    · rw [List.all_eq_true]
      intro z hz
      have h2 := h.1
      rw [List.all_cons, Bool.and_eq_true, List.all_eq_true] at h2
      exact h2.2 z (List.mem_of_mem_take (i := n) (by rw [hm]; simp [hz]))
    · simp only [restB, Bool.and_eq_true]
      refine ⟨?_, hd⟩
      rw [List.all_eq_true] at *
      intro z hz
      exact h.1 z (List.mem_of_mem_drop hz)
end Go.Proofs.Ytceekfoacgoalaa
namespace Go.Proofs.Ytceekfoacgoalaa
set_option maxRecDepth 100000

theorem restB_drop_tail {w : Int} {r : List Int} (h : restB (w :: r) = true) (h1 : w ≠ 1012) : restB r = true := by
  have hb : brk w = 0 := by
    rcases brk_cases w with ⟨h2, _⟩ | ⟨_, h2⟩ | ⟨_, _, h3⟩
    · exact absurd h2 h1
    · simp only [restB, Bool.and_eq_true] at h
      have := h.2
      rw [fitsFrom, h2] at this
      simp at this
    · exact h3
  exact restB_tail h hb
theorem stackB_all {st : List (List Int)} (h : stackB st = true) : st.length ≤ 20 ∧ ∀ v ∈ st, valueB v = true := by
  simp only [stackB, Bool.and_eq_true, decide_eq_true_eq, List.all_eq_true] at h
  exact h
theorem times_rest {a b r : List Int} (ha : valueB a = true) (hb : valueB b = true) (hr : restB r = true) (h1 : 1 < a.length) (h2 : ¬ 1 < b.length) (h3 : 0 < b.getD 0 0) : restB (inside a ++ ((b.getD 0 0 - 1) :: a) ++ [1011] ++ r) = true := by
  obtain ⟨_, hn, hn9⟩ := num_of_value hb h2
  have e : inside a ++ ((b.getD 0 0 - 1) :: a) ++ [1011] ++ r = inside a ++ ([b.getD 0 0 - 1] ++ (a ++ ([1011] ++ r))) := by simp
  rw [e]
  refine restB_append (inside_rest ha h1) (restB_append ?_ (restB_append (valueB_rest ha) (restB_append (restB_one rfl rfl) hr)))
  exact valueB_rest (by rw [valueB_num]; generalize b.getD 0 0 = q at *; simp [isNumB]; omega)

theorem l2R_ok {r : List Int} {st : List (List Int)} {x : List Int × List (List Int)} (h : okS r st) (hx : l2R r st = some x) : restB x.1 = true ∧ x.1.length ≤ r.length + 125 := by
  obtain ⟨hr, hs⟩ := h
  obtain ⟨hl, hv⟩ := stackB_all hs
  rcases r with _ | ⟨w, r⟩
  · simp [l2R] at hx
  · by_cases hw : w = 1012
    · subst hw
      obtain ⟨n, m, hc, hn, h2, ht, hf, ha, hnm, hd⟩ := quote_cut hr
      rw [l2R, if_neg (by omega), if_pos rfl, hc] at hx
      cases hx
      exact ⟨hd, by simp; omega⟩
    · have hr' := restB_drop_tail hr hw
      rw [l2R] at hx
      split at hx
      · cases hx; exact ⟨hr', by simp; omega⟩
      · rcases st with _ | ⟨a, s1⟩
        · cases hx
        · have va := hv a (by simp)
          obtain ⟨la1, la2⟩ := valueB_len va
          have lia := @inside_len a
          unfold opR opR1 at hx; dsimp only at hx
          split at hx
          · cases hx; exact ⟨hr', by simp; omega⟩
          · split at hx
            · cases hx; exact ⟨hr', by simp; omega⟩
            · split at hx
              · rename_i hc
                cases hx
                exact ⟨restB_append (inside_rest va hc.2) hr', by simp; omega⟩
              · rcases s1 with _ | ⟨b, s2⟩
                · cases hx
                · have vb := hv b (by simp)
                  obtain ⟨lb1, lb2⟩ := valueB_len vb
                  have lib := @inside_len b
                  dsimp only at hx
                  unfold opR2 at hx
                  split at hx
                  · cases hx; exact ⟨hr', by simp; omega⟩
                  · split at hx
                    · rename_i hc
                      cases hx
                      exact ⟨by rw [List.append_assoc]; exact restB_append (inside_rest va hc.2) (restB_append (valueB_rest vb) hr'), by simp; omega⟩
                    · split at hx
                      · rename_i hc
                        cases hx
                        dsimp only
                        split
                        · rename_i h0
                          exact ⟨times_rest va vb hr' hc.2.1 hc.2.2 h0, by simp; omega⟩
                        · exact ⟨hr', by simp; omega⟩
                      · split at hx
                        · cases hx; exact ⟨hr', by simp; omega⟩
                        · rcases s2 with _ | ⟨c, s3⟩
                          · cases hx
                          · dsimp only at hx
                            rw [opR3] at hx
                            split at hx
                            · rename_i hc
                              cases hx
                              dsimp only
                              split
                              · exact ⟨restB_append (inside_rest vb hc.2.2.1) hr', by simp; omega⟩
                              · exact ⟨restB_append (inside_rest va hc.2.1) hr', by simp; omega⟩
                            · cases hx
theorem stepR_ok {r : List Int} {st : List (List Int)} {x : List Int × List (List Int)} (h : okS r st) (hx : stepR r st = some x) : okS x.1 x.2 ∧ x.1.length ≤ r.length + 125 := by
  unfold stepR at hx
  rcases hl : l2R r st with _ | y
  · rw [hl] at hx; cases hx
  · rw [hl] at hx
    dsimp only at hx
    split at hx
    · rename_i hs
      cases hx
      obtain ⟨h1, h2⟩ := l2R_ok h hl
      exact ⟨⟨h1, hs⟩, h2⟩
    · cases hx

/-- What a run leaves, in so many steps at most; and how many it takes. -/
def runR : Nat → List Int → List (List Int) → Option (List (List Int) × Nat)
  | _, [], st => some (st, 0)
  | 0, _ :: _, _ => none
  | f + 1, w :: r, st => match stepR (w :: r) st with
    | none => none
    | some x => (runR f x.1 x.2).map fun y => (y.1, y.2 + 1)
def runOfR (p : List Int) (s : List (List Int)) : List (List Int) × Int × Bool :=
  if validB p = true ∧ stackB s = true then match runR 2000 p s.reverse with
    | some x => (x.1.reverse, ((x.2 : Nat) : Int), true)
    | none => ([], 0, false)
  else ([], 0, false)
theorem stackB_reverse (s : List (List Int)) : stackB s.reverse = stackB s := by
  simp [stackB]
theorem runR_nil (f : Nat) (st : List (List Int)) : runR f [] st = some (st, 0) := by cases f <;> rfl
theorem runR_stack {f : Nat} {r : List Int} {st : List (List Int)} {x : List (List Int) × Nat} (h : okS r st) (hx : runR f r st = some x) : stackB x.1 = true ∧ x.2 ≤ f := by
  induction f generalizing r st x with
  | zero =>
    rcases r with _ | ⟨w, r⟩
    · cases hx; exact ⟨h.2, by simp⟩
    · cases hx
  | succ f ih =>
    rcases r with _ | ⟨w, r⟩
    · cases hx; exact ⟨h.2, by simp⟩
    · rw [runR] at hx
      rcases hs : stepR (w :: r) st with _ | y
      · rw [hs] at hx; cases hx
      · rw [hs] at hx
        dsimp only at hx
        obtain ⟨z, hz, rfl⟩ := Option.map_eq_some_iff.1 hx
        obtain ⟨h1, h2⟩ := ih (stepR_ok h hs).1 hz
        exact ⟨h1, by simp; omega⟩
theorem runOfR_ok {p : List Int} {s : List (List Int)} (h : (runOfR p s).2.2 = true) : validB p = true ∧ stackB s = true ∧ ∃ x, runR 2000 p s.reverse = some x ∧ runOfR p s = (x.1.reverse, ((x.2 : Nat) : Int), true) ∧ stackB x.1.reverse = true ∧ x.2 ≤ 2000 := by
  unfold runOfR at h ⊢
  split at h
  · rename_i hc
    rw [if_pos hc]
    rcases hr : runR 2000 p s.reverse with _ | x
    · rw [hr] at h; cases h
    · obtain ⟨h1, h2⟩ := runR_stack ⟨validB_rest hc.1, by rw [stackB_reverse]; exact hc.2⟩ hr
      exact ⟨hc.1, hc.2, x, rfl, rfl, by rw [stackB_reverse]; exact h1, h2⟩
  · cases h
theorem runOfR_no {p : List Int} {s : List (List Int)} (h : (runOfR p s).2.2 = false) : runOfR p s = ([], 0, false) := by
  unfold runOfR at h ⊢
  split at h
  · rename_i hc
    rw [if_pos hc]
    rcases hr : runR 2000 p s.reverse with _ | x
    · rfl
    · rw [hr] at h; cases h
  · rename_i hc
    rw [if_neg hc]
end Go.Proofs.Ytceekfoacgoalaa

/- Contracts of chapter 2's tests: values and stacks; the program's and the model's. -/
namespace Go.Proofs.Ytceekfoacgoalaa
set_option maxRecDepth 100000
open Go.RowKit Go.WideShapes

theorem all_take_snoc (zss : List (List Int)) (k : Nat) (zs : List Int) (h : zss[k]? = some zs) (ht : (zss.take k).all valueB = true) : (zss.take (k + 1)).all valueB = valueB zs := by
  rw [List.take_add_one, List.all_append, ht, h]; simp
theorem all_no (zss : List (List Int)) (k : Nat) (zs : List Int) (h : zss[k]? = some zs) (hf : valueB zs = false) : zss.all valueB = false := by
  rw [List.all_eq_false]; exact ⟨zs, List.mem_of_getElem? h, by simp [hf]⟩

end Go.Proofs.Ytceekfoacgoalaa

/- Rows of rows: one of the inner ones laid anew; the exact laws' helpers that copy and weigh them. -/
namespace Go.Proofs.Ytceekfoacgoalaa
set_option maxRecDepth 100000
open Go.RowKit Go.WideShapes

section
variable {w w1 w2 : World}
/-- A world that differs from w1 at most in block g. -/
theorem OwnVs.set {lo g cap : Nat} {vs : List Value} {zss : List (List Int)} {u : Value} {zs : List Int} {k : Nat} (h : OwnVs w lo w.heap.size (.slice (some ⟨g, 0, none⟩) zss.length cap) vs zss) (hb : Below w.heap.size w w1) (hu : OwnI w1 w.heap.size w1.heap.size u zs) (hlo : lo ≤ w.heap.size) (hk : k < zss.length) :
    OwnVs (w1.setCell ⟨g, k, none⟩ u) lo (w1.setCell ⟨g, k, none⟩ u).heap.size (.slice (some ⟨g, 0, none⟩) (zss.set k zs).length cap) (vs.set k u) (zss.set k zs) := by
  have hg := (h.row.lt g rfl).2
  have hrow1 : w1.ownsRow lo 23 1 (.slice (some ⟨g, 0, none⟩) zss.length cap) zss.length vs := h.row.kept (row := none) (only_of_below hb none) (.inr (by simp [Value.ownBlock]))
  obtain ⟨hst, hgr⟩ := hrow1.stored k u
  have hsz : (w1.setCell ⟨g, k, none⟩ u).heap.size = w1.heap.size := by simp [World.setCell]
  have hwb := hb.size
  have hkeep : ∀ q lo' hi' ys, OwnI w1 lo' hi' q ys → (q.ownBlock = none ∨ q.ownBlock ≠ some g) → OwnI (w1.setCell ⟨g, k, none⟩ u) lo' hi' q ys := fun q lo' hi' ys hq hne => ⟨hq.own.only hgr hne, hq.lt⟩
  have hget : ∀ (i : Nat) q ys, (vs.set k u)[i]? = some q → (zss.set k zs)[i]? = some ys → (i ≠ k ∧ vs[i]? = some q ∧ zss[i]? = some ys) ∨ (i = k ∧ q = u ∧ ys = zs) := by
    intro i q ys hq hy
    rw [List.getElem?_set] at hq hy
    by_cases hi : k = i
    · subst hi
      rw [if_pos rfl, if_pos (by rw [h.len]; exact hk)] at hq
      rw [if_pos rfl, if_pos hk] at hy
      cases hq; cases hy
      exact .inr ⟨rfl, rfl, rfl⟩
    · rw [if_neg hi] at hq hy
      exact .inl ⟨fun e => hi e.symm, hq, hy⟩
  have hlast : ∀ (i : Nat) q, (vs.set k u)[i]? = some q → (i ≠ k ∧ vs[i]? = some q ∧ ∃ ys, zss[i]? = some ys) ∨ (i = k ∧ q = u) := by
    intro i q hq
    have hi : i < zss.length := by
      have : i < (vs.set k u).length := by
        rcases Nat.lt_or_ge i (vs.set k u).length with h' | h'
        · exact h'
        · rw [List.getElem?_eq_none h'] at hq; cases hq
      rw [List.length_set, h.len] at this; exact this
    have hy : (zss.set k zs)[i]? = some ((zss.set k zs)[i]'(by rw [List.length_set]; exact hi)) := List.getElem?_eq_getElem _
    rcases hget i q _ hq hy with ⟨h1, h2, h3⟩ | ⟨h1, h2, _⟩
    · exact .inl ⟨h1, h2, _, h3⟩
    · exact .inr ⟨h1, h2⟩
  refine ⟨by rw [List.length_set, List.length_set, h.len], by rw [List.length_set]; exact hst, fun g' hg' => by rw [hsz]; have hg2 : g = g' := (by simpa [Value.ownBlock] using hg'); omega, ?_, ?_⟩
  · intro j q ys hq hy
    rcases hget j q ys hq hy with ⟨_, h1, h2⟩ | ⟨_, rfl, rfl⟩
    · have h3 := h.inner j q ys h1 h2
      have h4 := hkeep q _ _ ys (h3.below hb) (by
        rcases e : q.ownBlock with _ | g'
        · exact .inl rfl
        · right
          rcases h.inner_ne h1 h2 with h5 | h5
          · simp [Value.ownBlock] at h5
          · rw [← e]; exact fun e' => h5 (by rw [e']; rfl))
      exact ⟨h4.own, fun g' hg' => by have := h4.lt g' hg'; rw [hsz]; omega⟩
    · have h4 := hkeep q _ _ ys hu (by
        rcases e : q.ownBlock with _ | g'
        · exact .inl rfl
        · right
          intro e'
          have h6 := (hu.own.ge g' e).1
          cases e'; omega)
      exact ⟨h4.own.mono hlo, fun g' hg' => by have := h4.lt g' hg'; rw [hsz]; omega⟩
  · intro i j q q' g' hij hq hq' e e'
    rcases hlast i q hq with ⟨_, h1, ys, h2⟩ | ⟨hi, rfl⟩ <;> rcases hlast j q' hq' with ⟨_, h3, ys', h4⟩ | ⟨hj, rfl⟩
    · exact h.apart i j q q' g' hij h1 h3 e e'
    · have h5 := (h.inner i q ys h1 h2).lt g' e
      have h6 := (hu.own.ge g' e').1
      omega
    · have h5 := (h.inner j q' ys' h3 h4).lt g' e'
      have h6 := (hu.own.ge g' e).1
      omega
    · omega
end

theorem OwnS.mono {w : World} {lo lo' hi : Nat} {v : Value} {zss : List (List Int)} (h : OwnS w lo' hi v zss) (hl : lo ≤ lo') : OwnS w lo hi v zss := by
  obtain ⟨vs, h⟩ := h
  refine ⟨vs, h.len, ⟨h.row.1, ?_⟩, h.lt, fun j u zs hu hz => ⟨(h.inner j u zs hu hz).own.mono hl, (h.inner j u zs hu hz).lt⟩, h.apart⟩
  rcases h.row.2 with h0 | ⟨g, cap, cur, rfl, hb, hr⟩
  · exact .inl h0
  · exact .inr ⟨g, cap, cur, rfl, by omega, hr⟩
theorem OwnS.widen {w : World} {lo hi hi' : Nat} {v : Value} {zss : List (List Int)} (h : OwnS w lo hi v zss) (hl : hi ≤ hi') : OwnS w lo hi' v zss := by
  obtain ⟨vs, h⟩ := h
  exact ⟨vs, h.len, h.row, fun g hg => Nat.lt_of_lt_of_le (h.lt g hg) hl, fun j u zs hu hz => ⟨(h.inner j u zs hu hz).own, fun g hg => Nat.lt_of_lt_of_le ((h.inner j u zs hu hz).lt g hg) hl⟩, h.apart⟩

theorem fillS_set (zss : List (List Int)) (k : Nat) (h : k < zss.length) : ((zss.take k ++ List.replicate (zss.length - k) []).set k zss[k]) = (zss.take (k + 1) ++ List.replicate (zss.length - (k + 1)) []) := by
  have hl : (zss.take k).length = k := by rw [List.length_take]; omega
  have hrep : List.replicate (zss.length - k) ([] : List Int) = [] :: List.replicate (zss.length - (k + 1)) [] := by
    rw [show zss.length - k = (zss.length - (k + 1)) + 1 from by omega, List.replicate_succ]
  rw [hrep, List.set_append_right _ _ (by omega), hl, Nat.sub_self, List.set_cons_zero, List.take_add_one, List.getElem?_eq_getElem h]
  simp only [Option.toList_some, List.append_assoc, List.cons_append, List.nil_append]
theorem fillS_len (zss : List (List Int)) (k : Nat) (h : k ≤ zss.length) : (zss.take k ++ List.replicate (zss.length - k) ([] : List Int)).length = zss.length := by
  simp; omega

/-- A row of nil slices: rows of no numbers. -/
theorem OwnVs.nils {w : World} {lo g n cap : Nat} (h : w.ownsRow lo 23 1 (.slice (some ⟨g, 0, none⟩) n cap) n (List.replicate n (.slice none 0 0))) : OwnVs w lo w.heap.size (.slice (some ⟨g, 0, none⟩) (List.replicate n ([] : List Int)).length cap) (List.replicate n (.slice none 0 0)) (List.replicate n []) := by
  have hin : ∀ (i : Nat) (q : Value), (List.replicate n (Value.slice none 0 0))[i]? = some q → q = .slice none 0 0 := by
    intro i q hq
    rw [List.getElem?_replicate] at hq
    split at hq
    · cases hq; rfl
    · cases hq
  have hin2 : ∀ (i : Nat) (q : List Int), (List.replicate n ([] : List Int))[i]? = some q → q = [] := by
    intro i q hq
    rw [List.getElem?_replicate] at hq
    split at hq
    · cases hq; rfl
    · cases hq
  refine ⟨by simp, by simpa using h, fun g' hg' => (h.lt g' hg').2, ?_, ?_⟩
  · intro j u zs hu hz
    rw [hin j u hu, hin2 j zs hz]
    exact ⟨⟨World.ownsRow_nil _ _ _ _, by simp⟩, by simp [Value.ownBlock]⟩
  · intro i j u u' g' _ hu _ e
    rw [hin i u hu] at e
    simp [Value.ownBlock] at e

theorem szI_any (v : Value) (zs : List Int) (n : Int) (w : World) (h : RdI w v zs) (hn : 0 ≤ n ∧ n ≤ 1048576) :
    Calls Try.prog 36 #[v, .int .i64 n] w fun e w' => e = .returned (.int .i64 (if n - zs.length < 0 then -1 else n - zs.length)) ∧ w = w' := by
  obtain ⟨A, c, rfl, hi, _⟩ := h
  have hm := hi.len
  clear hi
  by_cases h0 : n - zs.length < 0
  all_goals
    go_enter Try.func36, Try.ntmps36
    go_wp2
    go_ret
    exact ⟨ret_i64 (by simp), rfl⟩

/-- What is left of n behind rows: -1 where it does not last. -/
def leftS (n : Int) (zss : List (List Int)) : Int := if n - (zss.length : Int) < 0 then -1 else if n - (zss.length : Int) - (szS zss : Int) < 0 then -1 else n - (zss.length : Int) - (szS zss : Int)
theorem leftS_ok {n : Int} {zss : List (List Int)} (h : ¬ leftS n zss < 0) : (zss.length : Int) ≤ n ∧ (szS zss : Int) ≤ n := by
  unfold leftS at h
  split at h
  · omega
  · split at h
    · omega
    · omega
theorem szS_mem {zss : List (List Int)} {zs : List Int} (h : zs ∈ zss) : zs.length ≤ szS zss := by
  induction zss with
  | nil => cases h
  | cons a r ih =>
    rw [szS]
    rcases List.mem_cons.1 h with rfl | h
    · omega
    · have := ih h; omega

end Go.Proofs.Ytceekfoacgoalaa
