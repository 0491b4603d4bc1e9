/- Chapter 5, plain: what a move makes of parts, the program's way and the model's; moves leave a valid program. -/
import Derived.Test.YtkdpfiaegimnlaaDoorB8
import Derived.Test.YtkdpfiaegimnlaaDoorBc
import Derived.Test.YtkdpfiaegimnlaaDoorB5
namespace Go.Proofs.YtkdpfiaegimnlaaDoor
set_option maxRecDepth 100000
/-- How many parts from the first one on are values. -/
def manyR : List (List Int) → Nat
  | [] => 0
  | v :: r => if valueB v = true then manyR r + 1 else 0
def ruleR (op low : Int) : Nat :=
  if op = 1002 then 0 else if op = 1001 then 1 else if op = 1003 then 2 else if op = 1005 then 3 else if op = 1004 then 4 else if 1006 ≤ op ∧ op ≤ 1009 then 5 else if op = 1010 then 6 else if low = 0 then 7 else 8
def takesR (k : Nat) : Nat := if k = 0 ∨ k = 1 ∨ k = 3 then 1 else if k = 6 then 3 else 2
/-- What one step on a stack of nothing but these values puts. -/
def aheadR (vs : List (List Int)) (op : Int) : Option (List Int) := (stepR [op] vs.reverse).map fun x => x.2.reverse.flatten ++ x.1
def useAt (m : Nat) (op low : Int) (ps : List (List Int)) : Option (Nat × List Int × List (List Int)) :=
  if m = takesR (ruleR op low) then (aheadR (ps.take m) op).map fun x => (ruleR op low, x, ps.drop (m + 1)) else none
def useR (ps : List (List Int)) : Option (Nat × List Int × List (List Int)) :=
  if manyR ps = 0 ∨ manyR ps = ps.length then none else useAt (manyR ps) ((ps.getD (manyR ps) []).getD 0 0) ((ps.getD 0 []).getD 0 0) ps

/-- The model's way: at the first part of ps. -/
def vAt (ps : List (List Int)) (k : Nat) : Bool := valueB (ps.getD k [])
def nAt (ps : List (List Int)) (k : Nat) : Bool := vAt ps k && decide ((ps.getD k []).length = 1)
def qAt (ps : List (List Int)) (k : Nat) : Bool := vAt ps k && decide (1 < (ps.getD k []).length)
def wAt (ps : List (List Int)) (k : Nat) (z : Int) : Bool := decide (k < ps.length) && decide ((ps.getD k []).getD 0 0 = z)
def zAt (ps : List (List Int)) (k : Nat) : Int := (ps.getD k []).getD 0 0
def mUse (which : Int) (ps : List (List Int)) : Option (Nat × List Int) :=
  if which = 0 ∧ vAt ps 0 = true ∧ wAt ps 1 1002 = true then some (2, [])
  else if which = 1 ∧ vAt ps 0 = true ∧ wAt ps 1 1001 = true then some (2, ps.getD 0 [] ++ ps.getD 0 [])
  else if which = 2 ∧ vAt ps 0 = true ∧ vAt ps 1 = true ∧ wAt ps 2 1003 = true then some (3, ps.getD 1 [] ++ ps.getD 0 [])
  else if which = 3 ∧ qAt ps 0 = true ∧ wAt ps 1 1005 = true then some (2, inside (ps.getD 0 []))
  else if which = 4 ∧ vAt ps 0 = true ∧ qAt ps 1 = true ∧ wAt ps 2 1004 = true then some (3, inside (ps.getD 1 []) ++ ps.getD 0 [])
  else if which = 5 ∧ nAt ps 0 = true ∧ nAt ps 1 = true ∧ 2 < ps.length ∧ 1006 ≤ zAt ps 2 ∧ zAt ps 2 ≤ 1009 then some (3, [reck (zAt ps 2) (zAt ps 0) (zAt ps 1)])
  else if which = 6 ∧ nAt ps 0 = true ∧ qAt ps 1 = true ∧ qAt ps 2 = true ∧ wAt ps 3 1010 = true then some (4, if 0 < zAt ps 0 then inside (ps.getD 1 []) else inside (ps.getD 2 []))
  else if which = 7 ∧ nAt ps 0 = true ∧ zAt ps 0 = 0 ∧ qAt ps 1 = true ∧ wAt ps 2 1011 = true then some (3, [])
  else if which = 8 ∧ nAt ps 0 = true ∧ 0 < zAt ps 0 ∧ qAt ps 1 = true ∧ wAt ps 2 1011 = true then some (3, inside (ps.getD 1 []) ++ ((zAt ps 0 - 1) :: ps.getD 1 []) ++ [1011])
  else none

def isPart (q : List Int) : Prop := valueB q = true ∨ ∃ o, q = [o] ∧ 1001 ≤ o ∧ o ≤ 1011

theorem isPart_of {p q : List Int} (hp : validB p = true) (hq : q ∈ partsR p) : isPart q := by
  obtain ⟨h1, _⟩ := parts_ok hp
  obtain ⟨hv, hs, hl⟩ := h1 q hq
  have hc : q ≠ [] := by
    intro e; subst e; simp [partsR, partsFrom] at hs
  simp only [validB, Bool.and_eq_true, decide_eq_true_eq] at hv
  obtain ⟨⟨_, hw⟩, hf⟩ := hv
  rcases q with _ | ⟨z, r⟩
  · exact absurd rfl hc
  · have hz : isWordB z = true := by simp only [List.all_cons, Bool.and_eq_true] at hw; exact hw.1
    have hpv : partsFrom 0 [] (z :: r) = [z :: r] := by
      rw [partsR] at hs
      split at hs
      · exact hs
      · cases hs
    by_cases hz12 : z = 1012
    · left
      subst hz12
      have hb : brk 1012 = 1 := rfl
      rw [fitsFrom, hb] at hf
      simp only [show ¬ ((0 : Int) + 1 < 0) from by omega, if_false] at hf
      obtain ⟨n, hn, h2, h3, h4⟩ := cutAt_fits (o := 0) (l := 1012 :: r) (by rw [fitsFrom, hb]; simpa using hf) (by simp)
      have hpc := partsFrom_cut (cur := []) hn
      rw [hpv] at hpc
      have hnl : n = (1012 :: r).length := by
        have := (List.cons.inj hpc).1
        rw [List.nil_append] at this
        have hlen := congrArg List.length this
        rw [List.length_take] at hlen
        omega
      rw [cutAt, hb, if_neg (by omega)] at hn
      rcases hcut : cutAt (0 + 1) r with _ | m
      · rw [hcut] at hn; cases hn
      · rw [hcut] at hn
        simp at hn
        have hm : m = r.length := by simp at hnl; omega
        subst hm
        obtain ⟨m', rfl, hm'⟩ := wrap_cut (Int.le_refl 0) hf hcut
        rw [valueB_wrap]
        simp only [List.all_cons, List.all_append, Bool.and_eq_true] at hw
        simp at hl
        simp [validB, hm', hw.2.1]; omega
    · have hone := cutAt_one rfl hf hz12
      have hpc := partsFrom_cut (cur := []) hone
      rw [hpv] at hpc
      have := (List.cons.inj hpc).1
      simp at this
      subst this
      by_cases hnum : isNumB z = true
      · left; rw [valueB_num]; exact hnum
      · right
        simp only [isWordB, Bool.or_eq_true, Bool.and_eq_true, decide_eq_true_eq] at hz
        rcases hz with hz | hz
        · exact absurd hz hnum
        · refine ⟨z, rfl, hz.1, ?_⟩
          by_cases h13 : z = 1013
          · subst h13; simp [fitsFrom, brk] at hf
          · omega

theorem val_or {v : List Int} (h : valueB v = true) : (∃ z, v = [z] ∧ 0 ≤ z ∧ z ≤ 999) ∨ (1 < v.length ∧ v.getD 0 0 = 1012) := by
  rcases valueB_cases h with ⟨z, rfl, h0⟩ | ⟨m, rfl, -⟩
  · exact .inl ⟨z, rfl, h0⟩
  · right; exact ⟨by simp, rfl⟩
theorem op_noval {o : Int} (h : 1001 ≤ o) : valueB [o] = false := by
  rw [valueB_num]; simp [isNumB]; omega

theorem valueB_nil : valueB [] = false := rfl
theorem valueB_reck (w a b : Int) : valueB [reck w a b] = true := by
  rw [valueB_num]; have := @reck_num w a b; simp [isNumB]; omega
theorem wAt_val {ps : List (List Int)} {k : Nat} {z : Int} (h : vAt ps k = true) (hz : 1001 ≤ z ∧ z ≤ 1011) : wAt ps k z = false := by
  unfold vAt at h
  unfold wAt
  rcases val_or h with ⟨y, hy, h0, h9⟩ | ⟨_, hy⟩
  · rw [hy]; simp; omega
  · rw [hy]; simp; omega
theorem zAt_val {ps : List (List Int)} {k : Nat} (h : vAt ps k = true) : ¬ (1006 ≤ zAt ps k ∧ zAt ps k ≤ 1009) := by
  unfold vAt at h
  unfold zAt
  rcases val_or h with ⟨y, hy, h0, h9⟩ | ⟨_, hy⟩
  · rw [hy]; simp; omega
  · rw [hy]; omega
theorem takesR_le (k : Nat) : 1 ≤ takesR k ∧ takesR k ≤ 3 := by
  unfold takesR; split
  · omega
  · split <;> omega
theorem ops_cases {o : Int} (h1 : 1001 ≤ o) (h2 : o ≤ 1011) : o = 1001 ∨ o = 1002 ∨ o = 1003 ∨ o = 1004 ∨ o = 1005 ∨ o = 1006 ∨ o = 1007 ∨ o = 1008 ∨ o = 1009 ∨ o = 1010 ∨ o = 1011 := by omega
def ruleUse (which : Int) (ps : List (List Int)) : Option (Nat × List Int) := (useR ps).bind fun x => if which = (x.1 : Int) then some (takesR x.1 + 1, x.2.1) else none

theorem same1 {a : List Int} {o : Int} {t : List (List Int)} (ha : valueB a = true) (h1 : 1001 ≤ o) (h2 : o ≤ 1011) (which : Int) : mUse which (a :: [o] :: t) = ruleUse which (a :: [o] :: t) := by
  have ho := op_noval h1
  have hm : manyR (a :: [o] :: t) = 1 := by simp [manyR, ha, ho]
  unfold ruleUse useR
  rw [hm]
  have hs : stackB [a, a] = true := by simp [stackB, ha]
  have hn : stackB [] = true := rfl
  rcases val_or ha with ⟨z, rfl, z0, z9⟩ | ⟨q1, q2⟩
  · rcases ops_cases h1 h2 with rfl | rfl | rfl | rfl | rfl | rfl | rfl | rfl | rfl | rfl | rfl <;>
      simp [mUse, useAt, vAt, nAt, qAt, wAt, zAt, ha, ho, ruleR, takesR, aheadR, stepR, l2R, opR, opR1, hs, hn]
  · rcases ops_cases h1 h2 with rfl | rfl | rfl | rfl | rfl | rfl | rfl | rfl | rfl | rfl | rfl <;>
      simp [mUse, useAt, vAt, nAt, qAt, wAt, zAt, ha, ho, ruleR, takesR, aheadR, stepR, l2R, opR, opR1, hs, hn, q1]
theorem same2 {a b : List Int} {o : Int} {t : List (List Int)} (ha : valueB a = true) (hb : valueB b = true) (h1 : 1001 ≤ o) (h2 : o ≤ 1011) (which : Int) : mUse which (a :: b :: [o] :: t) = ruleUse which (a :: b :: [o] :: t) := by
  have ho := op_noval h1
  have hm : manyR (a :: b :: [o] :: t) = 2 := by simp [manyR, ha, hb, ho]
  unfold ruleUse useR
  rw [hm]
  have hs : stackB [a, b] = true := by simp [stackB, ha, hb]
  have hn : stackB [] = true := rfl
  have hr : ∀ w x y, stackB [[reck w x y]] = true := fun w x y => by simp [stackB, valueB_reck]
  have hw : ∀ z, 1001 ≤ z ∧ z ≤ 1011 → wAt (a :: b :: [o] :: t) 1 z = false := fun z hz => wAt_val (by simpa [vAt] using hb) hz
  have w1 := hw 1001 (by omega)
  have w2 := hw 1002 (by omega)
  have w5 := hw 1005 (by omega)
  have hq : ∀ z, wAt (a :: b :: [o] :: t) 2 z = decide (o = z) := fun z => by simp [wAt]
  clear hw
  rcases val_or ha with ⟨z, rfl, z0, z9⟩ | ⟨q1, q2⟩ <;> rcases val_or hb with ⟨y, rfl, y0, y9⟩ | ⟨p1, p2⟩
  · rcases ops_cases h1 h2 with rfl | rfl | rfl | rfl | rfl | rfl | rfl | rfl | rfl | rfl | rfl <;>
      simp [mUse, w1, w2, w5, hq, useAt, vAt, nAt, qAt, zAt, ha, hb, ho, ruleR, takesR, aheadR, stepR, l2R, opR, opR1, opR2, hs, hr]
  · have p3 : ¬ b.length = 1 := by omega
    rcases ops_cases h1 h2 with rfl | rfl | rfl | rfl | rfl | rfl | rfl | rfl | rfl | rfl | rfl <;>
      simp [mUse, w1, w2, w5, hq, useAt, vAt, nAt, qAt, zAt, ha, hb, ho, ruleR, takesR, aheadR, stepR, l2R, opR, opR1, opR2, hs, hn, p1, p3]
    by_cases hz : z = 0
    · subst hz
      by_cases hw : which = 7
      · subst hw; simp
      · simp [hw]
    · have hz2 : 0 < z := by omega
      by_cases hw : which = 8
      · subst hw; simp [hz, hz2]
      · simp [hw, hz]
  · have q3 : ¬ a.length = 1 := by omega
    rcases ops_cases h1 h2 with rfl | rfl | rfl | rfl | rfl | rfl | rfl | rfl | rfl | rfl | rfl <;>
      simp [mUse, w1, w2, w5, hq, useAt, vAt, nAt, qAt, zAt, ha, hb, ho, ruleR, takesR, aheadR, stepR, l2R, opR, opR1, opR2, hs, q1, q3]
  · have q3 : ¬ a.length = 1 := by omega
    have p3 : ¬ b.length = 1 := by omega
    rcases ops_cases h1 h2 with rfl | rfl | rfl | rfl | rfl | rfl | rfl | rfl | rfl | rfl | rfl <;>
      simp [mUse, w1, w2, w5, hq, useAt, vAt, nAt, qAt, zAt, ha, hb, ho, ruleR, takesR, aheadR, stepR, l2R, opR, opR1, opR2, hs, hn, p1, q1, q3, p3]
theorem same3 {a b c : List Int} {o : Int} {t : List (List Int)} (ha : valueB a = true) (hb : valueB b = true) (hc : valueB c = true) (h1 : 1001 ≤ o) (h2 : o ≤ 1011) (which : Int) : mUse which (a :: b :: c :: [o] :: t) = ruleUse which (a :: b :: c :: [o] :: t) := by
  have ho := op_noval h1
  have hm : manyR (a :: b :: c :: [o] :: t) = 3 := by simp [manyR, ha, hb, hc, ho]
  unfold ruleUse useR
  rw [hm]
  have hn : stackB [] = true := rfl
  have hw : ∀ z, 1001 ≤ z ∧ z ≤ 1011 → wAt (a :: b :: c :: [o] :: t) 1 z = false := fun z hz => wAt_val (by simpa [vAt] using hb) hz
  have hv : ∀ z, 1001 ≤ z ∧ z ≤ 1011 → wAt (a :: b :: c :: [o] :: t) 2 z = false := fun z hz => wAt_val (by simpa [vAt] using hc) hz
  have w1 := hw 1001 (by omega)
  have w2 := hw 1002 (by omega)
  have w5 := hw 1005 (by omega)
  have v3 := hv 1003 (by omega)
  have v4 := hv 1004 (by omega)
  have v11 := hv 1011 (by omega)
  have hq : ∀ z, wAt (a :: b :: c :: [o] :: t) 3 z = decide (o = z) := fun z => by simp [wAt]
  have hz := @zAt_val (a :: b :: c :: [o] :: t) 2 (by simpa [vAt] using hc)
  clear hw hv
  unfold mUse
  rw [w1, w2, w5, v3, v4, v11]
  have hz' : ∀ p : Prop, (p ∧ 1006 ≤ zAt (a :: b :: c :: [o] :: t) 2 ∧ zAt (a :: b :: c :: [o] :: t) 2 ≤ 1009) = False := fun p => by simp; omega
  rcases val_or ha with ⟨z, rfl, z0, z9⟩ | ⟨q1, q2⟩
  · rcases ops_cases h1 h2 with rfl | rfl | rfl | rfl | rfl | rfl | rfl | rfl | rfl | rfl | rfl <;>
      simp [hq, hz', useAt, vAt, nAt, qAt, ha, hb, hc, ruleR, takesR, aheadR, stepR, l2R, opR, opR1, opR2, opR3, show ∀ t : List (List Int), zAt ([z] :: t) 0 = z from fun _ => rfl]
    · by_cases hw : which = 6
      · subst hw
        by_cases hb1 : 1 < b.length
        · by_cases hc1 : 1 < c.length
          · simp [hb1, hc1, hn]
          · simp [hc1]
        · simp [hb1]
      · by_cases hc1 : 1 < c.length ∧ 1 < b.length
        · simp [hw, hc1, hn]
        · simp [hw, hc1]
    · by_cases hz0 : z = 0 <;> simp [hz0]
  · have q3 : ¬ a.length = 1 := by omega
    rcases ops_cases h1 h2 with rfl | rfl | rfl | rfl | rfl | rfl | rfl | rfl | rfl | rfl | rfl <;>
      simp [hq, hz', useAt, vAt, nAt, qAt, ha, hb, hc, ruleR, takesR, aheadR, stepR, l2R, opR, opR1, opR2, opR3, q1, q3]
    by_cases hz0 : a[0]?.getD 0 = 0 <;> simp [hz0]
theorem manyR_le (ps : List (List Int)) : manyR ps ≤ ps.length := by
  induction ps with
  | nil => exact Nat.le_refl _
  | cons v r ih => rw [manyR]; split <;> simp; exact ih
/-- The model's rule at a place is the program's. -/
theorem rule_same {ps : List (List Int)} (hp : ∀ q ∈ ps, isPart q) (which : Int) : mUse which ps = ruleUse which ps := by
  rcases ps with _ | ⟨a, r⟩
  · simp [mUse, ruleUse, useR, manyR, vAt, nAt, qAt, valueB_nil]
  rcases hp a List.mem_cons_self with ha | ⟨o, rfl, h1, h2⟩
  case inr =>
    simp [mUse, ruleUse, useR, manyR, vAt, nAt, qAt, op_noval h1]
  rcases r with _ | ⟨b, s⟩
  · simp [mUse, ruleUse, useR, manyR, ha, vAt, nAt, qAt, wAt, valueB_nil]
  rcases hp b (by simp) with hb | ⟨o, rfl, h1, h2⟩
  case inr => exact same1 ha h1 h2 which
  have hw : ∀ z, 1001 ≤ z ∧ z ≤ 1011 → wAt (a :: b :: s) 1 z = false := fun z hz => wAt_val (by simpa [vAt] using hb) hz
  have w1 := hw 1001 (by omega)
  have w2 := hw 1002 (by omega)
  have w5 := hw 1005 (by omega)
  clear hw
  rcases s with _ | ⟨c, t⟩
  · have hk : ∀ z, wAt [a, b] 2 z = false := fun z => by simp [wAt]
    simp [mUse, ruleUse, useR, manyR, ha, hb, w1, w2, w5, hk, vAt, nAt, qAt, valueB_nil]
  rcases hp c (by simp) with hc | ⟨o, rfl, h1, h2⟩
  case inr => exact same2 ha hb h1 h2 which
  have hv : ∀ z, 1001 ≤ z ∧ z ≤ 1011 → wAt (a :: b :: c :: t) 2 z = false := fun z hz => wAt_val (by simpa [vAt] using hc) hz
  have v3 := hv 1003 (by omega)
  have v4 := hv 1004 (by omega)
  have v11 := hv 1011 (by omega)
  have hz := @zAt_val (a :: b :: c :: t) 2 (by simpa [vAt] using hc)
  clear hv
  rcases t with _ | ⟨d, u⟩
  · unfold mUse
    rw [w1, w2, w5, v3, v4, v11]
    have hz' : (1006 ≤ zAt [a, b, c] 2 ∧ zAt [a, b, c] 2 ≤ 1009) = False := by simp; omega
    simp [ruleUse, useR, manyR, ha, hb, hc, wAt, hz']
  rcases hp d (by simp) with hd | ⟨o, rfl, h1, h2⟩
  case inr => exact same3 ha hb hc h1 h2 which
  have x10 : wAt (a :: b :: c :: d :: u) 3 1010 = false := wAt_val (by simpa [vAt] using hd) (by omega)
  unfold mUse
  rw [w1, w2, w5, v3, v4, v11, x10]
  have hz' : (1006 ≤ zAt (a :: b :: c :: d :: u) 2 ∧ zAt (a :: b :: c :: d :: u) 2 ≤ 1009) = False := by simp; omega
  have hm : manyR (a :: b :: c :: d :: u) = manyR u + 4 := by simp [manyR, ha, hb, hc, hd]
  unfold ruleUse useR
  rw [hm]
  have ht : ∀ k, ¬ (manyR u + 4 = takesR k) := fun k => by have := takesR_le k; omega
  simp [useAt, ht, hz']

theorem manyR_take (ps : List (List Int)) : ∀ v ∈ ps.take (manyR ps), valueB v = true := by
  induction ps with
  | nil => simp
  | cons a r ih =>
    rw [manyR]
    split
    · rename_i h
      rw [List.take_succ_cons]
      intro v hv
      rcases List.mem_cons.1 hv with rfl | hv
      · exact h
      · exact ih v hv
    · simp
theorem manyR_at {ps : List (List Int)} {k : Nat} {zs : List Int} (h : (ps.take k).all valueB = true) (hz : ps[k]? = some zs) (hv : valueB zs = false) : manyR ps = k := by
  induction ps generalizing k with
  | nil => simp at hz
  | cons a r ih =>
    rcases k with _ | k
    · simp at hz; subst hz; rw [manyR, if_neg (by simp [hv])]
    · rw [List.take_succ_cons, List.all_cons, Bool.and_eq_true] at h
      rw [manyR, if_pos h.1, ih h.2 (by simpa using hz)]
theorem manyR_all {ps : List (List Int)} (h : ps.all valueB = true) : manyR ps = ps.length := by
  induction ps with
  | nil => rfl
  | cons a r ih =>
    rw [List.all_cons, Bool.and_eq_true] at h
    rw [manyR, if_pos h.1, ih h.2, List.length_cons]
theorem manyR_next {ps : List (List Int)} (h : manyR ps < ps.length) : valueB (ps.getD (manyR ps) []) = false := by
  induction ps with
  | nil => simp at h
  | cons a r ih =>
    rw [manyR] at h ⊢
    split
    · rename_i ha
      rw [if_pos ha] at h
      have := ih (by simpa using h)
      simpa using this
    · rename_i ha
      simpa using ha

theorem ahead_ok {vs : List (List Int)} {op : Int} {x : List Int} (hv : ∀ v ∈ vs, valueB v = true) (hl : vs.length ≤ 3) (h1 : 1001 ≤ op) (h2 : op ≤ 1011) (h : aheadR vs op = some x) : restB x = true ∧ x.length ≤ 1400 := by
  unfold aheadR at h
  obtain ⟨y, hy, rfl⟩ := Option.map_eq_some_iff.1 h
  have hs : stackB vs.reverse = true := by rw [stackB_reverse]; exact stackB_mk (by omega) hv
  have hr : restB [op] = true := restB_one (by simp [isWordB]; omega) (by unfold brk; rw [if_neg (by omega), if_neg (by omega)])
  obtain ⟨⟨k1, k2⟩, k3⟩ := stepR_ok ⟨hr, hs⟩ hy
  rw [← stackB_reverse] at k2
  refine ⟨restB_append (flatten_rest (stackB_all k2).2) k1, ?_⟩
  have := flatten_len k2
  rw [List.length_append]
  simp at k3
  omega
theorem op_of_part {q : List Int} (hq : isPart q) (hv : valueB q = false) : ∃ o, q = [o] ∧ 1001 ≤ o ∧ o ≤ 1011 := by
  rcases hq with h | h
  · rw [hv] at h; cases h
  · exact h
theorem use_ok {ps : List (List Int)} (hp : ∀ q ∈ ps, isPart q) {x : Nat × List Int × List (List Int)} (h : useR ps = some x) : x.2.2 = ps.drop (takesR x.1 + 1) ∧ takesR x.1 + 1 ≤ ps.length ∧ restB x.2.1 = true ∧ x.2.1.length ≤ 1400 ∧ x.1 ≤ 8 := by
  unfold useR at h
  split at h
  · cases h
  · rename_i hn
    have hle := manyR_le ps
    have hlt : manyR ps < ps.length := by omega
    have hnv := manyR_next hlt
    have hmem : ps.getD (manyR ps) [] ∈ ps := by
      rw [List.getD, List.getElem?_eq_getElem hlt]; exact List.getElem_mem hlt
    obtain ⟨o, ho, h1, h2⟩ := op_of_part (hp _ hmem) hnv
    rw [ho] at h
    unfold useAt at h
    split at h
    · rename_i hm
      obtain ⟨y, hy, rfl⟩ := Option.map_eq_some_iff.1 h
      have ht := takesR_le (ruleR ([o].getD 0 0) ((ps.getD 0 []).getD 0 0))
      obtain ⟨k1, k2⟩ := ahead_ok (manyR_take ps) (by rw [List.length_take]; omega) h1 h2 hy
      refine ⟨by dsimp only; rw [← hm], by dsimp only; rw [← hm]; exact hlt, k1, k2, ?_⟩
      dsimp only
      unfold ruleR
      repeat' split
      all_goals omega
    · cases h

/-- The program after a move at a place, and the rule. -/
def moveR (ps : List (List Int)) (at_ : Int) : Option (List Int × Nat) :=
  if at_ < 0 ∨ (ps.length : Int) ≤ at_ then none else
  match useR (ps.drop at_.toNat) with
  | none => none
  | some x => if ((ps.take at_.toNat).flatten ++ x.2.1 ++ x.2.2.flatten).length ≤ 60 then some ((ps.take at_.toNat).flatten ++ x.2.1 ++ x.2.2.flatten, x.1) else none
def moveDoR (p : List Int) (which at_ : Int) : List Int × Bool :=
  match moveR (partsR p) at_ with
  | none => ([], false)
  | some x => if which = (x.2 : Int) then (x.1, true) else ([], false)
def movesAtR (p : List Int) (at_ : Int) : List Int :=
  match moveR (partsR p) at_ with
  | none => []
  | some x => [(x.2 : Int)]
/-- The model's. -/
def mDoR (p : List Int) (which at_ : Int) : List Int × Bool :=
  if validB p = true ∧ 0 ≤ at_ ∧ at_ ≤ ((partsR p).length : Int) - 1 then
    match mUse which ((partsR p).drop at_.toNat) with
    | none => ([], false)
    | some x => if validB (((partsR p).take at_.toNat).flatten ++ x.2 ++ ((partsR p).drop (at_.toNat + x.1)).flatten) = true then (((partsR p).take at_.toNat).flatten ++ x.2 ++ ((partsR p).drop (at_.toNat + x.1)).flatten, true) else ([], false)
  else ([], false)

theorem parts_rest {p : List Int} (hp : validB p = true) : ∀ q ∈ partsR p, restB q = true := fun q hq => validB_rest ((parts_ok hp).1 q hq).1
theorem flat_rest {zss : List (List Int)} (h : ∀ v ∈ zss, restB v = true) : restB zss.flatten = true := by
  induction zss with
  | nil => rfl
  | cons a r ih =>
    rw [List.flatten_cons]
    exact restB_append (h a (by simp)) (ih fun v hv => h v (by simp [hv]))
theorem restB_valid {p : List Int} (h : restB p = true) : validB p = decide (p.length ≤ 60) := by
  simp only [restB, Bool.and_eq_true] at h
  simp [validB, h.1, h.2]
theorem move_rest {p : List Int} (hp : validB p = true) (a b : Nat) {x : List Int} (hx : restB x = true) : restB (((partsR p).take a).flatten ++ x ++ ((partsR p).drop b).flatten) = true :=
  restB_append (restB_append (flat_rest fun v hv => parts_rest hp v (List.mem_of_mem_take hv)) hx) (flat_rest fun v hv => parts_rest hp v (List.mem_of_mem_drop hv))
theorem isPart_drop {p : List Int} (hp : validB p = true) (a : Nat) : ∀ q ∈ (partsR p).drop a, isPart q := fun _ hq => isPart_of hp (List.mem_of_mem_drop hq)
theorem moveR_ok {p : List Int} (hp : validB p = true) {at_ : Int} {x : List Int × Nat} (h : moveR (partsR p) at_ = some x) : validB x.1 = true ∧ x.2 ≤ 8 := by
  unfold moveR at h
  split at h
  · cases h
  · rcases hu : useR ((partsR p).drop at_.toNat) with _ | y
    · rw [hu] at h; cases h
    · rw [hu] at h
      dsimp only at h
      obtain ⟨k1, k2, k3, k4, k5⟩ := use_ok (isPart_drop hp _) hu
      split at h
      · rename_i hl
        cases h
        rw [k1, List.drop_drop] at hl ⊢
        exact ⟨by rw [restB_valid (move_rest hp _ _ k3), decide_eq_true hl], k5⟩
      · cases h
theorem moveDo_same (p : List Int) (which at_ : Int) : mDoR p which at_ = moveDoR p which at_ := by
  unfold mDoR moveDoR moveR
  by_cases hp : validB p = true
  · by_cases hr : at_ < 0 ∨ ((partsR p).length : Int) ≤ at_
    · rw [if_pos hr, if_neg (by omega)]
    · rw [if_neg hr, if_pos (by refine ⟨hp, ?_⟩; omega)]
      rw [rule_same (isPart_drop hp _)]
      unfold ruleUse
      rcases hu : useR ((partsR p).drop at_.toNat) with _ | y
      · rfl
      · obtain ⟨k1, k2, k3, k4, k5⟩ := use_ok (isPart_drop hp _) hu
        simp only [Option.bind_some]
        rw [k1, List.drop_drop]
        have hv := restB_valid (move_rest hp at_.toNat (at_.toNat + (takesR y.1 + 1)) k3)
        by_cases hw : which = (y.1 : Int)
        · rw [if_pos hw]
          dsimp only
          rw [hv]
          by_cases hl : (((partsR p).take at_.toNat).flatten ++ y.2.1 ++ ((partsR p).drop (at_.toNat + (takesR y.1 + 1))).flatten).length ≤ 60
          · rw [if_pos (decide_eq_true hl), if_pos hl]
            dsimp only
            rw [if_pos hw]
          · rw [if_neg (by simpa using hl), if_neg hl]
        · rw [if_neg hw]
          dsimp only
          split
          · rfl
          · rename_i h
            split at h
            · cases h; rw [if_neg hw]
            · cases h
  · have hb : partsR p = [] := partsR_bad (by simpa using hp)
    rw [if_neg (by simp [hp]), if_pos (by rw [hb]; simp; omega)]
theorem moveDoR_ok {p q : List Int} {which at_ : Int} (h : moveDoR p which at_ = (q, true)) : validB p = true ∧ validB q = true := by
  unfold moveDoR at h
  by_cases hp : validB p = true
  · refine ⟨hp, ?_⟩
    rcases hm : moveR (partsR p) at_ with _ | x
    · rw [hm] at h; cases h
    · rw [hm] at h
      dsimp only at h
      split at h
      · cases h; exact (moveR_ok hp hm).1
      · cases h
  · rw [partsR_bad (by simpa using hp)] at h
    unfold moveR at h
    rw [if_pos (by simp; omega)] at h
    cases h
end Go.Proofs.YtkdpfiaegimnlaaDoor
