/- The program's runner: contracts of reckon, call, dip, choose, times. The program's runner: contracts of choose and times. The program's runner: the contract of quoted. The program's runner: what a step does, word by word; the contract of step. -/
import Derived.Test.YtceekfoacgoalaaB7
import Derived.Test.YtceekfoacgoalaaB6
namespace Go.Proofs.Ytceekfoacgoalaa
set_option maxRecDepth 100000
open Go.RowKit Go.WideShapes

theorem numR_bd {st : List (List Int)} (hv : ∀ v ∈ st, valueB v = true) : 0 ≤ (numR st).1 ∧ (numR st).1 ≤ 999 := by
  rcases st with _ | ⟨a, s1⟩
  · simp [numR]
  · by_cases h : 1 < a.length
    · simp [numR, h]
    · rw [numR, if_neg h]; exact (num_of_value (hv a (by simp)) h).2
def reckR (op : Int) (rest : List Int) (st : List (List Int)) : Option (List Int × List (List Int)) := if (numR st).2 = true ∧ (numR st.tail).2 = true then some (rest, [reck op (numR st.tail).1 (numR st).1] :: st.tail.tail) else none
theorem numR_ne {st : List (List Int)} (h : (numR st).2 = true) : 1 ≤ st.length := by
  rcases st with _ | ⟨a, s⟩
  · simp [numR] at h
  · simp
def callR (rest : List Int) : List (List Int) → Option (List Int × List (List Int))
  | a :: s1 => if 1 < a.length then some (inside a ++ rest, s1) else none
  | [] => none
def dipR (rest : List Int) : List (List Int) → Option (List Int × List (List Int))
  | a :: b :: s2 => if 1 < a.length then some (inside a ++ (b ++ rest), s2) else none
  | _ => none
end Go.Proofs.Ytceekfoacgoalaa
namespace Go.Proofs.Ytceekfoacgoalaa
set_option maxRecDepth 100000
open Go.RowKit Go.WideShapes

def progR : List (List Int) → Bool
  | [] => false
  | a :: _ => decide (1 < a.length)
theorem progR_ne {st : List (List Int)} (h : progR st = true) : 1 ≤ st.length := by
  rcases st with _ | ⟨a, s⟩
  · cases h
  · simp
theorem head_len {st : List (List Int)} (hv : ∀ v ∈ st, valueB v = true) : (st.headD []).length ≤ 60 := by
  rcases st with _ | ⟨a, s⟩
  · simp
  · exact (valueB_len (hv a (by simp))).2

def chooseR (rest : List Int) (st : List (List Int)) : Option (List Int × List (List Int)) :=
  if progR st = true ∧ progR st.tail = true ∧ (numR st.tail.tail).2 = true then some ((if (numR st.tail.tail).1 = 0 then inside (st.headD []) else inside (st.tail.headD [])) ++ rest, st.tail.tail.tail) else none
/-- A literal of rows. -/
theorem rdS_lit (w : World) (us : List Value) (zss : List (List Int)) (hn : us.length = zss.length) (hl : zss.length ≤ 1000) (h : ∀ (j : Nat) u zs, us[j]? = some u → zss[j]? = some zs → RdI w u zs) : RdS (w.alloc (.cells us.toArray 23)) (.slice (some ⟨w.heap.size, 0, none⟩) zss.length zss.length) zss := by
  refine ⟨_, _, rfl, by omega, fun h0 => ⟨w.heap.size, 0, rfl, by simp, fun j zs hj => ?_⟩⟩
  have hj' : j < us.length := by
    rw [hn]
    rcases Nat.lt_or_ge j zss.length with h1 | h1
    · exact h1
    · rw [List.getElem?_eq_none h1] at hj; cases hj
  have hu : us[j]? = some us[j] := List.getElem?_eq_getElem hj'
  refine ⟨us[j], ?_, RdI.at_ ((h j _ zs hu hj).step ((Below.refl _ _).alloc (Nat.le_refl _) _))⟩
  rw [Nat.zero_add, (Blk.new w us.toArray 23).cell j]
  simp [hu]
def timesR (rest : List Int) (st : List (List Int)) : Option (List Int × List (List Int)) :=
  if progR st = true ∧ (numR st.tail).2 = true then some (if 0 < (numR st.tail).1 then inside (st.headD []) ++ (((numR st.tail).1 - 1) :: (st.headD [] ++ [1011])) ++ rest else rest, st.tail.tail) else none
end Go.Proofs.Ytceekfoacgoalaa
namespace Go.Proofs.Ytceekfoacgoalaa
set_option maxRecDepth 100000
open Go.RowKit Go.WideShapes

end Go.Proofs.Ytceekfoacgoalaa
namespace Go.Proofs.Ytceekfoacgoalaa
set_option maxRecDepth 100000
open Go.RowKit Go.WideShapes

theorem stackB_mk {st : List (List Int)} (hl : st.length ≤ 20) (hv : ∀ v ∈ st, valueB v = true) : stackB st = true := by
  simp only [stackB, Bool.and_eq_true, decide_eq_true_eq, List.all_eq_true]; exact ⟨hl, hv⟩
theorem stackB_len {st : List (List Int)} (hl : ¬ st.length ≤ 20) : stackB st = false := by simp [stackB, hl]
theorem stepR_some {r : List Int} {st : List (List Int)} {x : List Int × List (List Int)} (h : l2R r st = some x) (hs : stackB x.2 = true) : stepR r st = some x := by simp [stepR, h, hs]
theorem stepR_bad {r : List Int} {st : List (List Int)} {x : List Int × List (List Int)} (h : l2R r st = some x) (hs : stackB x.2 = false) : stepR r st = none := by simp [stepR, h, hs]
theorem stepR_none {r : List Int} {st : List (List Int)} (h : l2R r st = none) : stepR r st = none := by simp [stepR, h]
theorem l2R_op {z : Int} {r : List Int} {st : List (List Int)} (h1 : ¬ z ≤ 999) (h2 : z ≠ 1012) : l2R (z :: r) st = opR z r st := by rw [l2R, if_neg h1, if_neg h2]

section
variable {r : List Int} {st : List (List Int)}
theorem step_put {z : Int} {zs rest : List Int} (h : l2R (z :: r) st = some (rest, zs :: st)) (hz : valueB zs = decide (zs.length ≤ 60)) (hl : st.length ≤ 20) (hv : ∀ v ∈ st, valueB v = true) : stepR (z :: r) st = putR zs rest st := by
  unfold putR
  by_cases h60 : zs.length ≤ 60
  · by_cases h20 : st.length < 20
    · rw [if_pos ⟨h60, h20⟩]
      refine stepR_some h (stackB_mk (by rw [List.length_cons]; omega) (fun v hv' => ?_))
      rcases List.mem_cons.1 hv' with rfl | hv'
      · rw [hz, decide_eq_true h60]
      · exact hv v hv'
    · rw [if_neg (fun h => h20 h.2)]
      exact stepR_bad h (stackB_len (by rw [List.length_cons]; omega))
  · rw [if_neg (fun h => h60 h.1)]
    refine stepR_bad h ?_
    simp [stackB, hz, h60]
theorem step_num {z : Int} (hz : isNumB z = true) (hl : st.length ≤ 20) (hv : ∀ v ∈ st, valueB v = true) : stepR (z :: r) st = putR [z] r st := by
  refine step_put ?_ ?_ hl hv
  · have : z ≤ 999 := by simp [isNumB] at hz; omega
    rw [l2R, if_pos this]
  · rw [valueB_num, hz]; rfl
theorem step_quote (h : okS (1012 :: r) st) : ∃ n, cutAt 1 r = some n ∧ n ≤ r.length ∧ stepR (1012 :: r) st = putR (1012 :: r.take n) (r.drop n) st := by
  obtain ⟨hr, hs⟩ := h
  obtain ⟨hl, hv⟩ := stackB_all hs
  obtain ⟨n, m, hc, hn, h2, ht, hf, ha, hnm, hd⟩ := quote_cut hr
  have hb : brk 1012 = 1 := rfl
  obtain ⟨k, rfl⟩ : ∃ k, n = k + 1 := ⟨n - 1, by omega⟩
  refine ⟨k, ?_, by omega, ?_⟩
  · rw [cutAt, hb, if_neg (by omega)] at hc
    rcases hx : cutAt (0 + 1) r with _ | q
    · rw [hx] at hc; simp at hc
    · rw [hx] at hc; simp at hc
      rw [show (1 : Int) = 0 + 1 from rfl, hx, hc]
  · refine step_put ?_ ?_ hl hv
    · rw [l2R, if_neg (by omega), if_pos rfl, hc]; rfl
    · rw [List.take_succ_cons] at ht
      rw [ht, valueB_wrap]
      have hl2 : (1012 :: (m ++ [1013])).length = m.length + 2 := by simp
      rw [hl2]
      by_cases h60 : m.length + 2 ≤ 60
      · simp only [validB, hf, ha, Bool.and_true]
        rw [decide_eq_true h60, decide_eq_true (show m.length ≤ 60 by omega)]; rfl
      · rw [decide_eq_false h60]; rfl
theorem step_dup (hl : st.length ≤ 20) (hv : ∀ v ∈ st, valueB v = true) : stepR (1001 :: r) st = dupR r st := by
  rcases st with _ | ⟨a, s1⟩
  · exact stepR_none (by rw [l2R_op (by omega) (by omega)]; rfl)
  · have h : l2R (1001 :: r) (a :: s1) = some (r, a :: a :: s1) := by rw [l2R_op (by omega) (by omega)]; simp [opR, opR1]
    rw [dupR]
    by_cases h2 : s1.length + 2 ≤ 20
    · rw [if_pos h2]
      refine stepR_some h (stackB_mk (by simpa using h2) (fun v hv' => hv v ?_))
      simp at hv' ⊢; rcases hv' with h | h
      · exact .inl h
      · exact .inr h
    · rw [if_neg h2]
      exact stepR_bad h (stackB_len (by simpa using h2))
/-- The step could be done, but for too many values, or one that is too long. -/
def fullB (r : List Int) (st : List (List Int)) : Bool := (l2R r st).isSome
theorem full_yes {x : List Int × List (List Int)} (h : l2R r st = some x) : true = fullB r st := by rw [fullB, h]; rfl
theorem full_no (h : ∀ x, l2R r st = some x → stackB x.2 = true) : stepR r st = none → false = fullB r st := by
  intro hn
  rcases hx : l2R r st with _ | x
  · rw [fullB, hx]; rfl
  · rw [stepR_some hx (h x hx)] at hn; cases hn
theorem full_dup {st : List (List Int)} : (!st.isEmpty) = fullB (1001 :: r) st := by
  rw [fullB, l2R_op (by omega) (by omega)]
  rcases st with _ | ⟨a, s1⟩
  · rfl
  · simp [opR, opR1]
theorem full_op {z : Int} (h1 : ¬ z ≤ 1001) (h2 : z ≠ 1012) (hl : st.length ≤ 20) (hv : ∀ v ∈ st, valueB v = true) : stepR (z :: r) st = none → false = fullB (z :: r) st := by
  refine full_no fun x hx => ?_
  rw [l2R_op (by omega) h2] at hx
  rcases st with _ | ⟨a, s1⟩
  · simp [opR] at hx
  have hl1 : s1.length ≤ 19 := by rw [List.length_cons] at hl; omega
  have hv1 : ∀ v ∈ s1, valueB v = true := fun v hx => hv v (by simp [hx])
  rw [opR] at hx
  unfold opR1 at hx
  rw [if_neg (by omega)] at hx
  split at hx
  · cases hx; exact stackB_mk (by dsimp only; omega) hv1
  split at hx
  · cases hx; exact stackB_mk (by dsimp only; omega) hv1
  rcases s1 with _ | ⟨b, s2⟩
  · cases hx
  have hl2 : s2.length ≤ 18 := by rw [List.length_cons] at hl1; omega
  have hv2 : ∀ v ∈ s2, valueB v = true := fun v hx => hv1 v (by simp [hx])
  dsimp only at hx
  unfold opR2 at hx
  split at hx
  · cases hx
    refine stackB_mk (by simp only [List.length_cons]; omega) fun v hv' => ?_
    rcases List.mem_cons.1 hv' with rfl | hv'
    · exact hv1 _ (by simp)
    rcases List.mem_cons.1 hv' with rfl | hv'
    · exact hv _ (by simp)
    · exact hv2 v hv'
  split at hx
  · cases hx; exact stackB_mk (by dsimp only; omega) hv2
  split at hx
  · cases hx; exact stackB_mk (by dsimp only; omega) hv2
  split at hx
  · cases hx
    refine stackB_mk (by simp only [List.length_cons]; omega) fun v hv' => ?_
    rcases List.mem_cons.1 hv' with rfl | hv'
    · rw [valueB_num]; have := @reck_num z (b.getD 0 0) (a.getD 0 0); simp only [isNumB, Bool.and_eq_true, decide_eq_true_eq]; exact this
    · exact hv2 v hv'
  rcases s2 with _ | ⟨c, s3⟩
  · cases hx
  dsimp only at hx
  unfold opR3 at hx
  split at hx
  · cases hx; exact stackB_mk (by rw [List.length_cons] at hl2; dsimp only; omega) (fun v hx => hv2 v (by simp [show v ∈ s3 from hx]))
  · cases hx
def dropR (r : List Int) : List (List Int) → Option (List Int × List (List Int))
  | [] => none
  | _ :: s1 => some (r, s1)
theorem step_drop (hl : st.length ≤ 20) (hv : ∀ v ∈ st, valueB v = true) : stepR (1002 :: r) st = dropR r st := by
  rcases st with _ | ⟨a, s1⟩
  · exact stepR_none (by rw [l2R_op (by omega) (by omega)]; rfl)
  · have h : l2R (1002 :: r) (a :: s1) = some (r, s1) := by rw [l2R_op (by omega) (by omega)]; simp [opR, opR1]
    exact stepR_some h (stackB_mk (by rw [List.length_cons] at hl; dsimp only; omega) (fun v hv' => hv v (by simp [show v ∈ s1 from hv'])))
theorem step_swap (hl : st.length ≤ 20) (hv : ∀ v ∈ st, valueB v = true) : stepR (1003 :: r) st = swapR r st := by
  rcases st with _ | ⟨a, _ | ⟨b, s2⟩⟩
  · exact stepR_none (by rw [l2R_op (by omega) (by omega)]; rfl)
  · exact stepR_none (by rw [l2R_op (by omega) (by omega)]; simp [opR, opR1])
  · have h : l2R (1003 :: r) (a :: b :: s2) = some (r, b :: a :: s2) := by rw [l2R_op (by omega) (by omega)]; simp [opR, opR1, opR2]
    refine stepR_some h (stackB_mk (by simpa using hl) (fun v hv' => hv v ?_))
    simp at hv' ⊢
    rcases hv' with h | h | h
    · exact .inr (.inl h)
    · exact .inl h
    · exact .inr (.inr h)
theorem step_call (hl : st.length ≤ 20) (hv : ∀ v ∈ st, valueB v = true) : stepR (1005 :: r) st = callR r st := by
  rcases st with _ | ⟨a, s1⟩
  · exact stepR_none (by rw [l2R_op (by omega) (by omega)]; rfl)
  · rw [callR]
    by_cases h1 : 1 < a.length
    · rw [if_pos h1]
      have h : l2R (1005 :: r) (a :: s1) = some (inside a ++ r, s1) := by rw [l2R_op (by omega) (by omega)]; simp [opR, opR1, h1]
      exact stepR_some h (stackB_mk (by rw [List.length_cons] at hl; dsimp only; omega) (fun v hv' => hv v (by simp [show v ∈ s1 from hv'])))
    · rw [if_neg h1]
      refine stepR_none ?_
      rw [l2R_op (by omega) (by omega)]
      rcases s1 with _ | ⟨b, _ | ⟨c, s3⟩⟩
      · simp [opR, opR1, h1]
      · simp [opR, opR1, opR2, h1]
      · simp [opR, opR1, opR2, opR3, h1]
theorem step_dip (hl : st.length ≤ 20) (hv : ∀ v ∈ st, valueB v = true) : stepR (1004 :: r) st = dipR r st := by
  rcases st with _ | ⟨a, _ | ⟨b, s2⟩⟩
  · exact stepR_none (by rw [l2R_op (by omega) (by omega)]; rfl)
  · exact stepR_none (by rw [l2R_op (by omega) (by omega)]; simp [opR, opR1])
  · rw [dipR]
    by_cases h1 : 1 < a.length
    · rw [if_pos h1]
      have h : l2R (1004 :: r) (a :: b :: s2) = some (inside a ++ (b ++ r), s2) := by rw [l2R_op (by omega) (by omega)]; simp [opR, opR1, opR2, h1]
      exact stepR_some h (stackB_mk (by rw [List.length_cons, List.length_cons] at hl; dsimp only; omega) (fun v hv' => hv v (by simp [show v ∈ s2 from hv'])))
    · rw [if_neg h1]
      refine stepR_none ?_
      rw [l2R_op (by omega) (by omega)]
      rcases s2 with _ | ⟨c, s3⟩
      · simp [opR, opR1, opR2, h1]
      · simp [opR, opR1, opR2, opR3, h1]
theorem step_reck {z : Int} (hz : 1006 ≤ z ∧ z ≤ 1009) (hl : st.length ≤ 20) (hv : ∀ v ∈ st, valueB v = true) : stepR (z :: r) st = reckR z r st := by
  have e1 : ¬ z = 1001 := by omega
  have e2 : ¬ z = 1002 := by omega
  have e3 : ¬ z = 1005 := by omega
  have e4 : ¬ z = 1003 := by omega
  have e5 : ¬ z = 1004 := by omega
  have e6 : ¬ z = 1011 := by omega
  have e7 : ¬ z = 1010 := by omega
  rcases st with _ | ⟨a, _ | ⟨b, s2⟩⟩
  · exact stepR_none (by rw [l2R_op (by omega) (by omega)]; rfl)
  · refine (stepR_none ?_).trans ?_
    · rw [l2R_op (by omega) (by omega)]; simp [opR, opR1, e1, e2, e3]
    · simp [reckR, numR]
  · rw [reckR]
    by_cases h1 : 1 < a.length
    · have h0 : ¬ ((numR (a :: b :: s2)).2 = true ∧ (numR (a :: b :: s2).tail).2 = true) := by simp [numR, h1]
      rw [if_neg h0]
      refine stepR_none ?_
      rw [l2R_op (by omega) (by omega)]
      rcases s2 with _ | ⟨c, s3⟩
      · simp [opR, opR1, opR2, h1, e1, e2, e3, e4, e5, e6]
      · simp [opR, opR1, opR2, opR3, h1, e1, e2, e3, e4, e5, e6, e7]
    · by_cases h2 : 1 < b.length
      · have h0 : ¬ ((numR (a :: b :: s2)).2 = true ∧ (numR (a :: b :: s2).tail).2 = true) := by simp [numR, h2]
        rw [if_neg h0]
        refine stepR_none ?_
        rw [l2R_op (by omega) (by omega)]
        rcases s2 with _ | ⟨c, s3⟩
        · simp [opR, opR1, opR2, h1, h2, e1, e2, e3, e4, e5, e6]
        · simp [opR, opR1, opR2, opR3, h1, h2, e1, e2, e3, e4, e5, e6, e7]
      · have h0 : (numR (a :: b :: s2)).2 = true ∧ (numR (a :: b :: s2).tail).2 = true := by simp [numR, h1, h2]
        rw [if_pos h0]
        have en : (numR (a :: b :: s2)).1 = a.getD 0 0 ∧ (numR (a :: b :: s2).tail).1 = b.getD 0 0 := by
          constructor
          · rw [numR, if_neg h1]
          · rw [List.tail_cons, numR, if_neg h2]
        rw [en.1, en.2]
        have h : l2R (z :: r) (a :: b :: s2) = some (r, [reck z (b.getD 0 0) (a.getD 0 0)] :: s2) := by
          rw [l2R_op (by omega) (by omega)]
          unfold opR opR1 opR2
          simp only [if_neg e1, if_neg e2, if_neg e4, e3, e5, e6, false_and, if_false]
          rw [if_pos ⟨hz, h1, h2⟩]
        refine (stepR_some h (stackB_mk ?_ ?_)).trans rfl
        · simp at hl ⊢; omega
        · intro v hv'
          rcases List.mem_cons.1 hv' with rfl | hv'
          · rw [valueB_num]; have := @reck_num z (b.getD 0 0) (a.getD 0 0); simp only [isNumB, Bool.and_eq_true, decide_eq_true_eq]; exact this
          · exact hv v (by simp [show v ∈ s2 from hv'])
theorem step_if (hl : st.length ≤ 20) (hv : ∀ v ∈ st, valueB v = true) : stepR (1010 :: r) st = chooseR r st := by
  rcases st with _ | ⟨a, _ | ⟨b, _ | ⟨c, s3⟩⟩⟩
  · exact stepR_none (by rw [l2R_op (by omega) (by omega)]; rfl)
  · refine (stepR_none ?_).trans (by simp [chooseR, progR])
    rw [l2R_op (by omega) (by omega)]; simp [opR, opR1]
  · refine (stepR_none ?_).trans (by simp [chooseR, progR, numR])
    rw [l2R_op (by omega) (by omega)]; simp [opR, opR1, opR2]
  · by_cases h : 1 < a.length ∧ 1 < b.length ∧ ¬ 1 < c.length
    · obtain ⟨h1, h2, h3⟩ := h
      have hc := (num_of_value (hv c (by simp)) h3).2
      have hl2 : l2R (1010 :: r) (a :: b :: c :: s3) = some ((if 0 < c.getD 0 0 then inside b else inside a) ++ r, s3) := by
        rw [l2R_op (by omega) (by omega)]
        unfold opR opR1 opR2 opR3
        simp only [h1, h2, h3, not_true, not_false_iff, and_true, and_false, and_self, if_true, if_false]
        simp
      refine (stepR_some hl2 (stackB_mk (by simp at hl ⊢; omega) (fun v hv' => hv v (by simp [show v ∈ s3 from hv'])))).trans ?_
      rw [chooseR]
      have hp : progR (a :: b :: c :: s3) = true ∧ progR (a :: b :: c :: s3).tail = true ∧ (numR (a :: b :: c :: s3).tail.tail).2 = true := by simp [progR, numR, h1, h2, h3]
      rw [if_pos hp]
      have en : (numR (a :: b :: c :: s3).tail.tail).1 = c.getD 0 0 := by rw [List.tail_cons, List.tail_cons, numR, if_neg h3]
      rw [en]
      simp only [List.headD_cons, List.tail_cons]
      by_cases h0 : c.getD 0 0 = 0
      · rw [if_pos h0, if_neg (by omega)]
      · rw [if_neg h0, if_pos (by omega)]
    · refine (stepR_none ?_).trans ?_
      · rw [l2R_op (by omega) (by omega)]
        unfold opR opR1 opR2 opR3
        simp <;> intros <;> omega
      · rw [chooseR, if_neg]
        intro hp
        refine h ⟨by simpa [progR] using hp.1, by simpa [progR] using hp.2.1, fun h3 => ?_⟩
        have := hp.2.2
        simp [numR, h3] at this
theorem step_times (hl : st.length ≤ 20) (hv : ∀ v ∈ st, valueB v = true) : stepR (1011 :: r) st = timesR r st := by
  rcases st with _ | ⟨a, _ | ⟨b, s2⟩⟩
  · exact stepR_none (by rw [l2R_op (by omega) (by omega)]; rfl)
  · refine (stepR_none ?_).trans (by simp [timesR, numR])
    rw [l2R_op (by omega) (by omega)]; simp [opR, opR1]
  · by_cases h : 1 < a.length ∧ ¬ 1 < b.length
    · obtain ⟨h1, h3⟩ := h
      have hl2 : l2R (1011 :: r) (a :: b :: s2) = some (if 0 < b.getD 0 0 then inside a ++ ((b.getD 0 0 - 1) :: a) ++ [1011] ++ r else r, s2) := by
        rw [l2R_op (by omega) (by omega)]
        unfold opR opR1 opR2
        simp only [h1, h3, not_true, not_false_iff, and_true, and_false, and_self, if_true, if_false]
        simp
      refine (stepR_some hl2 (stackB_mk (by simp at hl ⊢; omega) (fun v hv' => hv v (by simp [show v ∈ s2 from hv'])))).trans ?_
      rw [timesR]
      have hp : progR (a :: b :: s2) = true ∧ (numR (a :: b :: s2).tail).2 = true := by simp [progR, numR, h1, h3]
      rw [if_pos hp]
      have en : (numR (a :: b :: s2).tail).1 = b.getD 0 0 := by rw [List.tail_cons, numR, if_neg h3]
      rw [en]
      simp only [List.headD_cons, List.tail_cons]
      by_cases h0 : 0 < b.getD 0 0
      · rw [if_pos h0, if_pos h0]; simp
      · rw [if_neg h0, if_neg h0]
    · refine (stepR_none ?_).trans ?_
      · rw [l2R_op (by omega) (by omega)]
        rcases s2 with _ | ⟨c, s3⟩
        · unfold opR opR1 opR2
          simp <;> intros <;> omega
        · unfold opR opR1 opR2 opR3
          simp <;> intros <;> omega
      · rw [timesR, if_neg]
        intro hp
        refine h ⟨by simpa [progR] using hp.1, fun h3 => ?_⟩
        have := hp.2
        simp [numR, h3] at this
end
end Go.Proofs.Ytceekfoacgoalaa
