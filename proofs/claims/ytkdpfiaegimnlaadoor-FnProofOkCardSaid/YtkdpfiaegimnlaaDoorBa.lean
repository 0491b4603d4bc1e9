/- Several texts in one. -/
import Derived.Test.YtkdpfiaegimnlaaDoorVa
import Derived.Test.YtkdpfiaegimnlaaDoorVj
/- Chapter 5, plain: rules keep what is left, in no more steps. -/
namespace Go.Proofs.YtkdpfiaegimnlaaDoor
set_option maxRecDepth 100000

theorem opR3_none {w : Int} {r a b c : List Int} {s3 : List (List Int)} (q : List Int) (h : opR3 w r a b c s3 = none) : opR3 w (r ++ q) a b c s3 = none := by
  unfold opR3 at *
  split at h
  · cases h
  · rename_i hc; rw [if_neg hc]
theorem opR2_none {w : Int} {r a b : List Int} {s2 : List (List Int)} (q : List Int) (h : opR2 w r a b s2 = none) : opR2 w (r ++ q) a b s2 = none := by
  unfold opR2 at *
  split at h
  · cases h
  · rename_i h1
    rw [if_neg h1]
    split at h
    · cases h
    · rename_i h2
      rw [if_neg h2]
      split at h
      · cases h
      · rename_i h3
        rw [if_neg h3]
        split at h
        · cases h
        · rename_i h4
          rw [if_neg h4]
          rcases s2 with _ | ⟨c, s3⟩
          · rfl
          · exact opR3_none q h
theorem opR1_none {w : Int} {r a : List Int} {s1 : List (List Int)} (q : List Int) (h : opR1 w r a s1 = none) : opR1 w (r ++ q) a s1 = none := by
  unfold opR1 at *
  split at h
  · cases h
  · rename_i h1
    rw [if_neg h1]
    split at h
    · cases h
    · rename_i h2
      rw [if_neg h2]
      split at h
      · cases h
      · rename_i h3
        rw [if_neg h3]
        rcases s1 with _ | ⟨b, s2⟩
        · rfl
        · exact opR2_none q h
theorem l2R_none {w : Int} {r : List Int} {st : List (List Int)} (q : List Int) (h : l2R (w :: r) st = none) : l2R (w :: r ++ q) st = none := by
  rw [List.cons_append, l2R]
  rw [l2R] at h
  split at h
  · cases h
  · rename_i h1
    rw [if_neg h1]
    split at h
    · cases h
    · rename_i h2
      rw [if_neg h2]
      rcases st with _ | ⟨a, s1⟩
      · rfl
      · exact opR1_none q h
/-- A step of a program ahead of another one is the program's. -/
theorem stepR_front {w : Int} {r q : List Int} {st : List (List Int)} {z : List Int × List (List Int)} (hr : restB (w :: r) = true) (h : stepR (w :: r ++ q) st = some z) : ∃ x, stepR (w :: r) st = some x ∧ z = (x.1 ++ q, x.2) := by
  rw [stepR_iff] at h
  rcases hl : l2R (w :: r) st with _ | x
  · rw [l2R_none q hl] at h; cases h.1
  · have h1 := l2R_app hr q [] hl
    simp only [List.append_nil] at h1
    rw [h1] at h
    obtain ⟨h2, h3⟩ := h
    cases h2
    exact ⟨x, by rw [stepR_iff]; exact ⟨hl, h3⟩, rfl⟩
theorem run_split {f : Nat} {A B : List Int} {st : List (List Int)} {z : List (List Int) × Nat} (hok : okS A st) (h : runR f (A ++ B) st = some z) : ∃ u, runR f A st = some u ∧ u.2 ≤ z.2 ∧ runR (f - u.2) B u.1 = some (z.1, z.2 - u.2) := by
  induction f generalizing A st z with
  | zero =>
    rcases A with _ | ⟨w, r⟩
    · exact ⟨(st, 0), runR_nil _ _, Nat.zero_le _, by simpa using h⟩
    · cases h
  | succ f ih =>
    rcases A with _ | ⟨w, r⟩
    · exact ⟨(st, 0), runR_nil _ _, Nat.zero_le _, by simpa using h⟩
    · rw [List.cons_append, runR] at h
      rcases hs : stepR (w :: (r ++ B)) st with _ | y
      · rw [hs] at h; cases h
      · rw [hs] at h
        dsimp only at h
        obtain ⟨v, hv, rfl⟩ := Option.map_eq_some_iff.1 h
        obtain ⟨x, hx, rfl⟩ := stepR_front hok.1 (by rw [List.cons_append]; exact hs)
        obtain ⟨u, hu, hle, hB⟩ := ih (stepR_ok hok hx).1 hv
        refine ⟨(u.1, u.2 + 1), by rw [runR, hx]; dsimp only; rw [hu]; rfl, by dsimp only; omega, ?_⟩
        dsimp only
        rw [show f + 1 - (u.2 + 1) = f - u.2 from by omega, hB]
        congr 2; omega
theorem l2R_value {v r : List Int} {st : List (List Int)} (h : valueB v = true) : l2R (v ++ r) st = some (r, v :: st) := by
  have hc := cutAt_append (cutAt_value h) r
  rcases valueB_cases h with ⟨z, rfl, h0, h9⟩ | ⟨m, rfl, hm, hl⟩
  · rw [List.singleton_append, l2R, if_pos h9]
  · generalize hv : (1012 :: (m ++ [1013]) : List Int) = v at *
    have h2 : l2R (v ++ r) st = some ((v ++ r).drop ((cutAt 0 (v ++ r)).getD 0), (v ++ r).take ((cutAt 0 (v ++ r)).getD 0) :: st) := by
      rw [← hv, List.cons_append, l2R, if_neg (by omega), if_pos rfl]
    rw [h2, hc]
    simp
theorem values_told {vs : List (List Int)} : ∀ {f : Nat} {st : List (List Int)} {u : List (List Int) × Nat}, (∀ v ∈ vs, valueB v = true) → stackB st = true → runR f vs.flatten st = some u → u = (vs.reverse ++ st, vs.length) ∧ stackB (vs.reverse ++ st) = true := by
  induction vs with
  | nil =>
    intro f st u _ hs h
    rw [List.flatten_nil, runR_nil] at h
    cases h; exact ⟨rfl, hs⟩
  | cons v vs ih =>
    intro f st u hv hs h
    have hv1 := hv v List.mem_cons_self
    have hl := valueB_len hv1
    have hl2 := l2R_value (r := vs.flatten) (st := st) hv1
    rw [List.flatten_cons] at h
    rcases v with _ | ⟨z, v⟩
    · simp at hl
    · rw [List.cons_append] at h hl2
      rcases f with _ | f
      · cases h
      · rw [runR] at h
        rcases hst : stepR (z :: (v ++ vs.flatten)) st with _ | y
        · rw [hst] at h; cases h
        · rw [hst] at h
          dsimp only at h
          obtain ⟨t, ht, rfl⟩ := Option.map_eq_some_iff.1 h
          rw [stepR_iff, hl2] at hst
          obtain ⟨h1, h2⟩ := hst
          cases h1
          obtain ⟨h3, h4⟩ := ih (fun q hq => hv q (List.mem_cons_of_mem _ hq)) h2 ht
          refine ⟨?_, by simpa using h4⟩
          rw [h3]; simp
theorem l2R_grow {op : Int} {st : List (List Int)} {y : List Int × List (List Int)} (h1 : 1001 ≤ op) (h2 : op ≤ 1011) (h : l2R [op] st = some y) : y.2.length ≤ st.length + 1 := by
  rw [l2R, if_neg (by omega), if_neg (by omega)] at h
  rcases st with _ | ⟨a, s1⟩
  · cases h
  · simp only [opR, opR1] at h
    split at h
    · cases h; simp <;> omega
    · split at h
      · cases h; simp <;> omega
      · split at h
        · cases h; simp <;> omega
        · rcases s1 with _ | ⟨b, s2⟩
          · cases h
          · simp only [opR2] at h
            split at h
            · cases h; simp <;> omega
            · split at h
              · cases h; simp <;> omega
              · split at h
                · cases h; simp <;> omega
                · split at h
                  · cases h; simp <;> omega
                  · rcases s2 with _ | ⟨c, s3⟩
                    · cases h
                    · simp only [opR3] at h
                      split at h
                      · cases h; simp <;> omega
                      · cases h
theorem use_form {ps : List (List Int)} (hp : ∀ q ∈ ps, isPart q) {x : Nat × List Int × List (List Int)} (h : useR ps = some x) :
    ∃ (vs : List (List Int)) (op : Int) (y : List Int × List (List Int)), (∀ v ∈ vs, valueB v = true) ∧ vs.length ≤ 3 ∧ 1001 ≤ op ∧ op ≤ 1011 ∧ stepR [op] vs.reverse = some y ∧ x.2.1 = y.2.reverse.flatten ++ y.1 ∧ ps.flatten = vs.flatten ++ ([op] ++ x.2.2.flatten) := by
  unfold useR at h
  split at h
  · cases h
  · rename_i hn
    have hle := manyR_le ps
    have hlt : manyR ps < ps.length := by omega
    have hnv := manyR_next hlt
    have hmem : ps.getD (manyR ps) [] ∈ ps := by
      rw [List.getD, List.getElem?_eq_getElem hlt]; exact List.getElem_mem hlt
    obtain ⟨o, ho, h1, h2⟩ := op_of_part (hp _ hmem) hnv
    have hg : ps[manyR ps] = [o] := by
      rw [← ho, List.getD, List.getElem?_eq_getElem hlt]; rfl
    rw [ho] at h
    unfold useAt at h
    split at h
    · rename_i hm
      obtain ⟨w, hw, rfl⟩ := Option.map_eq_some_iff.1 h
      have ht := takesR_le (ruleR ([o].getD 0 0) ((ps.getD 0 []).getD 0 0))
      unfold aheadR at hw
      obtain ⟨y, hy, rfl⟩ := Option.map_eq_some_iff.1 hw
      refine ⟨ps.take (manyR ps), o, y, manyR_take ps, by rw [List.length_take]; omega, h1, h2, hy, rfl, ?_⟩
      dsimp only
      conv => lhs; rw [← List.take_append_drop (manyR ps) ps, List.drop_eq_getElem_cons hlt, hg]
      rw [List.flatten_append, List.flatten_cons]
    · cases h
/-- After a move a program leaves the same, in no more steps. -/
theorem move_keeps {p q : List Int} {at_ : Int} {k : Nat} {s l : List (List Int)} {n : Int} (hm : moveR (partsR p) at_ = some (q, k)) (h : runOfR p s = (l, n, true)) : ∃ m, runOfR q s = (l, m, true) ∧ m ≤ n := by
  obtain ⟨hp, hs, z, hz, he, hzs, hz2⟩ := runOfR_ok (p := p) (s := s) (by rw [h])
  rw [h] at he
  have hq := (moveR_ok hp hm).1
  have hs' : stackB s.reverse = true := by rw [stackB_reverse]; exact hs
  unfold moveR at hm
  split at hm
  · cases hm
  · rcases hu : useR ((partsR p).drop at_.toNat) with _ | x
    · rw [hu] at hm; cases hm
    · rw [hu] at hm
      dsimp only at hm
      obtain ⟨vs, op, y, v1, v2, o1, o2, hst, hx, hfl⟩ := use_form (isPart_drop hp _) hu
      split at hm
      · cases hm
        have hflat : p = ((partsR p).take at_.toNat).flatten ++ (vs.flatten ++ ([op] ++ x.2.2.flatten)) := by
          rw [← hfl, ← List.flatten_append, List.take_append_drop]
          exact (parts_ok hp).2.symm
        generalize hA : ((partsR p).take at_.toNat).flatten = A at *
        have hAr : restB A = true := by rw [← hA]; exact flat_rest fun v hv => parts_rest hp v (List.mem_of_mem_take hv)
        generalize x.2.2.flatten = R at *
        rw [hflat] at hz
        obtain ⟨u, hu1, hu2, hu3⟩ := run_split ⟨hAr, hs'⟩ hz
        have hus := (runR_stack ⟨hAr, hs'⟩ hu1).1
        have huf := (runR_stack ⟨hAr, hs'⟩ hu1).2
        obtain ⟨t, ht1, ht2, ht3⟩ := run_split ⟨flatten_rest v1, hus⟩ hu3
        obtain ⟨rfl, hts⟩ := values_told v1 hus ht1
        dsimp only at ht2 ht3
        -- the operation
        rw [stepR_iff] at hst
        have hl2 := l2R_app (restB_one (z := op) (by simp [isWordB]; omega) (by unfold brk; rw [if_neg (by omega), if_neg (by omega)])) R u.1 hst.1
        obtain ⟨f, hf⟩ : ∃ f, 2000 - u.2 - vs.length = f + 1 := by
          rcases Nat.eq_zero_or_pos (2000 - u.2 - vs.length) with h0 | h0
          · rw [h0] at ht3; cases ht3
          · exact ⟨_, (Nat.succ_pred_eq_of_pos h0).symm⟩
        rw [hf, List.singleton_append, runR] at ht3
        rw [List.singleton_append] at hl2
        rcases hss : stepR (op :: R) (vs.reverse ++ u.1) with _ | w
        · rw [hss] at ht3; cases ht3
        · rw [hss] at ht3
          dsimp only at ht3
          rw [stepR_iff, hl2] at hss
          obtain ⟨e1, e2⟩ := hss
          cases e1
          dsimp only at ht3 e2
          obtain ⟨e, he1, he2⟩ := Option.map_eq_some_iff.1 ht3
          have hgrow := l2R_grow o1 o2 hst.1
          rw [List.length_reverse] at hgrow
          have h3 := congrArg Prod.snd he2
          have h4 := congrArg Prod.fst he2
          dsimp only at h3 h4
          have hef : e.2 ≤ f := by omega
          -- the new program's run
          have hval := run_values (zss := y.2.reverse) (f := y.2.length) (st := u.1) (by simpa using e2) (by simp)
          have hq1 : runR (y.2.length + e.2) (y.2.reverse.flatten ++ (y.1 ++ R)) u.1 = some (e.1, e.2 + y.2.length) := by
            have := runR_app ⟨flatten_rest (fun v hv => (stackB_all hst.2).2 v (by simpa using hv)), hus⟩ hval (y.1 ++ R) e.2
            simp only [List.length_reverse, List.reverse_reverse] at this
            rw [this, runR_mono he1 (Nat.le_refl _)]; rfl
          have hq2 := runR_app ⟨hAr, hs'⟩ hu1 (y.2.reverse.flatten ++ (y.1 ++ R)) (y.2.length + e.2)
          rw [hq1] at hq2
          dsimp only [Option.map_some] at hq2
          have hq3 := runR_mono (g := 2000) hq2 (by dsimp only; omega)
          rw [hx] at hq ⊢
          have hassoc : A ++ (y.2.reverse.flatten ++ y.1) ++ R = A ++ (y.2.reverse.flatten ++ (y.1 ++ R)) := by simp
          rw [hassoc] at hq ⊢
          have hfin := runOfR_mk hq hs hq3
          injection he with el en
          injection en with en _
          refine ⟨_, by rw [hfin, el, ← h4], ?_⟩
          rw [en]
          dsimp only
          omega
      · cases hm
end Go.Proofs.YtkdpfiaegimnlaaDoor

/- Chapter 5, plain: proofs (moves one after the other), and the moves by which a program is made simpler. -/
namespace Go.Proofs.YtkdpfiaegimnlaaDoor
set_option maxRecDepth 100000

/-- A program after moves, each a rule's number and a place. -/
def movedR : List Int → List (Int × Int) → Option (List Int)
  | p, [] => some p
  | p, m :: ms => if (moveDoR p m.1 m.2).2 = true then movedR (moveDoR p m.1 m.2).1 ms else none
def proofRunR (p : List Int) (ms : List (Int × Int)) : List Int × Bool :=
  if validB p = true ∧ ms.length ≤ 100 then match movedR p ms with
    | none => ([], false)
    | some q => (q, true)
  else ([], false)
theorem movedR_append (p : List Int) (a b : List (Int × Int)) : movedR p (a ++ b) = (movedR p a).bind fun q => movedR q b := by
  induction a generalizing p with
  | nil => rfl
  | cons m a ih =>
    rw [List.cons_append, movedR, movedR]
    split
    · exact ih _
    · rfl
theorem movedR_valid {p q : List Int} {ms : List (Int × Int)} (hp : validB p = true) (h : movedR p ms = some q) : validB q = true := by
  induction ms generalizing p with
  | nil => cases h; exact hp
  | cons m ms ih =>
    rw [movedR] at h
    split at h
    · rename_i hb
      rcases hm : moveDoR p m.1 m.2 with ⟨r, b⟩
      rw [hm] at h hb
      obtain rfl : b = true := hb
      exact ih (moveDoR_ok hm).2 h
    · cases h
theorem moveDoR_form {p q : List Int} {z a : Int} (h : moveDoR p z a = (q, true)) : ∃ k : Nat, z = (k : Int) ∧ moveR (partsR p) a = some (q, k) := by
  unfold moveDoR at h
  rcases hm : moveR (partsR p) a with _ | x
  · rw [hm] at h; cases h
  · rw [hm] at h
    dsimp only at h
    split at h
    · rename_i hz
      cases h
      exact ⟨x.2, hz, rfl⟩
    · cases h
theorem moveDoR_mk {p q : List Int} {a : Int} {k : Nat} (h : moveR (partsR p) a = some (q, k)) : moveDoR p (k : Int) a = (q, true) := by
  unfold moveDoR; rw [h]; simp
/-- What is proved leaves the same, in no more steps. -/
theorem moved_keeps {p q : List Int} {ms : List (Int × Int)} {s l : List (List Int)} {n : Int} (h : movedR p ms = some q) (hr : runOfR p s = (l, n, true)) : ∃ m, runOfR q s = (l, m, true) ∧ m ≤ n := by
  induction ms generalizing p n with
  | nil => cases h; exact ⟨n, hr, Int.le_refl _⟩
  | cons m ms ih =>
    rw [movedR] at h
    split at h
    · rename_i hb
      rcases hm : moveDoR p m.1 m.2 with ⟨r, b⟩
      rw [hm] at h hb
      obtain rfl : b = true := hb
      obtain ⟨k, _, hk⟩ := moveDoR_form hm
      obtain ⟨n1, h1, h2⟩ := move_keeps hk hr
      obtain ⟨n2, h3, h4⟩ := ih h h1
      exact ⟨n2, h3, by omega⟩
    · cases h

/-- The first place, of n from a on, at which a move can be done: the place, the rule, the program behind it. -/
def findR (ps : List (List Int)) : Nat → Nat → Option (Nat × Nat × List Int)
  | 0, _ => none
  | n + 1, a => match moveR ps (a : Int) with
    | some x => some (a, x.2, x.1)
    | none => findR ps n (a + 1)
theorem findR_some {ps : List (List Int)} {n a : Nat} {x : Nat × Nat × List Int} (h : findR ps n a = some x) : moveR ps (x.1 : Int) = some (x.2.2, x.2.1) ∧ a ≤ x.1 ∧ x.1 < a + n := by
  induction n generalizing a with
  | zero => cases h
  | succ n ih =>
    rw [findR] at h
    rcases hm : moveR ps (a : Int) with _ | y
    · rw [hm] at h
      obtain ⟨h1, h2, h3⟩ := ih h
      exact ⟨h1, by omega, by omega⟩
    · rw [hm] at h; cases h
      exact ⟨hm, Nat.le_refl _, by dsimp only; omega⟩
theorem findR_none {ps : List (List Int)} {n a : Nat} (h : findR ps n a = none) : ∀ j, a ≤ j → j < a + n → moveR ps (j : Int) = none := by
  induction n generalizing a with
  | zero => intro j h1 h2; omega
  | succ n ih =>
    rw [findR] at h
    rcases hm : moveR ps (a : Int) with _ | y
    · rw [hm] at h
      intro j h1 h2
      by_cases e : j = a
      · subst e; exact hm
      · exact ih h j (by omega) (by omega)
    · rw [hm] at h; cases h
/-- The moves by which a program is made simpler, n at most, and what it becomes. -/
def simplerR : Nat → List Int → List (Int × Int) × List Int
  | 0, p => ([], p)
  | n + 1, p => match findR (partsR p) (partsR p).length 0 with
    | none => ([], p)
    | some x => (((x.2.1 : Int), (x.1 : Int)) :: (simplerR n x.2.2).1, (simplerR n x.2.2).2)
theorem simplerR_len (n : Nat) (p : List Int) : (simplerR n p).1.length ≤ n := by
  induction n generalizing p with
  | zero => simp [simplerR]
  | succ n ih =>
    rw [simplerR]
    rcases findR (partsR p) (partsR p).length 0 with _ | x
    · simp
    · have := ih x.2.2
      dsimp only
      rw [List.length_cons]; omega
theorem simplerR_moved (n : Nat) (p : List Int) : movedR p (simplerR n p).1 = some (simplerR n p).2 := by
  induction n generalizing p with
  | zero => rfl
  | succ n ih =>
    rw [simplerR]
    rcases hf : findR (partsR p) (partsR p).length 0 with _ | x
    · rfl
    · dsimp only
      rw [movedR]
      dsimp only
      rw [moveDoR_mk (findR_some hf).1, if_pos rfl]
      exact ih x.2.2
/-- With fewer moves than may be done none can be done any more. -/
theorem simplerR_end {n : Nat} {p : List Int} (h : (simplerR n p).1.length < n) (a : Int) : moveR (partsR (simplerR n p).2) a = none := by
  induction n generalizing p with
  | zero => simp at h
  | succ n ih =>
    rw [simplerR] at h ⊢
    rcases hf : findR (partsR p) (partsR p).length 0 with _ | x
    · dsimp only
      by_cases hr : a < 0 ∨ ((partsR p).length : Int) ≤ a
      · unfold moveR; rw [if_pos hr]
      · have := findR_none hf a.toNat (by omega) (by omega)
        rw [← this]; congr 1; omega
    · rw [hf] at h
      dsimp only at h ⊢
      rw [List.length_cons] at h
      exact ih (by omega)
end Go.Proofs.YtkdpfiaegimnlaaDoor

/- Chapter 5, plain: where the search for moves stands. -/
namespace Go.Proofs.YtkdpfiaegimnlaaDoor
set_option maxRecDepth 100000

/-- The moves ms have led from p to cur; what is left of the search leads to the end. -/
def SmpAt (p : List Int) (ms : List (Int × Int)) (cur : List Int) : Prop :=
  validB cur = true ∧ ms.length ≤ 100 ∧ simplerR 100 p = (ms ++ (simplerR (100 - ms.length) cur).1, (simplerR (100 - ms.length) cur).2)
theorem SmpAt.start {p : List Int} (h : validB p = true) : SmpAt p [] p := ⟨h, by simp, by simp⟩
theorem simplerR_step {n : Nat} {cur q : List Int} {a k : Nat} (hn : 0 < n) (hf : findR (partsR cur) (partsR cur).length 0 = some (a, k, q)) : simplerR n cur = (((k : Int), (a : Int)) :: (simplerR (n - 1) q).1, (simplerR (n - 1) q).2) := by
  obtain ⟨m, rfl⟩ : ∃ m, n = m + 1 := ⟨n - 1, by omega⟩
  rw [simplerR, hf]; rfl
theorem simplerR_stop {n : Nat} {cur : List Int} (h : n = 0 ∨ findR (partsR cur) (partsR cur).length 0 = none) : simplerR n cur = ([], cur) := by
  rcases n with _ | n
  · rfl
  · rcases h with h | h
    · omega
    · rw [simplerR, h]
theorem SmpAt.next {p cur q : List Int} {ms : List (Int × Int)} {a k : Nat} (h : SmpAt p ms cur) (hl : ms.length < 100) (hf : findR (partsR cur) (partsR cur).length 0 = some (a, k, q)) : SmpAt p (ms ++ [((k : Int), (a : Int))]) q := by
  obtain ⟨hv, _, he⟩ := h
  refine ⟨(moveR_ok hv (findR_some hf).1).1, by simp; omega, ?_⟩
  rw [simplerR_step (n := 100 - ms.length) (cur := cur) (by omega) hf] at he
  rw [he]
  simp [Nat.sub_sub]
theorem SmpAt.done {p cur : List Int} {ms : List (Int × Int)} (h : SmpAt p ms cur) (hd : 100 ≤ ms.length ∨ findR (partsR cur) (partsR cur).length 0 = none) : simplerR 100 p = (ms, cur) := by
  obtain ⟨_, hl, he⟩ := h
  rw [simplerR_stop (n := 100 - ms.length) (cur := cur) (by
    rcases hd with hd | hd
    · exact .inl (by omega)
    · exact .inr hd)] at he
  rw [he]; simp
theorem findR_skip {ps : List (List Int)} {n j : Nat} (hj : j < n) (h : moveR ps (j : Int) = none) : findR ps (n - j) j = findR ps (n - (j + 1)) (j + 1) := by
  rw [show n - j = (n - (j + 1)) + 1 from by omega, findR, h]
theorem findR_hit {ps : List (List Int)} {n j : Nat} {x : List Int × Nat} (hj : j < n) (h : moveR ps (j : Int) = some x) : findR ps (n - j) j = some (j, x.2, x.1) := by
  rw [show n - j = (n - (j + 1)) + 1 from by omega, findR, h]
theorem move3R_none {ps : List (List Int)} {a : Int} {y : List Int} {k : Int} (h : move3R ps a = (y, k, false)) : moveR ps a = none := by
  unfold move3R at h
  rcases hm : moveR ps a with _ | x
  · rfl
  · rw [hm] at h; cases h
theorem move3R_some {ps : List (List Int)} {a : Int} {y : List Int} {k : Int} (h : move3R ps a = (y, k, true)) : ∃ n : Nat, k = (n : Int) ∧ moveR ps a = some (y, n) := by
  unfold move3R at h
  rcases hm : moveR ps a with _ | x
  · rw [hm] at h; cases h
  · rw [hm] at h; cases h; exact ⟨x.2, rfl, rfl⟩
theorem moveDoR_no {p y : List Int} {z a : Int} (h : moveDoR p z a = (y, false)) : ∀ x : List Int × Nat, moveR (partsR p) a = some x → (x.2 : Int) ≠ z := by
  intro x hx e
  unfold moveDoR at h
  rw [hx] at h
  dsimp only at h
  rw [if_pos e.symm] at h
  cases h
/-- No rule from 0 to 8 can be used: there is no move. -/
theorem moveR_none_of {p : List Int} {a : Int} (hv : validB p = true) (h : ∀ i : Nat, i < 9 → ∀ x : List Int × Nat, moveR (partsR p) a = some x → (x.2 : Int) ≠ (i : Int)) : moveR (partsR p) a = none := by
  rcases hm : moveR (partsR p) a with _ | x
  · rfl
  · exact absurd rfl (h x.2 (by have := (moveR_ok hv hm).2; omega) x hm)
end Go.Proofs.YtkdpfiaegimnlaaDoor
