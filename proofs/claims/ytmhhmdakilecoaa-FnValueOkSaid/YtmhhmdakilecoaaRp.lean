/- The program's runner: contracts of choose and times. -/
import Derived.Test.YtmhhmdakilecoaaRo
namespace Go.Proofs.Ytmhhmdakilecoaa
set_option maxRecDepth 100000
open Go.RowKit Go.WideShapes

def progR : List (List Int) → Bool
  | [] => false
  | a :: _ => decide (1 < a.length)
def TakeQ (lo g : Nat) (rest : List Int) (st : List (List Int)) (w : World) (e : Ending) (w' : World) : Prop :=
  ∃ u, e = .returned (.tuple #[u, .bool (progR st)]) ∧ Run w' lo g rest st.tail ∧ Keeps lo g w w' ∧ (progR st = true → 1 < (st.headD []).length ∧ Val w' g u (st.headD []))
theorem takeProg_q (lo g : Nat) (rest : List Int) (st : List (List Int)) (w : World) (h : Run w lo g rest st) (hl : st.length ≤ 20) (hv : ∀ v ∈ st, valueB v = true) :
    Calls Try.prog 126 #[.pointer (some ⟨g, 0, none⟩)] w (TakeQ lo g rest st w) := by
  refine (takeProg_any lo g rest st w h hl hv).mono ?_
  rintro e w' ⟨u, b, rfl, q1, q2, q3, q4⟩
  rcases st with _ | ⟨a, s1⟩
  · rw [q3 rfl]
    exact ⟨u, rfl, q1, q2, fun h => by cases h⟩
  · obtain ⟨q5, q6⟩ := q4 a s1 rfl
    rw [q5]
    exact ⟨u, rfl, q1, q2, fun h => ⟨of_decide_eq_true h, q6⟩⟩
theorem progR_ne {st : List (List Int)} (h : progR st = true) : 1 ≤ st.length := by
  rcases st with _ | ⟨a, s⟩
  · cases h
  · simp
theorem head_len {st : List (List Int)} (hv : ∀ v ∈ st, valueB v = true) : (st.headD []).length ≤ 60 := by
  rcases st with _ | ⟨a, s⟩
  · simp
  · exact (valueB_len (hv a (by simp))).2

def chooseR (rest : List Int) (st : List (List Int)) : Option (List Int × List (List Int)) :=
  if progR st = true ∧ progR st.tail = true ∧ (numR st.tail.tail).2 = true then some ((if (numR st.tail.tail).1 = 0 then inside (st.headD []) else inside (st.tail.headD [])) ++ rest, st.tail.tail.tail) else none
theorem choose_any (lo g : Nat) (rest : List Int) (st : List (List Int)) (w : World) (h : Run w lo g rest st) (hl : st.length ≤ 20) (hr : rest.length ≤ 700000000) (hv : ∀ v ∈ st, valueB v = true) :
    Calls Try.prog 110 #[.pointer (some ⟨g, 0, none⟩)] w (Did lo g w (chooseR rest st)) := by
  have hlt := h.lt
  have hv2 : ∀ v ∈ st.tail, valueB v = true := fun v hx => hv v (List.mem_of_mem_tail hx)
  have hv3 : ∀ v ∈ st.tail.tail, valueB v = true := fun v hx => hv2 v (List.mem_of_mem_tail hx)
  have b3 := numR_bd hv3
  have hl2 : st.tail.length ≤ 20 := by rw [List.length_tail]; omega
  have hl3 : st.tail.tail.length ≤ 20 := by rw [List.length_tail]; omega
  have hi1 := head_len hv
  have hi2 := head_len hv2
  have hj1 := @inside_len (st.headD [])
  have hj2 := @inside_len (st.tail.headD [])
  have Hv := Lib.hid (And.intro hv (And.intro hv2 hv3)); clear hv hv2 hv3
  have H := Lib.hid h; clear h
  have HR : Hid (chooseR rest st = if progR st = true ∧ progR st.tail = true ∧ (numR st.tail.tail).2 = true then some ((if (numR st.tail.tail).1 = 0 then inside (st.headD []) else inside (st.tail.headD [])) ++ rest, st.tail.tail.tail) else none) := Lib.hid rfl
  have Q1 := takeProg_q lo g rest st w H.out hl Hv.out.1
  have Q2 := fun w1 h1 => takeProg_q lo g rest st.tail w1 h1 hl2 Hv.out.2.1
  have Q3 := fun w2 h2 => takeNum_any lo g rest st.tail.tail w2 h2 hl3 Hv.out.2.2
  unfold TakeQ at Q1 Q2
  clear H Hv hl2 hl3
  generalize st.headD [] = a at *
  generalize st.tail.headD [] = c at *
  generalize chooseR rest st = R at *
  generalize progR st = p1 at *
  generalize progR st.tail = p2 at *
  generalize numR st.tail.tail = n3 at *
  obtain ⟨n, k3⟩ := n3
  have Q1 := Lib.hid Q1
  have Q2 := Lib.hid Q2
  have Q3 := Lib.hid Q3
  go_enter Try.func110, Try.ntmps110
  go_wp2_with fail
  refine Q1.out.mono ?_
  rintro e w1 ⟨u, rfl, q1, q2, q3⟩
  have X := Lib.hid (And.intro q1 (And.intro q2 q3)); clear q1 q2 q3
  have hlt1 := X.out.1.lt
  go_wp2_with fail
  refine (Q2.out _ X.out.1).mono ?_
  rintro e w2 ⟨v, rfl, q1, q2, q3⟩
  have Y := Lib.hid (And.intro q1 (And.intro (X.out.2.1.trans q2) (And.intro q3 (fun h => And.intro (X.out.2.2 h).1 (q2.val (X.out.2.2 h).2))))); clear q1 q2 q3
  have hlt2 := Y.out.1.lt
  go_wp2_with fail
  refine (Q3.out _ Y.out.1).mono ?_
  rintro e w3 ⟨rfl, q1, q2⟩
  have Z := Lib.hid (And.intro q1 (And.intro (Y.out.2.1.trans q2) (And.intro (fun h => And.intro (Y.out.2.2.1 h).1 (q2.val (Y.out.2.2.1 h).2)) (fun h => And.intro (Y.out.2.2.2 h).1 (q2.val (Y.out.2.2.2 h).2))))); clear q1 q2
  have hlt3 := Z.out.1.lt
  rcases p1 with _ | _
  · have hr0 : R = none := by rw [HR.out]; simp
    subst hr0
    go_wp2
    go_ret
    exact Did.no Z.out.2.1
  rcases p2 with _ | _
  · have hr0 : R = none := by rw [HR.out]; simp
    subst hr0
    go_wp2
    go_ret
    exact Did.no Z.out.2.1
  rcases k3 with _ | _
  · have hr0 : R = none := by rw [HR.out]; simp
    subst hr0
    go_wp2
    go_ret
    exact Did.no Z.out.2.1
  have z1 := Z.out.2.2.2 rfl
  have z2 := Z.out.2.2.1 rfl
  have W := Lib.hid (And.intro z1 z2)
  have hz1 := z1.1
  have hz2 := z2.1
  clear z1 z2
  by_cases h0 : n = 0
  · have hr0 : R = some (inside a ++ rest, st.tail.tail.tail) := by rw [HR.out]; simp [h0]
    subst hr0
    subst h0
    go_wp2_with fail
    refine (insideOf_any u a _ W.out.1.2.1 (by omega)).mono ?_
    rintro e w' ⟨⟨u2, rfl, hu2, he⟩, rfl⟩
    have V := Lib.hid (W.out.1.2.part hu2 he (by rintro rfl; simp at hz1)); clear hu2 he
    go_wp2_with fail
    refine (ahead_any lo g rest _ u2 (inside a) _ Z.out.1 V.out (by omega)).mono ?_
    rintro e w4 ⟨rfl, r1, r2⟩
    have T := Lib.hid (And.intro r1 (Z.out.2.1.trans r2)); clear r1 r2
    go_wp2
    go_ret
    exact Did.yes T.out.2 T.out.1
  · have hr0 : R = some (inside c ++ rest, st.tail.tail.tail) := by rw [HR.out]; simp [h0]
    subst hr0
    have h0b : (n == 0) = false := by simpa using h0
    clear h0
    go_wp2_with fail
    refine (insideOf_any v c _ W.out.2.2.1 (by omega)).mono ?_
    rintro e w' ⟨⟨u2, rfl, hu2, he⟩, rfl⟩
    have V := Lib.hid (W.out.2.2.part hu2 he (by rintro rfl; simp at hz2)); clear hu2 he
    go_wp2_with fail
    refine (ahead_any lo g rest _ u2 (inside c) _ Z.out.1 V.out (by omega)).mono ?_
    rintro e w4 ⟨rfl, r1, r2⟩
    have T := Lib.hid (And.intro r1 (Z.out.2.1.trans r2)); clear r1 r2
    go_wp2
    go_ret
    exact Did.yes T.out.2 T.out.1

/-- A literal of rows. -/
theorem rdS_lit (w : World) (us : List Value) (zss : List (List Int)) (hn : us.length = zss.length) (hl : zss.length ≤ 1000) (h : ∀ (j : Nat) u zs, us[j]? = some u → zss[j]? = some zs → RdI w u zs) : RdS (w.alloc (.cells us.toArray 23)) (.slice (some ⟨w.heap.size, 0, none⟩) zss.length zss.length) zss := by
  refine ⟨_, _, rfl, by omega, fun h0 => ⟨w.heap.size, 0, rfl, by simp, fun j zs hj => ?_⟩⟩
  have hj' : j < us.length := by
    rw [hn]
    rcases Nat.lt_or_ge j zss.length with h1 | h1
    · exact h1
    · rw [List.getElem?_eq_none h1] at hj; cases hj
  have hu : us[j]? = some us[j] := List.getElem?_eq_getElem hj'
  refine ⟨us[j], ?_, RdI.at_ ((h j _ zs hu hj).step ((Below.refl _ _).alloc (Nat.le_refl _) _))⟩
  rw [Nat.zero_add, (Blk.new w us.toArray 23).cell j]
  simp [hu]
def timesR (rest : List Int) (st : List (List Int)) : Option (List Int × List (List Int)) :=
  if progR st = true ∧ (numR st.tail).2 = true then some (if 0 < (numR st.tail).1 then inside (st.headD []) ++ (((numR st.tail).1 - 1) :: (st.headD [] ++ [1011])) ++ rest else rest, st.tail.tail) else none
theorem times_any (lo g : Nat) (rest : List Int) (st : List (List Int)) (w : World) (h : Run w lo g rest st) (hl : st.length ≤ 20) (hr : rest.length ≤ 700000000) (hv : ∀ v ∈ st, valueB v = true) :
    Calls Try.prog 111 #[.pointer (some ⟨g, 0, none⟩)] w (Did lo g w (timesR rest st)) := by
  have hlt := h.lt
  have hv2 : ∀ v ∈ st.tail, valueB v = true := fun v hx => hv v (List.mem_of_mem_tail hx)
  have b3 := numR_bd hv2
  have hl2 : st.tail.length ≤ 20 := by rw [List.length_tail]; omega
  have hi1 := head_len hv
  have hj1 := @inside_len (st.headD [])
  have H := Lib.hid h; clear h
  have HR : Hid (timesR rest st = if progR st = true ∧ (numR st.tail).2 = true then some (if 0 < (numR st.tail).1 then inside (st.headD []) ++ (((numR st.tail).1 - 1) :: (st.headD [] ++ [1011])) ++ rest else rest, st.tail.tail) else none) := Lib.hid rfl
  have Q1 := takeProg_q lo g rest st w H.out hl hv
  have Q3 := fun w2 h2 => takeNum_any lo g rest st.tail w2 h2 hl2 hv2
  unfold TakeQ at Q1
  clear H hv hv2 hl2
  generalize st.headD [] = a at *
  generalize timesR rest st = R at *
  generalize progR st = p1 at *
  generalize numR st.tail = n3 at *
  obtain ⟨n, k3⟩ := n3
  have Q1 := Lib.hid Q1
  have Q3 := Lib.hid Q3
  go_enter Try.func111, Try.ntmps111
  go_wp2_with fail
  refine Q1.out.mono ?_
  rintro e w1 ⟨u, rfl, q1, q2, q3⟩
  have X := Lib.hid (And.intro q1 (And.intro q2 q3)); clear q1 q2 q3
  have hlt1 := X.out.1.lt
  go_wp2_with fail
  refine (Q3.out _ X.out.1).mono ?_
  rintro e w3 ⟨rfl, q1, q2⟩
  have Z := Lib.hid (And.intro q1 (And.intro (X.out.2.1.trans q2) (fun h => And.intro (X.out.2.2 h).1 (q2.val (X.out.2.2 h).2)))); clear q1 q2
  have hlt3 := Z.out.1.lt
  rcases p1 with _ | _
  · have hr0 : R = none := by rw [HR.out]; simp
    subst hr0
    go_wp2
    go_ret
    exact Did.no Z.out.2.1
  rcases k3 with _ | _
  · have hr0 : R = none := by rw [HR.out]; simp
    subst hr0
    go_wp2
    go_ret
    exact Did.no Z.out.2.1
  have z1 := Z.out.2.2 rfl
  have hz1 := z1.1
  have W := Lib.hid z1
  clear z1
  by_cases h0 : 0 < n
  · have hr0 : R = some (inside a ++ ((n - 1) :: (a ++ [1011])) ++ rest, st.tail.tail) := by rw [HR.out]; simp [h0]
    subst hr0
    go_wp2_with fail
    refine (insideOf_any u a _ W.out.2.1 (by omega)).mono ?_
    rintro e w' ⟨⟨u2, rfl, hu2, he⟩, rfl⟩
    obtain ⟨A2, c2, rfl, hi2, _⟩ := hu2
    obtain ⟨A1, c1, rfl, hi1', _⟩ := W.out.2.1
    have HI := Lib.hid (And.intro hi2 hi1'); clear hi2 hi1' he
    go_wp2_with fail
    have hb2 : Below w3.heap.size w3 ((w3.alloc (.cells #[.int .i64 (n - 1)] 3)).alloc (.cells #[.int .i64 1011] 3)) := ((Below.refl _ _).alloc (Nat.le_refl _) _).alloc (by simp) _
    have l1 : RdI ((w3.alloc (.cells #[.int .i64 (n - 1)] 3)).alloc (.cells #[.int .i64 1011] 3)) (.slice (some ⟨w3.heap.size, 0, none⟩) 1 1) [n - 1] := by
      have := (lits_own w3 [n - 1] (by simp) (by intro q hq; simp only [List.mem_cons, List.not_mem_nil, or_false] at hq; subst hq; exact wf_near _ (by omega))).rd.step ((Below.refl _ _).alloc (Nat.le_refl _) (.cells #[.int .i64 1011] 3))
      simpa using this
    have l2 : RdI ((w3.alloc (.cells #[.int .i64 (n - 1)] 3)).alloc (.cells #[.int .i64 1011] 3)) (.slice (some ⟨w3.heap.size + 1, 0, none⟩) 1 1) [1011] := by
      have := (lits_own (w3.alloc (.cells #[.int .i64 (n - 1)] 3)) [1011] (by simp) (by intro q hq; simp only [List.mem_cons, List.not_mem_nil, or_false] at hq; subst hq; exact wf_near _ (by omega))).rd
      simpa using this
    have hrd := rdS_lit ((w3.alloc (.cells #[.int .i64 (n - 1)] 3)).alloc (.cells #[.int .i64 1011] 3)) [.slice A2 (inside a).length c2, .slice (some ⟨w3.heap.size, 0, none⟩) 1 1, .slice A1 a.length c1, .slice (some ⟨w3.heap.size + 1, 0, none⟩) 1 1] [inside a, [n - 1], a, [1011]] rfl (by simp) (by
      intro j u zs hu hz
      rcases j with _ | _ | _ | _ | j
      · simp at hu hz; subst hu; subst hz; exact RdI.step ⟨_, _, rfl, HI.out.1, ‹_›⟩ hb2
      · simp at hu hz; subst hu; subst hz; exact l1
      · simp at hu hz; subst hu; subst hz; exact RdI.step ⟨_, _, rfl, HI.out.2, ‹_›⟩ hb2
      · simp at hu hz; subst hu; subst hz; exact l2
      · simp at hu)
    simp only [World.size_alloc, List.length_cons, List.length_nil] at hrd
    have hb3 := hb2.alloc (by simp; omega) (.cells #[.slice A2 (inside a).length c2, .slice (some ⟨w3.heap.size, 0, none⟩) 1 1, .slice A1 a.length c1, .slice (some ⟨w3.heap.size + 1, 0, none⟩) 1 1] 23)
    have V := Lib.hid (And.intro hrd hb3); clear hrd hb3 l1 l2 hb2 HI
    have hfl : ([inside a, [n - 1], a, [1011]] : List (List Int)).flatten = inside a ++ ((n - 1) :: (a ++ [1011])) := by simp
    have Hfl := Lib.hid hfl; clear hfl
    refine (concatS _ [inside a, [n - 1], a, [1011]] _ V.out.1 (by simp) (by rw [Hfl.out]; simp; omega)).mono ?_
    rw [Hfl.out]
    rintro e w4 ⟨q, rfl, ho, hb⟩
    have hb4 : Below w3.heap.size w3 w4 := V.out.2.trans (hb.mono (by simp; omega))
    have hlen : (inside a ++ ((n - 1) :: (a ++ [1011]))).length ≤ 200 := by simp; omega
    generalize inside a ++ ((n - 1) :: (a ++ [1011])) = f at *
    have hval := Z.out.1.new_val hb4 (hi := w4.heap.size) (u := q) (zs := f) ((ho.mono (by simp; omega)).within)
    obtain ⟨r1, r2⟩ := Z.out.1.step hb4
    have T := Lib.hid (And.intro r1 (And.intro hval (Z.out.2.1.trans r2))); clear r1 r2 hval ho hb hb4 V
    have hlt4 := T.out.1.lt
    go_wp2_with fail
    refine (ahead_any lo g rest _ q f _ T.out.1 T.out.2.1 (by omega)).mono ?_
    rintro e w5 ⟨rfl, r1, r2⟩
    have S := Lib.hid (And.intro r1 (T.out.2.2.trans r2)); clear r1 r2
    go_wp2
    go_ret
    exact Did.yes S.out.2 S.out.1
  · have hr0 : R = some (rest, st.tail.tail) := by rw [HR.out]; simp [h0]
    subst hr0
    go_wp2
    go_ret
    exact Did.yes Z.out.2.1 Z.out.1
end Go.Proofs.Ytmhhmdakilecoaa
