/- The program's runner: contracts of reckon, call, dip, choose, times. The program's runner: contracts of choose and times. The program's runner: the contract of quoted. The program's runner: what a step does, word by word; the contract of step. -/
import Derived.Test.YtenaeiedoiepdaaB7
import Derived.Test.YtenaeiedoiepdaaB6
namespace Go.Proofs.Ytenaeiedoiepdaa
set_option maxRecDepth 100000
open Go.RowKit Go.WideShapes

theorem reckoned_any (op a b : Int) (w : World) (ha : 0 ≤ a ∧ a ≤ 999) (hb : 0 ≤ b ∧ b ≤ 999) :
    Calls Try.prog 67 #[.int .i64 op, .int .i64 a, .int .i64 b] w fun e w' => e = .returned (.int .i64 (reck op a b)) ∧ w = w' := by
  have hm : 0 ≤ a * b ∧ a * b ≤ 998001 := by
    refine ⟨Int.mul_nonneg ha.1 hb.1, ?_⟩
    have : a * b ≤ 999 * 999 := Int.mul_le_mul ha.2 hb.2 hb.1 (by omega)
    omega
  obtain ⟨hm1, hm2⟩ := hm
  by_cases h1 : op = 1006
  · subst h1
    go_enter Try.func67, Try.ntmps67
    go_wp2
    go_ret
    exact ⟨ret_i64 (by simp [reck]), rfl⟩
  · by_cases h2 : op = 1007
    · subst h2
      go_enter Try.func67, Try.ntmps67
      go_wp2
      go_ret
      exact ⟨ret_i64 (by simp [reck]), rfl⟩
    · by_cases h3 : op = 1008
      · subst h3
        go_enter Try.func67, Try.ntmps67
        go_wp2
        go_ret
        exact ⟨ret_i64 (by simp [reck]), rfl⟩
      · have e1 : (op == 1006) = false := by simpa using h1
        have e2 : (op == 1007) = false := by simpa using h2
        have e3 : (op == 1008) = false := by simpa using h3
        have hR : reck op a b = if a < b then 1 else 0 := by simp [reck, h1, h2, h3]
        have HR := Lib.hid hR
        clear h1 h2 h3 hR
        by_cases hlt : a < b
        all_goals
          go_enter Try.func67, Try.ntmps67
          go_wp2
          go_ret
          exact ⟨ret_i64 (by rw [HR.out]; simp [hlt]), rfl⟩

theorem numR_bd {st : List (List Int)} (hv : ∀ v ∈ st, valueB v = true) : 0 ≤ (numR st).1 ∧ (numR st).1 ≤ 999 := by
  rcases st with _ | ⟨a, s1⟩
  · simp [numR]
  · by_cases h : 1 < a.length
    · simp [numR, h]
    · rw [numR, if_neg h]; exact (num_of_value (hv a (by simp)) h).2
/-- A literal of one number: apart from the runner. -/
theorem Run.lit {w : World} {lo g : Nat} {rest : List Int} {st : List (List Int)} (h : Run w lo g rest st) (z : Int) (hz : -1000000 ≤ z ∧ z ≤ 1000000) :
    Run (w.alloc (.cells #[.int .i64 z] 3)) lo g rest st ∧ Keeps lo g w (w.alloc (.cells #[.int .i64 z] 3)) ∧ Val (w.alloc (.cells #[.int .i64 z] 3)) g (.slice (some ⟨w.heap.size, 0, none⟩) 1 1) [z] := by
  have hb : Below w.heap.size w (w.alloc (.cells #[.int .i64 z] 3)) := (Below.refl _ _).alloc (Nat.le_refl _) _
  have ho := lits_own w [z] (by simp) (by intro q hq; simp only [List.mem_cons, List.not_mem_nil, or_false] at hq; subst hq; exact wf_near _ hz)
  obtain ⟨h1, h2⟩ := h.step hb
  exact ⟨h1, h2, h.new_val hb (by simpa using ho)⟩

def reckR (op : Int) (rest : List Int) (st : List (List Int)) : Option (List Int × List (List Int)) := if (numR st).2 = true ∧ (numR st.tail).2 = true then some (rest, [reck op (numR st.tail).1 (numR st).1] :: st.tail.tail) else none
theorem numR_ne {st : List (List Int)} (h : (numR st).2 = true) : 1 ≤ st.length := by
  rcases st with _ | ⟨a, s⟩
  · simp [numR] at h
  · simp
theorem reckon_any (op : Int) (lo g : Nat) (rest : List Int) (st : List (List Int)) (w : World) (h : Run w lo g rest st) (hl : st.length ≤ 20) (hv : ∀ v ∈ st, valueB v = true) :
    Calls Try.prog 41 #[.pointer (some ⟨g, 0, none⟩), .int .i64 op] w (Did lo g w (reckR op rest st) false) := by
  have hlt := h.lt
  have hv2 : ∀ v ∈ st.tail, valueB v = true := fun v hx => hv v (List.mem_of_mem_tail hx)
  have b1 := numR_bd hv
  have b2 := numR_bd hv2
  have hl2 : st.tail.length ≤ 20 := by rw [List.length_tail]; omega
  have Hv := Lib.hid (And.intro hv hv2); clear hv hv2
  have H := Lib.hid h; clear h
  generalize h1 : numR st = n1
  generalize h2 : numR st.tail = n2
  obtain ⟨n1, k1⟩ := n1
  obtain ⟨n2, k2⟩ := n2
  rw [h1] at b1
  rw [h2] at b2
  have hne : k1 = true → k2 = true → st.tail.tail.length < 20 := by
    intro e1 e2
    have := numR_ne (st := st) (by rw [h1]; exact e1)
    rw [List.length_tail, List.length_tail]; omega
  have Hne := Lib.hid hne; clear hne
  have HR : Hid (reckR op rest st = if k1 = true ∧ k2 = true then some (rest, [reck op n2 n1] :: st.tail.tail) else none) := Lib.hid (by rw [reckR, h1, h2])
  have N1 := Lib.hid h1; have N2 := Lib.hid h2; clear h1 h2
  generalize reckR op rest st = R at *
  go_enter Try.func41, Try.ntmps41
  go_wp2_with fail
  refine (takeNum_any lo g rest st _ H.out hl Hv.out.1).mono ?_
  rw [N1.out]
  rintro e w1 ⟨rfl, q1, q2⟩
  have X := Lib.hid (And.intro q1 q2); clear q1 q2
  have hlt1 := X.out.1.lt
  go_wp2_with fail
  refine (takeNum_any lo g rest st.tail _ X.out.1 hl2 Hv.out.2).mono ?_
  rw [N2.out]
  rintro e w2 ⟨rfl, q1, q2⟩
  have Y := Lib.hid (And.intro q1 (X.out.2.trans q2)); clear q1 q2
  have hlt2 := Y.out.1.lt
  rcases k1 with _ | _
  · have hr0 : R = none := by rw [HR.out]; simp
    subst hr0
    go_wp2
    go_ret
    exact Did.no Y.out.2 Y.out.1
  · rcases k2 with _ | _
    · have hr0 : R = none := by rw [HR.out]; simp
      subst hr0
      go_wp2
      go_ret
      exact Did.no Y.out.2 Y.out.1
    · have hne2 := Hne.out rfl rfl
      clear Hne
      have hrk := @reck_num op n2 n1
      go_wp2_with fail
      refine (reckoned_any op n2 n1 _ b2 b1).mono ?_
      rintro e w' ⟨rfl, rfl⟩
      generalize reck op n2 n1 = z at *
      have hr0 : R = some (rest, [z] :: st.tail.tail) := by rw [HR.out]; simp
      subst hr0
      go_wp2_with fail
      obtain ⟨r1, r2, r3⟩ := Y.out.1.lit z (by omega)
      have Z := Lib.hid (And.intro r1 (And.intro r3 (Y.out.2.trans r2))); clear r1 r2 r3
      have HP : Hid (putR [z] rest st.tail.tail = some (rest, [z] :: st.tail.tail)) := Lib.hid (by rw [putR, if_pos ⟨by simp, hne2⟩])
      have hl3 : st.tail.tail.length ≤ 20 := by omega
      refine (put_any lo g rest st.tail.tail _ [z] _ Z.out.1 Z.out.2.1 hl3).mono ?_
      rw [HP.out]
      rintro e w4 hd
      have V := Lib.hid (hd.after Z.out.2.2); clear hd
      obtain ⟨t, rfl, -⟩ := V.out
      go_wp2
      go_ret
      exact V.out.as (fun h => by cases h)

def callR (rest : List Int) : List (List Int) → Option (List Int × List (List Int))
  | a :: s1 => if 1 < a.length then some (inside a ++ rest, s1) else none
  | [] => none
theorem call_any (lo g : Nat) (rest : List Int) (st : List (List Int)) (w : World) (h : Run w lo g rest st) (hl : st.length ≤ 20) (hr : rest.length ≤ 700000000) (hv : ∀ v ∈ st, valueB v = true) :
    Calls Try.prog 38 #[.pointer (some ⟨g, 0, none⟩)] w (Did lo g w (callR rest st) false) := by
  have hlt := h.lt
  have H := Lib.hid h; clear h
  have Hv := Lib.hid hv; clear hv
  rcases st with _ | ⟨a, s1⟩
  · go_enter Try.func38, Try.ntmps38
    go_wp2_with fail
    refine (takeProg_any lo g rest [] _ H.out hl Hv.out).mono ?_
    rintro e w1 ⟨u, b, rfl, q1, q2, q3, _⟩
    obtain rfl := q3 rfl
    have X := Lib.hid (And.intro q1 q2); clear q1 q2 q3
    go_wp2
    go_ret
    exact Did.no X.out.2 X.out.1
  · have hla := valueB_len (Hv.out a (by simp))
    have hil := @inside_len a
    by_cases h1 : 1 < a.length
    · have HR : Hid (callR rest (a :: s1) = some (inside a ++ rest, s1)) := Lib.hid (by rw [callR, if_pos h1])
      rw [HR.out]
      go_enter Try.func38, Try.ntmps38
      go_wp2_with fail
      refine (takeProg_any lo g rest (a :: s1) _ H.out hl Hv.out).mono ?_
      rintro e w1 ⟨u, b, rfl, q1, q2, _, q3⟩
      obtain ⟨rfl, q4⟩ := q3 a s1 rfl
      clear q3
      rw [decide_eq_true h1]
      have X := Lib.hid (And.intro q1 (And.intro q2 q4)); clear q1 q2 q4
      have hlt1 := X.out.1.lt
      go_wp2_with fail
      refine (insideOf_any u a _ X.out.2.2.1 (by omega)).mono ?_
      rintro e w' ⟨⟨u2, rfl, hu2, he⟩, rfl⟩
      have hval := X.out.2.2.part hu2 he (by rintro rfl; simp at h1)
      have Y := Lib.hid hval; clear hval hu2 he
      go_wp2_with fail
      refine (ahead_any lo g rest s1 u2 (inside a) _ X.out.1 Y.out (by omega)).mono ?_
      rintro e w2 ⟨rfl, r1, r2⟩
      have Z := Lib.hid (And.intro r1 (X.out.2.1.trans r2)); clear r1 r2
      go_wp2
      go_ret
      exact Did.yes Z.out.2 Z.out.1
    · have HR : Hid (callR rest (a :: s1) = none) := Lib.hid (by rw [callR, if_neg h1])
      rw [HR.out]
      go_enter Try.func38, Try.ntmps38
      go_wp2_with fail
      refine (takeProg_any lo g rest (a :: s1) _ H.out hl Hv.out).mono ?_
      rintro e w1 ⟨u, b, rfl, q1, q2, _, q3⟩
      obtain ⟨rfl, q4⟩ := q3 a s1 rfl
      clear q3
      rw [decide_eq_false h1]
      have X := Lib.hid (And.intro q1 q2); clear q1 q2 q4
      go_wp2
      go_ret
      exact Did.no X.out.2 X.out.1

def dipR (rest : List Int) : List (List Int) → Option (List Int × List (List Int))
  | a :: b :: s2 => if 1 < a.length then some (inside a ++ (b ++ rest), s2) else none
  | _ => none
theorem dip_any (lo g : Nat) (rest : List Int) (st : List (List Int)) (w : World) (h : Run w lo g rest st) (hl : st.length ≤ 20) (hr : rest.length ≤ 700000000) (hv : ∀ v ∈ st, valueB v = true) :
    Calls Try.prog 37 #[.pointer (some ⟨g, 0, none⟩)] w (Did lo g w (dipR rest st) false) := by
  have hlt := h.lt
  have H := Lib.hid h; clear h
  have Hv := Lib.hid hv; clear hv
  rcases st with _ | ⟨a, s1⟩
  · go_enter Try.func37, Try.ntmps37
    go_wp2_with fail
    refine (takeProg_any lo g rest [] _ H.out hl Hv.out).mono ?_
    rintro e w1 ⟨u, b, rfl, q1, q2, q3, _⟩
    obtain rfl := q3 rfl
    have X := Lib.hid (And.intro q1 q2); clear q1 q2 q3
    have hlt1 := X.out.1.lt
    go_wp2_with fail
    refine (popV_none lo g rest _ X.out.1).mono ?_
    rintro e w' ⟨rfl, rfl⟩
    go_wp2
    go_ret
    exact Did.no X.out.2 X.out.1
  · have hla := valueB_len (Hv.out a (by simp))
    have hil := @inside_len a
    rw [List.length_cons] at hl
    generalize hb1 : decide (1 < a.length) = b1
    have Hb1 := Lib.hid hb1; clear hb1
    rcases s1 with _ | ⟨b, s2⟩
    · go_enter Try.func37, Try.ntmps37
      go_wp2_with fail
      refine (takeProg_any lo g rest [a] _ H.out hl Hv.out).mono ?_
      rintro e w1 ⟨u, t, rfl, q1, q2, _, q3⟩
      obtain ⟨rfl, q4⟩ := q3 a [] rfl
      clear q3
      rw [Hb1.out]
      have X := Lib.hid (And.intro q1 q2); clear q1 q2 q4
      have hlt1 := X.out.1.lt
      go_wp2_with fail
      refine (popV_none lo g rest _ X.out.1).mono ?_
      rintro e w' ⟨rfl, rfl⟩
      rcases b1 with _ | _
      all_goals
        go_wp2
        go_ret
        exact Did.no X.out.2 X.out.1
    · have hlb := valueB_len (Hv.out b (by simp))
      have HR : Hid (dipR rest (a :: b :: s2) = if b1 = true then some (inside a ++ (b ++ rest), s2) else none) := Lib.hid (by rw [dipR, ← Hb1.out]; simp)
      generalize dipR rest (a :: b :: s2) = R at *
      rw [List.length_cons] at hl
      go_enter Try.func37, Try.ntmps37
      go_wp2_with fail
      refine (takeProg_any lo g rest (a :: b :: s2) _ H.out (by simp; omega) Hv.out).mono ?_
      rintro e w1 ⟨u, t, rfl, q1, q2, _, q3⟩
      obtain ⟨rfl, q4⟩ := q3 a (b :: s2) rfl
      clear q3
      rw [Hb1.out]
      have X := Lib.hid (And.intro q1 (And.intro q2 q4)); clear q1 q2 q4
      have hlt1 := X.out.1.lt
      go_wp2_with fail
      refine (popV lo g rest b s2 _ X.out.1 (by omega)).mono ?_
      rintro e w2 ⟨v, rfl, q1, q2, q3⟩
      have Y := Lib.hid (And.intro q1 (And.intro q2 (And.intro (q3.val X.out.2.2) (X.out.2.1.trans q3)))); clear q1 q2 q3
      have hlt2 := Y.out.2.1.lt
      rcases b1 with _ | _
      · have hr0 : R = none := by rw [HR.out]; simp
        subst hr0
        go_wp2
        go_ret
        exact Did.no Y.out.2.2.2 Y.out.2.1
      · have hr0 : R = some (inside a ++ (b ++ rest), s2) := by rw [HR.out]; simp
        subst hr0
        have h1 : 1 < a.length := of_decide_eq_true Hb1.out
        go_wp2_with fail
        refine (ahead_any lo g rest s2 v b _ Y.out.2.1 Y.out.1 (by omega)).mono ?_
        rintro e w3 ⟨rfl, r1, r2⟩
        have Z := Lib.hid (And.intro r1 (And.intro (r2.val Y.out.2.2.1) (Y.out.2.2.2.trans r2))); clear r1 r2
        have hlt3 := Z.out.1.lt
        go_wp2_with fail
        refine (insideOf_any u a _ Z.out.2.1.1 (by omega)).mono ?_
        rintro e w' ⟨⟨u2, rfl, hu2, he⟩, rfl⟩
        have hval := Z.out.2.1.part hu2 he (by rintro rfl; simp at h1)
        have V := Lib.hid hval; clear hval hu2 he
        go_wp2_with fail
        refine (ahead_any lo g (b ++ rest) s2 u2 (inside a) _ Z.out.1 V.out (by rw [List.length_append]; omega)).mono ?_
        rintro e w4 ⟨rfl, r1, r2⟩
        have T := Lib.hid (And.intro r1 (Z.out.2.2.trans r2)); clear r1 r2
        go_wp2
        go_ret
        exact Did.yes T.out.2 T.out.1
end Go.Proofs.Ytenaeiedoiepdaa
namespace Go.Proofs.Ytenaeiedoiepdaa
set_option maxRecDepth 100000
open Go.RowKit Go.WideShapes

def progR : List (List Int) → Bool
  | [] => false
  | a :: _ => decide (1 < a.length)
def TakeQ (lo g : Nat) (rest : List Int) (st : List (List Int)) (w : World) (e : Ending) (w' : World) : Prop :=
  ∃ u, e = .returned (.tuple #[u, .bool (progR st)]) ∧ Run w' lo g rest st.tail ∧ Keeps lo g w w' ∧ (progR st = true → 1 < (st.headD []).length ∧ Val w' g u (st.headD []))
theorem takeProg_q (lo g : Nat) (rest : List Int) (st : List (List Int)) (w : World) (h : Run w lo g rest st) (hl : st.length ≤ 20) (hv : ∀ v ∈ st, valueB v = true) :
    Calls Try.prog 63 #[.pointer (some ⟨g, 0, none⟩)] w (TakeQ lo g rest st w) := by
  refine (takeProg_any lo g rest st w h hl hv).mono ?_
  rintro e w' ⟨u, b, rfl, q1, q2, q3, q4⟩
  rcases st with _ | ⟨a, s1⟩
  · rw [q3 rfl]
    exact ⟨u, rfl, q1, q2, fun h => by cases h⟩
  · obtain ⟨q5, q6⟩ := q4 a s1 rfl
    rw [q5]
    exact ⟨u, rfl, q1, q2, fun h => ⟨of_decide_eq_true h, q6⟩⟩
theorem progR_ne {st : List (List Int)} (h : progR st = true) : 1 ≤ st.length := by
  rcases st with _ | ⟨a, s⟩
  · cases h
  · simp
theorem head_len {st : List (List Int)} (hv : ∀ v ∈ st, valueB v = true) : (st.headD []).length ≤ 60 := by
  rcases st with _ | ⟨a, s⟩
  · simp
  · exact (valueB_len (hv a (by simp))).2

def chooseR (rest : List Int) (st : List (List Int)) : Option (List Int × List (List Int)) :=
  if progR st = true ∧ progR st.tail = true ∧ (numR st.tail.tail).2 = true then some ((if (numR st.tail.tail).1 = 0 then inside (st.headD []) else inside (st.tail.headD [])) ++ rest, st.tail.tail.tail) else none
theorem choose_any (lo g : Nat) (rest : List Int) (st : List (List Int)) (w : World) (h : Run w lo g rest st) (hl : st.length ≤ 20) (hr : rest.length ≤ 700000000) (hv : ∀ v ∈ st, valueB v = true) :
    Calls Try.prog 39 #[.pointer (some ⟨g, 0, none⟩)] w (Did lo g w (chooseR rest st) false) := by
  have hlt := h.lt
  have hv2 : ∀ v ∈ st.tail, valueB v = true := fun v hx => hv v (List.mem_of_mem_tail hx)
  have hv3 : ∀ v ∈ st.tail.tail, valueB v = true := fun v hx => hv2 v (List.mem_of_mem_tail hx)
  have b3 := numR_bd hv3
  have hl2 : st.tail.length ≤ 20 := by rw [List.length_tail]; omega
  have hl3 : st.tail.tail.length ≤ 20 := by rw [List.length_tail]; omega
  have hi1 := head_len hv
  have hi2 := head_len hv2
  have hj1 := @inside_len (st.headD [])
  have hj2 := @inside_len (st.tail.headD [])
  have Hv := Lib.hid (And.intro hv (And.intro hv2 hv3)); clear hv hv2 hv3
  have H := Lib.hid h; clear h
  have HR : Hid (chooseR rest st = if progR st = true ∧ progR st.tail = true ∧ (numR st.tail.tail).2 = true then some ((if (numR st.tail.tail).1 = 0 then inside (st.headD []) else inside (st.tail.headD [])) ++ rest, st.tail.tail.tail) else none) := Lib.hid rfl
  have Q1 := takeProg_q lo g rest st w H.out hl Hv.out.1
  have Q2 := fun w1 h1 => takeProg_q lo g rest st.tail w1 h1 hl2 Hv.out.2.1
  have Q3 := fun w2 h2 => takeNum_any lo g rest st.tail.tail w2 h2 hl3 Hv.out.2.2
  unfold TakeQ at Q1 Q2
  clear H Hv hl2 hl3
  generalize st.headD [] = a at *
  generalize st.tail.headD [] = c at *
  generalize chooseR rest st = R at *
  generalize progR st = p1 at *
  generalize progR st.tail = p2 at *
  generalize numR st.tail.tail = n3 at *
  obtain ⟨n, k3⟩ := n3
  have Q1 := Lib.hid Q1
  have Q2 := Lib.hid Q2
  have Q3 := Lib.hid Q3
  go_enter Try.func39, Try.ntmps39
  go_wp2_with fail
  refine Q1.out.mono ?_
  rintro e w1 ⟨u, rfl, q1, q2, q3⟩
  have X := Lib.hid (And.intro q1 (And.intro q2 q3)); clear q1 q2 q3
  have hlt1 := X.out.1.lt
  go_wp2_with fail
  refine (Q2.out _ X.out.1).mono ?_
  rintro e w2 ⟨v, rfl, q1, q2, q3⟩
  have Y := Lib.hid (And.intro q1 (And.intro (X.out.2.1.trans q2) (And.intro q3 (fun h => And.intro (X.out.2.2 h).1 (q2.val (X.out.2.2 h).2))))); clear q1 q2 q3
  have hlt2 := Y.out.1.lt
  go_wp2_with fail
  refine (Q3.out _ Y.out.1).mono ?_
  rintro e w3 ⟨rfl, q1, q2⟩
  have Z := Lib.hid (And.intro q1 (And.intro (Y.out.2.1.trans q2) (And.intro (fun h => And.intro (Y.out.2.2.1 h).1 (q2.val (Y.out.2.2.1 h).2)) (fun h => And.intro (Y.out.2.2.2 h).1 (q2.val (Y.out.2.2.2 h).2))))); clear q1 q2
  have hlt3 := Z.out.1.lt
  rcases p1 with _ | _
  · have hr0 : R = none := by rw [HR.out]; simp
    subst hr0
    go_wp2
    go_ret
    exact Did.no Z.out.2.1 Z.out.1
  rcases p2 with _ | _
  · have hr0 : R = none := by rw [HR.out]; simp
    subst hr0
    go_wp2
    go_ret
    exact Did.no Z.out.2.1 Z.out.1
  rcases k3 with _ | _
  · have hr0 : R = none := by rw [HR.out]; simp
    subst hr0
    go_wp2
    go_ret
    exact Did.no Z.out.2.1 Z.out.1
  have z1 := Z.out.2.2.2 rfl
  have z2 := Z.out.2.2.1 rfl
  have W := Lib.hid (And.intro z1 z2)
  have hz1 := z1.1
  have hz2 := z2.1
  clear z1 z2
  by_cases h0 : n = 0
  · have hr0 : R = some (inside a ++ rest, st.tail.tail.tail) := by rw [HR.out]; simp [h0]
    subst hr0
    subst h0
    go_wp2_with fail
    refine (insideOf_any u a _ W.out.1.2.1 (by omega)).mono ?_
    rintro e w' ⟨⟨u2, rfl, hu2, he⟩, rfl⟩
    have V := Lib.hid (W.out.1.2.part hu2 he (by rintro rfl; simp at hz1)); clear hu2 he
    go_wp2_with fail
    refine (ahead_any lo g rest _ u2 (inside a) _ Z.out.1 V.out (by omega)).mono ?_
    rintro e w4 ⟨rfl, r1, r2⟩
    have T := Lib.hid (And.intro r1 (Z.out.2.1.trans r2)); clear r1 r2
    go_wp2
    go_ret
    exact Did.yes T.out.2 T.out.1
  · have hr0 : R = some (inside c ++ rest, st.tail.tail.tail) := by rw [HR.out]; simp [h0]
    subst hr0
    have h0b : (n == 0) = false := by simpa using h0
    clear h0
    go_wp2_with fail
    refine (insideOf_any v c _ W.out.2.2.1 (by omega)).mono ?_
    rintro e w' ⟨⟨u2, rfl, hu2, he⟩, rfl⟩
    have V := Lib.hid (W.out.2.2.part hu2 he (by rintro rfl; simp at hz2)); clear hu2 he
    go_wp2_with fail
    refine (ahead_any lo g rest _ u2 (inside c) _ Z.out.1 V.out (by omega)).mono ?_
    rintro e w4 ⟨rfl, r1, r2⟩
    have T := Lib.hid (And.intro r1 (Z.out.2.1.trans r2)); clear r1 r2
    go_wp2
    go_ret
    exact Did.yes T.out.2 T.out.1

/-- A literal of rows. -/
theorem rdS_lit (w : World) (us : List Value) (zss : List (List Int)) (hn : us.length = zss.length) (hl : zss.length ≤ 1000) (h : ∀ (j : Nat) u zs, us[j]? = some u → zss[j]? = some zs → RdI w u zs) : RdS (w.alloc (.cells us.toArray 23)) (.slice (some ⟨w.heap.size, 0, none⟩) zss.length zss.length) zss := by
  refine ⟨_, _, rfl, by omega, fun h0 => ⟨w.heap.size, 0, rfl, by simp, fun j zs hj => ?_⟩⟩
  have hj' : j < us.length := by
    rw [hn]
    rcases Nat.lt_or_ge j zss.length with h1 | h1
    · exact h1
    · rw [List.getElem?_eq_none h1] at hj; cases hj
  have hu : us[j]? = some us[j] := List.getElem?_eq_getElem hj'
  refine ⟨us[j], ?_, RdI.at_ ((h j _ zs hu hj).step ((Below.refl _ _).alloc (Nat.le_refl _) _))⟩
  rw [Nat.zero_add, (Blk.new w us.toArray 23).cell j]
  simp [hu]
def timesR (rest : List Int) (st : List (List Int)) : Option (List Int × List (List Int)) :=
  if progR st = true ∧ (numR st.tail).2 = true then some (if 0 < (numR st.tail).1 then inside (st.headD []) ++ (((numR st.tail).1 - 1) :: (st.headD [] ++ [1011])) ++ rest else rest, st.tail.tail) else none
theorem times_any (lo g : Nat) (rest : List Int) (st : List (List Int)) (w : World) (h : Run w lo g rest st) (hl : st.length ≤ 20) (hr : rest.length ≤ 700000000) (hv : ∀ v ∈ st, valueB v = true) :
    Calls Try.prog 40 #[.pointer (some ⟨g, 0, none⟩)] w (Did lo g w (timesR rest st) false) := by
  have hlt := h.lt
  have hv2 : ∀ v ∈ st.tail, valueB v = true := fun v hx => hv v (List.mem_of_mem_tail hx)
  have b3 := numR_bd hv2
  have hl2 : st.tail.length ≤ 20 := by rw [List.length_tail]; omega
  have hi1 := head_len hv
  have hj1 := @inside_len (st.headD [])
  have H := Lib.hid h; clear h
  have HR : Hid (timesR rest st = if progR st = true ∧ (numR st.tail).2 = true then some (if 0 < (numR st.tail).1 then inside (st.headD []) ++ (((numR st.tail).1 - 1) :: (st.headD [] ++ [1011])) ++ rest else rest, st.tail.tail) else none) := Lib.hid rfl
  have Q1 := takeProg_q lo g rest st w H.out hl hv
  have Q3 := fun w2 h2 => takeNum_any lo g rest st.tail w2 h2 hl2 hv2
  unfold TakeQ at Q1
  clear H hv hv2 hl2
  generalize st.headD [] = a at *
  generalize timesR rest st = R at *
  generalize progR st = p1 at *
  generalize numR st.tail = n3 at *
  obtain ⟨n, k3⟩ := n3
  have Q1 := Lib.hid Q1
  have Q3 := Lib.hid Q3
  go_enter Try.func40, Try.ntmps40
  go_wp2_with fail
  refine Q1.out.mono ?_
  rintro e w1 ⟨u, rfl, q1, q2, q3⟩
  have X := Lib.hid (And.intro q1 (And.intro q2 q3)); clear q1 q2 q3
  have hlt1 := X.out.1.lt
  go_wp2_with fail
  refine (Q3.out _ X.out.1).mono ?_
  rintro e w3 ⟨rfl, q1, q2⟩
  have Z := Lib.hid (And.intro q1 (And.intro (X.out.2.1.trans q2) (fun h => And.intro (X.out.2.2 h).1 (q2.val (X.out.2.2 h).2)))); clear q1 q2
  have hlt3 := Z.out.1.lt
  rcases p1 with _ | _
  · have hr0 : R = none := by rw [HR.out]; simp
    subst hr0
    go_wp2
    go_ret
    exact Did.no Z.out.2.1 Z.out.1
  rcases k3 with _ | _
  · have hr0 : R = none := by rw [HR.out]; simp
    subst hr0
    go_wp2
    go_ret
    exact Did.no Z.out.2.1 Z.out.1
  have z1 := Z.out.2.2 rfl
  have hz1 := z1.1
  have W := Lib.hid z1
  clear z1
  by_cases h0 : 0 < n
  · have hr0 : R = some (inside a ++ ((n - 1) :: (a ++ [1011])) ++ rest, st.tail.tail) := by rw [HR.out]; simp [h0]
    subst hr0
    go_wp2_with fail
    refine (insideOf_any u a _ W.out.2.1 (by omega)).mono ?_
    rintro e w' ⟨⟨u2, rfl, hu2, he⟩, rfl⟩
    obtain ⟨A2, c2, rfl, hi2, _⟩ := hu2
    obtain ⟨A1, c1, rfl, hi1', _⟩ := W.out.2.1
    have HI := Lib.hid (And.intro hi2 hi1'); clear hi2 hi1' he
    go_wp2_with fail
    have hb2 : Below w3.heap.size w3 ((w3.alloc (.cells #[.int .i64 (n - 1)] 3)).alloc (.cells #[.int .i64 1011] 3)) := ((Below.refl _ _).alloc (Nat.le_refl _) _).alloc (by simp) _
    have l1 : RdI ((w3.alloc (.cells #[.int .i64 (n - 1)] 3)).alloc (.cells #[.int .i64 1011] 3)) (.slice (some ⟨w3.heap.size, 0, none⟩) 1 1) [n - 1] := by
      have := (lits_own w3 [n - 1] (by simp) (by intro q hq; simp only [List.mem_cons, List.not_mem_nil, or_false] at hq; subst hq; exact wf_near _ (by omega))).rd.step ((Below.refl _ _).alloc (Nat.le_refl _) (.cells #[.int .i64 1011] 3))
      simpa using this
    have l2 : RdI ((w3.alloc (.cells #[.int .i64 (n - 1)] 3)).alloc (.cells #[.int .i64 1011] 3)) (.slice (some ⟨w3.heap.size + 1, 0, none⟩) 1 1) [1011] := by
      have := (lits_own (w3.alloc (.cells #[.int .i64 (n - 1)] 3)) [1011] (by simp) (by intro q hq; simp only [List.mem_cons, List.not_mem_nil, or_false] at hq; subst hq; exact wf_near _ (by omega))).rd
      simpa using this
    have hrd := rdS_lit ((w3.alloc (.cells #[.int .i64 (n - 1)] 3)).alloc (.cells #[.int .i64 1011] 3)) [.slice A2 (inside a).length c2, .slice (some ⟨w3.heap.size, 0, none⟩) 1 1, .slice A1 a.length c1, .slice (some ⟨w3.heap.size + 1, 0, none⟩) 1 1] [inside a, [n - 1], a, [1011]] rfl (by simp) (by
      intro j u zs hu hz
      rcases j with _ | _ | _ | _ | j
      · simp at hu hz; subst hu; subst hz; exact RdI.step ⟨_, _, rfl, HI.out.1, ‹_›⟩ hb2
      · simp at hu hz; subst hu; subst hz; exact l1
      · simp at hu hz; subst hu; subst hz; exact RdI.step ⟨_, _, rfl, HI.out.2, ‹_›⟩ hb2
      · simp at hu hz; subst hu; subst hz; exact l2
      · simp at hu)
    simp only [World.size_alloc, List.length_cons, List.length_nil] at hrd
    have hb3 := hb2.alloc (by simp; omega) (.cells #[.slice A2 (inside a).length c2, .slice (some ⟨w3.heap.size, 0, none⟩) 1 1, .slice A1 a.length c1, .slice (some ⟨w3.heap.size + 1, 0, none⟩) 1 1] 23)
    have V := Lib.hid (And.intro hrd hb3); clear hrd hb3 l1 l2 hb2 HI
    have hfl : ([inside a, [n - 1], a, [1011]] : List (List Int)).flatten = inside a ++ ((n - 1) :: (a ++ [1011])) := by simp
    have Hfl := Lib.hid hfl; clear hfl
    refine (concatS _ [inside a, [n - 1], a, [1011]] _ V.out.1 (by simp) (by rw [Hfl.out]; simp; omega)).mono ?_
    rw [Hfl.out]
    rintro e w4 ⟨q, rfl, ho, hb⟩
    have hb4 : Below w3.heap.size w3 w4 := V.out.2.trans (hb.mono (by simp; omega))
    have hlen : (inside a ++ ((n - 1) :: (a ++ [1011]))).length ≤ 200 := by simp; omega
    generalize inside a ++ ((n - 1) :: (a ++ [1011])) = f at *
    have hval := Z.out.1.new_val hb4 (hi := w4.heap.size) (u := q) (zs := f) ((ho.mono (by simp; omega)).within)
    obtain ⟨r1, r2⟩ := Z.out.1.step hb4
    have T := Lib.hid (And.intro r1 (And.intro hval (Z.out.2.1.trans r2))); clear r1 r2 hval ho hb hb4 V
    have hlt4 := T.out.1.lt
    go_wp2_with fail
    refine (ahead_any lo g rest _ q f _ T.out.1 T.out.2.1 (by omega)).mono ?_
    rintro e w5 ⟨rfl, r1, r2⟩
    have S := Lib.hid (And.intro r1 (T.out.2.2.trans r2)); clear r1 r2
    go_wp2
    go_ret
    exact Did.yes S.out.2 S.out.1
  · have hr0 : R = some (rest, st.tail.tail) := by rw [HR.out]; simp [h0]
    subst hr0
    go_wp2
    go_ret
    exact Did.yes Z.out.2.1 Z.out.1
end Go.Proofs.Ytenaeiedoiepdaa
namespace Go.Proofs.Ytenaeiedoiepdaa
set_option maxRecDepth 100000
open Go.RowKit Go.WideShapes

theorem apt_hi {w w' : World} {g k hi : Nat} (h : Apt w g k) (hb : Below hi w w') (hk : k < hi) (hg : g < hi) : Apt w' g k ∧ w'.heap[k]? = w.heap[k]? := by
  obtain ⟨h1, h2, h3⟩ := h
  exact ⟨⟨h1.of_eq (hb.block k hk), h2, fun vr vs fl hblk => h3 vr vs fl ((hb.block g hg).symm.trans hblk)⟩, hb.block k hk⟩
theorem Keeps.hi {w0 w w' : World} {lo g : Nat} (h : Keeps lo g w0 w) (hb : Below w0.heap.size w w') (hg : g < w0.heap.size) (hlo : lo ≤ w0.heap.size) : Keeps lo g w0 w' :=
  ⟨h.below.trans (hb.mono hlo), fun k hk => by
    obtain ⟨h1, h2⟩ := h.apt k hk
    obtain ⟨h3, h4⟩ := apt_hi h1 hb hk.1.lt hg
    exact ⟨h3, h4.trans h2⟩⟩
theorem RunAt.hi {w w' : World} {lo g hi : Nat} {vr vs : Value} {us : List Value} {rest : List Int} {st : List (List Int)} (h : RunAt w lo g vr vs us rest st) (hb : Below hi w w') (hg : g < hi) (h1 : ∀ k, vr.ownBlock = some k → k < hi) (h2 : ∀ k, vs.ownBlock = some k → k < hi)
    (h3 : ∀ (j : Nat) u zs, us[j]? = some u → st.reverse[j]? = some zs → zs = [] ∨ ∃ k, u.ownBlock = some k ∧ k < hi) : RunAt w' lo g vr vs us rest st := by
  refine ⟨h.blk.below hb hg, h.ge, ownsRow_keep h.words fun k hk => hb.block k (h1 k hk), h.wf, h.len, ownsRow_keep h.vals fun k hk => hb.block k (h2 k hk), fun j u zs hu hz => ?_⟩
  obtain ⟨v1, v2⟩ := h.inner j u zs hu hz
  rcases v2 with h0 | ⟨k, hk, ha⟩
  · exact ⟨v1.kept hb.size (.inl h0), .inl h0⟩
  · rcases h3 j u zs hu hz with h0 | ⟨k', hk', hlt⟩
    · exact ⟨v1.kept hb.size (.inl h0), .inl h0⟩
    · obtain rfl : k = k' := by rw [hk] at hk'; exact Option.some.inj hk'
      obtain ⟨h4, h5⟩ := apt_hi ha hb hlt hg
      exact ⟨v1.kept hb.size (.inr ⟨k, hk, h5⟩), .inr ⟨k, hk, h4⟩⟩

def QRel (lo g : Nat) (rest : List Int) (n : Nat) (st : List (List Int)) (w : World) (vr vs : Value) (us : List Value) (v o : Value) (wr : World) : Prop := ∃ (k : Nat) (x : Int) (vr' : Value) (A : Option Addr) (c : Nat), k ≤ n ∧ v = .slice A (k + 1) c ∧ o = .int .i64 x ∧ x ≤ k + 1 ∧ ((1 ≤ x ∧ ∃ m, cutAt x (rest.drop k) = some m ∧ k + m = n) ∨ (x = 0 ∧ k = n)) ∧ w.heap.size ≤ wr.heap.size ∧
    RunAt wr lo g vr' vs us (rest.drop k) st ∧ vr'.ownBlock = vr.ownBlock ∧ Keeps lo g w wr ∧ OwnI wr w.heap.size wr.heap.size v (1012 :: rest.take k)
def QuotedPost (lo g : Nat) (rest : List Int) (n : Nat) (st : List (List Int)) (w : World) (e : Ending) (w' : World) : Prop := ∃ u, e = .returned u ∧ Val w' g u (1012 :: rest.take n) ∧ Run w' lo g (rest.drop n) st ∧ Keeps lo g w w'
theorem quoted_any (lo g : Nat) (rest : List Int) (n : Nat) (st : List (List Int)) (w : World) (h : Run w lo g rest st) (hc : cutAt 1 rest = some n) (hn : n ≤ rest.length) (hl : rest.length ≤ 700000000) :
    Calls Try.prog 33 #[.pointer (some ⟨g, 0, none⟩)] w (QuotedPost lo g rest n st w) := by
  have hlt := h.lt
  have hlo := h.lo
  obtain ⟨vr, vs, us, h⟩ := h
  have f1 : ∀ k, vr.ownBlock = some k → k < w.heap.size := fun k hk => (h.words.lt k hk).2
  have f2 : ∀ k, vs.ownBlock = some k → k < w.heap.size := fun k hk => (h.vals.lt k hk).2
  have f3 : ∀ (j : Nat) u zs, us[j]? = some u → st.reverse[j]? = some zs → zs = [] ∨ ∃ k, u.ownBlock = some k ∧ k < w.heap.size := fun j u zs hu hz => (h.inner j u zs hu hz).1.own_lt
  have hb0 : Below w.heap.size w (w.alloc (.cells #[.int .i64 1012] 3)) := (Below.refl _ _).alloc (Nat.le_refl _) _
  have h1 := h.hi hb0 hlt f1 f2 f3
  have k1 := (Keeps.refl lo g w).hi hb0 hlt hlo
  have o1 := lits_own w [1012] (by simp) (by intro q hq; simp only [List.mem_cons, List.not_mem_nil, or_false] at hq; subst hq; exact wf_near _ (by omega))
  have o1' : OwnI (w.alloc (.cells #[.int .i64 1012] 3)) w.heap.size (w.alloc (.cells #[.int .i64 1012] 3)).heap.size (.slice (some ⟨w.heap.size, 0, none⟩) 1 1) [1012] := by simpa using o1
  have F := Lib.hid (And.intro f1 (And.intro f2 f3))
  have S0 := Lib.hid (And.intro h1 (And.intro k1 o1'))
  have Hc := Lib.hid hc
  clear h hb0 h1 k1 o1 o1' f1 f2 f3 hc
  go_enter Try.func33, Try.ntmps33
  go_wp2
  go_loopw [3, 4] (fun v o wr => QRel lo g rest n st w vr vs us v o wr) (fun v _ _ => n + 2 - lenV v)
  case atStart => exact ⟨0, 1, vr, _, _, by omega, rfl, rfl, by omega, .inl ⟨by omega, n, by simpa using Hc.out, by omega⟩, by simp, by simpa using S0.out.1, rfl, S0.out.2.1, by simpa using S0.out.2.2⟩
  case round =>
    clear S0 Hc
    obtain ⟨k, x, vr', A, c, hk, rfl, rfl, hx, hcut, hsz, hrun, hvr, hkeep, hown⟩ := hrel
    have X := Lib.hid (And.intro hrun (And.intro hvr (And.intro hkeep hown))); clear hrun hvr hkeep hown
    rcases hcut with ⟨hx1, m, hm, hkm⟩ | ⟨rfl, rfl⟩
    · have hkm1 : k + m ≤ n := by omega
      have hkm2 : n ≤ k + m := by omega
      clear hkm
      have hkl : k < rest.length := by
        rcases Nat.lt_or_ge k rest.length with h1 | h1
        · exact h1
        · rw [List.drop_eq_nil_of_le h1] at hm; simp [cutAt] at hm
      have hdr := List.drop_eq_getElem_cons hkl
      rw [cutAt_drop x rest k hkl] at hm
      have hts : 1012 :: rest.take (k + 1) = (1012 :: rest.take k) ++ [rest[k]] := by
        rw [List.take_add_one, List.getElem?_eq_getElem hkl]; rfl
      have hgd : rest.getD k 0 = rest[k] := by simp [List.getD, List.getElem?_eq_getElem hkl]
      rw [hgd] at hm
      have hbd := brk_bd rest[k]
      have hdl : (rest.drop (k + 1)).length ≤ 900000000 := by simp; omega
      generalize rest[k] = z at *
      have Hts := Lib.hid hts; have Hm := Lib.hid hm; clear hts hm hgd
      have hr1 := X.out.1
      rw [hdr] at hr1
      have Hr1 := Lib.hid hr1; clear hr1 hdr
      have hltr := X.out.1.blk.lt
      go_wp2_with fail
      refine (popN_at lo g vr' vs us z (rest.drop (k + 1)) st _ Hr1.out hdl).mono ?_
      rintro e w1 ⟨rfl, hz, ⟨vr2, r1, r2⟩, r3, r4, r5⟩
      have hz5 : wr.heap.size ≤ w1.heap.size := by omega
      have hz6 : w1.heap.size ≤ wr.heap.size := by omega
      have ho1 := X.out.2.2.2.apart r4 (by omega)
      have Y := Lib.hid (And.intro r1 (And.intro (r2.trans X.out.2.1) (And.intro (X.out.2.2.1.trans r3) (And.intro ho1 hz)))); clear r1 r2 r3 r4 r5 ho1 hz Hr1
      have hbl : Below w1.heap.size w1 (w1.alloc (.cells #[.int .i64 z] 3)) := (Below.refl _ _).alloc (Nat.le_refl _) _
      have hlit : RdI (w1.alloc (.cells #[.int .i64 z] 3)) (.slice (some ⟨w1.heap.size, 0, none⟩) 1 1) [z] := by
        have := (lits_own w1 [z] (by simp) (by intro q hq; simp only [List.mem_cons, List.not_mem_nil, or_false] at hq; subst hq; exact Y.out.2.2.2.2)).rd
        simpa using this
      have ho2 : OwnI (w1.alloc (.cells #[.int .i64 z] 3)) w.heap.size wr.heap.size (.slice A (k + 1) c) (1012 :: rest.take k) := Y.out.2.2.2.1.belowB hbl (by omega)
      have L := Lib.hid (And.intro hlit ho2); clear hlit ho2
      have hlk : (1012 :: rest.take k).length + ([z] : List Int).length ≤ 1000000000 := by simp; omega
      have Hlk := Lib.hid hlk; clear hlk
      go_wp2_with (at_builtin; refine wpList_append_V rfl _ _ _ rfl Try.underlying23 intInfo w.heap.size wr.heap.size _ (1012 :: rest.take k) rfl L.out.2 (by simp; omega) _ [z] rfl L.out.1 Hlk.out ?_)
      intro v3 w3 hown3 hb3
      have hs3 := hb3.size
      rw [List.cons_append] at Hts
      rw [← Hts.out] at hown3
      obtain ⟨A3, c3, hv3, _⟩ := hown3.rd
      have hlen3 : (1012 :: rest.take (k + 1)).length = k + 1 + 1 := by simp; omega
      rw [hlen3] at hv3
      subst hv3
      have hbw : Below w.heap.size w1 w3 := (hbl.mono (by omega)).trans hb3
      have Z := Lib.hid (And.intro (Y.out.1.hi hbw hlt (fun q hq => F.out.1 q (by rw [← Y.out.2.1]; exact hq)) F.out.2.1 F.out.2.2) (And.intro Y.out.2.1 (And.intro (Y.out.2.2.1.hi hbw hlt hlo) hown3)))
      clear hown3 hb3 hbw hbl L Y X hlen3
      have hsz3 : w.heap.size ≤ w3.heap.size := by simp at hs3; omega
      go_wp2_with fail
      refine (bracketChange_any z _).mono ?_
      rintro e w' ⟨rfl, rfl⟩
      by_cases h0 : x + brk z = 0
      · have hm1 := Hm.out
        rw [if_pos h0] at hm1
        injection hm1 with hm1
        have hm2 : m ≤ 1 := by omega
        have hm3 : 1 ≤ m := by omega
        clear hm1
        have H0 := Lib.hid h0; clear h0
        go_wp2
        go_roundw
        case rel => exact ⟨k + 1, x + brk z, vr2, A3, c3, by omega, rfl, rfl, by omega, .inr ⟨H0.out, by omega⟩, hsz3, Z.out⟩
        case measure => simp [lenV]; omega
      · have hm1 := Hm.out
        rw [if_neg h0] at hm1
        obtain ⟨m', hm', hmm⟩ := Option.map_eq_some_iff.1 hm1
        have Hm' := Lib.hid hm'
        have hmm1 : m' + 1 ≤ m := by omega
        have hmm2 : m ≤ m' + 1 := by omega
        clear hm1 hm' hmm
        have hmp : 1 ≤ x + brk z := by omega
        go_wp2
        go_roundw
        case rel => exact ⟨k + 1, x + brk z, vr2, A3, c3, by omega, rfl, rfl, by omega, .inl ⟨hmp, m', Hm'.out, by omega⟩, hsz3, Z.out⟩
        case measure => simp [lenV]; omega
    · have hval : Val wr g (.slice A (k + 1) c) (1012 :: rest.take k) := by
        refine ⟨X.out.2.2.2.rd, ?_⟩
        rcases X.out.2.2.2.rd.own_c with h0 | ⟨q, hq, hcq⟩
        · cases h0
        · refine .inr ⟨q, hq, X.out.1.apt hcq ?_ ?_ ?_⟩
          · have := (X.out.2.2.2.own.ge q hq).1; omega
          · intro e'; have h1 := F.out.1 q (by rw [← X.out.2.1]; exact e'); have := (X.out.2.2.2.own.ge q hq).1; omega
          · intro e'; have h1 := F.out.2.1 q e'; have := (X.out.2.2.2.own.ge q hq).1; omega
      have HV := Lib.hid hval; clear hval
      go_wp2
      go_ret
      exact ⟨_, rfl, HV.out, ⟨vr', vs, us, X.out.1⟩, X.out.2.2.1⟩
end Go.Proofs.Ytenaeiedoiepdaa
namespace Go.Proofs.Ytenaeiedoiepdaa
set_option maxRecDepth 100000
open Go.RowKit Go.WideShapes

theorem stackB_mk {st : List (List Int)} (hl : st.length ≤ 20) (hv : ∀ v ∈ st, valueB v = true) : stackB st = true := by
  simp only [stackB, Bool.and_eq_true, decide_eq_true_eq, List.all_eq_true]; exact ⟨hl, hv⟩
theorem stackB_len {st : List (List Int)} (hl : ¬ st.length ≤ 20) : stackB st = false := by simp [stackB, hl]
theorem stepR_some {r : List Int} {st : List (List Int)} {x : List Int × List (List Int)} (h : l2R r st = some x) (hs : stackB x.2 = true) : stepR r st = some x := by simp [stepR, h, hs]
theorem stepR_bad {r : List Int} {st : List (List Int)} {x : List Int × List (List Int)} (h : l2R r st = some x) (hs : stackB x.2 = false) : stepR r st = none := by simp [stepR, h, hs]
theorem stepR_none {r : List Int} {st : List (List Int)} (h : l2R r st = none) : stepR r st = none := by simp [stepR, h]
theorem l2R_op {z : Int} {r : List Int} {st : List (List Int)} (h1 : ¬ z ≤ 999) (h2 : z ≠ 1012) : l2R (z :: r) st = opR z r st := by rw [l2R, if_neg h1, if_neg h2]

section
variable {r : List Int} {st : List (List Int)}
theorem step_put {z : Int} {zs rest : List Int} (h : l2R (z :: r) st = some (rest, zs :: st)) (hz : valueB zs = decide (zs.length ≤ 60)) (hl : st.length ≤ 20) (hv : ∀ v ∈ st, valueB v = true) : stepR (z :: r) st = putR zs rest st := by
  unfold putR
  by_cases h60 : zs.length ≤ 60
  · by_cases h20 : st.length < 20
    · rw [if_pos ⟨h60, h20⟩]
      refine stepR_some h (stackB_mk (by rw [List.length_cons]; omega) (fun v hv' => ?_))
      rcases List.mem_cons.1 hv' with rfl | hv'
      · rw [hz, decide_eq_true h60]
      · exact hv v hv'
    · rw [if_neg (fun h => h20 h.2)]
      exact stepR_bad h (stackB_len (by rw [List.length_cons]; omega))
  · rw [if_neg (fun h => h60 h.1)]
    refine stepR_bad h ?_
    simp [stackB, hz, h60]
theorem step_num {z : Int} (hz : isNumB z = true) (hl : st.length ≤ 20) (hv : ∀ v ∈ st, valueB v = true) : stepR (z :: r) st = putR [z] r st := by
  refine step_put ?_ ?_ hl hv
  · have : z ≤ 999 := by simp [isNumB] at hz; omega
    rw [l2R, if_pos this]
  · rw [valueB_num, hz]; rfl
theorem step_quote (h : okS (1012 :: r) st) : ∃ n, cutAt 1 r = some n ∧ n ≤ r.length ∧ stepR (1012 :: r) st = putR (1012 :: r.take n) (r.drop n) st := by
  obtain ⟨hr, hs⟩ := h
  obtain ⟨hl, hv⟩ := stackB_all hs
  obtain ⟨n, m, hc, hn, h2, ht, hf, ha, hnm, hd⟩ := quote_cut hr
  have hb : brk 1012 = 1 := rfl
  obtain ⟨k, rfl⟩ : ∃ k, n = k + 1 := ⟨n - 1, by omega⟩
  refine ⟨k, ?_, by omega, ?_⟩
  · rw [cutAt, hb, if_neg (by omega)] at hc
    rcases hx : cutAt (0 + 1) r with _ | q
    · rw [hx] at hc; simp at hc
    · rw [hx] at hc; simp at hc
      rw [show (1 : Int) = 0 + 1 from rfl, hx, hc]
  · refine step_put ?_ ?_ hl hv
    · rw [l2R, if_neg (by omega), if_pos rfl, hc]; rfl
    · rw [List.take_succ_cons] at ht
      rw [ht, valueB_wrap]
      have hl2 : (1012 :: (m ++ [1013])).length = m.length + 2 := by simp
      rw [hl2]
      by_cases h60 : m.length + 2 ≤ 60
      · simp only [validB, hf, ha, Bool.and_true]
        rw [decide_eq_true h60, decide_eq_true (show m.length ≤ 60 by omega)]; rfl
      · rw [decide_eq_false h60]; rfl
theorem step_dup (hl : st.length ≤ 20) (hv : ∀ v ∈ st, valueB v = true) : stepR (1001 :: r) st = dupR r st := by
  rcases st with _ | ⟨a, s1⟩
  · exact stepR_none (by rw [l2R_op (by omega) (by omega)]; rfl)
  · have h : l2R (1001 :: r) (a :: s1) = some (r, a :: a :: s1) := by rw [l2R_op (by omega) (by omega)]; simp [opR, opR1]
    rw [dupR]
    by_cases h2 : s1.length + 2 ≤ 20
    · rw [if_pos h2]
      refine stepR_some h (stackB_mk (by simpa using h2) (fun v hv' => hv v ?_))
      simp at hv' ⊢; rcases hv' with h | h
      · exact .inl h
      · exact .inr h
    · rw [if_neg h2]
      exact stepR_bad h (stackB_len (by simpa using h2))
/-- The step could be done, but for too many values, or one that is too long. -/
def fullB (r : List Int) (st : List (List Int)) : Bool := (l2R r st).isSome
theorem full_yes {x : List Int × List (List Int)} (h : l2R r st = some x) : true = fullB r st := by rw [fullB, h]; rfl
theorem full_no (h : ∀ x, l2R r st = some x → stackB x.2 = true) : stepR r st = none → false = fullB r st := by
  intro hn
  rcases hx : l2R r st with _ | x
  · rw [fullB, hx]; rfl
  · rw [stepR_some hx (h x hx)] at hn; cases hn
theorem full_dup {st : List (List Int)} : (!st.isEmpty) = fullB (1001 :: r) st := by
  rw [fullB, l2R_op (by omega) (by omega)]
  rcases st with _ | ⟨a, s1⟩
  · rfl
  · simp [opR, opR1]
theorem full_op {z : Int} (h1 : ¬ z ≤ 1001) (h2 : z ≠ 1012) (hl : st.length ≤ 20) (hv : ∀ v ∈ st, valueB v = true) : stepR (z :: r) st = none → false = fullB (z :: r) st := by
  refine full_no fun x hx => ?_
  rw [l2R_op (by omega) h2] at hx
  rcases st with _ | ⟨a, s1⟩
  · simp [opR] at hx
  have hl1 : s1.length ≤ 19 := by rw [List.length_cons] at hl; omega
  have hv1 : ∀ v ∈ s1, valueB v = true := fun v hx => hv v (by simp [hx])
  rw [opR] at hx
  unfold opR1 at hx
  rw [if_neg (by omega)] at hx
  split at hx
  · cases hx; exact stackB_mk (by dsimp only; omega) hv1
  split at hx
  · cases hx; exact stackB_mk (by dsimp only; omega) hv1
  rcases s1 with _ | ⟨b, s2⟩
  · cases hx
  have hl2 : s2.length ≤ 18 := by rw [List.length_cons] at hl1; omega
  have hv2 : ∀ v ∈ s2, valueB v = true := fun v hx => hv1 v (by simp [hx])
  dsimp only at hx
  unfold opR2 at hx
  split at hx
  · cases hx
    refine stackB_mk (by simp only [List.length_cons]; omega) fun v hv' => ?_
    rcases List.mem_cons.1 hv' with rfl | hv'
    · exact hv1 _ (by simp)
    rcases List.mem_cons.1 hv' with rfl | hv'
    · exact hv _ (by simp)
    · exact hv2 v hv'
  split at hx
  · cases hx; exact stackB_mk (by dsimp only; omega) hv2
  split at hx
  · cases hx; exact stackB_mk (by dsimp only; omega) hv2
  split at hx
  · cases hx
    refine stackB_mk (by simp only [List.length_cons]; omega) fun v hv' => ?_
    rcases List.mem_cons.1 hv' with rfl | hv'
    · rw [valueB_num]; have := @reck_num z (b.getD 0 0) (a.getD 0 0); simp only [isNumB, Bool.and_eq_true, decide_eq_true_eq]; exact this
    · exact hv2 v hv'
  rcases s2 with _ | ⟨c, s3⟩
  · cases hx
  dsimp only at hx
  unfold opR3 at hx
  split at hx
  · cases hx; exact stackB_mk (by rw [List.length_cons] at hl2; dsimp only; omega) (fun v hx => hv2 v (by simp [show v ∈ s3 from hx]))
  · cases hx
def dropR (r : List Int) : List (List Int) → Option (List Int × List (List Int))
  | [] => none
  | _ :: s1 => some (r, s1)
theorem step_drop (hl : st.length ≤ 20) (hv : ∀ v ∈ st, valueB v = true) : stepR (1002 :: r) st = dropR r st := by
  rcases st with _ | ⟨a, s1⟩
  · exact stepR_none (by rw [l2R_op (by omega) (by omega)]; rfl)
  · have h : l2R (1002 :: r) (a :: s1) = some (r, s1) := by rw [l2R_op (by omega) (by omega)]; simp [opR, opR1]
    exact stepR_some h (stackB_mk (by rw [List.length_cons] at hl; dsimp only; omega) (fun v hv' => hv v (by simp [show v ∈ s1 from hv'])))
theorem step_swap (hl : st.length ≤ 20) (hv : ∀ v ∈ st, valueB v = true) : stepR (1003 :: r) st = swapR r st := by
  rcases st with _ | ⟨a, _ | ⟨b, s2⟩⟩
  · exact stepR_none (by rw [l2R_op (by omega) (by omega)]; rfl)
  · exact stepR_none (by rw [l2R_op (by omega) (by omega)]; simp [opR, opR1])
  · have h : l2R (1003 :: r) (a :: b :: s2) = some (r, b :: a :: s2) := by rw [l2R_op (by omega) (by omega)]; simp [opR, opR1, opR2]
    refine stepR_some h (stackB_mk (by simpa using hl) (fun v hv' => hv v ?_))
    simp at hv' ⊢
    rcases hv' with h | h | h
    · exact .inr (.inl h)
    · exact .inl h
    · exact .inr (.inr h)
theorem step_call (hl : st.length ≤ 20) (hv : ∀ v ∈ st, valueB v = true) : stepR (1005 :: r) st = callR r st := by
  rcases st with _ | ⟨a, s1⟩
  · exact stepR_none (by rw [l2R_op (by omega) (by omega)]; rfl)
  · rw [callR]
    by_cases h1 : 1 < a.length
    · rw [if_pos h1]
      have h : l2R (1005 :: r) (a :: s1) = some (inside a ++ r, s1) := by rw [l2R_op (by omega) (by omega)]; simp [opR, opR1, h1]
      exact stepR_some h (stackB_mk (by rw [List.length_cons] at hl; dsimp only; omega) (fun v hv' => hv v (by simp [show v ∈ s1 from hv'])))
    · rw [if_neg h1]
      refine stepR_none ?_
      rw [l2R_op (by omega) (by omega)]
      rcases s1 with _ | ⟨b, _ | ⟨c, s3⟩⟩
      · simp [opR, opR1, h1]
      · simp [opR, opR1, opR2, h1]
      · simp [opR, opR1, opR2, opR3, h1]
theorem step_dip (hl : st.length ≤ 20) (hv : ∀ v ∈ st, valueB v = true) : stepR (1004 :: r) st = dipR r st := by
  rcases st with _ | ⟨a, _ | ⟨b, s2⟩⟩
  · exact stepR_none (by rw [l2R_op (by omega) (by omega)]; rfl)
  · exact stepR_none (by rw [l2R_op (by omega) (by omega)]; simp [opR, opR1])
  · rw [dipR]
    by_cases h1 : 1 < a.length
    · rw [if_pos h1]
      have h : l2R (1004 :: r) (a :: b :: s2) = some (inside a ++ (b ++ r), s2) := by rw [l2R_op (by omega) (by omega)]; simp [opR, opR1, opR2, h1]
      exact stepR_some h (stackB_mk (by rw [List.length_cons, List.length_cons] at hl; dsimp only; omega) (fun v hv' => hv v (by simp [show v ∈ s2 from hv'])))
    · rw [if_neg h1]
      refine stepR_none ?_
      rw [l2R_op (by omega) (by omega)]
      rcases s2 with _ | ⟨c, s3⟩
      · simp [opR, opR1, opR2, h1]
      · simp [opR, opR1, opR2, opR3, h1]
theorem step_reck {z : Int} (hz : 1006 ≤ z ∧ z ≤ 1009) (hl : st.length ≤ 20) (hv : ∀ v ∈ st, valueB v = true) : stepR (z :: r) st = reckR z r st := by
  have e1 : ¬ z = 1001 := by omega
  have e2 : ¬ z = 1002 := by omega
  have e3 : ¬ z = 1005 := by omega
  have e4 : ¬ z = 1003 := by omega
  have e5 : ¬ z = 1004 := by omega
  have e6 : ¬ z = 1011 := by omega
  have e7 : ¬ z = 1010 := by omega
  rcases st with _ | ⟨a, _ | ⟨b, s2⟩⟩
  · exact stepR_none (by rw [l2R_op (by omega) (by omega)]; rfl)
  · refine (stepR_none ?_).trans ?_
    · rw [l2R_op (by omega) (by omega)]; simp [opR, opR1, e1, e2, e3]
    · simp [reckR, numR]
  · rw [reckR]
    by_cases h1 : 1 < a.length
    · have h0 : ¬ ((numR (a :: b :: s2)).2 = true ∧ (numR (a :: b :: s2).tail).2 = true) := by simp [numR, h1]
      rw [if_neg h0]
      refine stepR_none ?_
      rw [l2R_op (by omega) (by omega)]
      rcases s2 with _ | ⟨c, s3⟩
      · simp [opR, opR1, opR2, h1, e1, e2, e3, e4, e5, e6]
      · simp [opR, opR1, opR2, opR3, h1, e1, e2, e3, e4, e5, e6, e7]
    · by_cases h2 : 1 < b.length
      · have h0 : ¬ ((numR (a :: b :: s2)).2 = true ∧ (numR (a :: b :: s2).tail).2 = true) := by simp [numR, h2]
        rw [if_neg h0]
        refine stepR_none ?_
        rw [l2R_op (by omega) (by omega)]
        rcases s2 with _ | ⟨c, s3⟩
        · simp [opR, opR1, opR2, h1, h2, e1, e2, e3, e4, e5, e6]
        · simp [opR, opR1, opR2, opR3, h1, h2, e1, e2, e3, e4, e5, e6, e7]
      · have h0 : (numR (a :: b :: s2)).2 = true ∧ (numR (a :: b :: s2).tail).2 = true := by simp [numR, h1, h2]
        rw [if_pos h0]
        have en : (numR (a :: b :: s2)).1 = a.getD 0 0 ∧ (numR (a :: b :: s2).tail).1 = b.getD 0 0 := by
          constructor
          · rw [numR, if_neg h1]
          · rw [List.tail_cons, numR, if_neg h2]
        rw [en.1, en.2]
        have h : l2R (z :: r) (a :: b :: s2) = some (r, [reck z (b.getD 0 0) (a.getD 0 0)] :: s2) := by
          rw [l2R_op (by omega) (by omega)]
          unfold opR opR1 opR2
          simp only [if_neg e1, if_neg e2, if_neg e4, e3, e5, e6, false_and, if_false]
          rw [if_pos ⟨hz, h1, h2⟩]
        refine (stepR_some h (stackB_mk ?_ ?_)).trans rfl
        · simp at hl ⊢; omega
        · intro v hv'
          rcases List.mem_cons.1 hv' with rfl | hv'
          · rw [valueB_num]; have := @reck_num z (b.getD 0 0) (a.getD 0 0); simp only [isNumB, Bool.and_eq_true, decide_eq_true_eq]; exact this
          · exact hv v (by simp [show v ∈ s2 from hv'])
theorem step_if (hl : st.length ≤ 20) (hv : ∀ v ∈ st, valueB v = true) : stepR (1010 :: r) st = chooseR r st := by
  rcases st with _ | ⟨a, _ | ⟨b, _ | ⟨c, s3⟩⟩⟩
  · exact stepR_none (by rw [l2R_op (by omega) (by omega)]; rfl)
  · refine (stepR_none ?_).trans (by simp [chooseR, progR])
    rw [l2R_op (by omega) (by omega)]; simp [opR, opR1]
  · refine (stepR_none ?_).trans (by simp [chooseR, progR, numR])
    rw [l2R_op (by omega) (by omega)]; simp [opR, opR1, opR2]
  · by_cases h : 1 < a.length ∧ 1 < b.length ∧ ¬ 1 < c.length
    · obtain ⟨h1, h2, h3⟩ := h
      have hc := (num_of_value (hv c (by simp)) h3).2
      have hl2 : l2R (1010 :: r) (a :: b :: c :: s3) = some ((if 0 < c.getD 0 0 then inside b else inside a) ++ r, s3) := by
        rw [l2R_op (by omega) (by omega)]
        unfold opR opR1 opR2 opR3
        simp only [h1, h2, h3, not_true, not_false_iff, and_true, and_false, and_self, if_true, if_false]
        simp
      refine (stepR_some hl2 (stackB_mk (by simp at hl ⊢; omega) (fun v hv' => hv v (by simp [show v ∈ s3 from hv'])))).trans ?_
      rw [chooseR]
      have hp : progR (a :: b :: c :: s3) = true ∧ progR (a :: b :: c :: s3).tail = true ∧ (numR (a :: b :: c :: s3).tail.tail).2 = true := by simp [progR, numR, h1, h2, h3]
      rw [if_pos hp]
      have en : (numR (a :: b :: c :: s3).tail.tail).1 = c.getD 0 0 := by rw [List.tail_cons, List.tail_cons, numR, if_neg h3]
      rw [en]
      simp only [List.headD_cons, List.tail_cons]
      by_cases h0 : c.getD 0 0 = 0
      · rw [if_pos h0, if_neg (by omega)]
      · rw [if_neg h0, if_pos (by omega)]
    · refine (stepR_none ?_).trans ?_
      · rw [l2R_op (by omega) (by omega)]
        unfold opR opR1 opR2 opR3
        simp <;> intros <;> omega
      · rw [chooseR, if_neg]
        intro hp
        refine h ⟨by simpa [progR] using hp.1, by simpa [progR] using hp.2.1, fun h3 => ?_⟩
        have := hp.2.2
        simp [numR, h3] at this
theorem step_times (hl : st.length ≤ 20) (hv : ∀ v ∈ st, valueB v = true) : stepR (1011 :: r) st = timesR r st := by
  rcases st with _ | ⟨a, _ | ⟨b, s2⟩⟩
  · exact stepR_none (by rw [l2R_op (by omega) (by omega)]; rfl)
  · refine (stepR_none ?_).trans (by simp [timesR, numR])
    rw [l2R_op (by omega) (by omega)]; simp [opR, opR1]
  · by_cases h : 1 < a.length ∧ ¬ 1 < b.length
    · obtain ⟨h1, h3⟩ := h
      have hl2 : l2R (1011 :: r) (a :: b :: s2) = some (if 0 < b.getD 0 0 then inside a ++ ((b.getD 0 0 - 1) :: a) ++ [1011] ++ r else r, s2) := by
        rw [l2R_op (by omega) (by omega)]
        unfold opR opR1 opR2
        simp only [h1, h3, not_true, not_false_iff, and_true, and_false, and_self, if_true, if_false]
        simp
      refine (stepR_some hl2 (stackB_mk (by simp at hl ⊢; omega) (fun v hv' => hv v (by simp [show v ∈ s2 from hv'])))).trans ?_
      rw [timesR]
      have hp : progR (a :: b :: s2) = true ∧ (numR (a :: b :: s2).tail).2 = true := by simp [progR, numR, h1, h3]
      rw [if_pos hp]
      have en : (numR (a :: b :: s2).tail).1 = b.getD 0 0 := by rw [List.tail_cons, numR, if_neg h3]
      rw [en]
      simp only [List.headD_cons, List.tail_cons]
      by_cases h0 : 0 < b.getD 0 0
      · rw [if_pos h0, if_pos h0]; simp
      · rw [if_neg h0, if_neg h0]
    · refine (stepR_none ?_).trans ?_
      · rw [l2R_op (by omega) (by omega)]
        rcases s2 with _ | ⟨c, s3⟩
        · unfold opR opR1 opR2
          simp <;> intros <;> omega
        · unfold opR opR1 opR2 opR3
          simp <;> intros <;> omega
      · rw [timesR, if_neg]
        intro hp
        refine h ⟨by simpa [progR] using hp.1, fun h3 => ?_⟩
        have := hp.2
        simp [numR, h3] at this
end
end Go.Proofs.Ytenaeiedoiepdaa
