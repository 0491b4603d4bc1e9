/- The program's runner: contracts of reckon, call, dip, choose, times. -/
import Derived.Test.YtmhhmdakilecoaaRm
namespace Go.Proofs.Ytmhhmdakilecoaa
set_option maxRecDepth 100000
open Go.RowKit Go.WideShapes

theorem reckoned_any (op a b : Int) (w : World) (ha : 0 ≤ a ∧ a ≤ 999) (hb : 0 ≤ b ∧ b ≤ 999) :
    Calls Try.prog 128 #[.int .i64 op, .int .i64 a, .int .i64 b] w fun e w' => e = .returned (.int .i64 (reck op a b)) ∧ w = w' := by
  have hm : 0 ≤ a * b ∧ a * b ≤ 998001 := by
    refine ⟨Int.mul_nonneg ha.1 hb.1, ?_⟩
    have : a * b ≤ 999 * 999 := Int.mul_le_mul ha.2 hb.2 hb.1 (by omega)
    omega
  obtain ⟨hm1, hm2⟩ := hm
  by_cases h1 : op = 1006
  · subst h1
    go_enter Try.func128, Try.ntmps128
    go_wp2
    go_ret
    exact ⟨ret_i64 (by simp [reck]), rfl⟩
  · by_cases h2 : op = 1007
    · subst h2
      go_enter Try.func128, Try.ntmps128
      go_wp2
      go_ret
      exact ⟨ret_i64 (by simp [reck]), rfl⟩
    · by_cases h3 : op = 1008
      · subst h3
        go_enter Try.func128, Try.ntmps128
        go_wp2
        go_ret
        exact ⟨ret_i64 (by simp [reck]), rfl⟩
      · have e1 : (op == 1006) = false := by simpa using h1
        have e2 : (op == 1007) = false := by simpa using h2
        have e3 : (op == 1008) = false := by simpa using h3
        have hR : reck op a b = if a < b then 1 else 0 := by simp [reck, h1, h2, h3]
        have HR := Lib.hid hR
        clear h1 h2 h3 hR
        by_cases hlt : a < b
        all_goals
          go_enter Try.func128, Try.ntmps128
          go_wp2
          go_ret
          exact ⟨ret_i64 (by rw [HR.out]; simp [hlt]), rfl⟩

theorem numR_bd {st : List (List Int)} (hv : ∀ v ∈ st, valueB v = true) : 0 ≤ (numR st).1 ∧ (numR st).1 ≤ 999 := by
  rcases st with _ | ⟨a, s1⟩
  · simp [numR]
  · by_cases h : 1 < a.length
    · simp [numR, h]
    · rw [numR, if_neg h]; exact (num_of_value (hv a (by simp)) h).2
/-- A literal of one number: apart from the runner. -/
theorem Run.lit {w : World} {lo g : Nat} {rest : List Int} {st : List (List Int)} (h : Run w lo g rest st) (z : Int) (hz : -1000000 ≤ z ∧ z ≤ 1000000) :
    Run (w.alloc (.cells #[.int .i64 z] 3)) lo g rest st ∧ Keeps lo g w (w.alloc (.cells #[.int .i64 z] 3)) ∧ Val (w.alloc (.cells #[.int .i64 z] 3)) g (.slice (some ⟨w.heap.size, 0, none⟩) 1 1) [z] := by
  have hb : Below w.heap.size w (w.alloc (.cells #[.int .i64 z] 3)) := (Below.refl _ _).alloc (Nat.le_refl _) _
  have ho := lits_own w [z] (by simp) (by intro q hq; simp only [List.mem_cons, List.not_mem_nil, or_false] at hq; subst hq; exact wf_near _ hz)
  obtain ⟨h1, h2⟩ := h.step hb
  exact ⟨h1, h2, h.new_val hb (by simpa using ho)⟩

def reckR (op : Int) (rest : List Int) (st : List (List Int)) : Option (List Int × List (List Int)) := if (numR st).2 = true ∧ (numR st.tail).2 = true then some (rest, [reck op (numR st.tail).1 (numR st).1] :: st.tail.tail) else none
theorem numR_ne {st : List (List Int)} (h : (numR st).2 = true) : 1 ≤ st.length := by
  rcases st with _ | ⟨a, s⟩
  · simp [numR] at h
  · simp
theorem reckon_any (op : Int) (lo g : Nat) (rest : List Int) (st : List (List Int)) (w : World) (h : Run w lo g rest st) (hl : st.length ≤ 20) (hv : ∀ v ∈ st, valueB v = true) :
    Calls Try.prog 112 #[.pointer (some ⟨g, 0, none⟩), .int .i64 op] w (Did lo g w (reckR op rest st)) := by
  have hlt := h.lt
  have hv2 : ∀ v ∈ st.tail, valueB v = true := fun v hx => hv v (List.mem_of_mem_tail hx)
  have b1 := numR_bd hv
  have b2 := numR_bd hv2
  have hl2 : st.tail.length ≤ 20 := by rw [List.length_tail]; omega
  have Hv := Lib.hid (And.intro hv hv2); clear hv hv2
  have H := Lib.hid h; clear h
  generalize h1 : numR st = n1
  generalize h2 : numR st.tail = n2
  obtain ⟨n1, k1⟩ := n1
  obtain ⟨n2, k2⟩ := n2
  rw [h1] at b1
  rw [h2] at b2
  have hne : k1 = true → k2 = true → st.tail.tail.length < 20 := by
    intro e1 e2
    have := numR_ne (st := st) (by rw [h1]; exact e1)
    rw [List.length_tail, List.length_tail]; omega
  have Hne := Lib.hid hne; clear hne
  have HR : Hid (reckR op rest st = if k1 = true ∧ k2 = true then some (rest, [reck op n2 n1] :: st.tail.tail) else none) := Lib.hid (by rw [reckR, h1, h2])
  have N1 := Lib.hid h1; have N2 := Lib.hid h2; clear h1 h2
  generalize reckR op rest st = R at *
  go_enter Try.func112, Try.ntmps112
  go_wp2_with fail
  refine (takeNum_any lo g rest st _ H.out hl Hv.out.1).mono ?_
  rw [N1.out]
  rintro e w1 ⟨rfl, q1, q2⟩
  have X := Lib.hid (And.intro q1 q2); clear q1 q2
  have hlt1 := X.out.1.lt
  go_wp2_with fail
  refine (takeNum_any lo g rest st.tail _ X.out.1 hl2 Hv.out.2).mono ?_
  rw [N2.out]
  rintro e w2 ⟨rfl, q1, q2⟩
  have Y := Lib.hid (And.intro q1 (X.out.2.trans q2)); clear q1 q2
  have hlt2 := Y.out.1.lt
  rcases k1 with _ | _
  · have hr0 : R = none := by rw [HR.out]; simp
    subst hr0
    go_wp2
    go_ret
    exact Did.no Y.out.2
  · rcases k2 with _ | _
    · have hr0 : R = none := by rw [HR.out]; simp
      subst hr0
      go_wp2
      go_ret
      exact Did.no Y.out.2
    · have hne2 := Hne.out rfl rfl
      clear Hne
      have hrk := @reck_num op n2 n1
      go_wp2_with fail
      refine (reckoned_any op n2 n1 _ b2 b1).mono ?_
      rintro e w' ⟨rfl, rfl⟩
      generalize reck op n2 n1 = z at *
      have hr0 : R = some (rest, [z] :: st.tail.tail) := by rw [HR.out]; simp
      subst hr0
      go_wp2_with fail
      obtain ⟨r1, r2, r3⟩ := Y.out.1.lit z (by omega)
      have Z := Lib.hid (And.intro r1 (And.intro r3 (Y.out.2.trans r2))); clear r1 r2 r3
      have HP : Hid (putR [z] rest st.tail.tail = some (rest, [z] :: st.tail.tail)) := Lib.hid (by rw [putR, if_pos ⟨by simp, hne2⟩])
      have hl3 : st.tail.tail.length ≤ 20 := by omega
      refine (put_any lo g rest st.tail.tail _ [z] _ Z.out.1 Z.out.2.1 hl3).mono ?_
      rw [HP.out]
      rintro e w4 hd
      have V := Lib.hid (hd.after Z.out.2.2); clear hd
      obtain ⟨t, rfl, -⟩ := V.out
      go_wp2
      go_ret
      exact V.out

def callR (rest : List Int) : List (List Int) → Option (List Int × List (List Int))
  | a :: s1 => if 1 < a.length then some (inside a ++ rest, s1) else none
  | [] => none
theorem call_any (lo g : Nat) (rest : List Int) (st : List (List Int)) (w : World) (h : Run w lo g rest st) (hl : st.length ≤ 20) (hr : rest.length ≤ 700000000) (hv : ∀ v ∈ st, valueB v = true) :
    Calls Try.prog 109 #[.pointer (some ⟨g, 0, none⟩)] w (Did lo g w (callR rest st)) := by
  have hlt := h.lt
  have H := Lib.hid h; clear h
  have Hv := Lib.hid hv; clear hv
  rcases st with _ | ⟨a, s1⟩
  · go_enter Try.func109, Try.ntmps109
    go_wp2_with fail
    refine (takeProg_any lo g rest [] _ H.out hl Hv.out).mono ?_
    rintro e w1 ⟨u, b, rfl, q1, q2, q3, _⟩
    obtain rfl := q3 rfl
    have X := Lib.hid (And.intro q1 q2); clear q1 q2 q3
    go_wp2
    go_ret
    exact Did.no X.out.2
  · have hla := valueB_len (Hv.out a (by simp))
    have hil := @inside_len a
    by_cases h1 : 1 < a.length
    · have HR : Hid (callR rest (a :: s1) = some (inside a ++ rest, s1)) := Lib.hid (by rw [callR, if_pos h1])
      rw [HR.out]
      go_enter Try.func109, Try.ntmps109
      go_wp2_with fail
      refine (takeProg_any lo g rest (a :: s1) _ H.out hl Hv.out).mono ?_
      rintro e w1 ⟨u, b, rfl, q1, q2, _, q3⟩
      obtain ⟨rfl, q4⟩ := q3 a s1 rfl
      clear q3
      rw [decide_eq_true h1]
      have X := Lib.hid (And.intro q1 (And.intro q2 q4)); clear q1 q2 q4
      have hlt1 := X.out.1.lt
      go_wp2_with fail
      refine (insideOf_any u a _ X.out.2.2.1 (by omega)).mono ?_
      rintro e w' ⟨⟨u2, rfl, hu2, he⟩, rfl⟩
      have hval := X.out.2.2.part hu2 he (by rintro rfl; simp at h1)
      have Y := Lib.hid hval; clear hval hu2 he
      go_wp2_with fail
      refine (ahead_any lo g rest s1 u2 (inside a) _ X.out.1 Y.out (by omega)).mono ?_
      rintro e w2 ⟨rfl, r1, r2⟩
      have Z := Lib.hid (And.intro r1 (X.out.2.1.trans r2)); clear r1 r2
      go_wp2
      go_ret
      exact Did.yes Z.out.2 Z.out.1
    · have HR : Hid (callR rest (a :: s1) = none) := Lib.hid (by rw [callR, if_neg h1])
      rw [HR.out]
      go_enter Try.func109, Try.ntmps109
      go_wp2_with fail
      refine (takeProg_any lo g rest (a :: s1) _ H.out hl Hv.out).mono ?_
      rintro e w1 ⟨u, b, rfl, q1, q2, _, q3⟩
      obtain ⟨rfl, q4⟩ := q3 a s1 rfl
      clear q3
      rw [decide_eq_false h1]
      have X := Lib.hid (And.intro q1 q2); clear q1 q2 q4
      go_wp2
      go_ret
      exact Did.no X.out.2

def dipR (rest : List Int) : List (List Int) → Option (List Int × List (List Int))
  | a :: b :: s2 => if 1 < a.length then some (inside a ++ (b ++ rest), s2) else none
  | _ => none
theorem dip_any (lo g : Nat) (rest : List Int) (st : List (List Int)) (w : World) (h : Run w lo g rest st) (hl : st.length ≤ 20) (hr : rest.length ≤ 700000000) (hv : ∀ v ∈ st, valueB v = true) :
    Calls Try.prog 108 #[.pointer (some ⟨g, 0, none⟩)] w (Did lo g w (dipR rest st)) := by
  have hlt := h.lt
  have H := Lib.hid h; clear h
  have Hv := Lib.hid hv; clear hv
  rcases st with _ | ⟨a, s1⟩
  · go_enter Try.func108, Try.ntmps108
    go_wp2_with fail
    refine (takeProg_any lo g rest [] _ H.out hl Hv.out).mono ?_
    rintro e w1 ⟨u, b, rfl, q1, q2, q3, _⟩
    obtain rfl := q3 rfl
    have X := Lib.hid (And.intro q1 q2); clear q1 q2 q3
    have hlt1 := X.out.1.lt
    go_wp2_with fail
    refine (popV_none lo g rest _ X.out.1).mono ?_
    rintro e w' ⟨rfl, rfl⟩
    go_wp2
    go_ret
    exact Did.no X.out.2
  · have hla := valueB_len (Hv.out a (by simp))
    have hil := @inside_len a
    rw [List.length_cons] at hl
    generalize hb1 : decide (1 < a.length) = b1
    have Hb1 := Lib.hid hb1; clear hb1
    rcases s1 with _ | ⟨b, s2⟩
    · go_enter Try.func108, Try.ntmps108
      go_wp2_with fail
      refine (takeProg_any lo g rest [a] _ H.out hl Hv.out).mono ?_
      rintro e w1 ⟨u, t, rfl, q1, q2, _, q3⟩
      obtain ⟨rfl, q4⟩ := q3 a [] rfl
      clear q3
      rw [Hb1.out]
      have X := Lib.hid (And.intro q1 q2); clear q1 q2 q4
      have hlt1 := X.out.1.lt
      go_wp2_with fail
      refine (popV_none lo g rest _ X.out.1).mono ?_
      rintro e w' ⟨rfl, rfl⟩
      rcases b1 with _ | _
      all_goals
        go_wp2
        go_ret
        exact Did.no X.out.2
    · have hlb := valueB_len (Hv.out b (by simp))
      have HR : Hid (dipR rest (a :: b :: s2) = if b1 = true then some (inside a ++ (b ++ rest), s2) else none) := Lib.hid (by rw [dipR, ← Hb1.out]; simp)
      generalize dipR rest (a :: b :: s2) = R at *
      rw [List.length_cons] at hl
      go_enter Try.func108, Try.ntmps108
      go_wp2_with fail
      refine (takeProg_any lo g rest (a :: b :: s2) _ H.out (by simp; omega) Hv.out).mono ?_
      rintro e w1 ⟨u, t, rfl, q1, q2, _, q3⟩
      obtain ⟨rfl, q4⟩ := q3 a (b :: s2) rfl
      clear q3
      rw [Hb1.out]
      have X := Lib.hid (And.intro q1 (And.intro q2 q4)); clear q1 q2 q4
      have hlt1 := X.out.1.lt
      go_wp2_with fail
      refine (popV lo g rest b s2 _ X.out.1 (by omega)).mono ?_
      rintro e w2 ⟨v, rfl, q1, q2, q3⟩
      have Y := Lib.hid (And.intro q1 (And.intro q2 (And.intro (q3.val X.out.2.2) (X.out.2.1.trans q3)))); clear q1 q2 q3
      have hlt2 := Y.out.2.1.lt
      rcases b1 with _ | _
      · have hr0 : R = none := by rw [HR.out]; simp
        subst hr0
        go_wp2
        go_ret
        exact Did.no Y.out.2.2.2
      · have hr0 : R = some (inside a ++ (b ++ rest), s2) := by rw [HR.out]; simp
        subst hr0
        have h1 : 1 < a.length := of_decide_eq_true Hb1.out
        go_wp2_with fail
        refine (ahead_any lo g rest s2 v b _ Y.out.2.1 Y.out.1 (by omega)).mono ?_
        rintro e w3 ⟨rfl, r1, r2⟩
        have Z := Lib.hid (And.intro r1 (And.intro (r2.val Y.out.2.2.1) (Y.out.2.2.2.trans r2))); clear r1 r2
        have hlt3 := Z.out.1.lt
        go_wp2_with fail
        refine (insideOf_any u a _ Z.out.2.1.1 (by omega)).mono ?_
        rintro e w' ⟨⟨u2, rfl, hu2, he⟩, rfl⟩
        have hval := Z.out.2.1.part hu2 he (by rintro rfl; simp at h1)
        have V := Lib.hid hval; clear hval hu2 he
        go_wp2_with fail
        refine (ahead_any lo g (b ++ rest) s2 u2 (inside a) _ Z.out.1 V.out (by rw [List.length_append]; omega)).mono ?_
        rintro e w4 ⟨rfl, r1, r2⟩
        have T := Lib.hid (And.intro r1 (Z.out.2.2.trans r2)); clear r1 r2
        go_wp2
        go_ret
        exact Did.yes T.out.2 T.out.1
end Go.Proofs.Ytmhhmdakilecoaa
