/- The model's rows and types: where they end; RowOk. -/
import Derived.Test.YtkiedpdhehehfaaTr
import Derived.Test.YtkiedpdhehehfaaB1
namespace Go.Proofs.Ytkiedpdhehehfaa
set_option maxRecDepth 100000
open Go.RowKit Go.WideShapes

theorem eat_suffix {n : Nat} {b : Bool} {zs r : List Int} (h : eat n b zs = some r) : ∃ m, r = zs.drop m ∧ m ≤ zs.length := by
  induction n generalizing b zs r with
  | zero => cases h
  | succ n ih =>
    have hne : ∀ {x : Int}, zs.headD (-1) = x → x ≠ -1 → 1 ≤ zs.length := fun hx h1 => by
      rcases zs with _ | ⟨z, zs⟩
      · exact absurd hx.symm (by simpa using h1)
      · simp
    have ht : zs.tail = zs.drop 1 := List.drop_one.symm
    have two : ∀ b2, 1 ≤ zs.length → (eat n true zs.tail).bind (eat n b2) = some r → ∃ m, r = zs.drop m ∧ m ≤ zs.length := fun b2 h1 h => by
      rcases h2 : eat n true zs.tail with _ | r1
      · rw [h2] at h; cases h
      · rw [h2] at h
        obtain ⟨m1, rfl, k1⟩ := ih h2
        obtain ⟨m2, rfl, k2⟩ := ih h
        rw [ht, List.length_drop] at k1
        rw [ht, List.drop_drop, List.length_drop] at k2
        exact ⟨1 + m1 + m2, by rw [ht, List.drop_drop, List.drop_drop, Nat.add_assoc], by omega⟩
    have lett : 0 ≤ zs.tail.headD (-1) → 2 ≤ zs.length := fun h0 => by
      rcases zs with _ | ⟨z, _ | ⟨y, zs⟩⟩
      · simp at h0
      · simp at h0
      · simp
    rcases b with _ | _
    · rw [eat] at h
      split at h
      · rename_i e; cases h; exact ⟨1, ht, hne e (by decide)⟩
      split at h
      · rename_i e
        split at h
        · rename_i hc; cases h; exact ⟨2, by rw [ht, List.tail_drop], lett hc.1⟩
        · cases h
      split at h
      · rename_i e; exact two _ (hne e (by decide)) h
      · cases h
    · rw [eat] at h
      split at h
      · rename_i e
        split at h
        · rename_i hc; cases h; exact ⟨2, by rw [ht, List.tail_drop], lett hc.1⟩
        · cases h
      split at h
      · rename_i e; exact two _ (hne e (by decide)) h
      · cases h

/-- Where a row, or a type, ends. -/
def endOf (L : Nat) : Option (List Int) → Int
  | some r => ((L - r.length : Nat) : Int)
  | none => -1
def endAt (n : Nat) (b : Bool) (zs : List Int) (k : Nat) : Int := endOf zs.length (eat n b (zs.drop k))
theorem endOf_bd (L : Nat) (o : Option (List Int)) : -1 ≤ endOf L o ∧ endOf L o ≤ L := by rcases o with _ | r <;> simp only [endOf] <;> omega
theorem endAt_two {n : Nat} {b2 : Bool} {zs : List Int} {k : Nat} : endOf zs.length ((eat n true (zs.drop (k + 1))).bind (eat n b2)) = (if endAt n true zs (k + 1) < 0 then -1 else endAt n b2 zs (endAt n true zs (k + 1)).toNat) := by
  unfold endAt
  rcases h : eat n true (zs.drop (k + 1)) with _ | r
  · simp [endOf]
  · obtain ⟨m, hr, hm⟩ := eat_suffix h
    rw [List.length_drop] at hm
    have hl : r.length = zs.length - (k + 1) - m := by rw [hr, List.length_drop, List.length_drop]
    have hd : zs.drop (zs.length - r.length) = r := by
      by_cases hk : k + 1 ≤ zs.length
      · rw [hl, show zs.length - (zs.length - (k + 1) - m) = k + 1 + m by omega, hr, List.drop_drop]
      · have h0 : r = [] := List.eq_nil_of_length_eq_zero (by omega)
        rw [h0]; simp
    simp only [Option.bind_some]
    rw [if_neg (by simp only [endOf]; omega), endOf, Int.toNat_natCast, hd]

theorem getD_drop (zs : List Int) (k : Nat) (h : k < zs.length) : (zs.drop k).headD (-1) = zs.getD k 0 := by
  rw [List.drop_eq_getElem_cons h]; simp [List.getD, List.getElem?_eq_getElem h]
theorem getD_drop1 (zs : List Int) (k : Nat) (h : k + 1 < zs.length) : (zs.drop k).tail.headD (-1) = zs.getD (k + 1) 0 := by
  rw [List.tail_drop, getD_drop zs (k + 1) h]

/-- A letter's number stands behind k. -/
def lettAt (zs : List Int) (k : Nat) : Prop := k + 1 < zs.length ∧ 0 ≤ zs.getD (k + 1) 0 ∧ zs.getD (k + 1) 0 ≤ 999
theorem lettAt_iff (zs : List Int) (k : Nat) : (0 ≤ (zs.drop (k + 1)).headD (-1) ∧ (zs.drop (k + 1)).headD (-1) ≤ 999) ↔ lettAt zs k := by
  unfold lettAt
  by_cases h : k + 1 < zs.length
  · rw [getD_drop zs (k + 1) h]; simp [h]
  · rw [List.drop_eq_nil_of_le (by omega)]; simp; omega
theorem endAt_lett {zs : List Int} {k : Nat} (o : Option (List Int)) (h : o = if 0 ≤ (zs.drop (k + 1)).headD (-1) ∧ (zs.drop (k + 1)).headD (-1) ≤ 999 then some (zs.drop (k + 1 + 1)) else none) :
    (lettAt zs k → endOf zs.length o = (k : Int) + 2) ∧ (¬ lettAt zs k → endOf zs.length o = -1) := by
  subst h
  refine ⟨fun h => ?_, fun h => ?_⟩
  · rw [if_pos ((lettAt_iff zs k).2 h)]
    have := h.1
    simp only [endOf, List.length_drop]; omega
  · rw [if_neg (fun h2 => h ((lettAt_iff zs k).1 h2))]; rfl
/-- What the end is, by the number that begins. -/
theorem endAt_next (n : Nat) {zs : List Int} {k : Nat} {z : Int} (hlt : k < zs.length) (hz : zs.getD k 0 = z) :
    (z = 0 → endAt (n + 1) false zs k = (k : Int) + 1) ∧ (z = 1 → (lettAt zs k → endAt (n + 1) false zs k = (k : Int) + 2) ∧ (¬ lettAt zs k → endAt (n + 1) false zs k = -1)) ∧ (z = 2 → endAt (n + 1) false zs k = if endAt n true zs (k + 1) < 0 then -1 else endAt n true zs (endAt n true zs (k + 1)).toNat) ∧ (z ≠ 0 → z ≠ 1 → z ≠ 2 → endAt (n + 1) false zs k = -1) ∧
    (z = 3 → (lettAt zs k → endAt (n + 1) true zs k = (k : Int) + 2) ∧ (¬ lettAt zs k → endAt (n + 1) true zs k = -1)) ∧ (z = 4 → endAt (n + 1) true zs k = if endAt n true zs (k + 1) < 0 then -1 else endAt n false zs (endAt n true zs (k + 1)).toNat) ∧ (z ≠ 3 → z ≠ 4 → endAt (n + 1) true zs k = -1) := by
  have h1 := getD_drop zs k hlt
  rw [hz] at h1
  have hF : eat (n + 1) false (zs.drop k) = if z = 0 then some (zs.drop (k + 1)) else if z = 1 then (if 0 ≤ (zs.drop (k + 1)).headD (-1) ∧ (zs.drop (k + 1)).headD (-1) ≤ 999 then some (zs.drop (k + 1 + 1)) else none) else if z = 2 then (eat n true (zs.drop (k + 1))).bind (eat n true) else none := by rw [eat, h1, List.tail_drop, List.tail_drop]
  have hT : eat (n + 1) true (zs.drop k) = if z = 3 then (if 0 ≤ (zs.drop (k + 1)).headD (-1) ∧ (zs.drop (k + 1)).headD (-1) ≤ 999 then some (zs.drop (k + 1 + 1)) else none) else if z = 4 then (eat n true (zs.drop (k + 1))).bind (eat n false) else none := by rw [eat, h1, List.tail_drop, List.tail_drop]
  refine ⟨fun e => ?_, fun e => ?_, fun e => ?_, fun e1 e2 e3 => ?_, fun e => ?_, fun e => ?_, fun e1 e2 => ?_⟩
  · rw [endAt, hF, if_pos e]; simp only [endOf, List.length_drop]; omega
  · exact endAt_lett (eat (n + 1) false (zs.drop k)) (by rw [hF, if_neg (by omega), if_pos e])
  · rw [← endAt_two, endAt, hF, if_neg (by omega), if_neg (by omega), if_pos e]
  · rw [endAt, hF, if_neg e1, if_neg e2, if_neg e3]; rfl
  · exact endAt_lett (eat (n + 1) true (zs.drop k)) (by rw [hT, if_pos e])
  · rw [← endAt_two, endAt, hT, if_neg (by omega), if_pos e]
  · rw [endAt, hT, if_neg e1, if_neg e2]; rfl

theorem l3End_neg (v : Value) (b : Bool) (x : Int) (zs : List Int) (w : World) (h : RdI w v zs) (hx : x < 0 ∨ zs.length ≤ x) (_ : zs.length ≤ 4000000) (hx2 : -1 ≤ x ∧ x ≤ 4000000) :
    Calls Try.prog 114 #[v, .int .i64 x, .bool b] w fun e w' => e = .returned (.int .i64 (-1)) ∧ w = w' := by
  obtain ⟨A, c, rfl, _⟩ := h
  by_cases h0 : x < 0
  · go_enter Try.func114, Try.ntmps114
    go_wp2
    go_ret
    exact ⟨rfl, rfl⟩
  · have h1 : (zs.length : Int) ≤ x := by omega
    have h2 : ¬ (x < (zs.length : Int)) := by omega
    go_enter Try.func114, Try.ntmps114
    go_wp2
    go_ret
    exact ⟨rfl, rfl⟩

set_option maxHeartbeats 8000000 in
theorem l3End_any (n : Nat) (v : Value) (b : Bool) (k : Nat) (zs : List Int) (w : World) (h : RdI w v zs) (hl : zs.length ≤ 4000000) (hk : k ≤ 4000000) (hn : zs.length ≤ k + n) :
    Calls Try.prog 114 #[v, .int .i64 k, .bool b] w fun e w' => e = .returned (.int .i64 (endAt n b zs k)) ∧ w = w' := by
  induction n generalizing b k with
  | zero =>
    refine (l3End_neg v b k zs w h (.inr (by omega)) hl (by omega)).mono ?_
    rintro e w' ⟨rfl, rfl⟩
    exact ⟨rfl, rfl⟩
  | succ n ih =>
    by_cases hlt : k < zs.length
    · have hmid : ∀ b2 x y, x = endAt n true zs (k + 1) → y = (if x < 0 then -1 else endAt n b2 zs x.toNat) → Calls Try.prog 114 #[v, .int .i64 x, .bool b2] w fun e w' => e = .returned (.int .i64 y) ∧ w = w' := fun b2 x y hx hy => by
        subst hy
        by_cases h0 : x < 0
        · rw [if_pos h0]
          have : x = -1 := by have := endOf_bd zs.length (eat n true (zs.drop (k + 1))); unfold endAt at hx; omega
          subst this
          exact l3End_neg v b2 (-1) zs w h (.inl (by omega)) hl (by omega)
        · rw [if_neg h0]
          obtain ⟨m, rfl⟩ : ∃ m : Nat, x = m := ⟨x.toNat, by omega⟩
          rw [Int.toNat_natCast]
          have hm : m ≤ zs.length := by have := endOf_bd zs.length (eat n true (zs.drop (k + 1))); unfold endAt at hx; omega
          by_cases hkm : k + 1 ≤ m
          · exact ih b2 m (by omega) (by omega)
          · exfalso
            unfold endAt at hx
            rcases he : eat n true (zs.drop (k + 1)) with _ | r
            · rw [he] at hx; simp only [endOf] at hx; omega
            · rw [he] at hx
              have := eat_len he
              rw [List.length_drop] at this
              simp only [endOf] at hx
              omega
      have hfst := ih true (k + 1) (by omega) (by omega)
      rw [show ((k + 1 : Nat) : Int) = (k : Int) + 1 by omega] at hfst
      have H2 := Lib.hid (And.intro hfst hmid); clear hmid hfst ih
      have hm := h.len_le
      obtain ⟨A, c, rfl, hi, _⟩ := h
      obtain ⟨b0, off, rfl, hb, hcc⟩ := hi.at_ (by omega)
      have hc0 := hcc k hlt
      obtain ⟨z, hz⟩ : ∃ z, zs.getD k 0 = z := ⟨_, rfl⟩
      have EN := Lib.hid (endAt_next n hlt hz)
      rw [hz] at hc0
      clear hz hi
      have hltI : (k : Int) < zs.length := by omega
      rcases b with _ | _
      · by_cases e0 : z = 0
        · subst e0
          have HE := Lib.hid (EN.out.1 rfl); clear EN hcc H2
          go_enter Try.func114, Try.ntmps114
          go_wp2
          go_ret
          exact ⟨ret_i64 (by rw [HE.out]), rfl⟩
        have b0 : (z == 0) = false := by simpa using e0
        by_cases e1 : z = 1
        · subst e1
          by_cases hL : lettAt zs k
          · have hE := (EN.out.2.1 rfl).1 hL
            obtain ⟨g1, g2, g3⟩ := hL
            have hc1 := hcc (k + 1) g1
            have g1I : (k : Int) + 1 < zs.length := by omega
            have hd : (decide (0 ≤ zs.getD (k + 1) 0) && decide (zs.getD (k + 1) 0 ≤ 999)) = true := by rw [Bool.and_eq_true, decide_eq_true_eq, decide_eq_true_eq]; exact ⟨g2, g3⟩
            have Hd := Lib.hid (And.intro hd hE); clear hd hE hcc EN H2
            generalize zs.getD (k + 1) 0 = y at *
            go_enter Try.func114, Try.ntmps114
            go_wp2_with (go_at_call 76; refine (l1In_any _ 0 999 _).mono ?_; rw [Hd.out.1]; rintro e w' ⟨rfl, rfl⟩)
            go_ret
            exact ⟨ret_i64 (by rw [Hd.out.2]), rfl⟩
          · have hE := (EN.out.2.1 rfl).2 hL
            by_cases g1 : k + 1 < zs.length
            · have hc1 := hcc (k + 1) g1
              have g1I : (k : Int) + 1 < zs.length := by omega
              have hd : (decide (0 ≤ zs.getD (k + 1) 0) && decide (zs.getD (k + 1) 0 ≤ 999)) = false := by
                rcases hh : (decide (0 ≤ zs.getD (k + 1) 0) && decide (zs.getD (k + 1) 0 ≤ 999)) with _ | _
                · rfl
                · simp only [Bool.and_eq_true, decide_eq_true_eq] at hh; exact absurd ⟨g1, hh.1, hh.2⟩ hL
              have Hd := Lib.hid (And.intro hd hE); clear hd hE hcc hL EN H2
              generalize zs.getD (k + 1) 0 = y at *
              go_enter Try.func114, Try.ntmps114
              go_wp2_with (go_at_call 76; refine (l1In_any _ 0 999 _).mono ?_; rw [Hd.out.1]; rintro e w' ⟨rfl, rfl⟩)
              go_ret
              exact ⟨ret_i64 (by rw [Hd.out.2]), rfl⟩
            · have g1I : ¬ ((k : Int) + 1 < zs.length) := by omega
              have Hd := Lib.hid hE; clear hE hcc hL g1 EN H2
              go_enter Try.func114, Try.ntmps114
              go_wp2
              go_ret
              exact ⟨ret_i64 (by rw [Hd.out]), rfl⟩
        have b1 : (z == 1) = false := by simpa using e1
        by_cases e2 : z = 2
        · subst e2
          have HE := Lib.hid (EN.out.2.2.1 rfl); clear EN hcc
          go_enter Try.func114, Try.ntmps114
          go_wp2_with fail
          refine (H2.out.1).mono ?_
          rintro e w' ⟨rfl, rfl⟩
          have H3 := Lib.hid (H2.out.2 true _ _ rfl rfl)
          generalize endAt n true zs (k + 1) = x at *
          generalize (if x < 0 then -1 else endAt n true zs x.toNat) = y at *
          clear H2
          go_wp2_with fail
          refine (H3.out).mono ?_
          rintro e w' ⟨rfl, rfl⟩
          go_wp2
          go_ret
          exact ⟨ret_i64 (by rw [HE.out]), rfl⟩
        have b2 : (z == 2) = false := by simpa using e2
        have HE := Lib.hid (EN.out.2.2.2.1 e0 e1 e2); clear EN hcc H2
        go_enter Try.func114, Try.ntmps114
        go_wp2
        go_ret
        exact ⟨ret_i64 (by rw [HE.out]), rfl⟩
      · by_cases e3 : z = 3
        · subst e3
          by_cases hL : lettAt zs k
          · have hE := (EN.out.2.2.2.2.1 rfl).1 hL
            obtain ⟨g1, g2, g3⟩ := hL
            have hc1 := hcc (k + 1) g1
            have g1I : (k : Int) + 1 < zs.length := by omega
            have hd : (decide (0 ≤ zs.getD (k + 1) 0) && decide (zs.getD (k + 1) 0 ≤ 999)) = true := by rw [Bool.and_eq_true, decide_eq_true_eq, decide_eq_true_eq]; exact ⟨g2, g3⟩
            have Hd := Lib.hid (And.intro hd hE); clear hd hE hcc EN H2
            generalize zs.getD (k + 1) 0 = y at *
            go_enter Try.func114, Try.ntmps114
            go_wp2_with (go_at_call 76; refine (l1In_any _ 0 999 _).mono ?_; rw [Hd.out.1]; rintro e w' ⟨rfl, rfl⟩)
            go_ret
            exact ⟨ret_i64 (by rw [Hd.out.2]), rfl⟩
          · have hE := (EN.out.2.2.2.2.1 rfl).2 hL
            by_cases g1 : k + 1 < zs.length
            · have hc1 := hcc (k + 1) g1
              have g1I : (k : Int) + 1 < zs.length := by omega
              have hd : (decide (0 ≤ zs.getD (k + 1) 0) && decide (zs.getD (k + 1) 0 ≤ 999)) = false := by
                rcases hh : (decide (0 ≤ zs.getD (k + 1) 0) && decide (zs.getD (k + 1) 0 ≤ 999)) with _ | _
                · rfl
                · simp only [Bool.and_eq_true, decide_eq_true_eq] at hh; exact absurd ⟨g1, hh.1, hh.2⟩ hL
              have Hd := Lib.hid (And.intro hd hE); clear hd hE hcc hL EN H2
              generalize zs.getD (k + 1) 0 = y at *
              go_enter Try.func114, Try.ntmps114
              go_wp2_with (go_at_call 76; refine (l1In_any _ 0 999 _).mono ?_; rw [Hd.out.1]; rintro e w' ⟨rfl, rfl⟩)
              go_ret
              exact ⟨ret_i64 (by rw [Hd.out.2]), rfl⟩
            · have g1I : ¬ ((k : Int) + 1 < zs.length) := by omega
              have Hd := Lib.hid hE; clear hE hcc hL g1 EN H2
              go_enter Try.func114, Try.ntmps114
              go_wp2
              go_ret
              exact ⟨ret_i64 (by rw [Hd.out]), rfl⟩
        have b3 : (z == 3) = false := by simpa using e3
        by_cases e4 : z = 4
        · subst e4
          have HE := Lib.hid (EN.out.2.2.2.2.2.1 rfl); clear EN hcc
          go_enter Try.func114, Try.ntmps114
          go_wp2_with fail
          refine (H2.out.1).mono ?_
          rintro e w' ⟨rfl, rfl⟩
          have H3 := Lib.hid (H2.out.2 false _ _ rfl rfl)
          generalize endAt n true zs (k + 1) = x at *
          generalize (if x < 0 then -1 else endAt n false zs x.toNat) = y at *
          clear H2
          go_wp2_with fail
          refine (H3.out).mono ?_
          rintro e w' ⟨rfl, rfl⟩
          go_wp2
          go_ret
          exact ⟨ret_i64 (by rw [HE.out]), rfl⟩
        have b4 : (z == 4) = false := by simpa using e4
        have HE := Lib.hid (EN.out.2.2.2.2.2.2 e3 e4); clear EN hcc H2
        go_enter Try.func114, Try.ntmps114
        go_wp2
        go_ret
        exact ⟨ret_i64 (by rw [HE.out]), rfl⟩
    · refine (l3End_neg v b k zs w h (.inr (by omega)) hl (by omega)).mono ?_
      rintro e w' ⟨rfl, rfl⟩
      refine ⟨?_, rfl⟩
      rw [endAt, List.drop_eq_nil_of_le (by omega)]
      rcases b with _ | _ <;> rfl

theorem eat_fuel {n m : Nat} {b : Bool} {zs : List Int} (hn : zs.length ≤ n) (hm : zs.length ≤ m) : eat n b zs = eat m b zs := by
  induction n generalizing m b zs with
  | zero =>
    obtain rfl : zs = [] := List.eq_nil_of_length_eq_zero (by omega)
    rcases m with _ | m
    · rfl
    · rcases b with _ | _ <;> rfl
  | succ n ih =>
    rcases m with _ | m
    · obtain rfl : zs = [] := List.eq_nil_of_length_eq_zero (by omega)
      rcases b with _ | _ <;> rfl
    · have h1 : eat n true zs.tail = eat m true zs.tail := ih (by rw [List.length_tail]; omega) (by rw [List.length_tail]; omega)
      have h2 : ∀ b2, (eat n true zs.tail).bind (eat n b2) = (eat m true zs.tail).bind (eat m b2) := fun b2 => by
        rw [h1]
        rcases h3 : eat m true zs.tail with _ | r
        · rfl
        · have := eat_len h3
          rw [List.length_tail] at this
          exact ih (by omega) (by omega)
      rcases b with _ | _
      · rw [eat, eat, h2]
      · rw [eat, eat, h2]
theorem rowB_end (zs : List Int) : rowB zs = (decide (zs.length ≤ 150) && decide (endAt zs.length true zs 0 = zs.length)) := by
  unfold rowB wholeR endAt
  rw [List.drop_zero]
  by_cases h : zs.length ≤ 150
  · rcases he : eat zs.length true zs with _ | r
    · simp [endOf]
    · have := eat_len he
      rcases r with _ | ⟨y, r⟩
      · simp [h, endOf]
      · simp only [Option.some.injEq, reduceCtorEq, and_false, if_false, Option.isSome_none]
        symm
        rw [Bool.and_eq_false_iff]
        right
        rw [decide_eq_false_iff_not]
        simp only [endOf, List.length_cons] at this ⊢
        omega
  · simp [h]
theorem RowOk_S (v0 : Value) (x0 : List Int) (w : World) (h0 : RdI w v0 x0) (hl0 : x0.length ≤ 1048576) (y0 : Bool) (hR : rowB x0 = y0) :
    Calls Try.prog 53 #[v0] w fun e w' => e = .returned (.bool y0) ∧ Below w.heap.size w w' := by
  have H := Lib.hid h0
  have hm := h0.len_le
  obtain ⟨A, c, rfl, _⟩ := h0
  rw [rowB_end] at hR
  by_cases h : x0.length ≤ 150
  · have hI : (x0.length : Int) ≤ 150 := by omega
    have HE := l3End_any x0.length _ true 0 x0 w H.out (by omega) (by omega) (by omega)
    have Hq := Lib.hid HE; clear HE
    generalize endAt x0.length true x0 0 = x at *
    have HR : Hid ((x == (x0.length : Int)) = y0) := Lib.hid (by
      rw [← hR, decide_eq_true h, Bool.true_and]
      exact Bool.eq_iff_iff.2 (by simp))
    clear hR
    go_enter Try.func53, Try.ntmps53
    go_wp2_with fail
    refine (Hq.out).mono ?_
    rintro e w' ⟨rfl, rfl⟩
    go_wp2
    go_ret
    exact ⟨ret_bool HR.out, Below.refl _ _⟩
  · have hI : ¬ ((x0.length : Int) ≤ 150) := by omega
    have hy : y0 = false := by rw [← hR, decide_eq_false h, Bool.false_and]
    subst hy
    clear hR h
    go_enter Try.func53, Try.ntmps53
    go_wp2
    go_ret
    exact ⟨rfl, Below.refl _ _⟩
end Go.Proofs.Ytkiedpdhehehfaa
