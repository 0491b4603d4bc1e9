/- The model's rows and types: where they end; RowOk. -/
import Derived.Test.YtaobijmjlkdphaaDoorTr
import Derived.Test.YtaobijmjlkdphaaDoorB1
namespace Go.Proofs.YtaobijmjlkdphaaDoor
set_option maxRecDepth 100000
open Go.RowKit Go.WideShapes

theorem eat_suffix {n : Nat} {b : Bool} {zs r : List Int} (h : eat n b zs = some r) : ∃ m, r = zs.drop m ∧ m ≤ zs.length := by
  induction n generalizing b zs r with
  | zero => cases h
  | succ n ih =>
    have hne : ∀ {x : Int}, zs.headD (-1) = x → x ≠ -1 → 1 ≤ zs.length := fun hx h1 => by
      rcases zs with _ | ⟨z, zs⟩
      · exact absurd hx.symm (by simpa using h1)
      · simp
    have ht : zs.tail = zs.drop 1 := List.drop_one.symm
    have two : ∀ b2, 1 ≤ zs.length → (eat n true zs.tail).bind (eat n b2) = some r → ∃ m, r = zs.drop m ∧ m ≤ zs.length := fun b2 h1 h => by
      rcases h2 : eat n true zs.tail with _ | r1
      · rw [h2] at h; cases h
      · rw [h2] at h
        obtain ⟨m1, rfl, k1⟩ := ih h2
        obtain ⟨m2, rfl, k2⟩ := ih h
        rw [ht, List.length_drop] at k1
        rw [ht, List.drop_drop, List.length_drop] at k2
        exact ⟨1 + m1 + m2, by rw [ht, List.drop_drop, List.drop_drop, Nat.add_assoc], by omega⟩
    have lett : 0 ≤ zs.tail.headD (-1) → 2 ≤ zs.length := fun h0 => by
      rcases zs with _ | ⟨z, _ | ⟨y, zs⟩⟩
      · simp at h0
      · simp at h0
      · simp
    rcases b with _ | _
    · rw [eat] at h
      split at h
      · rename_i e; cases h; exact ⟨1, ht, hne e (by decide)⟩
      split at h
      · rename_i e
        split at h
        · rename_i hc; cases h; exact ⟨2, by rw [ht, List.tail_drop], lett hc.1⟩
        · cases h
      split at h
      · rename_i e; exact two _ (hne e (by decide)) h
      · cases h
    · rw [eat] at h
      split at h
      · rename_i e
        split at h
        · rename_i hc; cases h; exact ⟨2, by rw [ht, List.tail_drop], lett hc.1⟩
        · cases h
      split at h
      · rename_i e; exact two _ (hne e (by decide)) h
      · cases h

/-- Where a row, or a type, ends. -/
def endOf (L : Nat) : Option (List Int) → Int
  | some r => ((L - r.length : Nat) : Int)
  | none => -1
def endAt (n : Nat) (b : Bool) (zs : List Int) (k : Nat) : Int := endOf zs.length (eat n b (zs.drop k))
theorem endOf_bd (L : Nat) (o : Option (List Int)) : -1 ≤ endOf L o ∧ endOf L o ≤ L := by rcases o with _ | r <;> simp only [endOf] <;> omega
theorem endAt_two {n : Nat} {b2 : Bool} {zs : List Int} {k : Nat} : endOf zs.length ((eat n true (zs.drop (k + 1))).bind (eat n b2)) = (if endAt n true zs (k + 1) < 0 then -1 else endAt n b2 zs (endAt n true zs (k + 1)).toNat) := by
  unfold endAt
  rcases h : eat n true (zs.drop (k + 1)) with _ | r
  · simp [endOf]
  · obtain ⟨m, hr, hm⟩ := eat_suffix h
    rw [List.length_drop] at hm
    have hl : r.length = zs.length - (k + 1) - m := by rw [hr, List.length_drop, List.length_drop]
    have hd : zs.drop (zs.length - r.length) = r := by
      by_cases hk : k + 1 ≤ zs.length
      · rw [hl, show zs.length - (zs.length - (k + 1) - m) = k + 1 + m by omega, hr, List.drop_drop]
      · have h0 : r = [] := List.eq_nil_of_length_eq_zero (by omega)
        rw [h0]; simp
    simp only [Option.bind_some]
    rw [if_neg (by simp only [endOf]; omega), endOf, Int.toNat_natCast, hd]

theorem getD_drop (zs : List Int) (k : Nat) (h : k < zs.length) : (zs.drop k).headD (-1) = zs.getD k 0 := by
  rw [List.drop_eq_getElem_cons h]; simp [List.getD, List.getElem?_eq_getElem h]
theorem getD_drop1 (zs : List Int) (k : Nat) (h : k + 1 < zs.length) : (zs.drop k).tail.headD (-1) = zs.getD (k + 1) 0 := by
  rw [List.tail_drop, getD_drop zs (k + 1) h]

/-- A letter's number stands behind k. -/
def lettAt (zs : List Int) (k : Nat) : Prop := k + 1 < zs.length ∧ 0 ≤ zs.getD (k + 1) 0 ∧ zs.getD (k + 1) 0 ≤ 999
theorem lettAt_iff (zs : List Int) (k : Nat) : (0 ≤ (zs.drop (k + 1)).headD (-1) ∧ (zs.drop (k + 1)).headD (-1) ≤ 999) ↔ lettAt zs k := by
  unfold lettAt
  by_cases h : k + 1 < zs.length
  · rw [getD_drop zs (k + 1) h]; simp [h]
  · rw [List.drop_eq_nil_of_le (by omega)]; simp; omega
theorem endAt_lett {zs : List Int} {k : Nat} (o : Option (List Int)) (h : o = if 0 ≤ (zs.drop (k + 1)).headD (-1) ∧ (zs.drop (k + 1)).headD (-1) ≤ 999 then some (zs.drop (k + 1 + 1)) else none) :
    (lettAt zs k → endOf zs.length o = (k : Int) + 2) ∧ (¬ lettAt zs k → endOf zs.length o = -1) := by
  subst h
  refine ⟨fun h => ?_, fun h => ?_⟩
  · rw [if_pos ((lettAt_iff zs k).2 h)]
    have := h.1
    simp only [endOf, List.length_drop]; omega
  · rw [if_neg (fun h2 => h ((lettAt_iff zs k).1 h2))]; rfl
/-- What the end is, by the number that begins. -/
theorem endAt_next (n : Nat) {zs : List Int} {k : Nat} {z : Int} (hlt : k < zs.length) (hz : zs.getD k 0 = z) :
    (z = 0 → endAt (n + 1) false zs k = (k : Int) + 1) ∧ (z = 1 → (lettAt zs k → endAt (n + 1) false zs k = (k : Int) + 2) ∧ (¬ lettAt zs k → endAt (n + 1) false zs k = -1)) ∧ (z = 2 → endAt (n + 1) false zs k = if endAt n true zs (k + 1) < 0 then -1 else endAt n true zs (endAt n true zs (k + 1)).toNat) ∧ (z ≠ 0 → z ≠ 1 → z ≠ 2 → endAt (n + 1) false zs k = -1) ∧
    (z = 3 → (lettAt zs k → endAt (n + 1) true zs k = (k : Int) + 2) ∧ (¬ lettAt zs k → endAt (n + 1) true zs k = -1)) ∧ (z = 4 → endAt (n + 1) true zs k = if endAt n true zs (k + 1) < 0 then -1 else endAt n false zs (endAt n true zs (k + 1)).toNat) ∧ (z ≠ 3 → z ≠ 4 → endAt (n + 1) true zs k = -1) := by
  have h1 := getD_drop zs k hlt
  rw [hz] at h1
  have hF : eat (n + 1) false (zs.drop k) = if z = 0 then some (zs.drop (k + 1)) else if z = 1 then (if 0 ≤ (zs.drop (k + 1)).headD (-1) ∧ (zs.drop (k + 1)).headD (-1) ≤ 999 then some (zs.drop (k + 1 + 1)) else none) else if z = 2 then (eat n true (zs.drop (k + 1))).bind (eat n true) else none := by rw [eat, h1, List.tail_drop, List.tail_drop]
  have hT : eat (n + 1) true (zs.drop k) = if z = 3 then (if 0 ≤ (zs.drop (k + 1)).headD (-1) ∧ (zs.drop (k + 1)).headD (-1) ≤ 999 then some (zs.drop (k + 1 + 1)) else none) else if z = 4 then (eat n true (zs.drop (k + 1))).bind (eat n false) else none := by rw [eat, h1, List.tail_drop, List.tail_drop]
  refine ⟨fun e => ?_, fun e => ?_, fun e => ?_, fun e1 e2 e3 => ?_, fun e => ?_, fun e => ?_, fun e1 e2 => ?_⟩
  · rw [endAt, hF, if_pos e]; simp only [endOf, List.length_drop]; omega
  · exact endAt_lett (eat (n + 1) false (zs.drop k)) (by rw [hF, if_neg (by omega), if_pos e])
  · rw [← endAt_two, endAt, hF, if_neg (by omega), if_neg (by omega), if_pos e]
  · rw [endAt, hF, if_neg e1, if_neg e2, if_neg e3]; rfl
  · exact endAt_lett (eat (n + 1) true (zs.drop k)) (by rw [hT, if_pos e])
  · rw [← endAt_two, endAt, hT, if_neg (by omega), if_pos e]
  · rw [endAt, hT, if_neg e1, if_neg e2]; rfl

theorem eat_fuel {n m : Nat} {b : Bool} {zs : List Int} (hn : zs.length ≤ n) (hm : zs.length ≤ m) : eat n b zs = eat m b zs := by
  induction n generalizing m b zs with
  | zero =>
    obtain rfl : zs = [] := List.eq_nil_of_length_eq_zero (by omega)
    rcases m with _ | m
    · rfl
    · rcases b with _ | _ <;> rfl
  | succ n ih =>
    rcases m with _ | m
    · obtain rfl : zs = [] := List.eq_nil_of_length_eq_zero (by omega)
      rcases b with _ | _ <;> rfl
    · have h1 : eat n true zs.tail = eat m true zs.tail := ih (by rw [List.length_tail]; omega) (by rw [List.length_tail]; omega)
      have h2 : ∀ b2, (eat n true zs.tail).bind (eat n b2) = (eat m true zs.tail).bind (eat m b2) := fun b2 => by
        rw [h1]
        rcases h3 : eat m true zs.tail with _ | r
        · rfl
        · have := eat_len h3
          rw [List.length_tail] at this
          exact ih (by omega) (by omega)
      rcases b with _ | _
      · rw [eat, eat, h2]
      · rw [eat, eat, h2]
theorem rowB_end (zs : List Int) : rowB zs = (decide (zs.length ≤ 150) && decide (endAt zs.length true zs 0 = zs.length)) := by
  unfold rowB wholeR endAt
  rw [List.drop_zero]
  by_cases h : zs.length ≤ 150
  · rcases he : eat zs.length true zs with _ | r
    · simp [endOf]
    · have := eat_len he
      rcases r with _ | ⟨y, r⟩
      · simp [h, endOf]
      · simp only [Option.some.injEq, reduceCtorEq, and_false, if_false, Option.isSome_none]
        symm
        rw [Bool.and_eq_false_iff]
        right
        rw [decide_eq_false_iff_not]
        simp only [endOf, List.length_cons] at this ⊢
        omega
  · simp [h]
end Go.Proofs.YtaobijmjlkdphaaDoor
