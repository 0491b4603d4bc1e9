/- Contracts of the model's functions of chapter 1: words and brackets. -/
import Derived.Test.YtgiemajjmdjfkaaDoorA
namespace Go.Proofs.YtgiemajjmdjfkaaDoor
set_option maxRecDepth 100000
open Go.RowKit

theorem l1In_any (n lo hi : Int) (w : World) :
    Calls Tryd.prog 71 #[.int .i64 n, .int .i64 lo, .int .i64 hi] w fun e w' => e = .returned (.bool (decide (lo ≤ n) && decide (n ≤ hi))) ∧ w = w' := by
  go_enter Tryd.func71, Tryd.ntmps71
  go_wp2
  all_goals go_ret
  all_goals exact ⟨ret_bool (by simp [*] <;> omega), rfl⟩

theorem l1Word_any (n : Int) (w : World) :
    Calls Tryd.prog 81 #[.int .i64 n] w fun e w' => e = .returned (.bool (isWordB n)) ∧ w = w' := by
  rcases hb : (decide (0 ≤ n) && decide (n ≤ 999)) with _ | _ <;> have Hb := Lib.hid hb <;> clear hb
  all_goals
    go_enter Tryd.func81, Tryd.ntmps81
    go_wp2_with fail
    refine (l1In_any n 0 999 _).mono ?_
    rw [Hb.out]
    rintro e w' ⟨rfl, rfl⟩
    go_wp2_with (refine (l1In_any n 1001 1013 _).mono ?_; rintro e w' ⟨rfl, rfl⟩)
  all_goals go_ret
  all_goals exact ⟨ret_bool (by simp [isWordB, isNumB, Hb.out]), rfl⟩

/-- l1Fits: fitsFrom, and every word is one. -/
def l1From : Int → List Int → Bool
  | o, [] => o == 0
  | o, z :: zs => if isWordB z = false then false else if o + brk z < 0 then false else l1From (o + brk z) zs
theorem l1From_eq (o : Int) (zs : List Int) (ho : 0 ≤ o) : l1From o zs = (zs.all isWordB && fitsFrom o zs) := by
  induction zs generalizing o with
  | nil => simp [l1From, fitsFrom]
  | cons z zs ih =>
    rw [l1From, fitsFrom, List.all_cons]
    rcases hw : isWordB z with _ | _
    · simp
    · by_cases hn : o + brk z < 0
      · simp [hn]
      · simp [hn, ih (o + brk z) (by omega)]
theorem l1From_drop (o : Int) (zs : List Int) (k : Nat) (h : k < zs.length) :
    l1From o (zs.drop k) = if isWordB (zs.getD k 0) = false then false else if o + brk (zs.getD k 0) < 0 then false else l1From (o + brk (zs.getD k 0)) (zs.drop (k + 1)) := by
  rw [List.drop_eq_getElem_cons h, l1From]; simp [List.getD, List.getElem?_eq_getElem h]
theorem brk_cases (z : Int) : (z = 1012 ∧ brk z = 1) ∨ (z = 1013 ∧ brk z = -1) ∨ (z ≠ 1012 ∧ z ≠ 1013 ∧ brk z = 0) := by
  unfold brk; split
  · exact .inl ⟨‹_›, rfl⟩
  · split
    · exact .inr (.inl ⟨‹_›, rfl⟩)
    · exact .inr (.inr ⟨‹_›, ‹_›, rfl⟩)

theorem l1Fits_any (A : Option Addr) (c : Nat) (zs : List Int) (w : World) (h : Ints w A zs) :
    Calls Tryd.prog 62 #[.slice A zs.length c] w fun e w' => e = .returned (.bool (l1From 0 zs)) ∧ w = w' := by
  obtain ⟨hm, -, hr⟩ := h
  have Hr := Lib.hid hr; clear hr
  go_enter Tryd.func62, Tryd.ntmps62
  go_wp2
  go_loop [2, 3, 4] (fun r o i => ∃ (k : Nat) (x : Int), k ≤ zs.length ∧ i = .int .i64 k ∧ o = .int .i64 x ∧ 0 ≤ x ∧ x ≤ k ∧ l1From 0 zs = l1From x (zs.drop k)) (fun _ _ i => zs.length - (intOf i).toNat)
  case atStart => exact ⟨0, 0, Nat.zero_le _, rfl, rfl, by omega, by omega, by simp⟩
  case round =>
    obtain ⟨k, x, hk, rfl, rfl, hx0, hxk, hall⟩ := hrel
    by_cases hlt : k < zs.length
    · rw [l1From_drop x zs k hlt] at hall
      have Hall := Lib.hid hall; clear hall
      obtain ⟨b, off, rfl, hb, hc⟩ := Hr.out (by omega)
      have hcell := hc k hlt
      clear hc
      have hcs := brk_cases (zs.getD k 0)
      generalize zs.getD k 0 = z at *
      rcases hbw : isWordB z with _ | _ <;> have Hb := Lib.hid hbw <;> clear hbw
      · clear hcs
        go_wp2_with (go_at_call 81; refine (l1Word_any _ _).mono ?_; rw [Hb.out]; rintro e w' ⟨rfl, rfl⟩)
        go_ret
        exact ⟨ret_bool (by rw [Hall.out, if_pos Hb.out]), rfl⟩
      · have Hcs := Lib.hid hcs; clear hcs
        go_wp2_with (go_at_call 81; refine (l1Word_any _ _).mono ?_; rw [Hb.out]; rintro e w' ⟨rfl, rfl⟩)
        · have hbz : brk z = 1 := by rw [show z = 1012 from by simpa using ‹(z == 1012) = true›]; rfl
          go_round
          case rel => exact ⟨k + 1, x + 1, by omega, by go_num, rfl, by omega, by omega, by rw [Hall.out, if_neg (by simp [Hb.out]), hbz, if_neg (by omega)]⟩
          case measure => simp [intOf]; omega
        · have hbz : brk z = -1 := by rw [show z = 1013 from by simpa using ‹(z == 1013) = true›]; rfl
          go_ret
          exact ⟨ret_bool (by rw [Hall.out, if_neg (by simp [Hb.out]), hbz, if_pos (by omega)]), rfl⟩
        · have hbz : brk z = -1 := by rw [show z = 1013 from by simpa using ‹(z == 1013) = true›]; rfl
          go_round
          case rel => exact ⟨k + 1, x - 1, by omega, by go_num, rfl, by omega, by omega, by rw [Hall.out, if_neg (by simp [Hb.out]), hbz, if_neg (by omega)]; rfl⟩
          case measure => simp [intOf]; omega
        · have hbz : brk z = 0 := by
            have h1 : z ≠ 1012 := by simpa using ‹(z == 1012) = false›
            have h2 : z ≠ 1013 := by simpa using ‹(z == 1013) = false›
            simp [brk, h1, h2]
          go_round
          case rel => exact ⟨k + 1, x, by omega, by go_num, rfl, by omega, by omega, by rw [Hall.out, if_neg (by simp [Hb.out]), hbz, if_neg (by omega), Int.add_zero]⟩
          case measure => simp [intOf]; omega
    · have Hall := Lib.hid hall; clear hall
      go_wp2
      go_ret
      exact ⟨ret_bool (by rw [Hall.out, List.drop_eq_nil_of_le (by omega)]; rfl), rfl⟩

theorem specValid_any (A : Option Addr) (c : Nat) (zs : List Int) (w : World) (h : Ints w A zs) :
    Calls Tryd.prog 28 #[.slice A zs.length c] w fun e w' => e = .returned (.bool (validB zs)) ∧ w = w' := by
  have hm := h.len
  have H := Lib.hid h; clear h
  by_cases hl : zs.length ≤ 60
  · go_enter Tryd.func28, Tryd.ntmps28
    go_wp2_with (go_at_call 62; refine (l1Fits_any _ _ _ _ H.out).mono ?_; rintro e w' ⟨rfl, rfl⟩)
    go_ret
    exact ⟨ret_bool (by simp [validB, hl, l1From_eq]), rfl⟩
  · go_enter Tryd.func28, Tryd.ntmps28
    go_wp2
    go_ret
    exact ⟨ret_bool (by simp [validB, hl]), rfl⟩

end Go.Proofs.YtgiemajjmdjfkaaDoor
