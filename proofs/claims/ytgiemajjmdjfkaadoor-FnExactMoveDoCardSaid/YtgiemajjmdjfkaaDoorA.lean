/- Contracts of the small functions of chapter 1: words and brackets. -/
import Derived.Test.YtgiemajjmdjfkaaDoorW
namespace Go.Proofs.YtgiemajjmdjfkaaDoor
set_option maxRecDepth 100000
open Go.RowKit

def isNumB (n : Int) : Bool := decide (0 ≤ n) && decide (n ≤ 999)
def isWordB (n : Int) : Bool := isNumB n || (decide (1001 ≤ n) && decide (n ≤ 1013))
def brk (n : Int) : Int := if n = 1012 then 1 else if n = 1013 then -1 else 0

theorem isNum_any (n : Int) (w : World) :
    Calls Tryd.prog 106 #[.int .i64 n] w fun e w' => e = .returned (.bool (isNumB n)) ∧ w = w' := by
  go_enter Tryd.func106, Tryd.ntmps106
  go_wp2
  all_goals go_ret
  all_goals exact ⟨by simp [isNumB, *] <;> omega, rfl⟩

theorem bracketChange_any (n : Int) (w : World) :
    Calls Tryd.prog 63 #[.int .i64 n] w fun e w' => e = .returned (.int .i64 (brk n)) ∧ w = w' := by
  go_enter Tryd.func63, Tryd.ntmps63
  go_wp2
  all_goals go_ret
  all_goals exact ⟨by simp_all [brk], rfl⟩

theorem isWord_any (n : Int) (w : World) :
    Calls Tryd.prog 90 #[.int .i64 n] w fun e w' => e = .returned (.bool (isWordB n)) ∧ w = w' := by
  rcases hb : isNumB n with _ | _ <;> have Hb := Lib.hid hb <;> clear hb
  all_goals
    go_enter Tryd.func90, Tryd.ntmps90
    go_wp2_with (go_at_call 106; refine (isNum_any _ _).mono ?_; rw [Hb.out]; rintro e w' ⟨rfl, rfl⟩)
  all_goals go_ret
  all_goals exact ⟨by simp [isWordB, Hb.out, *] <;> omega, rfl⟩

theorem allWords_any (A : Option Addr) (c : Nat) (zs : List Int) (w : World) (h : Ints w A zs) :
    Calls Tryd.prog 69 #[.slice A zs.length c] w fun e w' => e = .returned (.bool (zs.all isWordB)) ∧ w = w' := by
  obtain ⟨hm, -, hr⟩ := h
  have Hr := Lib.hid hr; clear hr
  go_enter Tryd.func69, Tryd.ntmps69
  go_wp2
  go_loop [7] (fun i => ∃ k : Nat, k ≤ zs.length ∧ i = .int .i64 k ∧ (zs.take k).all isWordB = true) (fun i => zs.length - (intOf i).toNat)
  case atStart => exact ⟨0, Nat.zero_le _, rfl, by simp⟩
  case round =>
    obtain ⟨k, hk, rfl, hall⟩ := hrel
    have Hall := Lib.hid hall; clear hall
    by_cases hlt : k < zs.length
    · obtain ⟨b, off, rfl, hb, hc⟩ := Hr.out (by omega)
      have hcell := hc k hlt
      clear hc
      have hsnoc : (zs.take (k + 1)).all isWordB = isWordB (zs.getD k 0) := by
        rw [List.take_add_one, List.all_append, Hall.out]; simp [List.getElem?_eq_getElem hlt, List.getD]
      have Hs := Lib.hid hsnoc; clear hsnoc
      have hfin : isWordB (zs.getD k 0) = false → zs.all isWordB = false := by
        intro hf
        rw [List.all_eq_false]; exact ⟨zs.getD k 0, by simp [List.getD, List.getElem?_eq_getElem hlt], by simpa using hf⟩
      have Hf := Lib.hid hfin; clear hfin
      generalize zs.getD k 0 = z at *
      rcases hb : isWordB z with _ | _ <;> have Hb := Lib.hid hb <;> clear hb
      all_goals
        go_wp2_with (go_at_call 90; refine (isWord_any _ _).mono ?_; rw [Hb.out]; rintro e w' ⟨rfl, rfl⟩)
      · go_ret
        exact ⟨ret_bool (Hf.out Hb.out).symm, rfl⟩
      · go_round
        case rel => exact ⟨k + 1, by omega, by go_num, by rw [Hs.out]; exact Hb.out⟩
        case measure => simp [intOf]; omega
    · go_wp2
      go_ret
      exact ⟨ret_bool (by rw [← Hall.out, List.take_of_length_le (by omega)]), rfl⟩

/-- bracketsFit: whether the sums of the brackets never fall below 0 and end at 0. -/
def fitsFrom : Int → List Int → Bool
  | o, [] => o == 0
  | o, z :: zs => if o + brk z < 0 then false else fitsFrom (o + brk z) zs
theorem brk_bd (z : Int) : -1 ≤ brk z ∧ brk z ≤ 1 := by unfold brk; split <;> (try split) <;> omega
theorem fitsFrom_drop (o : Int) (zs : List Int) (k : Nat) (h : k < zs.length) :
    fitsFrom o (zs.drop k) = if o + brk (zs.getD k 0) < 0 then false else fitsFrom (o + brk (zs.getD k 0)) (zs.drop (k + 1)) := by
  rw [List.drop_eq_getElem_cons h, fitsFrom]; simp [List.getD, List.getElem?_eq_getElem h]

theorem bracketsFit_any (A : Option Addr) (c : Nat) (zs : List Int) (w : World) (h : Ints w A zs) :
    Calls Tryd.prog 70 #[.slice A zs.length c] w fun e w' => e = .returned (.bool (fitsFrom 0 zs)) ∧ w = w' := by
  obtain ⟨hm, -, hr⟩ := h
  have Hr := Lib.hid hr; clear hr
  go_enter Tryd.func70, Tryd.ntmps70
  go_wp2
  go_loop [3, 8] (fun o i => ∃ (k : Nat) (x : Int), k ≤ zs.length ∧ i = .int .i64 k ∧ o = .int .i64 x ∧ 0 ≤ x ∧ x ≤ k ∧ fitsFrom 0 zs = fitsFrom x (zs.drop k)) (fun _ i => zs.length - (intOf i).toNat)
  case atStart => exact ⟨0, 0, Nat.zero_le _, rfl, rfl, by omega, by omega, by simp⟩
  case round =>
    obtain ⟨k, x, hk, rfl, rfl, hx0, hxk, hall⟩ := hrel
    by_cases hlt : k < zs.length
    · rw [fitsFrom_drop x zs k hlt] at hall
      have Hall := Lib.hid hall; clear hall
      obtain ⟨b, off, rfl, hb, hc⟩ := Hr.out (by omega)
      have hcell := hc k hlt
      clear hc
      have hbd := brk_bd (zs.getD k 0)
      generalize zs.getD k 0 = z at *
      by_cases hneg : x + brk z < 0
      all_goals
        go_wp2_with (go_at_call 63; refine (bracketChange_any _ _).mono ?_; rintro e w' ⟨rfl, rfl⟩)
      · go_ret
        exact ⟨ret_bool (by rw [Hall.out, if_pos hneg]), rfl⟩
      · go_round
        case rel => exact ⟨k + 1, x + brk z, by omega, by go_num, rfl, by omega, by omega, by rw [Hall.out, if_neg (by omega)]⟩
        case measure => simp [intOf]; omega
    · have Hall := Lib.hid hall; clear hall
      go_wp2
      go_ret
      exact ⟨ret_bool (by rw [Hall.out, List.drop_eq_nil_of_le (by omega)]; rfl), rfl⟩

def validB (zs : List Int) : Bool := decide (zs.length ≤ 60) && zs.all isWordB && fitsFrom 0 zs

theorem ProgValid_any (A : Option Addr) (c : Nat) (zs : List Int) (w : World) (h : Ints w A zs) :
    Calls Tryd.prog 35 #[.slice A zs.length c] w fun e w' => e = .returned (.bool (validB zs)) ∧ w = w' := by
  have hm := h.len
  have H := Lib.hid h; clear h
  by_cases hl : zs.length ≤ 60
  · rcases ha : zs.all isWordB with _ | _ <;> have Ha := Lib.hid ha <;> clear ha
    all_goals
      go_enter Tryd.func35, Tryd.ntmps35
      go_wp2_with (first
        | (go_at_call 69; refine (allWords_any _ _ _ _ H.out).mono ?_; rw [Ha.out]; rintro e w' ⟨rfl, rfl⟩)
        | (go_at_call 70; refine (bracketsFit_any _ _ _ _ H.out).mono ?_; rintro e w' ⟨rfl, rfl⟩))
      go_ret
      exact ⟨ret_bool (by simp [validB, hl, Ha.out]), rfl⟩
  · go_enter Tryd.func35, Tryd.ntmps35
    go_wp2
    go_ret
    exact ⟨ret_bool (by simp [validB, hl]), rfl⟩

end Go.Proofs.YtgiemajjmdjfkaaDoor
