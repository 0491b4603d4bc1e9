/- Rows and stacks compared with the slices package, and by the model. -/
import Derived.Test.YtjblecinkedppaaGreatDoorB5
import Derived.Test.YtjblecinkedppaaGreatDoorI
import Derived.Test.YtjblecinkedppaaGreatDoorB8
import Derived.Deep.QuietTactic
import Derived.BigQuiet
namespace Go.Proofs.YtjblecinkedppaaGreatDoor
set_option maxRecDepth 100000
open Go.RowKit Go.WideShapes

theorem slEq_any (A B : Option Addr) (c d : Nat) (xs ys : List Int) (w : World) (hx : Ints w A xs) (hy : Ints w B ys) :
    Calls Tryz.prog 80 #[.slice A xs.length c, .slice B ys.length d] w fun e w' => e = .returned (.bool (decide (xs = ys))) ∧ ∃ n, w' = w.drewN n := by
  obtain ⟨hmx, -, hrx⟩ := hx
  obtain ⟨hmy, -, hry⟩ := hy
  have Hrx := Lib.hid hrx; clear hrx
  have Hry := Lib.hid hry; clear hry
  by_cases hlen : xs.length = ys.length
  · rw [← hlen]
    have Hlen := Lib.hid hlen
    have h1 : ys.length ≤ xs.length := by omega
    have h2 : xs.length ≤ ys.length := by omega
    clear hlen
    go_enter Tryz.func80, Tryz.ntmps80
    go_wp2
    go_loopw [5, 13] (fun _ i wr => ∃ k n : Nat, k ≤ xs.length ∧ i = .int .i64 k ∧ wr = w.drewN n ∧ xs.take k = ys.take k) (fun _ i _ => xs.length - (intOf i).toNat)
    case atStart => exact ⟨0, 0, Nat.zero_le _, rfl, rfl, rfl⟩
    case round =>
      obtain ⟨k, n, hk, rfl, rfl, ht⟩ := hrel
      have Ht := Lib.hid ht; clear ht
      by_cases hlt : k < xs.length
      · obtain ⟨b, off, rfl, hb, hc⟩ := Hrx.out (by omega)
        obtain ⟨b', off', rfl, hb', hc'⟩ := Hry.out (by omega)
        have hcell := hc k hlt
        have hcell' := hc' k (by omega)
        clear hc hc'
        have hlt' : (k : Int) < xs.length := by omega
        have hlt2 : (k : Int) < ys.length := by omega
        have hsucc := take_succ_eq hlt Hlen.out Ht.out
        have hne : xs.getD k 0 ≠ ys.getD k 0 → xs ≠ ys := ne_of_getD
        have Hs := Lib.hid hsucc; clear hsucc
        have Hn := Lib.hid hne; clear hne
        generalize xs.getD k 0 = x at *
        generalize ys.getD k 0 = y at *
        go_wp2
        go_quiet (fail)
        go_wp2
        · have hxy : (x != y) = true := by assumption
          have hf : ¬ xs = ys := Hn.out (by simpa using hxy)
          go_ret
          exact ⟨ret_bool (by simp [hf]), _, World.drewN_drewN _ _ _⟩
        · have hxy : (x != y) = false := by assumption
          have he : x = y := by simpa using hxy
          have hs := Hs.out he
          go_roundw
          case rel => exact ⟨k + 1, _, by omega, by go_num, rfl, hs⟩
          case measure => simp [intOf]; omega
      · have hfin : xs = ys := by
          have := Ht.out
          rwa [List.take_of_length_le (by omega), List.take_of_length_le (by omega)] at this
        have Hf := Lib.hid hfin; clear hfin
        go_wp2
        go_ret
        exact ⟨ret_bool (by simp [Hf.out]), n, rfl⟩
  · have hne : ¬ xs = ys := fun e => hlen (by rw [e])
    have hb : ((xs.length : Int) != (ys.length : Int)) = true := by rw [bne_iff_ne]; omega
    have Hne := Lib.hid hne; clear hne
    clear hlen
    go_enter Tryz.func80, Tryz.ntmps80
    go_wp2
    go_ret
    exact ⟨ret_bool (by simp [Hne.out]), 0, rfl⟩

theorem slEqQ (v u : Value) (xs ys : List Int) (w : World) (hx : RdI w v xs) (hy : RdI w u ys) (b : Bool) (hb : decide (xs = ys) = b) :
    Calls Tryz.prog 80 #[v, u] w fun e w' => e = .returned (.bool b) ∧ ∃ n, w' = w.drewN n := by
  subst hb
  obtain ⟨A, c, rfl, hi, _⟩ := hx
  obtain ⟨A', c', rfl, hi', _⟩ := hy
  exact slEq_any A A' c c' xs ys w hi hi'
theorem l1Same_any (A B : Option Addr) (c d : Nat) (xs ys : List Int) (w : World) (hx : Ints w A xs) (hy : Ints w B ys) :
    Calls Tryz.prog 30 #[.slice A xs.length c, .slice B ys.length d] w fun e w' => e = .returned (.bool (decide (xs = ys))) ∧ ∃ n, w' = w.drewN n := by
  obtain ⟨hmx, -, hrx⟩ := hx
  obtain ⟨hmy, -, hry⟩ := hy
  have Hrx := Lib.hid hrx; clear hrx
  have Hry := Lib.hid hry; clear hry
  go_enter Tryz.func30, Tryz.ntmps30
  go_wp2
  go_loopw [5] (fun i wr => ∃ k n : Nat, k ≤ xs.length ∧ k ≤ ys.length ∧ i = .int .i64 k ∧ wr = w.drewN n ∧ xs.take k = ys.take k) (fun i _ => xs.length - (intOf i).toNat)
  case atStart => exact ⟨0, 0, Nat.zero_le _, Nat.zero_le _, rfl, rfl, rfl⟩
  case round =>
    obtain ⟨k, n, hk, hky, rfl, rfl, ht⟩ := hrel
    have Ht := Lib.hid ht; clear ht
    by_cases hlt : k < xs.length
    · by_cases hly : k < ys.length
      · obtain ⟨b, off, rfl, hb, hc⟩ := Hrx.out (by omega)
        obtain ⟨b', off', rfl, hb', hc'⟩ := Hry.out (by omega)
        have hcell := hc k hlt
        have hcell' := hc' k hly
        clear hc hc'
        have hlt' : (k : Int) < xs.length := by omega
        have hlt2 : (k : Int) < ys.length := by omega
        have hsucc : xs.getD k 0 = ys.getD k 0 → xs.take (k + 1) = ys.take (k + 1) := fun he => by
          have h1 : xs[k]? = some (xs.getD k 0) := by simp [List.getD, List.getElem?_eq_getElem hlt]
          have h2 : ys[k]? = some (ys.getD k 0) := by simp [List.getD, List.getElem?_eq_getElem hly]
          rw [List.take_add_one, List.take_add_one, Ht.out, h1, h2, he]
        have hne : xs.getD k 0 ≠ ys.getD k 0 → xs ≠ ys := ne_of_getD
        have Hs := Lib.hid hsucc; clear hsucc
        have Hn := Lib.hid hne; clear hne
        generalize xs.getD k 0 = x at *
        generalize ys.getD k 0 = y at *
        go_wp2
        go_quiet (fail)
        go_wp2
        · have hxy : (x != y) = true := by assumption
          have hf : ¬ xs = ys := Hn.out (by simpa using hxy)
          go_ret
          exact ⟨ret_bool (by simp [hf]), _, World.drewN_drewN _ _ _⟩
        · have hxy : (x != y) = false := by assumption
          have he : x = y := by simpa using hxy
          have hs := Hs.out he
          go_roundw
          case rel => exact ⟨k + 1, _, by omega, by omega, by go_num, rfl, hs⟩
          case measure => simp [intOf]; omega
      · have hf : ¬ xs = ys := fun e => by rw [e] at hlt; omega
        have hb : ((xs.length : Int) == (ys.length : Int)) = false := by rw [beq_eq_false_iff_ne]; omega
        have Hf := Lib.hid hf; clear hf
        have hlt' : (k : Int) < xs.length := by omega
        have hly' : ¬ (k : Int) < ys.length := by omega
        go_wp2
        go_ret
        exact ⟨ret_bool (by simp [Hf.out]), n, rfl⟩
    · have hlt' : ¬ (k : Int) < xs.length := by omega
      have hres : decide (xs = ys) = ((xs.length : Int) == (ys.length : Int)) := by
        have h1 := Ht.out
        rw [List.take_of_length_le (by omega)] at h1
        rw [Bool.eq_iff_iff, decide_eq_true_eq, beq_iff_eq]
        constructor
        · intro e; rw [e]
        · intro e
          rw [List.take_of_length_le (by omega)] at h1
          exact h1
      have Hres := Lib.hid hres; clear hres
      go_wp2
      go_ret
      exact ⟨ret_bool (by rw [Hres.out]), n, rfl⟩
theorem flatten_eq {xss yss : List (List Int)} (hx : stackB xss = true) (hy : stackB yss = true) : decide (xss.flatten = yss.flatten) = decide (xss = yss) := by
  rw [Bool.eq_iff_iff, decide_eq_true_eq, decide_eq_true_eq]
  constructor
  · intro h
    rw [← parts_values (stackB_all hx).2, ← parts_values (stackB_all hy).2, h]
  · intro h; rw [h]
theorem runOfR_stack {p : List Int} {s a0 : List (List Int)} {a1 : Int} {a2 : Bool} (h : runOfR p s = (a0, a1, a2)) : stackB a0 = true := by
  rcases a2 with _ | _
  · have := runOfR_no (p := p) (s := s) (by rw [h])
    rw [h] at this; cases this; rfl
  · obtain ⟨-, -, x, -, he, hs, -⟩ := runOfR_ok (p := p) (s := s) (by rw [h])
    rw [h] at he; cases he; exact hs
theorem stackB_small {s : List (List Int)} (h : stackB s = true) : s.length ≤ 1048576 ∧ szS s ≤ 1048576 ∧ s.flatten.length ≤ 1200 := by
  obtain ⟨h1, h2⟩ := stackB_all h
  refine ⟨by omega, ?_, flatten_len h⟩
  have : ∀ t : List (List Int), (∀ v ∈ t, v.length ≤ 60) → szS t ≤ 60 * t.length := by
    intro t; induction t with
    | nil => simp [szS]
    | cons v t ih => intro h; rw [szS, List.length_cons]; have := h v (by simp); have := ih (fun u hu => h u (by simp [hu])); omega
  have := this s (fun v hv => (valueB_len (h2 v hv)).2)
  omega
end Go.Proofs.YtjblecinkedppaaGreatDoor
