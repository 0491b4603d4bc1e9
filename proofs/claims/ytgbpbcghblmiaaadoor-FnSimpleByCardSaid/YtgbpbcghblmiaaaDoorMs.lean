/- Rows of moves compared by the laws: sameMoves. -/
import Derived.Test.YtgbpbcghblmiaaaDoorB9
import Derived.Test.YtgbpbcghblmiaaaDoorI
import Derived.Deep.QuietTactic
import Derived.BigQuiet
namespace Go.Proofs.YtgbpbcghblmiaaaDoor
set_option maxRecDepth 100000
open Go.RowKit Go.WideShapes Go.Deep

set_option maxHeartbeats 1000000 in
theorem smM (v u : Value) (xs ys : List (Int × Int)) (w : World) (hx : RdM w v xs) (hy : RdM w u ys) (b : Bool) (hb : decide (xs = ys) = b) :
    Calls Tryd.prog 23 #[v, u] w fun e w' => e = .returned (.bool b) ∧ Below w.heap.size w w' := by
  have H := Lib.hid (And.intro hx hy)
  have HB := Lib.hid hb; clear hb
  obtain ⟨A, c, rfl, hm, _⟩ := hx
  obtain ⟨A', c', rfl, hm', _⟩ := hy
  by_cases hl : xs.length = ys.length
  case neg =>
    have hI : ((xs.length : Int) != ys.length) = true := by simp; omega
    obtain rfl : false = b := by rw [← HB.out]; symm; rw [decide_eq_false_iff_not]; intro e; exact hl (by rw [e])
    go_enter Tryd.func23, Tryd.ntmps23
    go_wp2
    go_ret
    exact ⟨rfl, Below.refl _ _⟩
  have hI : ((xs.length : Int) != ys.length) = false := by simp; omega
  have HL := Lib.hid hl; clear hl
  go_enter Tryd.func23, Tryd.ntmps23
  go_wp2
  go_loopw [5] (fun i wr => ∃ k : Nat, k ≤ xs.length ∧ i = .int .i64 k ∧ w.heap.size ≤ wr.heap.size ∧ Below w.heap.size w wr ∧ xs.take k = ys.take k) (fun i _ => xs.length - (intOf i).toNat)
  case atStart => exact ⟨0, Nat.zero_le _, rfl, Nat.le_refl _, Below.refl _ _, by simp⟩
  case round =>
    obtain ⟨k, hk, rfl, hsz, hbk, htk⟩ := hrel
    have X := Lib.hid (And.intro hbk htk); clear hbk htk
    by_cases hlt : k < xs.length
    · obtain ⟨A2, c2, e2, _, hr⟩ := H.out.1
      cases e2
      obtain ⟨p, po, rfl, hp, hpc⟩ := hr (by omega)
      obtain ⟨A3, c3, e3, _, hr'⟩ := H.out.2
      cases e3
      obtain ⟨q, qo, rfl, hq, hqc⟩ := hr' (by have := HL.out; omega)
      have hk2 : k < ys.length := by have := HL.out; omega
      have hz : xs[k]? = some xs[k] := List.getElem?_eq_getElem hlt
      have hz2 : ys[k]? = some ys[k] := List.getElem?_eq_getElem hk2
      obtain ⟨d0, d1⟩ := hpc k _ hz
      obtain ⟨f0, f1⟩ := hqc k _ hz2
      have HZ := Lib.hid (And.intro hz hz2)
      clear hz hz2 hpc hqc
      generalize xs[k] = x at *
      generalize ys[k] = y at *
      obtain ⟨x1, x2⟩ := x
      obtain ⟨y1, y2⟩ := y
      have e0 := (X.out.1.cell (p := ⟨p, po + k * 2, none⟩) hp).trans d0
      have e1 := (X.out.1.cell (p := ⟨p, po + k * 2 + 1, none⟩) hp).trans d1
      have g0 := (X.out.1.cell (p := ⟨q, qo + k * 2, none⟩) hq).trans f0
      have g1 := (X.out.1.cell (p := ⟨q, qo + k * 2 + 1, none⟩) hq).trans f1
      dsimp only at e0 e1 g0 g1
      clear d0 d1 f0 f1
      have hltI : (k : Int) < xs.length := by omega
      have hltJ : (k : Int) < ys.length := by omega
      by_cases q1 : x1 = y1
      case neg =>
        skip
        · have hne : ¬ xs = ys := fun e => by
            have h1' := HZ.out.1; rw [e, HZ.out.2] at h1'
            have h2' := Option.some.inj h1'
            simp at h2'
            omega
          obtain rfl : false = b := by rw [← HB.out]; symm; rw [decide_eq_false_iff_not]; exact hne
          clear hne
          have q1b : (x1 == y1) = false := by simpa using q1
          have q1c : (x1 != y1) = true := by simpa using q1
          go_wp2
          go_quiet (fail)
          go_wp2
          go_ret
          exact ⟨rfl, below_drewN X.out.1 _⟩
      subst q1
      by_cases q2 : x2 = y2
      case neg =>
        skip
        · have hne : ¬ xs = ys := fun e => by
            have h1' := HZ.out.1; rw [e, HZ.out.2] at h1'
            have h2' := Option.some.inj h1'
            simp at h2'
            omega
          obtain rfl : false = b := by rw [← HB.out]; symm; rw [decide_eq_false_iff_not]; exact hne
          clear hne
          have q1a : (x1 == x1) = true := by simp
          have q2b : (x2 == y2) = false := by simpa using q2
          have q2c : (x2 != y2) = true := by simpa using q2
          go_wp2
          go_quiet (fail)
          go_wp2
          go_ret
          exact ⟨rfl, below_drewN X.out.1 _⟩
      subst q2
      have hs := take_succ_eqM HZ.out.1 HZ.out.2 X.out.2 rfl
      have HS := Lib.hid hs; clear hs
      have q1a : (x1 == x1) = true := by simp
      have q2a : (x2 == x2) = true := by simp
      go_wp2
      go_quiet (fail)
      go_wp2
      go_roundw
      case rel => exact ⟨k + 1, by omega, by go_num, by simpa using hsz, below_drewN X.out.1 _, HS.out⟩
      case measure => simp [intOf]; omega
    · have hall : xs = ys := by
        have := X.out.2
        rwa [List.take_of_length_le (by omega), List.take_of_length_le (by have := HL.out; omega)] at this
      obtain rfl : true = b := by rw [← HB.out]; symm; exact decide_eq_true hall
      clear hall
      go_wp2
      go_ret
      exact ⟨rfl, X.out.1⟩
end Go.Proofs.YtgbpbcghblmiaaaDoor
