/- Chapter 7: ShuffleFor of the model. -/
import Derived.Test.YtkdpfiaegimnlaaJl
namespace Go.Proofs.Ytkdpfiaegimnlaa
set_option maxRecDepth 100000
open Go.RowKit Go.WideShapes Go.Deep

set_option maxHeartbeats 4000000 in
theorem ShuffleFor_S (x0 : Int) (v1 : Value) (x1 : List Int) (w : World) (_ : InK .i64 x0) (h1 : RdI w v1 x1) (_ : x1.length ≤ 1048576) (y0 : List Int) (y1 : Bool) (hR : shuffleForR x0 x1 = (y0, y1)) :
    Calls Try.prog 83 #[.int .i64 x0, v1] w (PairI w y0 y1) := by
  have H := Lib.hid h1
  obtain ⟨A, c, rfl, hi, hc⟩ := h1
  have HI := Lib.hid hi; clear hi
  have HR := Lib.hid hR; clear hR
  have L0 := Lib.hid (nilLit w)
  rcases hm : (decide (0 ≤ x0) && decide (x0 ≤ 5)) with _ | _ <;> have HM := Lib.hid hm <;> clear hm
  · obtain ⟨rfl, rfl⟩ := shuffleForR_bad HR.out (by
      rintro ⟨h1, h2, _⟩
      have := HM.out
      rw [decide_eq_true h1, decide_eq_true h2] at this; cases this)
    go_enter Try.func83, Try.ntmps83
    go_wp2_with (go_at_call 81; refine (l1In_any _ _ _ _).mono ?_; rw [HM.out]; rintro e w' ⟨rfl, rfl⟩)
    go_ret2
    exact ⟨_, rfl, L0.out⟩
  by_cases q2 : 5 < x1.length
  · obtain ⟨rfl, rfl⟩ := shuffleForR_bad HR.out (by omega)
    have q2I : (5 : Int) < x1.length := by omega
    go_enter Try.func83, Try.ntmps83
    go_wp2_with (go_at_call 81; refine (l1In_any _ _ _ _).mono ?_; rw [HM.out]; rintro e w' ⟨rfl, rfl⟩)
    go_ret2
    exact ⟨_, rfl, L0.out⟩
  have q2I : ¬ (5 : Int) < x1.length := by omega
  have hm2 := HM.out
  simp only [Bool.and_eq_true, decide_eq_true_eq] at hm2
  obtain ⟨n, rfl⟩ : ∃ n : Nat, x0 = n := ⟨x0.toNat, by omega⟩
  have hn5 : n ≤ 5 := by omega
  have hl5 : x1.length ≤ 5 := by omega
  clear hm2
  go_enter Try.func83, Try.ntmps83
  go_wp2_with (go_at_call 81; refine (l1In_any _ _ _ _).mono ?_; rw [HM.out]; rintro e w' ⟨rfl, rfl⟩)
  go_loop [6] (fun i => ∃ k : Nat, k ≤ x1.length ∧ i = .int .i64 k ∧ allB n (x1.drop k) = allB n x1) (fun i => x1.length - (intOf i).toNat)
  case atStart => exact ⟨0, Nat.zero_le _, rfl, by simp⟩
  case round =>
    obtain ⟨k, hk, rfl, hall⟩ := hrel
    by_cases hlt : k < x1.length
    · obtain ⟨b, off, rfl, hb, hcc⟩ := HI.out.at_ (by omega)
      have hcell := hcc k hlt
      clear hcc
      rw [allB_drop n x1 k hlt] at hall
      have Hall := Lib.hid hall; clear hall
      generalize x1.getD k 0 = z at *
      rcases hz : (decide (0 ≤ z) && decide (z ≤ (n : Int) - 1)) with _ | _ <;> have HZ := Lib.hid hz <;> clear hz
      · have hf : allB n x1 = false := by
          rw [← Hall.out]
          have := HZ.out
          rw [Bool.and_eq_false_iff] at this
          rcases this with h | h
          · rw [h]; simp
          · have : decide (z < (n : Int)) = false := by rw [decide_eq_false_iff_not] at h ⊢; omega
            rw [this]; simp
        obtain ⟨rfl, rfl⟩ := shuffleForR_bad HR.out (by rw [hf]; simp)
        clear hf
        go_wp2_with (go_at_call 81; refine (l1In_any _ _ _ _).mono ?_; rw [HZ.out]; rintro e w' ⟨rfl, rfl⟩)
        go_ret2
        exact ⟨_, rfl, L0.out⟩
      · have hz01 := HZ.out
        simp only [Bool.and_eq_true, decide_eq_true_eq] at hz01
        have HA := Lib.hid (show allB n (x1.drop (k + 1)) = allB n x1 by
          rw [← Hall.out, show decide ((0 : Int) ≤ z) = true from decide_eq_true (by omega), show decide (z < (n : Int)) = true from decide_eq_true (by omega)]; rfl)
        clear hz01
        go_wp2_with (go_at_call 81; refine (l1In_any _ _ _ _).mono ?_; rw [HZ.out]; rintro e w' ⟨rfl, rfl⟩)
        go_round
        case rel => exact ⟨k + 1, by omega, by go_num, HA.out⟩
        case measure => simp [intOf]; omega
    · rw [List.drop_eq_nil_of_le (by omega)] at hall
      have Ha := Lib.hid (show allB n x1 = true from hall.symm); clear hall
      have HR2 := Lib.hid (show (if (forR n x1).length ≤ 60 then (forR n x1, true) else ([], false)) = (y0, y1) by
        have := HR.out
        rw [shuffleForR, Int.toNat_natCast] at this
        by_cases h6 : (forR n x1).length ≤ 60
        · rw [if_pos ⟨by omega, by omega, hl5, Ha.out, h6⟩] at this; rw [if_pos h6]; exact this
        · rw [if_neg (fun h => h6 h.2.2.2.2)] at this; rw [if_neg h6]; exact this)
      have HP := Lib.hid (l7Program_any n (.slice A x1.length c) x1 w H.out hn5 hl5 Ha.out)
      have HV := Lib.hid (forR_valid n x1)
      have hpl0 := forR_len n x1 hn5 hl5 Ha.out
      have hfl : (forR n x1).length ≤ 1000 := by rw [forR, List.length_append]; omega
      have HP2 : Hid (Calls Try.prog 119 #[.int .i64 n, .slice A x1.length c] w (Gives w (forR n x1))) := HP
      clear hpl0 HP HR L0
      generalize forR n x1 = fs at *
      go_wp2_with fail
      refine HP2.out.mono ?_
      rintro e w1 ⟨u1, rfl, ho1, hb1⟩
      obtain ⟨A1, c1, rfl, hi1, _⟩ := ho1.rd
      have X := Lib.hid (And.intro hi1 (And.intro ho1 (And.intro hb1 (nilOut hb1)))); clear hi1 ho1 hb1
      by_cases h60 : fs.length ≤ 60
      · have hv : validB fs = true := by rw [HV.out]; exact decide_eq_true h60
        have Hv := Lib.hid hv; clear hv
        obtain ⟨rfl, rfl⟩ : fs = y0 ∧ true = y1 := by have := HR2.out; rw [if_pos h60] at this; cases this; exact ⟨rfl, rfl⟩
        go_wp2_with (go_at_call 62; refine (specValid_any A1 c1 _ _ X.out.1).mono ?_; rw [Hv.out]; rintro e w' ⟨rfl, rfl⟩)
        go_ret2
        exact ⟨_, rfl, X.out.2.1, X.out.2.2.1⟩
      · have hv : validB fs = false := by rw [HV.out]; exact decide_eq_false h60
        have Hv := Lib.hid hv; clear hv
        obtain ⟨rfl, rfl⟩ : [] = y0 ∧ false = y1 := by have := HR2.out; rw [if_neg h60] at this; cases this; exact ⟨rfl, rfl⟩
        go_wp2_with (go_at_call 62; refine (specValid_any A1 c1 _ _ X.out.1).mono ?_; rw [Hv.out]; rintro e w' ⟨rfl, rfl⟩)
        go_ret2
        exact ⟨_, rfl, X.out.2.2.2⟩
end Go.Proofs.Ytkdpfiaegimnlaa
