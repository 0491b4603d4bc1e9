/- RegsValid of the program, at registers by value. -/
import Derived.Test.YtpdhdiidkjgjmaaGreatOa
import Derived.Test.YtpdhdiidkjgjmaaGreatOd
import Derived.Test.YtpdhdiidkjgjmaaGreatB5
import Derived.Deep.RegionWith
namespace Go.Proofs.YtpdhdiidkjgjmaaGreat
set_option maxRecDepth 100000
open Go.RowKit Go.WideShapes Go.Deep

theorem reckons_any (z : Int) (w : World) (y : Bool) (hy : decide (1006 ≤ z ∧ z ≤ 1009) = y) :
    Calls Tryz.prog 51 #[.int .i64 z] w fun e w' => e = .returned (.bool y) ∧ w = w' := by
  have HY := Lib.hid hy; clear hy
  by_cases h1 : 1006 ≤ z
  · by_cases h2 : z ≤ 1009
    · obtain rfl : true = y := by rw [← HY.out]; simp [h1, h2]
      go_enter Tryz.func51, Tryz.ntmps51
      go_wp2
      go_ret
      exact ⟨ret_bool (by first | rfl | (simp; done) | (simp; omega)), rfl⟩
    · obtain rfl : false = y := by rw [← HY.out]; simp [h2]
      go_enter Tryz.func51, Tryz.ntmps51
      go_wp2
      go_ret
      exact ⟨ret_bool (by first | rfl | (simp; done) | (simp; omega)), rfl⟩
  · obtain rfl : false = y := by rw [← HY.out]; simp [h1]
    go_enter Tryz.func51, Tryz.ntmps51
    go_wp2
    go_ret
    exact ⟨ret_bool (by simp), rfl⟩
set_option maxHeartbeats 1000000 in
theorem isRegister_any (a t n : Int) (w : World) (ht : 0 ≤ t ∧ t ≤ 20) (hn : 0 ≤ n ∧ n ≤ 60) (y : Bool) (hy : knownB t n a = y) :
    Calls Tryz.prog 60 #[.int .i64 a, .int .i64 t, .int .i64 n] w fun e w' => e = .returned (.bool y) ∧ w = w' := by
  have HY := Lib.hid hy; clear hy
  have m1 : IntKind.i64.wrap (2000 + t) = 2000 + t := IntWalk.i64_in _ (by omega)
  have m2 : IntKind.i64.wrap (3000 + n) = 3000 + n := IntWalk.i64_in _ (by omega)
  by_cases h0 : 0 ≤ a ∧ a ≤ 999
  · have hq := Lib.hid (show isNumB a = true by simp [isNumB, h0])
    obtain rfl : true = y := by rw [← HY.out]; simp [knownB, h0]
    clear h0
    go_enter Tryz.func60, Tryz.ntmps60
    go_wp2_with fail
    refine (isNum_any a _).mono ?_
    rw [hq.out]
    rintro e w' ⟨rfl, rfl⟩
    go_wp2
    go_ret
    exact ⟨rfl, rfl⟩
  have hq := Lib.hid (show isNumB a = false by simp [isNumB]; omega)
  rcases (show (¬ (0 ≤ a ∧ a ≤ 999) ∧ a < 2000) ∨ (2000 ≤ a ∧ a < 2000 + t) ∨ (2000 + t ≤ a ∧ a < 3000) ∨ (3000 ≤ a ∧ a < 3000 + n) ∨ (3000 + n ≤ a) by omega) with hc | hc | hc | hc | hc
  · obtain rfl : false = y := by rw [← HY.out, knownB]; symm; rw [decide_eq_false_iff_not]; omega
    have f0 : ¬ (2000 : Int) ≤ a := by omega
    have f1 : ¬ (3000 : Int) ≤ a := by omega
    clear hc h0
    go_enter Tryz.func60, Tryz.ntmps60
    go_wp2_with fail
    refine (isNum_any a _).mono ?_
    rw [hq.out]
    rintro e w' ⟨rfl, rfl⟩
    go_wp2
    go_ret
    exact ⟨ret_bool (by first | rfl | (simp; done) | (simp; omega) | simp [*]), rfl⟩
  · obtain rfl : true = y := by rw [← HY.out, knownB]; symm; rw [decide_eq_true_eq]; omega
    have f0 : (2000 : Int) ≤ a := by omega
    have f1 : a < 2000 + t := by omega
    clear hc h0
    go_enter Tryz.func60, Tryz.ntmps60
    go_wp2_with fail
    refine (isNum_any a _).mono ?_
    rw [hq.out]
    rintro e w' ⟨rfl, rfl⟩
    go_wp2
    go_ret
    exact ⟨ret_bool (by first | rfl | (simp; done) | (simp; omega) | simp [*]), rfl⟩
  · obtain rfl : false = y := by rw [← HY.out, knownB]; symm; rw [decide_eq_false_iff_not]; omega
    have f0 : (2000 : Int) ≤ a := by omega
    have f1 : ¬ a < 2000 + t := by omega
    have f2 : ¬ (3000 : Int) ≤ a := by omega
    clear hc h0
    go_enter Tryz.func60, Tryz.ntmps60
    go_wp2_with fail
    refine (isNum_any a _).mono ?_
    rw [hq.out]
    rintro e w' ⟨rfl, rfl⟩
    go_wp2
    go_ret
    exact ⟨ret_bool (by first | rfl | (simp; done) | (simp; omega) | simp [*]), rfl⟩
  · obtain rfl : true = y := by rw [← HY.out, knownB]; symm; rw [decide_eq_true_eq]; omega
    have f0 : (2000 : Int) ≤ a := by omega
    have f1 : ¬ a < 2000 + t := by omega
    have f2 : (3000 : Int) ≤ a := by omega
    have f3 : a < 3000 + n := by omega
    clear hc h0
    go_enter Tryz.func60, Tryz.ntmps60
    go_wp2_with fail
    refine (isNum_any a _).mono ?_
    rw [hq.out]
    rintro e w' ⟨rfl, rfl⟩
    go_wp2
    go_ret
    exact ⟨ret_bool (by first | rfl | (simp; done) | (simp; omega) | simp [*]), rfl⟩
  · obtain rfl : false = y := by rw [← HY.out, knownB]; symm; rw [decide_eq_false_iff_not]; omega
    have f0 : (2000 : Int) ≤ a := by omega
    have f1 : ¬ a < 2000 + t := by omega
    have f2 : (3000 : Int) ≤ a := by omega
    have f3 : ¬ a < 3000 + n := by omega
    clear hc h0
    go_enter Tryz.func60, Tryz.ntmps60
    go_wp2_with fail
    refine (isNum_any a _).mono ?_
    rw [hq.out]
    rintro e w' ⟨rfl, rfl⟩
    go_wp2
    go_ret
    exact ⟨ret_bool (by first | rfl | (simp; done) | (simp; omega) | simp [*]), rfl⟩

set_option maxHeartbeats 4000000 in
theorem RegsValid_I (t : Int) (A0 : Option Addr) (c0 : Nat) (ms : List (Int × Int × Int)) (A1 : Option Addr) (c1 : Nat) (os : List Int) (w : World) (h0 : Rd3 w (.slice A0 ms.length c0) ms) (h1 : RdI w (.slice A1 os.length c1) os) (y : Bool) (hy : regsB t ms os = y) :
    Calls Tryz.prog 29 #[.agg #[.int .i64 t, .slice A0 ms.length c0, .slice A1 os.length c1]] w fun e w' => e = .returned (.bool y) ∧ Below w.heap.size w w' := by
  have hb : Below w.heap.size w (w.alloc (.cells #[.int .i64 t, .slice A0 ms.length c0, .slice A1 os.length c1] 27)) := (Below.refl _ _).alloc (Nat.le_refl _) _
  have hbk := Blk.new w #[.int .i64 t, .slice A0 ms.length c0, .slice A1 os.length c1] 27
  have H := Lib.hid (And.intro (h0.step hb) (And.intro (h1.step hb) (And.intro hb hbk)))
  have hml := h0.len_le
  have hfl := h1.len_le
  clear h0 h1 hb hbk
  have HY := Lib.hid hy; clear hy
  by_cases q : t < 0
  · obtain rfl : false = y := by rw [← HY.out, regsB_big (by omega)]
    have f0 : t < 0 := by omega
    clear q
    go_enter Tryz.func29, Tryz.ntmps29
    go_wp2
    go_ret
    exact ⟨rfl, H.out.2.2.1⟩
  have q0 := q
  clear q
  by_cases q : 20 < t
  · obtain rfl : false = y := by rw [← HY.out, regsB_big (by omega)]
    have f0 : ¬ t < 0 := by omega
    have f1 : (20 : Int) < t := by omega
    clear q
    go_enter Tryz.func29, Tryz.ntmps29
    go_wp2
    go_ret
    exact ⟨rfl, H.out.2.2.1⟩
  have q1 := q
  clear q
  by_cases q : 60 < ms.length
  · obtain rfl : false = y := by rw [← HY.out, regsB_big (by omega)]
    have f0 : ¬ t < 0 := by omega
    have f1 : ¬ (20 : Int) < t := by omega
    have f2 : (60 : Int) < (ms.length : Int) := by omega
    clear q
    go_enter Tryz.func29, Tryz.ntmps29
    go_wp2
    go_ret
    exact ⟨rfl, H.out.2.2.1⟩
  have q2 := q
  clear q
  by_cases q : 20 < os.length
  · obtain rfl : false = y := by rw [← HY.out, regsB_big (by omega)]
    have f0 : ¬ t < 0 := by omega
    have f1 : ¬ (20 : Int) < t := by omega
    have f2 : ¬ (60 : Int) < (ms.length : Int) := by omega
    have f3 : (20 : Int) < (os.length : Int) := by omega
    clear q
    go_enter Tryz.func29, Tryz.ntmps29
    go_wp2
    go_ret
    exact ⟨rfl, H.out.2.2.1⟩
  have q3 := q
  clear q
  have g1 : ¬ (60 : Int) < (ms.length : Int) := by omega
  have g2 : ¬ (20 : Int) < (os.length : Int) := by omega
  have hyr : (opsFromB t 0 ms && os.all (knownB t ms.length)) = y := by
    have := HY.out
    unfold regsB at this
    rw [decide_eq_true (by omega), Bool.true_and] at this
    exact this
  have HR := Lib.hid hyr; clear hyr HY
  go_enter Tryz.func29, Tryz.ntmps29
  go_wp2
  go_loopw [30] (fun i wr => ∃ k : Nat, k ≤ ms.length ∧ i = .int .i64 k ∧ w.heap.size + 1 ≤ wr.heap.size ∧ Below w.heap.size w wr ∧ RdB3 wr (w.heap.size + 1) (.slice A0 ms.length c0) ms ∧ RdBI wr (w.heap.size + 1) (.slice A1 os.length c1) os ∧ Blk wr w.heap.size #[.int .i64 t, .slice A0 ms.length c0, .slice A1 os.length c1] 27 ∧ opsFromB t 0 ms = opsFromB t k (ms.drop k)) (fun i _ => ms.length - (intOf i).toNat)
  case atStart => exact ⟨0, Nat.zero_le _, rfl, by simp, H.out.2.2.1, by have h := RdB3.at_ H.out.1; rw [World.size_alloc] at h; exact h, by have h := H.out.2.1.at_; rw [World.size_alloc] at h; exact h, H.out.2.2.2, by simp⟩
  case round =>
    clear H
    obtain ⟨k, hk, rfl, hsz, r1, r2, r3, r4, r5⟩ := hrel
    obtain ⟨p0, p1, p2, _, _, _⟩ := blkThree r4
    have R := Lib.hid (And.intro r1 (And.intro r2 (And.intro r3 (And.intro r4 r5)))); clear r1 r2 r3 r4 r5
    by_cases hlt : k < ms.length
    · have hltI : (k : Int) < ms.length := by omega
      obtain ⟨A2, c2, e2, _, hr⟩ := R.out.2.1
      cases e2
      obtain ⟨b, off, rfl, hbb, hcc⟩ := hr (by omega)
      obtain ⟨m, hm⟩ : ∃ m, ms[k]? = some m := ⟨_, List.getElem?_eq_getElem hlt⟩
      obtain ⟨d0, d1, d2⟩ := hcc k m hm
      have hod := opsFromB_drop (t := t) (j := k) hm
      have HO := Lib.hid hod
      clear hcc hr hm hod
      obtain ⟨z, a, a'⟩ := m
      dsimp only at d0 d1 d2
      have hba : Below wr.heap.size wr (wr.alloc (.cells #[.int .i64 z, .int .i64 a, .int .i64 a'] 33)) := (Below.refl _ _).alloc (Nat.le_refl _) _
      have V := Lib.hid (And.intro (R.out.1.trans (hba.mono (by omega))) (And.intro (R.out.2.1.below (hba.mono (by omega))) (And.intro (R.out.2.2.1.below (hba.mono (by omega))) (R.out.2.2.2.1.below hba (by omega))))); clear hba
      obtain ⟨n0, n1, n2, _, _, _⟩ := blkThree V.out.2.2.2
      rcases e1 : decide ((1006 : Int) ≤ z ∧ z ≤ 1009) with _ | _ <;> have E1 := Lib.hid e1 <;> clear e1
      · have hyf : false = y := by
          rw [← HR.out, R.out.2.2.2.2, HO.out, opOkB]; simp only []; rw [E1.out]; simp
        subst hyf
        go_wp2_with (go_at_call 51; refine (reckons_any z _ false E1.out).mono ?_; rintro e w' ⟨rfl, rfl⟩)
        go_ret
        exact ⟨rfl, V.out.1⟩
      rcases e2 : knownB t k a with _ | _ <;> have E2 := Lib.hid e2 <;> clear e2
      · have hyf : false = y := by
          rw [← HR.out, R.out.2.2.2.2, HO.out, opOkB]; simp only []; rw [E2.out]; simp
        subst hyf
        go_wp2_with (first
          | (go_at_call 51; refine (reckons_any z _ true E1.out).mono ?_; rintro e w' ⟨rfl, rfl⟩)
          | (go_at_call 60; refine (isRegister_any a t k _ (by omega) (by omega) false E2.out).mono ?_; rintro e w' ⟨rfl, rfl⟩))
        go_ret
        exact ⟨rfl, V.out.1⟩
      rcases e3 : knownB t k a' with _ | _ <;> have E3 := Lib.hid e3 <;> clear e3
      · have hyf : false = y := by
          rw [← HR.out, R.out.2.2.2.2, HO.out, opOkB]; simp only []; rw [E3.out]; simp
        subst hyf
        go_wp2_with fail
        refine (reckons_any z _ true E1.out).mono ?_
        rintro e w' ⟨rfl, rfl⟩
        go_wp2_with fail
        refine (isRegister_any a t k _ (by omega) (by omega) true E2.out).mono ?_
        rintro e w' ⟨rfl, rfl⟩
        go_wp2_with fail
        refine (isRegister_any a' t k _ (by omega) (by omega) false E3.out).mono ?_
        rintro e w' ⟨rfl, rfl⟩
        go_wp2
        go_ret
        exact ⟨rfl, V.out.1⟩
      · have hok : opsFromB t 0 ms = opsFromB t (k + 1) (ms.drop (k + 1)) := by
          rw [R.out.2.2.2.2, HO.out, opOkB]; simp only []; rw [E1.out, E2.out, E3.out]; simp
        have HK := Lib.hid hok; clear hok
        go_wp2_with fail
        refine (reckons_any z _ true E1.out).mono ?_
        rintro e w' ⟨rfl, rfl⟩
        go_wp2_with fail
        refine (isRegister_any a t k _ (by omega) (by omega) true E2.out).mono ?_
        rintro e w' ⟨rfl, rfl⟩
        go_wp2_with fail
        refine (isRegister_any a' t k _ (by omega) (by omega) true E3.out).mono ?_
        rintro e w' ⟨rfl, rfl⟩
        go_wp2
        go_roundw
        case rel => exact ⟨k + 1, by omega, by go_num, by simp; omega, V.out.1, V.out.2.1, V.out.2.2.1, V.out.2.2.2, HK.out⟩
        case measure => simp [intOf]; omega
    · obtain rfl : k = ms.length := by omega
      have hyo : os.all (knownB t ms.length) = y := by
        have := HR.out
        rw [R.out.2.2.2.2, List.drop_length, opsFromB, Bool.true_and] at this
        exact this
      have HA := Lib.hid hyo; clear hyo
      go_wp2
      go_loopw [61] (fun i wr => ∃ k : Nat, k ≤ os.length ∧ i = .int .i64 k ∧ w.heap.size + 1 ≤ wr.heap.size ∧ Below w.heap.size w wr ∧ RdBI wr (w.heap.size + 1) (.slice A1 os.length c1) os ∧ Blk wr w.heap.size #[.int .i64 t, .slice A0 ms.length c0, .slice A1 os.length c1] 27 ∧ (os.take k).all (knownB t ms.length) = true) (fun i _ => os.length - (intOf i).toNat)
      case atStart => exact ⟨0, Nat.zero_le _, rfl, hsz, R.out.1, R.out.2.2.1, R.out.2.2.2.1, by simp⟩
      case round =>
        clear R
        obtain ⟨k, hk, rfl, hsz, r1, r2, r3, r4⟩ := hrel
        obtain ⟨p0, p1, p2, _, _, _⟩ := blkThree r3
        have R := Lib.hid (And.intro r1 (And.intro r2 (And.intro r3 r4))); clear r1 r2 r3 r4
        by_cases hlt : k < os.length
        · have hltI : (k : Int) < os.length := by omega
          obtain ⟨_, _, e, hi, _⟩ := R.out.2.1
          cases e
          obtain ⟨bb, of2, rfl, hbb, hcc⟩ := hi.at_ (by omega)
          have hcell := hcc k hlt
          clear hcc hi
          rcases e2 : knownB t ms.length (os.getD k 0) with _ | _ <;> have E2 := Lib.hid e2 <;> clear e2
          · have hyf : false = y := by
              rw [← HA.out]; symm
              rw [List.all_eq_false]
              refine ⟨os.getD k 0, ?_, by rw [E2.out]; simp⟩
              simp [List.getD, List.getElem?_eq_getElem hlt]
            subst hyf
            generalize os.getD k 0 = x at *
            go_wp2_with (go_at_call 60; refine (isRegister_any x t ms.length _ (by omega) (by omega) false E2.out).mono ?_; rintro e w' ⟨rfl, rfl⟩)
            go_ret
            exact ⟨rfl, R.out.1⟩
          · have hall : (os.take (k + 1)).all (knownB t ms.length) = true := by
              rw [List.take_add_one, List.getElem?_eq_getElem hlt, List.all_append, R.out.2.2.2]
              have h3 := E2.out
              simp only [List.getD, List.getElem?_eq_getElem hlt, Option.getD_some] at h3
              simp [h3]
            have HL := Lib.hid hall; clear hall
            generalize os.getD k 0 = x at *
            go_wp2_with (go_at_call 60; refine (isRegister_any x t ms.length _ (by omega) (by omega) true E2.out).mono ?_; rintro e w' ⟨rfl, rfl⟩)
            go_roundw
            case rel => exact ⟨k + 1, by omega, by go_num, hsz, R.out.1, R.out.2.1, R.out.2.2.1, HL.out⟩
            case measure => simp [intOf]; omega
        · obtain rfl : k = os.length := by omega
          obtain rfl : true = y := by have := R.out.2.2.2; rw [List.take_length] at this; rw [← HA.out, this]
          go_wp2
          go_ret
          exact ⟨rfl, R.out.1⟩
end Go.Proofs.YtpdhdiidkjgjmaaGreat
