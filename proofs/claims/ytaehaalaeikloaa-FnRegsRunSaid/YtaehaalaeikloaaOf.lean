/- RegsValid of the model, at registers by value. -/
import Derived.Test.YtaehaalaeikloaaOe
import Derived.Test.YtaehaalaeikloaaB1
import Derived.Deep.QuietTactic
import Derived.BigQuiet
namespace Go.Proofs.Ytaehaalaeikloaa
set_option maxRecDepth 100000
open Go.RowKit Go.WideShapes Go.Deep

def tS (t : Int) : Int := IntKind.i64.wrap (IntKind.i64.wrap (2000 + t) - 1) + 1 - 2000
theorem tS_id {t : Int} (h : 0 ≤ t ∧ t ≤ 20) : tS t = t := by
  unfold tS
  rw [show IntKind.i64.wrap (2000 + t) = 2000 + t from IntWalk.i64_in _ (by omega), IntWalk.i64_in _ (by omega)]; omega
theorem l1InB (n lo hi : Int) (w : World) (b : Bool) (hb : (decide (lo ≤ n) && decide (n ≤ hi)) = b) :
    Calls Try.prog 87 #[.int .i64 n, .int .i64 lo, .int .i64 hi] w fun e w' => e = .returned (.bool b) ∧ w = w' := by
  subst hb; exact l1In_any n lo hi w
set_option maxHeartbeats 1000000 in
theorem l8Known_any (t n a : Int) (w : World) (hn : 0 ≤ n ∧ n ≤ 1048576) (y : Bool) (hy : knownB (tS t) n a = y) :
    Calls Try.prog 88 #[.int .i64 t, .int .i64 n, .int .i64 a] w fun e w' => e = .returned (.bool y) ∧ w = w' := by
  have HY := Lib.hid hy; clear hy
  have m2 : IntKind.i64.wrap (3000 + n) = 3000 + n := IntWalk.i64_in _ (by omega)
  have m3 : IntKind.i64.wrap (3000 + n - 1) = 3000 + n - 1 := IntWalk.i64_in _ (by omega)
  obtain ⟨u, hu⟩ : ∃ u, IntKind.i64.wrap (2000 + t) = u := ⟨_, rfl⟩
  obtain ⟨v, hv⟩ : ∃ v, IntKind.i64.wrap (u - 1) = v := ⟨_, rfl⟩
  have ht : tS t = v + 1 - 2000 := by unfold tS; rw [hu, hv]
  have HT := Lib.hid ht; clear ht
  rcases p0 : (decide ((0 : Int) ≤ a) && decide (a ≤ 999)) with _ | _ <;> have P0 := Lib.hid p0 <;> clear p0
  · rcases p1 : (decide ((2000 : Int) ≤ a) && decide (a ≤ v)) with _ | _ <;> have P1 := Lib.hid p1 <;> clear p1
    · rcases p2 : (decide ((3000 : Int) ≤ a) && decide (a ≤ 3000 + n - 1)) with _ | _ <;> have P2 := Lib.hid p2 <;> clear p2
      · obtain rfl : false = y := by
          have h0 := P0.out; have h1 := P1.out; have h2 := P2.out
          simp only [Bool.and_eq_false_iff, decide_eq_false_iff_not] at h0 h1 h2
          rw [← HY.out, knownB, HT.out]; symm; rw [decide_eq_false_iff_not]; omega
        go_enter Try.func88, Try.ntmps88
        go_wp2_with fail
        refine (l1InB a 0 999 _ false P0.out).mono ?_
        rintro e w' ⟨rfl, rfl⟩
        go_wp2_with fail
        refine (l1InB a 2000 v _ false P1.out).mono ?_
        rintro e w' ⟨rfl, rfl⟩
        go_wp2_with fail
        refine (l1InB a 3000 _ _ false P2.out).mono ?_
        rintro e w' ⟨rfl, rfl⟩
        go_wp2
        go_ret
        exact ⟨rfl, rfl⟩
      · obtain rfl : true = y := by
          have h0 := P0.out; have h1 := P1.out; have h2 := P2.out
          simp only [Bool.and_eq_false_iff, decide_eq_false_iff_not, Bool.and_eq_true, decide_eq_true_eq] at h0 h1 h2
          rw [← HY.out, knownB, HT.out]; symm; rw [decide_eq_true_eq]; omega
        go_enter Try.func88, Try.ntmps88
        go_wp2_with fail
        refine (l1InB a 0 999 _ false P0.out).mono ?_
        rintro e w' ⟨rfl, rfl⟩
        go_wp2_with fail
        refine (l1InB a 2000 v _ false P1.out).mono ?_
        rintro e w' ⟨rfl, rfl⟩
        go_wp2_with fail
        refine (l1InB a 3000 _ _ true P2.out).mono ?_
        rintro e w' ⟨rfl, rfl⟩
        go_wp2
        go_ret
        exact ⟨rfl, rfl⟩
    · obtain rfl : true = y := by
        have h0 := P0.out; have h1 := P1.out
        simp only [Bool.and_eq_false_iff, decide_eq_false_iff_not, Bool.and_eq_true, decide_eq_true_eq] at h0 h1
        rw [← HY.out, knownB, HT.out]; symm; rw [decide_eq_true_eq]; omega
      go_enter Try.func88, Try.ntmps88
      go_wp2_with fail
      refine (l1InB a 0 999 _ false P0.out).mono ?_
      rintro e w' ⟨rfl, rfl⟩
      go_wp2_with fail
      refine (l1InB a 2000 v _ true P1.out).mono ?_
      rintro e w' ⟨rfl, rfl⟩
      go_wp2
      go_ret
      exact ⟨rfl, rfl⟩
  · obtain rfl : true = y := by
      have h0 := P0.out
      simp only [Bool.and_eq_true, decide_eq_true_eq] at h0
      rw [← HY.out, knownB]; symm; rw [decide_eq_true_eq]; omega
    go_enter Try.func88, Try.ntmps88
    go_wp2_with fail
    refine (l1InB a 0 999 _ true P0.out).mono ?_
    rintro e w' ⟨rfl, rfl⟩
    go_wp2
    go_ret
    exact ⟨rfl, rfl⟩
theorem l1InQ8 (n lo hi : Int) (w : World) (b : Bool) (hb : (decide (lo ≤ n) && decide (n ≤ hi)) = b) :
    Calls Try.prog 87 #[.int .i64 n, .int .i64 lo, .int .i64 hi] w fun e w' => e = .returned (.bool b) ∧ ∃ k, w' = w.drewN k := by
  refine (l1InB n lo hi w b hb).mono ?_
  rintro e w' ⟨rfl, rfl⟩
  exact ⟨rfl, 0, rfl⟩
theorem l8KnownQ (t n a : Int) (w : World) (hn : 0 ≤ n ∧ n ≤ 1048576) (y : Bool) (hy : knownB (tS t) n a = y) :
    Calls Try.prog 88 #[.int .i64 t, .int .i64 n, .int .i64 a] w fun e w' => e = .returned (.bool y) ∧ ∃ k, w' = w.drewN k := by
  refine (l8Known_any t n a w hn y hy).mono ?_
  rintro e w' ⟨rfl, rfl⟩
  exact ⟨rfl, 0, rfl⟩
theorem regsS {t : Int} {ms : List (Int × Int × Int)} {os : List Int} : regsB t ms os = ((opsFromB (tS t) 0 ms && os.all (knownB (tS t) ms.length)) && (decide (0 ≤ t) && decide (t ≤ 20) && decide (ms.length ≤ 60) && decide (os.length ≤ 20))) := by
  by_cases h : 0 ≤ t ∧ t ≤ 20
  · rw [tS_id h]
    unfold regsB
    by_cases h1 : ms.length ≤ 60 <;> by_cases h2 : os.length ≤ 20 <;> simp [h, h1, h2]
  · rw [regsB_big (by omega)]
    have : (decide (0 ≤ t) && decide (t ≤ 20)) = false := by
      rw [Bool.and_eq_false_iff, decide_eq_false_iff_not, decide_eq_false_iff_not]; omega
    rw [this]; simp

set_option maxHeartbeats 8000000 in
theorem RegsValid_S (t : Int) (A0 : Option Addr) (c0 : Nat) (ms : List (Int × Int × Int)) (A1 : Option Addr) (c1 : Nat) (os : List Int) (w : World) (h0 : Rd3 w (.slice A0 ms.length c0) ms) (hl0 : ms.length ≤ 1048576) (h1 : RdI w (.slice A1 os.length c1) os) (hl1 : os.length ≤ 1048576) (y : Bool) (hy : regsB t ms os = y) :
    Calls Try.prog 34 #[.agg #[.int .i64 t, .slice A0 ms.length c0, .slice A1 os.length c1]] w fun e w' => e = .returned (.bool y) ∧ Below w.heap.size w w' := by
  have hb : Below w.heap.size w (w.alloc (.cells #[.int .i64 t, .slice A0 ms.length c0, .slice A1 os.length c1] 43)) := (Below.refl _ _).alloc (Nat.le_refl _) _
  have hbk := Blk.new w #[.int .i64 t, .slice A0 ms.length c0, .slice A1 os.length c1] 43
  have H := Lib.hid (And.intro hb (And.intro (RdB3.below (RdB3.at_ h0) hb) (And.intro (h1.at_.below hb) hbk)))
  clear h0 h1 hb hbk
  rw [regsS] at hy
  have HY := Lib.hid hy; clear hy
  obtain ⟨T, hT⟩ : ∃ T, tS t = T := ⟨_, rfl⟩
  have HT := Lib.hid hT
  rw [hT] at HY
  clear hT
  go_enter Try.func34, Try.ntmps34
  go_wp2
  go_loopw [3] (fun i wr => ∃ k : Nat, k ≤ ms.length ∧ i = .int .i64 k ∧ w.heap.size + 1 ≤ wr.heap.size ∧ Below w.heap.size w wr ∧ RdB3 wr w.heap.size (.slice A0 ms.length c0) ms ∧ RdBI wr w.heap.size (.slice A1 os.length c1) os ∧ Blk wr w.heap.size #[.int .i64 t, .slice A0 ms.length c0, .slice A1 os.length c1] 43 ∧ opsFromB T 0 ms = opsFromB T k (ms.drop k)) (fun i _ => ms.length - (intOf i).toNat)
  case atStart => exact ⟨0, Nat.zero_le _, rfl, by simp, H.out.1, H.out.2.1, H.out.2.2.1, H.out.2.2.2, by simp⟩
  case round =>
    clear H
    obtain ⟨k, hk, rfl, hsz, r1, r2, r3, r4, r5⟩ := hrel
    obtain ⟨p0, p1, p2, _, _, _⟩ := blkThree r4
    have R := Lib.hid (And.intro r1 (And.intro r2 (And.intro r3 (And.intro r4 r5)))); clear r1 r2 r3 r4 r5
    by_cases hlt : k < ms.length
    · have hltI : (k : Int) < ms.length := by omega
      obtain ⟨A2, c2, e2, _, hr⟩ := R.out.2.1
      cases e2
      obtain ⟨b, off, rfl, hbb, hcc⟩ := hr (by omega)
      obtain ⟨m, hm⟩ : ∃ m, ms[k]? = some m := ⟨_, List.getElem?_eq_getElem hlt⟩
      obtain ⟨d0, d1, d2⟩ := hcc k m hm
      have HO := Lib.hid (opsFromB_drop (t := T) (j := k) hm)
      clear hcc hr hm
      obtain ⟨z, a, a'⟩ := m
      dsimp only at d0 d1 d2
      rcases e1 : (decide ((1006 : Int) ≤ z) && decide (z ≤ 1009)) with _ | _ <;> have E1 := Lib.hid e1 <;> clear e1
      · have hyf : false = y := by
          rw [← HY.out, R.out.2.2.2.2, HO.out, opOkB]; simp only []
          rw [show decide (1006 ≤ z ∧ z ≤ 1009) = false from by have := E1.out; simp only [Bool.and_eq_false_iff, decide_eq_false_iff_not] at this; rw [decide_eq_false_iff_not]; omega]; simp
        subst hyf
        go_wp2
        go_quiet ((go_at_call 87; exact Calls.quiet_of (l1InQ8 z 1006 1009 _ false E1.out)))
        go_wp2
        go_ret
        exact ⟨rfl, below_drewN R.out.1 _⟩
      have E0 := Lib.hid (show decide (1006 ≤ z ∧ z ≤ 1009) = true from by have := E1.out; simp only [Bool.and_eq_true, decide_eq_true_eq] at this; rw [decide_eq_true_eq]; omega)
      rcases e2 : knownB (tS t) k a with _ | _ <;> have E2 := Lib.hid e2
      · have hyf : false = y := by
          rw [← HY.out, R.out.2.2.2.2, HO.out, opOkB]; simp only []; rw [← HT.out, E2.out]; simp
        subst hyf
        go_wp2
        go_quiet (first
          | (go_at_call 87; exact Calls.quiet_of (l1InQ8 z 1006 1009 _ true E1.out))
          | (go_at_call 88; exact Calls.quiet_of (l8KnownQ t k _ _ (by omega) _ rfl)))
        go_wp2
        go_ret
        exact ⟨rfl, below_drewN R.out.1 _⟩
      rcases e3 : knownB (tS t) k a' with _ | _ <;> have E3 := Lib.hid e3
      · have hyf : false = y := by
          rw [← HY.out, R.out.2.2.2.2, HO.out, opOkB]; simp only []; rw [← HT.out, E3.out]; simp
        subst hyf
        go_wp2
        go_quiet (first
          | (go_at_call 87; exact Calls.quiet_of (l1InQ8 z 1006 1009 _ true E1.out))
          | (go_at_call 88; exact Calls.quiet_of (l8KnownQ t k _ _ (by omega) _ rfl)))
        go_wp2
        go_ret
        exact ⟨rfl, below_drewN R.out.1 _⟩
      · have hok : opsFromB T 0 ms = opsFromB T (k + 1) (ms.drop (k + 1)) := by
          rw [R.out.2.2.2.2, HO.out, opOkB]; simp only []; rw [← HT.out, E0.out, E2.out, E3.out]; simp
        have HK := Lib.hid hok; clear hok
        go_wp2
        go_quiet (first
          | (go_at_call 87; exact Calls.quiet_of (l1InQ8 z 1006 1009 _ true E1.out))
          | (go_at_call 88; exact Calls.quiet_of (l8KnownQ t k _ _ (by omega) _ rfl)))
        go_wp2
        go_roundw
        case rel => exact ⟨k + 1, by omega, by go_num, hsz, below_drewN R.out.1 _, R.out.2.1.below (below_drewN (Below.refl _ _) _), R.out.2.2.1.below (below_drewN (Below.refl _ _) _), R.out.2.2.2.1.below (below_drewN (Below.refl wr.heap.size wr) _) (by omega), HK.out⟩
        case measure => simp [intOf]; omega
    · obtain rfl : k = ms.length := by omega
      have hop : opsFromB T 0 ms = true := by rw [R.out.2.2.2.2, List.drop_length, opsFromB]
      rw [hop, Bool.true_and] at HY
      clear hop
      go_wp2
      go_loopw [4] (fun i wr => ∃ k : Nat, k ≤ os.length ∧ i = .int .i64 k ∧ w.heap.size + 1 ≤ wr.heap.size ∧ Below w.heap.size w wr ∧ RdBI wr w.heap.size (.slice A1 os.length c1) os ∧ Blk wr w.heap.size #[.int .i64 t, .slice A0 ms.length c0, .slice A1 os.length c1] 43 ∧ (os.take k).all (knownB T ms.length) = true) (fun i _ => os.length - (intOf i).toNat)
      case atStart => exact ⟨0, Nat.zero_le _, rfl, hsz, R.out.1, R.out.2.2.1, R.out.2.2.2.1, by simp⟩
      case round =>
        clear R
        obtain ⟨k, hk, rfl, hsz, r1, r2, r3, r4⟩ := hrel
        obtain ⟨p0, p1, p2, _, _, _⟩ := blkThree r3
        have R := Lib.hid (And.intro r1 (And.intro r2 (And.intro r3 r4))); clear r1 r2 r3 r4
        by_cases hlt : k < os.length
        · have hltI : (k : Int) < os.length := by omega
          obtain ⟨_, _, e, hi, _⟩ := R.out.2.1
          cases e
          obtain ⟨bb, of2, rfl, hbb, hcc⟩ := hi.at_ (by omega)
          have hcell := hcc k hlt
          clear hcc hi
          rcases e2 : knownB (tS t) ms.length (os.getD k 0) with _ | _ <;> have E2 := Lib.hid e2 <;> clear e2
          · have hyf : false = y := by
              have hf : os.all (knownB T ms.length) = false := by
                rw [List.all_eq_false]
                refine ⟨os.getD k 0, ?_, by rw [← HT.out, E2.out]; simp⟩
                simp [List.getD, List.getElem?_eq_getElem hlt]
              rw [← HY.out, hf]; simp
            subst hyf
            generalize os.getD k 0 = x at *
            go_wp2
            go_quiet ((go_at_call 88; exact Calls.quiet_of (l8KnownQ t ms.length x _ (by omega) false E2.out)))
            go_wp2
            go_ret
            exact ⟨rfl, below_drewN R.out.1 _⟩
          · have hall : (os.take (k + 1)).all (knownB T ms.length) = true := by
              rw [List.take_add_one, List.getElem?_eq_getElem hlt, List.all_append, R.out.2.2.2]
              have h3 := E2.out
              simp only [List.getD, List.getElem?_eq_getElem hlt, Option.getD_some] at h3
              rw [HT.out] at h3
              simp [h3]
            have HL := Lib.hid hall; clear hall
            generalize os.getD k 0 = x at *
            go_wp2
            go_quiet ((go_at_call 88; exact Calls.quiet_of (l8KnownQ t ms.length x _ (by omega) true E2.out)))
            go_wp2
            go_roundw
            case rel => exact ⟨k + 1, by omega, by go_num, hsz, below_drewN R.out.1 _, R.out.2.1.below (below_drewN (Below.refl _ _) _), R.out.2.2.1.below (below_drewN (Below.refl wr.heap.size wr) _) (by omega), HL.out⟩
            case measure => simp [intOf]; omega
        · obtain rfl : k = os.length := by omega
          have hall := R.out.2.2.2
          rw [List.take_length] at hall
          rw [hall, Bool.true_and] at HY
          clear hall
          rcases p3 : (decide ((0 : Int) ≤ t) && decide (t ≤ 20)) with _ | _ <;> have P3 := Lib.hid p3 <;> clear p3
          · obtain rfl : false = y := by rw [← HY.out, P3.out]; simp
            go_wp2_with (go_at_call 87; refine (l1InB t 0 20 _ false P3.out).mono ?_; rintro e w' ⟨rfl, rfl⟩)
            go_ret
            exact ⟨rfl, R.out.1⟩
          · by_cases h1 : ms.length ≤ 60
            · have h1I : (ms.length : Int) ≤ 60 := by omega
              by_cases h2 : os.length ≤ 20
              · have h2I : (os.length : Int) ≤ 20 := by omega
                obtain rfl : true = y := by rw [← HY.out, P3.out]; simp [h1, h2]
                go_wp2_with (go_at_call 87; refine (l1InB t 0 20 _ true P3.out).mono ?_; rintro e w' ⟨rfl, rfl⟩)
                go_ret
                exact ⟨ret_bool (by simp), R.out.1⟩
              · have h2I : ¬ (os.length : Int) ≤ 20 := by omega
                obtain rfl : false = y := by rw [← HY.out, P3.out]; simp [h2]
                go_wp2_with (go_at_call 87; refine (l1InB t 0 20 _ true P3.out).mono ?_; rintro e w' ⟨rfl, rfl⟩)
                go_ret
                exact ⟨ret_bool (by simp; omega), R.out.1⟩
            · have h1I : ¬ (ms.length : Int) ≤ 60 := by omega
              obtain rfl : false = y := by rw [← HY.out, P3.out]; simp [h1]
              go_wp2_with (go_at_call 87; refine (l1InB t 0 20 _ true P3.out).mono ?_; rintro e w' ⟨rfl, rfl⟩)
              go_ret
              exact ⟨rfl, R.out.1⟩
end Go.Proofs.Ytaehaalaeikloaa
