/- CountOf of the model. -/
import Derived.Test.YtpdhdiidkjgjmaaGreatCo
namespace Go.Proofs.YtpdhdiidkjgjmaaGreat
set_option maxRecDepth 100000
open Go.RowKit Go.WideShapes Go.Deep

theorem word_other {z : Int} (h : straightB z = false) : (∃ y0 y1, wordR z = (y0, y1, false)) ∨ (∃ y0 y1, wordR z = (y0, y1, true) ∧ 1004 ≤ z ∧ z ≤ 1005) ∨ (∃ y0 y1, wordR z = (y0, y1, true) ∧ 1010 ≤ z ∧ z ≤ 1011) := by
  unfold straightB isNumB at h
  simp only [Bool.or_eq_false_iff, Bool.and_eq_false_iff, decide_eq_false_iff_not] at h
  by_cases h1 : z = 1004
  · subst h1; exact .inr (.inl ⟨_, _, rfl, by omega, by omega⟩)
  by_cases h2 : z = 1005
  · subst h2; exact .inr (.inl ⟨_, _, rfl, by omega, by omega⟩)
  by_cases h3 : z = 1010
  · subst h3; exact .inr (.inr ⟨_, _, rfl, by omega, by omega⟩)
  by_cases h4 : z = 1011
  · subst h4; exact .inr (.inr ⟨_, _, rfl, by omega, by omega⟩)
  refine .inl ⟨[], [], ?_⟩
  rw [wordR, if_neg (by omega), if_neg (by omega), if_neg (by omega), if_neg (by omega), if_neg (by omega), if_neg (by omega), if_neg (by omega), if_neg (by omega), if_neg (by omega)]
theorem l1InC (n lo hi : Int) (w : World) (b : Bool) (hb : (decide (lo ≤ n) && decide (n ≤ hi)) = b) :
    Calls Tryz.prog 42 #[.int .i64 n, .int .i64 lo, .int .i64 hi] w fun e w' => e = .returned (.bool b) ∧ w = w' := by
  subst hb; exact l1In_any n lo hi w
set_option maxHeartbeats 4000000 in
theorem CountOf_S (v0 : Value) (p : List Int) (w : World) (h0 : RdI w v0 p) (hl0 : p.length ≤ 1048576) (x y : Int) (hR : countR p = (x, y)) :
    Calls Tryz.prog 18 #[v0] w fun e w' => e = .returned (.tuple #[.int .i64 x, .int .i64 y]) ∧ Below w.heap.size w w' := by
  have HAt := Lib.hid h0.at_
  obtain ⟨A, c, rfl, hi, _⟩ := h0
  have HI := Lib.hid hi; clear hi
  have HR := Lib.hid hR; clear hR
  go_enter Tryz.func18, Tryz.ntmps18
  go_wp2
  go_loopw [4, 5, 6] (fun nv mv i wr => ∃ (k n m : Nat), k ≤ p.length ∧ i = .int .i64 k ∧ nv = .int .i64 n ∧ mv = .int .i64 m ∧ n ≤ 2 * k ∧ m ≤ 2 * k ∧ w.heap.size ≤ wr.heap.size ∧ Below w.heap.size w wr ∧ p.all straightB = (p.drop k).all straightB ∧ countL (0, 0) p = countL (n, m) (p.drop k)) (fun _ _ i _ => p.length - (intOf i).toNat)
  case atStart => exact ⟨0, 0, 0, Nat.zero_le _, rfl, by simp, by simp, by omega, by omega, Nat.le_refl _, Below.refl _ _, by simp, by simp⟩
  case round =>
    obtain ⟨k, n, m, hk, rfl, rfl, rfl, hn, hm, hsz, hb, r1, r2⟩ := hrel
    have R := Lib.hid (And.intro hb (And.intro r1 r2)); clear hb r1 r2
    by_cases hlt : k < p.length
    · have hltI : (k : Int) < p.length := by omega
      obtain ⟨_, _, ei, hi, _⟩ := HAt.out
      cases ei
      obtain ⟨bb, off, rfl, hbb, hcc⟩ := hi.at_ (by omega)
      have hcell := (R.out.1.cell (p := ⟨bb, off + k, none⟩) hbb).trans (hcc k hlt)
      have hzk : InK .i64 (p.getD k 0) := by
        simp only [List.getD, List.getElem?_eq_getElem hlt, Option.getD_some]
        exact hi.wf _ (List.getElem_mem _)
      have HD := Lib.hid (And.intro (all_drop (p := p) hlt) (And.intro (countL_drop (c := (n, m)) (p := p) hlt) hzk))
      clear hcc hi hzk
      generalize p.getD k 0 = z at *
      rcases hs : straightB z with _ | _ <;> have Hs := Lib.hid hs <;> clear hs
      · obtain ⟨rfl, rfl⟩ : -1 = x ∧ -1 = y := by have := HR.out; rw [countR, if_neg (by rw [R.out.2.1, HD.out.1, Hs.out]; simp)] at this; cases this; exact ⟨rfl, rfl⟩
        rcases word_other Hs.out with ⟨y0, y1, hw⟩ | ⟨y0, y1, hw, g1, g2⟩ | ⟨y0, y1, hw, g1, g2⟩
        · have HW := Lib.hid hw; clear hw
          go_wp2_with fail
          refine (WordEffect_S z _ HD.out.2.2 y0 y1 false HW.out).mono ?_
          rintro e w1 ⟨u0, u1, rfl, hu0, hu1, hb1⟩
          obtain ⟨U0, k0, rfl, _⟩ := id hu0
          obtain ⟨U1, k1, rfl, _⟩ := id hu1
          have hz1 := hb1.size
          have S := Lib.hid ((R.out.1.trans (hb1.mono hsz)).alloc (by omega) (.cells #[.slice U0 y0.length k0, .slice U1 y1.length k1] 72)); clear hb1 hu0 hu1
          go_wp2
          go_ret2
          exact ⟨rfl, S.out⟩
        · have HW := Lib.hid hw; clear hw
          have b1 := Lib.hid (show (decide ((1004 : Int) ≤ z) && decide (z ≤ 1005)) = true by simp; omega)
          go_wp2_with fail
          refine (WordEffect_S z _ HD.out.2.2 y0 y1 true HW.out).mono ?_
          rintro e w1 ⟨u0, u1, rfl, hu0, hu1, hb1⟩
          obtain ⟨U0, k0, rfl, _⟩ := id hu0
          obtain ⟨U1, k1, rfl, _⟩ := id hu1
          have hz1 := hb1.size
          have hcell2 := (((R.out.1.trans (hb1.mono hsz)).alloc (by omega) (.cells #[.slice U0 y0.length k0, .slice U1 y1.length k1] 72)).cell (p := ⟨bb, off + k, none⟩) hbb).trans ((R.out.1.cell (p := ⟨bb, off + k, none⟩) hbb).symm.trans hcell)
          have S := Lib.hid ((R.out.1.trans (hb1.mono hsz)).alloc (by omega) (.cells #[.slice U0 y0.length k0, .slice U1 y1.length k1] 72)); clear hb1 hu0 hu1
          go_wp2_with (go_at_call 42; refine (l1InC z 1004 1005 _ true b1.out).mono ?_; rintro e w' ⟨rfl, rfl⟩)
          go_ret2
          exact ⟨rfl, S.out⟩
        · have HW := Lib.hid hw; clear hw
          have b1 := Lib.hid (show (decide ((1004 : Int) ≤ z) && decide (z ≤ 1005)) = false by rw [Bool.and_eq_false_iff, decide_eq_false_iff_not, decide_eq_false_iff_not]; omega)
          have b2 := Lib.hid (show (decide ((1010 : Int) ≤ z) && decide (z ≤ 1011)) = true by simp; omega)
          go_wp2_with fail
          refine (WordEffect_S z _ HD.out.2.2 y0 y1 true HW.out).mono ?_
          rintro e w1 ⟨u0, u1, rfl, hu0, hu1, hb1⟩
          obtain ⟨U0, k0, rfl, _⟩ := id hu0
          obtain ⟨U1, k1, rfl, _⟩ := id hu1
          have hz1 := hb1.size
          have hcell2 := (((R.out.1.trans (hb1.mono hsz)).alloc (by omega) (.cells #[.slice U0 y0.length k0, .slice U1 y1.length k1] 72)).cell (p := ⟨bb, off + k, none⟩) hbb).trans ((R.out.1.cell (p := ⟨bb, off + k, none⟩) hbb).symm.trans hcell)
          have S := Lib.hid ((R.out.1.trans (hb1.mono hsz)).alloc (by omega) (.cells #[.slice U0 y0.length k0, .slice U1 y1.length k1] 72)); clear hb1 hu0 hu1
          go_wp2_with fail
          refine (l1InC z 1004 1005 _ false b1.out).mono ?_
          rintro e w' ⟨rfl, rfl⟩
          go_wp2_with fail
          refine (l1InC z 1010 1011 _ true b2.out).mono ?_
          rintro e w' ⟨rfl, rfl⟩
          go_wp2
          go_ret2
          exact ⟨rfl, S.out⟩
      · obtain ⟨y0, y1, hw, hne, hl0', hl1'⟩ := word_needs Hs.out
        obtain ⟨t1, t2⟩ := tp_bd z
        obtain ⟨a, ha⟩ : ∃ a, (tpR z).1 = a := ⟨_, rfl⟩
        obtain ⟨b, hb⟩ : ∃ b, (tpR z).2 = b := ⟨_, rfl⟩
        rw [ha, hb] at hne
        rw [ha] at t1
        rw [hb] at t2
        have hst : stepC z (n, m) = (n + (a - m), m + (a - m) - a + b) := by unfold stepC; rw [ha, hb]
        have b1 := Lib.hid (show (decide ((1004 : Int) ≤ z) && decide (z ≤ 1005)) = false by rw [Bool.and_eq_false_iff, decide_eq_false_iff_not, decide_eq_false_iff_not]; have := straight_cases Hs.out; omega)
        have b2 := Lib.hid (show (decide ((1010 : Int) ≤ z) && decide (z ≤ 1011)) = false by rw [Bool.and_eq_false_iff, decide_eq_false_iff_not, decide_eq_false_iff_not]; have := straight_cases Hs.out; omega)
        have W := Lib.hid (And.intro hw (And.intro hne hst)); clear hw hne hst ha hb
        go_wp2_with fail
        refine (WordEffect_S z _ HD.out.2.2 y0 y1 true W.out.1).mono ?_
        rintro e w1 ⟨u0, u1, rfl, hu0, hu1, hb1⟩
        obtain ⟨U0, k0, rfl, _⟩ := id hu0
        obtain ⟨U1, k1, rfl, _⟩ := id hu1
        have hz1 := hb1.size
        have hba : Below w1.heap.size w1 (w1.alloc (.cells #[.slice U0 y0.length k0, .slice U1 y1.length k1] 72)) := (Below.refl _ _).alloc (Nat.le_refl _) _
        have hcell2 := (((R.out.1.trans (hb1.mono hsz)).trans (hba.mono (by omega))).cell (p := ⟨bb, off + k, none⟩) hbb).trans ((R.out.1.cell (p := ⟨bb, off + k, none⟩) hbb).symm.trans hcell)
        have S := Lib.hid (And.intro (hu0.step hba) (And.intro (hu1.step hba) ((R.out.1.trans (hb1.mono hsz)).trans (hba.mono (by omega))))); clear hu0 hu1 hb1 hba
        go_wp2_with fail
        refine (l1InC z 1004 1005 _ false b1.out).mono ?_
        rintro e w' ⟨rfl, rfl⟩
        go_wp2_with fail
        refine (l1InC z 1010 1011 _ false b2.out).mono ?_
        rintro e w' ⟨rfl, rfl⟩
        go_wp2_with fail
        refine (NeedsOf_S _ _ y0 y1 _ S.out.1 S.out.2.1 (by omega) (by omega) a b W.out.2.1).mono ?_
        rintro e w2 ⟨rfl, hb2⟩
        have hz2 : w1.heap.size + 1 ≤ w2.heap.size := by have := hb2.size; simpa using this
        have T := Lib.hid (S.out.2.2.trans (hb2.mono (by simp; omega))); clear hb2
        by_cases hgt : m < a
        all_goals
          first | have hgI : (m : Int) < (a : Int) := by omega | have hgI : ¬ (m : Int) < (a : Int) := by omega
          go_wp2
          go_roundw
          case rel => exact ⟨k + 1, (stepC z (n, m)).1, (stepC z (n, m)).2, by omega, by go_num, by rw [W.out.2.2]; refine congrArg (Value.int .i64) ?_; simp only []; omega, by rw [W.out.2.2]; refine congrArg (Value.int .i64) ?_; simp only []; omega, by rw [W.out.2.2]; simp only []; omega, by rw [W.out.2.2]; simp only []; omega, by omega, T.out, by rw [R.out.2.1, HD.out.1, Hs.out]; simp, by rw [R.out.2.2, HD.out.2.1]⟩
          case measure => simp [intOf]; omega
    · obtain rfl : k = p.length := by omega
      obtain ⟨_, _, ei, hi, _⟩ := HAt.out.below R.out.1 |>.rd hsz
      cases ei
      have HI2 := Lib.hid hi; clear hi
      rcases hv : validB p with _ | _ <;> have Hv := Lib.hid hv <;> clear hv
      · obtain ⟨rfl, rfl⟩ : -1 = x ∧ -1 = y := by have := HR.out; rw [countR, if_neg (by rw [Hv.out]; simp)] at this; cases this; exact ⟨rfl, rfl⟩
        go_wp2_with (go_at_call 44; refine (specValid_any _ _ p _ HI2.out).mono ?_; rw [Hv.out]; rintro e w' ⟨rfl, rfl⟩)
        go_ret2
        exact ⟨rfl, R.out.1⟩
      · obtain ⟨hx, hy⟩ : (n : Int) = x ∧ (m : Int) = y := by
          have := HR.out
          rw [countR, if_pos ⟨Hv.out, by rw [R.out.2.1, List.drop_length]; rfl⟩, R.out.2.2, List.drop_length, countL] at this
          cases this; exact ⟨rfl, rfl⟩
        have HX := Lib.hid (And.intro hx hy); clear hx hy
        go_wp2_with (go_at_call 44; refine (specValid_any _ _ p _ HI2.out).mono ?_; rw [Hv.out]; rintro e w' ⟨rfl, rfl⟩)
        go_ret2
        exact ⟨by simp [HX.out.1, HX.out.2], R.out.1⟩
end Go.Proofs.YtpdhdiidkjgjmaaGreat
