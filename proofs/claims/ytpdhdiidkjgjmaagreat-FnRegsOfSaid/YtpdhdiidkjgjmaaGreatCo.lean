/- CountOf, the program's and the model's. -/
import Derived.Test.YtpdhdiidkjgjmaaGreatNe
import Derived.Test.YtpdhdiidkjgjmaaGreatBs
namespace Go.Proofs.YtpdhdiidkjgjmaaGreat
set_option maxRecDepth 100000
open Go.RowKit Go.WideShapes Go.Deep

def tpR (z : Int) : Nat × Nat := if z ≤ 999 then (0, 1) else if z = 1001 then (1, 2) else if z = 1002 then (1, 0) else if z = 1003 then (2, 2) else (2, 1)
def straightB (z : Int) : Bool := isNumB z || (decide (1001 ≤ z ∧ z ≤ 1003) || decide (1006 ≤ z ∧ z ≤ 1009))
def stepC (z : Int) (c : Nat × Nat) : Nat × Nat := (c.1 + ((tpR z).1 - c.2), c.2 + ((tpR z).1 - c.2) - (tpR z).1 + (tpR z).2)
def countL : Nat × Nat → List Int → Nat × Nat
  | c, [] => c
  | c, z :: zs => countL (stepC z c) zs
def countR (p : List Int) : Int × Int := if validB p = true ∧ p.all straightB = true then (((countL (0, 0) p).1 : Int), ((countL (0, 0) p).2 : Int)) else (-1, -1)
theorem straight_cases {z : Int} (h : straightB z = true) : (0 ≤ z ∧ z ≤ 999) ∨ z = 1001 ∨ z = 1002 ∨ z = 1003 ∨ (1006 ≤ z ∧ z ≤ 1009) := by
  unfold straightB isNumB at h
  simp only [Bool.or_eq_true, Bool.and_eq_true, decide_eq_true_eq] at h
  omega
theorem word_needs {z : Int} (h : straightB z = true) : ∃ y0 y1, wordR z = (y0, y1, true) ∧ needsR y0 y1 = (((tpR z).1 : Int), ((tpR z).2 : Int)) ∧ y0.length ≤ 1000 ∧ y1.length ≤ 1000 := by
  rcases straight_cases h with h | rfl | rfl | rfl | h
  · refine ⟨_, _, by rw [wordR, if_pos h], ?_, by decide, by decide⟩
    rw [tpR, if_pos h.2]; decide
  · exact ⟨_, _, rfl, by decide, by decide, by decide⟩
  · exact ⟨_, _, rfl, by decide, by decide, by decide⟩
  · exact ⟨_, _, rfl, by decide, by decide, by decide⟩
  · refine ⟨_, _, by rw [wordR, if_neg (by omega), if_neg (by omega), if_neg (by omega), if_neg (by omega), if_neg (by omega), if_neg (by omega), if_pos h], ?_, by decide, by decide⟩
    rw [tpR, if_neg (by omega), if_neg (by omega), if_neg (by omega), if_neg (by omega)]; decide
theorem tp_bd (z : Int) : (tpR z).1 ≤ 2 ∧ (tpR z).2 ≤ 2 := by
  unfold tpR; repeat' split
  all_goals simp
theorem countL_drop {c : Nat × Nat} {p : List Int} {k : Nat} (h : k < p.length) : countL c (p.drop k) = countL (stepC (p.getD k 0) c) (p.drop (k + 1)) := by
  rw [List.drop_eq_getElem_cons h, countL]; simp [List.getD, List.getElem?_eq_getElem h]
theorem all_drop {p : List Int} {k : Nat} (h : k < p.length) : (p.drop k).all straightB = (straightB (p.getD k 0) && (p.drop (k + 1)).all straightB) := by
  rw [List.drop_eq_getElem_cons h, List.all_cons]; simp [List.getD, List.getElem?_eq_getElem h]
theorem doesNo_any (z : Int) (w : World) (y : Bool) (hy : straightB z = y) : Calls Tryz.prog 34 #[.int .i64 z] w fun e w' => e = .returned (.bool y) ∧ w = w' := by
  by_cases hw : z = 1004 ∨ z = 1005 ∨ z = 1010 ∨ z = 1011 ∨ z = 1012 ∨ z = 1013
  · obtain rfl : false = y := by
      rw [← hy]; symm; unfold straightB isNumB
      simp only [Bool.or_eq_false_iff, Bool.and_eq_false_iff, decide_eq_false_iff_not]; omega
    clear hy
    rcases hw with rfl | rfl | rfl | rfl | rfl | rfl
    all_goals
      go_enter Tryz.func34, Tryz.ntmps34
      go_wp2
      go_ret
      exact ⟨rfl, rfl⟩
  · have e1 : (z == 1004) = false := by simp; omega
    have e2 : (z == 1005) = false := by simp; omega
    have e3 : (z == 1010) = false := by simp; omega
    have e4 : (z == 1011) = false := by simp; omega
    have e5 : (z == 1012) = false := by simp; omega
    have e6 : (z == 1013) = false := by simp; omega
    have hq : isWordB z = y := by
      rw [← hy]; unfold straightB isWordB
      rcases isNumB z with _ | _
      · simp only [Bool.false_or]
        by_cases h : 1001 ≤ z ∧ z ≤ 1013
        · rw [decide_eq_true h.1, decide_eq_true h.2]; symm; simp only [Bool.true_and, Bool.or_eq_true, decide_eq_true_eq]; omega
        · have h1 : (decide (1001 ≤ z) && decide (z ≤ 1013)) = false := by rw [Bool.and_eq_false_iff, decide_eq_false_iff_not, decide_eq_false_iff_not]; omega
          rw [h1]; symm; simp only [Bool.or_eq_false_iff, decide_eq_false_iff_not]; omega
      · simp
    have HQ := Lib.hid hq; clear hq hy hw
    go_enter Tryz.func34, Tryz.ntmps34
    go_wp2_with (go_at_call 63; refine (isWord_any z _).mono ?_; rw [HQ.out]; rintro e w' ⟨rfl, rfl⟩)
    go_ret
    exact ⟨rfl, rfl⟩
set_option maxHeartbeats 4000000 in
theorem CountOf_I (v0 : Value) (p : List Int) (w : World) (h0 : RdI w v0 p) (_ : p.length ≤ 1048576) (x y : Int) (hR : countR p = (x, y)) :
    Calls Tryz.prog 14 #[v0] w fun e w' => e = .returned (.tuple #[.int .i64 x, .int .i64 y]) ∧ Below w.heap.size w w' := by
  have HAt := Lib.hid h0.at_
  obtain ⟨A, c, rfl, hi, _⟩ := h0
  have HI := Lib.hid hi; clear hi
  have HR := Lib.hid hR; clear hR
  rcases hv : validB p with _ | _ <;> have Hv := Lib.hid hv <;> clear hv
  · obtain ⟨rfl, rfl⟩ : -1 = x ∧ -1 = y := by have := HR.out; rw [countR, if_neg (by rw [Hv.out]; simp)] at this; cases this; exact ⟨rfl, rfl⟩
    go_enter Tryz.func14, Tryz.ntmps14
    go_wp2_with (go_at_call 24; refine (ProgValid_any A c p _ HI.out).mono ?_; rw [Hv.out]; rintro e w' ⟨rfl, rfl⟩)
    go_ret2
    exact ⟨rfl, Below.refl _ _⟩
  have hl60 := validB_len Hv.out
  go_enter Tryz.func14, Tryz.ntmps14
  go_wp2_with (go_at_call 24; refine (ProgValid_any A c p _ HI.out).mono ?_; rw [Hv.out]; rintro e w' ⟨rfl, rfl⟩)
  go_loopw [4, 5, 18] (fun nv mv i wr => ∃ (k n m : Nat), k ≤ p.length ∧ i = .int .i64 k ∧ nv = .int .i64 n ∧ mv = .int .i64 m ∧ n ≤ 2 * k ∧ m ≤ 2 * k ∧ w.heap.size ≤ wr.heap.size ∧ Below w.heap.size w wr ∧ p.all straightB = (p.drop k).all straightB ∧ countL (0, 0) p = countL (n, m) (p.drop k)) (fun _ _ i _ => p.length - (intOf i).toNat)
  case atStart => exact ⟨0, 0, 0, Nat.zero_le _, rfl, by simp, by simp, by omega, by omega, Nat.le_refl _, Below.refl _ _, by simp, by simp⟩
  case round =>
    obtain ⟨k, n, m, hk, rfl, rfl, rfl, hn, hm, hsz, hb, r1, r2⟩ := hrel
    have R := Lib.hid (And.intro hb (And.intro r1 r2)); clear hb r1 r2
    by_cases hlt : k < p.length
    · have hltI : (k : Int) < p.length := by omega
      obtain ⟨_, _, ei, hi, _⟩ := HAt.out
      cases ei
      obtain ⟨bb, off, rfl, hbb, hcc⟩ := hi.at_ (by omega)
      have hcell := (R.out.1.cell (p := ⟨bb, off + k, none⟩) hbb).trans (hcc k hlt)
      have HD := Lib.hid (And.intro (all_drop (p := p) hlt) (countL_drop (c := (n, m)) (p := p) hlt))
      clear hcc hi
      generalize p.getD k 0 = z at *
      rcases hs : straightB z with _ | _ <;> have Hs := Lib.hid hs <;> clear hs
      · obtain ⟨rfl, rfl⟩ : -1 = x ∧ -1 = y := by have := HR.out; rw [countR, if_neg (by rw [R.out.2.1, HD.out.1, Hs.out]; simp)] at this; cases this; exact ⟨rfl, rfl⟩
        go_wp2_with (go_at_call 34; refine (doesNo_any z _ false Hs.out).mono ?_; rintro e w' ⟨rfl, rfl⟩)
        go_ret2
        exact ⟨rfl, R.out.1⟩
      · obtain ⟨y0, y1, hw, hne, hl0, hl1⟩ := word_needs Hs.out
        have hzk : InK .i64 z := by rcases straight_cases Hs.out with h | h | h | h | h <;> exact wf_near _ (by omega)
        obtain ⟨t1, t2⟩ := tp_bd z
        obtain ⟨a, ha⟩ : ∃ a, (tpR z).1 = a := ⟨_, rfl⟩
        obtain ⟨b, hb⟩ : ∃ b, (tpR z).2 = b := ⟨_, rfl⟩
        rw [ha, hb] at hne
        rw [ha] at t1
        rw [hb] at t2
        have hst : stepC z (n, m) = (n + (a - m), m + (a - m) - a + b) := by unfold stepC; rw [ha, hb]
        have W := Lib.hid (And.intro hw (And.intro hne (And.intro hzk hst))); clear hw hne hzk hst ha hb
        go_wp2_with fail
        refine (doesNo_any z _ true Hs.out).mono ?_
        rintro e w' ⟨rfl, rfl⟩
        go_wp2_with fail
        refine (WordEffect_I z _ W.out.2.2.1 y0 y1 true W.out.1).mono ?_
        rintro e w1 ⟨u0, u1, lo0, hi0, lo1, hi1, rfl, q1, q2, q3, q4, q5, q6, q7, ho0, ho1, hb1⟩
        have hz1 := hb1.size
        obtain ⟨U0, k0, rfl, _⟩ := ho0.rd
        obtain ⟨U1, k1, rfl, _⟩ := ho1.rd
        have hba : Below w1.heap.size w1 (w1.alloc (.cells #[.slice U0 y0.length k0, .slice U1 y1.length k1] 72)) := (Below.refl _ _).alloc (Nat.le_refl _) _
        have S := Lib.hid (And.intro (ho0.rd.step hba) (And.intro (ho1.rd.step hba) ((R.out.1.trans (hb1.mono hsz)).trans (hba.mono (by omega))))); clear ho0 ho1 hb1 hba
        go_wp2_with fail
        refine (NeedsOf_I _ _ y0 y1 _ S.out.1 S.out.2.1 a b W.out.2.1).mono ?_
        rintro e w2 ⟨rfl, hb2⟩
        have hz2 : w1.heap.size + 1 ≤ w2.heap.size := by have := hb2.size; simpa using this
        have T := Lib.hid (S.out.2.2.trans (hb2.mono (by simp; omega))); clear hb2
        go_wp2
        all_goals
          go_roundw
          case rel => exact ⟨k + 1, (stepC z (n, m)).1, (stepC z (n, m)).2, by omega, by go_num, by rw [W.out.2.2.2]; refine congrArg (Value.int .i64) ?_; simp only []; omega, by rw [W.out.2.2.2]; refine congrArg (Value.int .i64) ?_; simp only []; omega, by rw [W.out.2.2.2]; simp only []; omega, by rw [W.out.2.2.2]; simp only []; omega, by omega, T.out, by rw [R.out.2.1, HD.out.1, Hs.out]; simp, by rw [R.out.2.2, HD.out.2]⟩
          case measure => simp [intOf]; omega
    · obtain rfl : k = p.length := by omega
      obtain ⟨hx, hy⟩ : (n : Int) = x ∧ (m : Int) = y := by
        have := HR.out
        rw [countR, if_pos ⟨Hv.out, by rw [R.out.2.1, List.drop_length]; rfl⟩, R.out.2.2, List.drop_length, countL] at this
        cases this; exact ⟨rfl, rfl⟩
      have HX := Lib.hid (And.intro hx hy); clear hx hy
      go_wp2
      go_ret2
      exact ⟨by simp [HX.out.1, HX.out.2], R.out.1⟩
end Go.Proofs.YtpdhdiidkjgjmaaGreat
