/- FnSameOn: of every two codes: SameOn is its model at what is drawn; a program is the same as itself exactly if it is told what it leaves; if two leave the same stack, they do so with a third one behind both, if it is told. For every input. -/
import Derived.Test.YtkdpfiaegimnlaaDr
import Derived.Test.YtkdpfiaegimnlaaB8
import Derived.Test.YtkdpfiaegimnlaaSm
import Derived.Test.YtkdpfiaegimnlaaB5
import Derived.Test.YtkdpfiaegimnlaaB2
import Derived.Test.YtkdpfiaegimnlaaB6
import Derived.Test.YtkdpfiaegimnlaaLift
namespace Go.Proofs.Ytkdpfiaegimnlaa
set_option maxRecDepth 100000
open Go.RowKit Go.WideShapes Go.ChangeShapes

theorem thenR_short2 {p q b : List Int} {f : Bool} (h : thenR p q = (b, f)) : b.length ≤ 60 := by
  unfold thenR at h
  split at h
  · rename_i hc
    cases h
    rw [List.length_append]; exact hc.2.2
  · cases h; simp
theorem same_behind {p q t a b : List Int} {s one two : List (List Int)} {na nb : Int} (h : sameOnR p q s = true) (ha : thenR p t = (a, true)) (hb : thenR q t = (b, true)) (hx : runOfR a s = (one, na, true)) (hy : runOfR b s = (two, nb, true)) : sameOnR a b s = true := by
  rcases hp : runOfR p s with ⟨l, n, k⟩
  rcases hq : runOfR q s with ⟨l', n', k'⟩
  unfold sameOnR at h ⊢
  rw [hp, hq] at h
  simp only [Bool.and_eq_true, decide_eq_true_eq] at h
  obtain ⟨⟨rfl, rfl⟩, rfl⟩ := h
  obtain ⟨c, h1, -⟩ := run_both hp ha hx
  obtain ⟨d, h2, -⟩ := run_both hq hb hy
  rw [h1] at h2
  cases h2
  rw [hx, hy]
  simp

set_option maxHeartbeats 8000000 in
theorem fnSameOn_any (A0 : Option Addr) (c0 : Nat) (x0 : List Int) (A1 : Option Addr) (c1 : Nat) (x1 : List Int) (w0 : World) (h0 : RdC w0 (.slice A0 x0.length c0) x0) (h1 : RdC w0 (.slice A1 x1.length c1) x1) :
    Calls Try.prog 5 #[.slice A0 x0.length c0, .slice A1 x1.length c1] w0 fun e w' => e = .returned (.bool true) ∧ Below w0.heap.size w0 w' := by
  have hm := h0.len_le
  have hm1 := h1.len_le
  have HH := Lib.hid (And.intro h0 h1); clear h0 h1
  by_cases hl : x0.length ≤ 1048576
  case neg =>
    go_enter Try.func5, Try.ntmps5
    go_wp2
    go_ret
    exact ⟨rfl, Below.refl _ _⟩
  by_cases hl1 : x1.length ≤ 1048576
  case neg =>
    go_enter Try.func5, Try.ntmps5
    go_wp2
    go_ret
    exact ⟨rfl, Below.refl _ _⟩
  go_enter Try.func5, Try.ntmps5
  go_wp2_with fail
  refine (DrawSameOn_any _ x0 _ HH.out.1).mono ?_
  rintro e w1 ⟨p, zp, q, zq, s, zss, rfl, hp, hpl, hq, hql, hs, hsl, hsy, hb⟩
  have hz1 := hb.size
  have hsz := szS_200 hsy
  have S1 : Hid (Below w0.heap.size w0 w1 ∧ RdBC w1 w0.heap.size (.slice A1 x1.length c1) x1 ∧ RdBI w1 w1.heap.size p zp ∧ RdBI w1 w1.heap.size q zq ∧ RdBS w1 w1.heap.size s zss) := Lib.hid ⟨hb, RdBC.below HH.out.2 hb, hp.at_, hq.at_, hs.at_⟩
  clear hp hq hs hsy hb HH
  rcases hO : sameOnR zp zq zss with _ | _ <;> have HO := Lib.hid hO <;> clear hO
  all_goals (
    rcases hR : runOfR zp zss with ⟨zl, zn, told⟩
    have HR := Lib.hid hR
    have Hst := Lib.hid (runOfR_stack hR)
    obtain ⟨sl1, sl2, sl3⟩ := stackB_small Hst.out
    have Hpp : Hid (sameOnR zp zp zss = told) := Lib.hid (by rw [sameOnR, hR]; simp)
    clear hR
    have hqp : ∀ o, sameOnR zp zq zss = o → sameOnR zq zp zss = o := fun o h => by
      rw [← h]; unfold sameOnR
      rw [Bool.and_comm (runOfR zq zss).2.2]
      congr 1
      rw [Bool.eq_iff_iff, decide_eq_true_eq, decide_eq_true_eq]
      exact ⟨Eq.symm, Eq.symm⟩
    have Hqp := Lib.hid (hqp _ HO.out); clear hqp
    have htt : (told != told) = false := by simp)
  · skip
    go_wp2_with fail
    refine (SameOn_I _ zp _ zq _ zss _ ((S1.out.2.2.1).rd (by first | omega | (simp <;> omega))) (by omega) ((S1.out.2.2.2.1).rd (by first | omega | (simp <;> omega))) (by omega) ((S1.out.2.2.2.2).rd (by first | omega | (simp <;> omega))) (by omega) (by omega) false HO.out).mono ?_
    rintro e w_2 ⟨rfl, hb2⟩
    have hz2 : w1.heap.size ≤ w_2.heap.size := by have := hb2.size; simpa using this
    replace hb2 : Below (w1.heap.size) w1 w_2 := by simpa using hb2
    have S2 : Hid (Below w0.heap.size w0 w_2 ∧ RdBC w_2 w0.heap.size (.slice A1 x1.length c1) (x1) ∧ RdBI w_2 (w1.heap.size) p (zp) ∧ RdBI w_2 (w1.heap.size) q (zq) ∧ RdBS w_2 (w1.heap.size) s (zss)) := Lib.hid ⟨(S1.out.1).trans (hb2.mono (by omega)), (S1.out.2.1).below (hb2.mono (by omega)), (S1.out.2.2.1).below (hb2.mono (by omega)), (S1.out.2.2.2.1).below (hb2.mono (by omega)), (S1.out.2.2.2.2).below (hb2.mono (by omega))⟩
    clear S1
    clear hb2
    go_wp2_with fail
    refine (SameOn_S _ zp _ zq _ zss _ ((S2.out.2.2.1).rd (by first | omega | (simp <;> omega))) (by omega) ((S2.out.2.2.2.1).rd (by first | omega | (simp <;> omega))) (by omega) ((S2.out.2.2.2.2).rd (by first | omega | (simp <;> omega))) (by omega) (by omega) false HO.out).mono ?_
    rintro e w_3 ⟨rfl, hb3⟩
    have hz3 : w_2.heap.size ≤ w_3.heap.size := by have := hb3.size; simpa using this
    replace hb3 : Below (w_2.heap.size) w_2 w_3 := by simpa using hb3
    have S3 : Hid (Below w0.heap.size w0 w_3 ∧ RdBC w_3 w0.heap.size (.slice A1 x1.length c1) (x1) ∧ RdBI w_3 (w1.heap.size) p (zp) ∧ RdBI w_3 (w1.heap.size) q (zq) ∧ RdBS w_3 (w1.heap.size) s (zss)) := Lib.hid ⟨(S2.out.1).trans (hb3.mono (by omega)), (S2.out.2.1).below (hb3.mono (by omega)), (S2.out.2.2.1).below (hb3.mono (by omega)), (S2.out.2.2.2.1).below (hb3.mono (by omega)), (S2.out.2.2.2.2).below (hb3.mono (by omega))⟩
    clear S2
    clear hb3
    go_wp2_with fail
    refine (RunOf_I _ zp _ zss _ ((S3.out.2.2.1).rd (by first | omega | (simp <;> omega))) (by omega) ((S3.out.2.2.2.2).rd (by first | omega | (simp <;> omega))) zl zn told HR.out).mono ?_
    rintro e w_4 ⟨left, rfl, ho4, hb4⟩
    have hz4 : w_3.heap.size ≤ w_4.heap.size := by have := hb4.size; simpa using this
    replace hb4 : Below (w_3.heap.size) w_3 w_4 := by simpa using hb4
    have S4 : Hid (Below w0.heap.size w0 w_4 ∧ RdBC w_4 w0.heap.size (.slice A1 x1.length c1) (x1) ∧ RdBI w_4 (w1.heap.size) p (zp) ∧ RdBI w_4 (w1.heap.size) q (zq) ∧ RdBS w_4 (w1.heap.size) s (zss) ∧ OwnS w_4 (w_3.heap.size) (w_4.heap.size) left (zl)) := Lib.hid ⟨(S3.out.1).trans (hb4.mono (by omega)), (S3.out.2.1).below (hb4.mono (by omega)), (S3.out.2.2.1).below (hb4.mono (by omega)), (S3.out.2.2.2.1).below (hb4.mono (by omega)), (S3.out.2.2.2.2).below (hb4.mono (by omega)), (by simpa using ho4)⟩
    clear S3
    clear ho4 hb4
    go_wp2_with fail
    refine (SameOn_I _ zp _ zp _ zss _ ((S4.out.2.2.1).rd (by first | omega | (simp <;> omega))) (by omega) ((S4.out.2.2.1).rd (by first | omega | (simp <;> omega))) (by omega) ((S4.out.2.2.2.2.1).rd (by first | omega | (simp <;> omega))) (by omega) (by omega) told Hpp.out).mono ?_
    rintro e w_5 ⟨rfl, hb5⟩
    have hz5 : w_4.heap.size ≤ w_5.heap.size := by have := hb5.size; simpa using this
    replace hb5 : Below (w_4.heap.size) w_4 w_5 := by simpa using hb5
    have S5 : Hid (Below w0.heap.size w0 w_5 ∧ RdBC w_5 w0.heap.size (.slice A1 x1.length c1) (x1) ∧ RdBI w_5 (w1.heap.size) p (zp) ∧ RdBI w_5 (w1.heap.size) q (zq) ∧ RdBS w_5 (w1.heap.size) s (zss) ∧ OwnS w_5 (w_3.heap.size) (w_4.heap.size) left (zl)) := Lib.hid ⟨(S4.out.1).trans (hb5.mono (by omega)), (S4.out.2.1).below (hb5.mono (by omega)), (S4.out.2.2.1).below (hb5.mono (by omega)), (S4.out.2.2.2.1).below (hb5.mono (by omega)), (S4.out.2.2.2.2.1).below (hb5.mono (by omega)), (S4.out.2.2.2.2.2).belowB hb5 (by omega)⟩
    clear S4
    clear hb5
    go_wp2_with fail
    refine (SameOn_I _ zq _ zp _ zss _ ((S5.out.2.2.2.1).rd (by first | omega | (simp <;> omega))) (by omega) ((S5.out.2.2.1).rd (by first | omega | (simp <;> omega))) (by omega) ((S5.out.2.2.2.2.1).rd (by first | omega | (simp <;> omega))) (by omega) (by omega) false Hqp.out).mono ?_
    rintro e w_6 ⟨rfl, hb6⟩
    have hz6 : w_5.heap.size ≤ w_6.heap.size := by have := hb6.size; simpa using this
    replace hb6 : Below (w_5.heap.size) w_5 w_6 := by simpa using hb6
    have S6 : Hid (Below w0.heap.size w0 w_6 ∧ RdBC w_6 w0.heap.size (.slice A1 x1.length c1) (x1) ∧ RdBI w_6 (w1.heap.size) p (zp) ∧ RdBI w_6 (w1.heap.size) q (zq) ∧ RdBS w_6 (w1.heap.size) s (zss) ∧ OwnS w_6 (w_3.heap.size) (w_4.heap.size) left (zl)) := Lib.hid ⟨(S5.out.1).trans (hb6.mono (by omega)), (S5.out.2.1).below (hb6.mono (by omega)), (S5.out.2.2.1).below (hb6.mono (by omega)), (S5.out.2.2.2.1).below (hb6.mono (by omega)), (S5.out.2.2.2.2.1).below (hb6.mono (by omega)), (S5.out.2.2.2.2.2).belowB hb6 (by omega)⟩
    clear S5
    clear hb6
    -- at w_6: S6: base more p q s left
    go_wp2_with fail
    refine (DrawRunOf_any _ x1 _ (S6.out.2.1.rd (by omega))).mono ?_
    rintro e w7 ⟨t, zt, s2, zss2, rfl, ht, htl, -, -, -, hb⟩
    have hz7 : w_6.heap.size ≤ w7.heap.size := hb.size
    have S7 : Hid (Below w0.heap.size w0 w7 ∧ RdBI w7 w7.heap.size p zp ∧ RdBI w7 w7.heap.size q zq ∧ RdBS w7 w7.heap.size s zss ∧ RdBI w7 w7.heap.size t zt) := Lib.hid ⟨S6.out.1.trans (hb.mono (by omega)), (RdI.step (S6.out.2.2.1.rd (by omega)) hb).at_, (RdI.step (S6.out.2.2.2.1.rd (by omega)) hb).at_, (RdS.step (S6.out.2.2.2.2.1.rd (by omega)) hb).at_, ht.1.at_⟩
    clear ht hb S6
    rcases hT : thenR zp zt with ⟨za, fu⟩
    have hal := thenR_short2 hT
    have HT := Lib.hid hT; clear hT
    rcases hT : thenR zq zt with ⟨zb, fv⟩
    have hbl := thenR_short2 hT
    have HT2 := Lib.hid hT; clear hT
    rcases hU : runOfR za zss with ⟨z1, na, fx⟩
    have HU := Lib.hid hU; clear hU
    rcases hU : runOfR zb zss with ⟨z2, nb, fy⟩
    have HV := Lib.hid hU; clear hU
    go_wp2_with fail
    refine (ProgThen_I _ zp _ zt _ ((S7.out.2.1).rd (by first | omega | (simp <;> omega))) (by omega) ((S7.out.2.2.2.2).rd (by first | omega | (simp <;> omega))) (by omega) za fu HT.out).mono ?_
    rintro e w_8 ⟨a, rfl, ho8, hb8⟩
    have hz8 : w7.heap.size ≤ w_8.heap.size := by have := hb8.size; simpa using this
    replace hb8 : Below (w7.heap.size) w7 w_8 := by simpa using hb8
    have S8 : Hid (Below w0.heap.size w0 w_8 ∧ RdBI w_8 (w7.heap.size) p (zp) ∧ RdBI w_8 (w7.heap.size) q (zq) ∧ RdBS w_8 (w7.heap.size) s (zss) ∧ RdBI w_8 (w7.heap.size) t (zt) ∧ OwnI w_8 (w7.heap.size) (w_8.heap.size) a (za)) := Lib.hid ⟨(S7.out.1).trans (hb8.mono (by omega)), (S7.out.2.1).below (hb8.mono (by omega)), (S7.out.2.2.1).below (hb8.mono (by omega)), (S7.out.2.2.2.1).below (hb8.mono (by omega)), (S7.out.2.2.2.2).below (hb8.mono (by omega)), (by simpa using ho8)⟩
    clear S7
    clear ho8 hb8
    go_wp2_with fail
    refine (ProgThen_I _ zq _ zt _ ((S8.out.2.2.1).rd (by first | omega | (simp <;> omega))) (by omega) ((S8.out.2.2.2.2.1).rd (by first | omega | (simp <;> omega))) (by omega) zb fv HT2.out).mono ?_
    rintro e w_9 ⟨b, rfl, ho9, hb9⟩
    have hz9 : w_8.heap.size ≤ w_9.heap.size := by have := hb9.size; simpa using this
    replace hb9 : Below (w_8.heap.size) w_8 w_9 := by simpa using hb9
    have S9 : Hid (Below w0.heap.size w0 w_9 ∧ RdBI w_9 (w7.heap.size) p (zp) ∧ RdBI w_9 (w7.heap.size) q (zq) ∧ RdBS w_9 (w7.heap.size) s (zss) ∧ RdBI w_9 (w7.heap.size) t (zt) ∧ OwnI w_9 (w7.heap.size) (w_8.heap.size) a (za) ∧ OwnI w_9 (w_8.heap.size) (w_9.heap.size) b (zb)) := Lib.hid ⟨(S8.out.1).trans (hb9.mono (by omega)), (S8.out.2.1).below (hb9.mono (by omega)), (S8.out.2.2.1).below (hb9.mono (by omega)), (S8.out.2.2.2.1).below (hb9.mono (by omega)), (S8.out.2.2.2.2.1).below (hb9.mono (by omega)), (S8.out.2.2.2.2.2).belowB hb9 (by omega), (by simpa using ho9)⟩
    clear S8
    clear ho9 hb9
    go_wp2_with fail
    refine (RunOf_I _ za _ zss _ ((S9.out.2.2.2.2.2.1).rd) (by omega) ((S9.out.2.2.2.1).rd (by first | omega | (simp <;> omega))) z1 na fx HU.out).mono ?_
    rintro e w_10 ⟨one, rfl, ho10, hb10⟩
    have hz10 : w_9.heap.size ≤ w_10.heap.size := by have := hb10.size; simpa using this
    replace hb10 : Below (w_9.heap.size) w_9 w_10 := by simpa using hb10
    have S10 : Hid (Below w0.heap.size w0 w_10 ∧ RdBI w_10 (w7.heap.size) p (zp) ∧ RdBI w_10 (w7.heap.size) q (zq) ∧ RdBS w_10 (w7.heap.size) s (zss) ∧ RdBI w_10 (w7.heap.size) t (zt) ∧ OwnI w_10 (w7.heap.size) (w_8.heap.size) a (za) ∧ OwnI w_10 (w_8.heap.size) (w_9.heap.size) b (zb) ∧ OwnS w_10 (w_9.heap.size) (w_10.heap.size) one (z1)) := Lib.hid ⟨(S9.out.1).trans (hb10.mono (by omega)), (S9.out.2.1).below (hb10.mono (by omega)), (S9.out.2.2.1).below (hb10.mono (by omega)), (S9.out.2.2.2.1).below (hb10.mono (by omega)), (S9.out.2.2.2.2.1).below (hb10.mono (by omega)), (S9.out.2.2.2.2.2.1).belowB hb10 (by omega), (S9.out.2.2.2.2.2.2).belowB hb10 (by omega), (by simpa using ho10)⟩
    clear S9
    clear ho10 hb10
    go_wp2_with fail
    refine (RunOf_I _ zb _ zss _ ((S10.out.2.2.2.2.2.2.1).rd) (by omega) ((S10.out.2.2.2.1).rd (by first | omega | (simp <;> omega))) z2 nb fy HV.out).mono ?_
    rintro e w_11 ⟨two, rfl, ho11, hb11⟩
    have hz11 : w_10.heap.size ≤ w_11.heap.size := by have := hb11.size; simpa using this
    replace hb11 : Below (w_10.heap.size) w_10 w_11 := by simpa using hb11
    have S11 : Hid (Below w0.heap.size w0 w_11 ∧ RdBI w_11 (w7.heap.size) p (zp) ∧ RdBI w_11 (w7.heap.size) q (zq) ∧ RdBS w_11 (w7.heap.size) s (zss) ∧ RdBI w_11 (w7.heap.size) t (zt) ∧ OwnI w_11 (w7.heap.size) (w_8.heap.size) a (za) ∧ OwnI w_11 (w_8.heap.size) (w_9.heap.size) b (zb) ∧ OwnS w_11 (w_9.heap.size) (w_10.heap.size) one (z1) ∧ OwnS w_11 (w_10.heap.size) (w_11.heap.size) two (z2)) := Lib.hid ⟨(S10.out.1).trans (hb11.mono (by omega)), (S10.out.2.1).below (hb11.mono (by omega)), (S10.out.2.2.1).below (hb11.mono (by omega)), (S10.out.2.2.2.1).below (hb11.mono (by omega)), (S10.out.2.2.2.2.1).below (hb11.mono (by omega)), (S10.out.2.2.2.2.2.1).belowB hb11 (by omega), (S10.out.2.2.2.2.2.2.1).belowB hb11 (by omega), (S10.out.2.2.2.2.2.2.2).belowB hb11 (by omega), (by simpa using ho11)⟩
    clear S10
    clear ho11 hb11
    -- at w_11: S11: base p q s t a b one two
    go_wp2
    go_ret
    exact ⟨rfl, S11.out.1⟩
  · skip
    go_wp2_with fail
    refine (SameOn_I _ zp _ zq _ zss _ ((S1.out.2.2.1).rd (by first | omega | (simp <;> omega))) (by omega) ((S1.out.2.2.2.1).rd (by first | omega | (simp <;> omega))) (by omega) ((S1.out.2.2.2.2).rd (by first | omega | (simp <;> omega))) (by omega) (by omega) true HO.out).mono ?_
    rintro e w_2 ⟨rfl, hb2⟩
    have hz2 : w1.heap.size ≤ w_2.heap.size := by have := hb2.size; simpa using this
    replace hb2 : Below (w1.heap.size) w1 w_2 := by simpa using hb2
    have S2 : Hid (Below w0.heap.size w0 w_2 ∧ RdBC w_2 w0.heap.size (.slice A1 x1.length c1) (x1) ∧ RdBI w_2 (w1.heap.size) p (zp) ∧ RdBI w_2 (w1.heap.size) q (zq) ∧ RdBS w_2 (w1.heap.size) s (zss)) := Lib.hid ⟨(S1.out.1).trans (hb2.mono (by omega)), (S1.out.2.1).below (hb2.mono (by omega)), (S1.out.2.2.1).below (hb2.mono (by omega)), (S1.out.2.2.2.1).below (hb2.mono (by omega)), (S1.out.2.2.2.2).below (hb2.mono (by omega))⟩
    clear S1
    clear hb2
    go_wp2_with fail
    refine (SameOn_S _ zp _ zq _ zss _ ((S2.out.2.2.1).rd (by first | omega | (simp <;> omega))) (by omega) ((S2.out.2.2.2.1).rd (by first | omega | (simp <;> omega))) (by omega) ((S2.out.2.2.2.2).rd (by first | omega | (simp <;> omega))) (by omega) (by omega) true HO.out).mono ?_
    rintro e w_3 ⟨rfl, hb3⟩
    have hz3 : w_2.heap.size ≤ w_3.heap.size := by have := hb3.size; simpa using this
    replace hb3 : Below (w_2.heap.size) w_2 w_3 := by simpa using hb3
    have S3 : Hid (Below w0.heap.size w0 w_3 ∧ RdBC w_3 w0.heap.size (.slice A1 x1.length c1) (x1) ∧ RdBI w_3 (w1.heap.size) p (zp) ∧ RdBI w_3 (w1.heap.size) q (zq) ∧ RdBS w_3 (w1.heap.size) s (zss)) := Lib.hid ⟨(S2.out.1).trans (hb3.mono (by omega)), (S2.out.2.1).below (hb3.mono (by omega)), (S2.out.2.2.1).below (hb3.mono (by omega)), (S2.out.2.2.2.1).below (hb3.mono (by omega)), (S2.out.2.2.2.2).below (hb3.mono (by omega))⟩
    clear S2
    clear hb3
    go_wp2_with fail
    refine (RunOf_I _ zp _ zss _ ((S3.out.2.2.1).rd (by first | omega | (simp <;> omega))) (by omega) ((S3.out.2.2.2.2).rd (by first | omega | (simp <;> omega))) zl zn told HR.out).mono ?_
    rintro e w_4 ⟨left, rfl, ho4, hb4⟩
    have hz4 : w_3.heap.size ≤ w_4.heap.size := by have := hb4.size; simpa using this
    replace hb4 : Below (w_3.heap.size) w_3 w_4 := by simpa using hb4
    have S4 : Hid (Below w0.heap.size w0 w_4 ∧ RdBC w_4 w0.heap.size (.slice A1 x1.length c1) (x1) ∧ RdBI w_4 (w1.heap.size) p (zp) ∧ RdBI w_4 (w1.heap.size) q (zq) ∧ RdBS w_4 (w1.heap.size) s (zss) ∧ OwnS w_4 (w_3.heap.size) (w_4.heap.size) left (zl)) := Lib.hid ⟨(S3.out.1).trans (hb4.mono (by omega)), (S3.out.2.1).below (hb4.mono (by omega)), (S3.out.2.2.1).below (hb4.mono (by omega)), (S3.out.2.2.2.1).below (hb4.mono (by omega)), (S3.out.2.2.2.2).below (hb4.mono (by omega)), (by simpa using ho4)⟩
    clear S3
    clear ho4 hb4
    go_wp2_with fail
    refine (SameOn_I _ zp _ zp _ zss _ ((S4.out.2.2.1).rd (by first | omega | (simp <;> omega))) (by omega) ((S4.out.2.2.1).rd (by first | omega | (simp <;> omega))) (by omega) ((S4.out.2.2.2.2.1).rd (by first | omega | (simp <;> omega))) (by omega) (by omega) told Hpp.out).mono ?_
    rintro e w_5 ⟨rfl, hb5⟩
    have hz5 : w_4.heap.size ≤ w_5.heap.size := by have := hb5.size; simpa using this
    replace hb5 : Below (w_4.heap.size) w_4 w_5 := by simpa using hb5
    have S5 : Hid (Below w0.heap.size w0 w_5 ∧ RdBC w_5 w0.heap.size (.slice A1 x1.length c1) (x1) ∧ RdBI w_5 (w1.heap.size) p (zp) ∧ RdBI w_5 (w1.heap.size) q (zq) ∧ RdBS w_5 (w1.heap.size) s (zss) ∧ OwnS w_5 (w_3.heap.size) (w_4.heap.size) left (zl)) := Lib.hid ⟨(S4.out.1).trans (hb5.mono (by omega)), (S4.out.2.1).below (hb5.mono (by omega)), (S4.out.2.2.1).below (hb5.mono (by omega)), (S4.out.2.2.2.1).below (hb5.mono (by omega)), (S4.out.2.2.2.2.1).below (hb5.mono (by omega)), (S4.out.2.2.2.2.2).belowB hb5 (by omega)⟩
    clear S4
    clear hb5
    go_wp2_with fail
    refine (SameOn_I _ zq _ zp _ zss _ ((S5.out.2.2.2.1).rd (by first | omega | (simp <;> omega))) (by omega) ((S5.out.2.2.1).rd (by first | omega | (simp <;> omega))) (by omega) ((S5.out.2.2.2.2.1).rd (by first | omega | (simp <;> omega))) (by omega) (by omega) true Hqp.out).mono ?_
    rintro e w_6 ⟨rfl, hb6⟩
    have hz6 : w_5.heap.size ≤ w_6.heap.size := by have := hb6.size; simpa using this
    replace hb6 : Below (w_5.heap.size) w_5 w_6 := by simpa using hb6
    have S6 : Hid (Below w0.heap.size w0 w_6 ∧ RdBC w_6 w0.heap.size (.slice A1 x1.length c1) (x1) ∧ RdBI w_6 (w1.heap.size) p (zp) ∧ RdBI w_6 (w1.heap.size) q (zq) ∧ RdBS w_6 (w1.heap.size) s (zss) ∧ OwnS w_6 (w_3.heap.size) (w_4.heap.size) left (zl)) := Lib.hid ⟨(S5.out.1).trans (hb6.mono (by omega)), (S5.out.2.1).below (hb6.mono (by omega)), (S5.out.2.2.1).below (hb6.mono (by omega)), (S5.out.2.2.2.1).below (hb6.mono (by omega)), (S5.out.2.2.2.2.1).below (hb6.mono (by omega)), (S5.out.2.2.2.2.2).belowB hb6 (by omega)⟩
    clear S5
    clear hb6
    -- at w_6: S6: base more p q s left
    go_wp2_with fail
    refine (DrawRunOf_any _ x1 _ (S6.out.2.1.rd (by omega))).mono ?_
    rintro e w7 ⟨t, zt, s2, zss2, rfl, ht, htl, -, -, -, hb⟩
    have hz7 : w_6.heap.size ≤ w7.heap.size := hb.size
    have S7 : Hid (Below w0.heap.size w0 w7 ∧ RdBI w7 w7.heap.size p zp ∧ RdBI w7 w7.heap.size q zq ∧ RdBS w7 w7.heap.size s zss ∧ RdBI w7 w7.heap.size t zt) := Lib.hid ⟨S6.out.1.trans (hb.mono (by omega)), (RdI.step (S6.out.2.2.1.rd (by omega)) hb).at_, (RdI.step (S6.out.2.2.2.1.rd (by omega)) hb).at_, (RdS.step (S6.out.2.2.2.2.1.rd (by omega)) hb).at_, ht.1.at_⟩
    clear ht hb S6
    rcases hT : thenR zp zt with ⟨za, fu⟩
    have hal := thenR_short2 hT
    have HT := Lib.hid hT; clear hT
    rcases hT : thenR zq zt with ⟨zb, fv⟩
    have hbl := thenR_short2 hT
    have HT2 := Lib.hid hT; clear hT
    rcases hU : runOfR za zss with ⟨z1, na, fx⟩
    have HU := Lib.hid hU; clear hU
    rcases hU : runOfR zb zss with ⟨z2, nb, fy⟩
    have HV := Lib.hid hU; clear hU
    go_wp2_with fail
    refine (ProgThen_I _ zp _ zt _ ((S7.out.2.1).rd (by first | omega | (simp <;> omega))) (by omega) ((S7.out.2.2.2.2).rd (by first | omega | (simp <;> omega))) (by omega) za fu HT.out).mono ?_
    rintro e w_8 ⟨a, rfl, ho8, hb8⟩
    have hz8 : w7.heap.size ≤ w_8.heap.size := by have := hb8.size; simpa using this
    replace hb8 : Below (w7.heap.size) w7 w_8 := by simpa using hb8
    have S8 : Hid (Below w0.heap.size w0 w_8 ∧ RdBI w_8 (w7.heap.size) p (zp) ∧ RdBI w_8 (w7.heap.size) q (zq) ∧ RdBS w_8 (w7.heap.size) s (zss) ∧ RdBI w_8 (w7.heap.size) t (zt) ∧ OwnI w_8 (w7.heap.size) (w_8.heap.size) a (za)) := Lib.hid ⟨(S7.out.1).trans (hb8.mono (by omega)), (S7.out.2.1).below (hb8.mono (by omega)), (S7.out.2.2.1).below (hb8.mono (by omega)), (S7.out.2.2.2.1).below (hb8.mono (by omega)), (S7.out.2.2.2.2).below (hb8.mono (by omega)), (by simpa using ho8)⟩
    clear S7
    clear ho8 hb8
    go_wp2_with fail
    refine (ProgThen_I _ zq _ zt _ ((S8.out.2.2.1).rd (by first | omega | (simp <;> omega))) (by omega) ((S8.out.2.2.2.2.1).rd (by first | omega | (simp <;> omega))) (by omega) zb fv HT2.out).mono ?_
    rintro e w_9 ⟨b, rfl, ho9, hb9⟩
    have hz9 : w_8.heap.size ≤ w_9.heap.size := by have := hb9.size; simpa using this
    replace hb9 : Below (w_8.heap.size) w_8 w_9 := by simpa using hb9
    have S9 : Hid (Below w0.heap.size w0 w_9 ∧ RdBI w_9 (w7.heap.size) p (zp) ∧ RdBI w_9 (w7.heap.size) q (zq) ∧ RdBS w_9 (w7.heap.size) s (zss) ∧ RdBI w_9 (w7.heap.size) t (zt) ∧ OwnI w_9 (w7.heap.size) (w_8.heap.size) a (za) ∧ OwnI w_9 (w_8.heap.size) (w_9.heap.size) b (zb)) := Lib.hid ⟨(S8.out.1).trans (hb9.mono (by omega)), (S8.out.2.1).below (hb9.mono (by omega)), (S8.out.2.2.1).below (hb9.mono (by omega)), (S8.out.2.2.2.1).below (hb9.mono (by omega)), (S8.out.2.2.2.2.1).below (hb9.mono (by omega)), (S8.out.2.2.2.2.2).belowB hb9 (by omega), (by simpa using ho9)⟩
    clear S8
    clear ho9 hb9
    go_wp2_with fail
    refine (RunOf_I _ za _ zss _ ((S9.out.2.2.2.2.2.1).rd) (by omega) ((S9.out.2.2.2.1).rd (by first | omega | (simp <;> omega))) z1 na fx HU.out).mono ?_
    rintro e w_10 ⟨one, rfl, ho10, hb10⟩
    have hz10 : w_9.heap.size ≤ w_10.heap.size := by have := hb10.size; simpa using this
    replace hb10 : Below (w_9.heap.size) w_9 w_10 := by simpa using hb10
    have S10 : Hid (Below w0.heap.size w0 w_10 ∧ RdBI w_10 (w7.heap.size) p (zp) ∧ RdBI w_10 (w7.heap.size) q (zq) ∧ RdBS w_10 (w7.heap.size) s (zss) ∧ RdBI w_10 (w7.heap.size) t (zt) ∧ OwnI w_10 (w7.heap.size) (w_8.heap.size) a (za) ∧ OwnI w_10 (w_8.heap.size) (w_9.heap.size) b (zb) ∧ OwnS w_10 (w_9.heap.size) (w_10.heap.size) one (z1)) := Lib.hid ⟨(S9.out.1).trans (hb10.mono (by omega)), (S9.out.2.1).below (hb10.mono (by omega)), (S9.out.2.2.1).below (hb10.mono (by omega)), (S9.out.2.2.2.1).below (hb10.mono (by omega)), (S9.out.2.2.2.2.1).below (hb10.mono (by omega)), (S9.out.2.2.2.2.2.1).belowB hb10 (by omega), (S9.out.2.2.2.2.2.2).belowB hb10 (by omega), (by simpa using ho10)⟩
    clear S9
    clear ho10 hb10
    go_wp2_with fail
    refine (RunOf_I _ zb _ zss _ ((S10.out.2.2.2.2.2.2.1).rd) (by omega) ((S10.out.2.2.2.1).rd (by first | omega | (simp <;> omega))) z2 nb fy HV.out).mono ?_
    rintro e w_11 ⟨two, rfl, ho11, hb11⟩
    have hz11 : w_10.heap.size ≤ w_11.heap.size := by have := hb11.size; simpa using this
    replace hb11 : Below (w_10.heap.size) w_10 w_11 := by simpa using hb11
    have S11 : Hid (Below w0.heap.size w0 w_11 ∧ RdBI w_11 (w7.heap.size) p (zp) ∧ RdBI w_11 (w7.heap.size) q (zq) ∧ RdBS w_11 (w7.heap.size) s (zss) ∧ RdBI w_11 (w7.heap.size) t (zt) ∧ OwnI w_11 (w7.heap.size) (w_8.heap.size) a (za) ∧ OwnI w_11 (w_8.heap.size) (w_9.heap.size) b (zb) ∧ OwnS w_11 (w_9.heap.size) (w_10.heap.size) one (z1) ∧ OwnS w_11 (w_10.heap.size) (w_11.heap.size) two (z2)) := Lib.hid ⟨(S10.out.1).trans (hb11.mono (by omega)), (S10.out.2.1).below (hb11.mono (by omega)), (S10.out.2.2.1).below (hb11.mono (by omega)), (S10.out.2.2.2.1).below (hb11.mono (by omega)), (S10.out.2.2.2.2.1).below (hb11.mono (by omega)), (S10.out.2.2.2.2.2.1).belowB hb11 (by omega), (S10.out.2.2.2.2.2.2.1).belowB hb11 (by omega), (S10.out.2.2.2.2.2.2.2).belowB hb11 (by omega), (by simpa using ho11)⟩
    clear S10
    clear ho11 hb11
    -- at w_11: S11: base p q s t a b one two
    rcases fu with _ | _
    · go_wp2
      go_ret
      exact ⟨rfl, S11.out.1⟩
    · rcases fv with _ | _
      · go_wp2
        go_ret
        exact ⟨rfl, S11.out.1⟩
      · rcases fx with _ | _
        · go_wp2
          go_ret
          exact ⟨rfl, S11.out.1⟩
        · rcases fy with _ | _
          · go_wp2
            go_ret
            exact ⟨rfl, S11.out.1⟩
          · have HE := Lib.hid (same_behind HO.out HT.out HT2.out HU.out HV.out)
            go_wp2_with fail
            refine (SameOn_I _ za _ zb _ zss _ ((S11.out.2.2.2.2.2.1).rd) (by omega) ((S11.out.2.2.2.2.2.2.1).rd) (by omega) ((S11.out.2.2.2.1).rd (by first | omega | (simp <;> omega))) (by omega) (by omega) true HE.out).mono ?_
            rintro e w_12 ⟨rfl, hb12⟩
            have hz12 : w_11.heap.size ≤ w_12.heap.size := by have := hb12.size; simpa using this
            replace hb12 : Below (w_11.heap.size) w_11 w_12 := by simpa using hb12
            have S12 : Hid (Below w0.heap.size w0 w_12 ∧ RdBI w_12 (w7.heap.size) p (zp) ∧ RdBI w_12 (w7.heap.size) q (zq) ∧ RdBS w_12 (w7.heap.size) s (zss) ∧ RdBI w_12 (w7.heap.size) t (zt) ∧ OwnI w_12 (w7.heap.size) (w_8.heap.size) a (za) ∧ OwnI w_12 (w_8.heap.size) (w_9.heap.size) b (zb) ∧ OwnS w_12 (w_9.heap.size) (w_10.heap.size) one (z1) ∧ OwnS w_12 (w_10.heap.size) (w_11.heap.size) two (z2)) := Lib.hid ⟨(S11.out.1).trans (hb12.mono (by omega)), (S11.out.2.1).below (hb12.mono (by omega)), (S11.out.2.2.1).below (hb12.mono (by omega)), (S11.out.2.2.2.1).below (hb12.mono (by omega)), (S11.out.2.2.2.2.1).below (hb12.mono (by omega)), (S11.out.2.2.2.2.2.1).belowB hb12 (by omega), (S11.out.2.2.2.2.2.2.1).belowB hb12 (by omega), (S11.out.2.2.2.2.2.2.2.1).belowB hb12 (by omega), (S11.out.2.2.2.2.2.2.2.2).belowB hb12 (by omega)⟩
            clear S11
            clear hb12
            -- at w_12: S12: base p q s t a b one two
            go_wp2
            go_ret
            exact ⟨rfl, S12.out.1⟩

theorem fnSameOn_walk : LawWalk 5 Try.f5 := by
  intro H enc W base args ds ps hval hA
  rw [Try.params5] at hA hval
  obtain ⟨v0, v1, d0, d1, p0, p1, rfl, rfl, rfl, h0, h1⟩ := trodAll_two hA
  obtain ⟨A0, c0, zs0, rfl, hi0, hc0⟩ := ints_of_trod Try.underlying22 Try.underlying5 cells_byte (hval 0 _ _ rfl rfl) h0
  obtain ⟨A1, c1, zs1, rfl, hi1, hc1⟩ := ints_of_trod Try.underlying22 Try.underlying5 cells_byte (hval 1 _ _ rfl rfl) h1
  exact fnSameOn_any A0 c0 zs0 A1 c1 zs1 W (RdC.mk hi0 hc0) (RdC.mk hi1 hc1)

set_option maxRecDepth 100000 in
theorem fnSameOn_lifted (os : Os) (started : os.Started) (H : Type) (enc : TypeId × Value → H) :
    ReturnsInHanded {} Try.checked os 5 .any (Rows.fnSameOnSpec.pre6 enc Try.prog Try.f5 Rows.fnSameOnRow.domain false) (Rows.fnSameOnSpec.post enc Try.prog Try.f5 false true false false) := by
  refine returnsInHanded_of_change (C := Try.checked) own started (by kernel_rfl) Try.func5
    (ChangeSpec.witness6 (enc := enc) (C := Try.checked) false ⟨#[], #[.slice none 0 0, .slice none 0 0], []⟩ 8 (by kernel_rfl) (by kernel_rfl) (by kernel_rfl) (by kernel_rfl)) ?_
  intro W base args ds gs before hval hW _ _
  exact law_contract laidOut rfl (by kernel_rfl) rfl (fun H ds hd => by
    match ds, hd with
    | [d0, d1], _ => exact ⟨rfl, rfl, rfl⟩) fnSameOn_walk W base args ds gs before hval hW

/-- FnSameOn: the row as it is given. -/
theorem fnSameOn_holds : Rows.FnSameOnSaid :=
  OpenClaim.holds_of_wide 5 Try.f5 rfl rfl rfl rfl rfl rfl rfl ⟨rfl, rfl, rfl, rfl, rfl⟩ rfl rfl rfl rfl rfl (by kernel_rfl) Try.func5 (by unfold joinedFacts; rw [pf_enter, pf_lifts, pf_make]; kernel_rfl)
    (of_decide_eq_true (by kernel_rfl)) (by unfold Func.isWrapper; first | (rw [if_pos (by decide +kernel)]; kernel_rfl) | (rw [if_neg (by decide +kernel)]; exact ⟨rfl, rfl⟩))
    (fun os started H enc _ => fnSameOn_lifted os started H enc)

end Go.Proofs.Ytkdpfiaegimnlaa
