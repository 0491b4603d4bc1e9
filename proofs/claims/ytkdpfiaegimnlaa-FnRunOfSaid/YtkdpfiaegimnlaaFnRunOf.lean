/- FnRunOf: of every two codes: RunOf is its model at the drawn program and stack; of two programs, one behind the other, it is what the second one leaves of what the first one leaves, with the steps of both together, if all are told; with a value more at the bottom it is the same with this value, if both are told. For every input. -/
import Derived.Test.YtkdpfiaegimnlaaDr
import Derived.Test.YtkdpfiaegimnlaaB8
import Derived.Test.YtkdpfiaegimnlaaSm
import Derived.Test.YtkdpfiaegimnlaaB5
import Derived.Test.YtkdpfiaegimnlaaB2
import Derived.Test.YtkdpfiaegimnlaaB6
import Derived.Test.YtkdpfiaegimnlaaLift
namespace Go.Proofs.Ytkdpfiaegimnlaa
set_option maxRecDepth 100000
open Go.RowKit Go.WideShapes Go.ChangeShapes

theorem under_B (v u : Value) (zs : List Int) (zss zu : List (List Int)) (w : World) (hz : zu = zs :: zss) (h0 : RdI w v zs) (h1 : RdS w u zss) (hn : zss.length ≤ 900000) :
    Calls Try.prog 24 #[v, u] w fun e w' => ∃ q, e = .returned q ∧ RdS w' q zu ∧ Below w.heap.size w w' := by
  subst hz; exact underOften_any v u zs zss w h0 h1 hn
theorem thenR_short {p q b : List Int} {f : Bool} (h : thenR p q = (b, f)) : b.length ≤ 60 := by
  unfold thenR at h
  split at h
  · rename_i hc
    cases h
    rw [List.length_append]; exact hc.2.2
  · cases h; simp

set_option maxHeartbeats 8000000 in
theorem fnRunOf_any (A0 : Option Addr) (c0 : Nat) (x0 : List Int) (A1 : Option Addr) (c1 : Nat) (x1 : List Int) (w0 : World) (h0 : RdC w0 (.slice A0 x0.length c0) x0) (h1 : RdC w0 (.slice A1 x1.length c1) x1) :
    Calls Try.prog 4 #[.slice A0 x0.length c0, .slice A1 x1.length c1] w0 fun e w' => e = .returned (.bool true) ∧ Below w0.heap.size w0 w' := by
  have hm := h0.len_le
  have hm1 := h1.len_le
  have HH := Lib.hid (And.intro h0 h1); clear h0 h1
  by_cases hl : x0.length ≤ 1048576
  case neg =>
    go_enter Try.func4, Try.ntmps4
    go_wp2
    go_ret
    exact ⟨rfl, Below.refl _ _⟩
  by_cases hl1 : x1.length ≤ 1048576
  case neg =>
    go_enter Try.func4, Try.ntmps4
    go_wp2
    go_ret
    exact ⟨rfl, Below.refl _ _⟩
  go_enter Try.func4, Try.ntmps4
  go_wp2_with fail
  refine (DrawRunOf_any _ x0 _ HH.out.1).mono ?_
  rintro e w1 ⟨p, zp, s, zss, rfl, hp, hpl, hs, hsl, hsy, hb⟩
  have hz1 := hb.size
  have hsz := szS_200 hsy
  have S1 : Hid (Below w0.heap.size w0 w1 ∧ RdBC w1 w0.heap.size (.slice A1 x1.length c1) x1 ∧ RdBI w1 w1.heap.size p zp ∧ RdBS w1 w1.heap.size s zss) := Lib.hid ⟨hb, RdBC.below HH.out.2 hb, hp.1.at_, hs.rd.at_⟩
  clear hp hs hsy hb HH
  rcases hR : runOfR zp zss with ⟨zl, zn, ok⟩
  have HR := Lib.hid hR
  have Hst := Lib.hid (runOfR_stack hR); clear hR
  obtain ⟨sl1, sl2, sl3⟩ := stackB_small Hst.out
  have hll : zl.length ≤ 20 := (stackB_all Hst.out).1
  have hbb : (zn != zn) = false := by simp
  have hbo : (ok != ok) = false := by simp
  go_wp2_with fail
  refine (RunOf_I _ zp _ zss _ ((S1.out.2.2.1).rd (by first | omega | (simp <;> omega))) (by omega) ((S1.out.2.2.2).rd (by first | omega | (simp <;> omega))) zl zn ok HR.out).mono ?_
  rintro e w_2 ⟨left, rfl, ho2, hb2⟩
  have hz2 : w1.heap.size ≤ w_2.heap.size := by have := hb2.size; simpa using this
  replace hb2 : Below (w1.heap.size) w1 w_2 := by simpa using hb2
  have S2 : Hid (Below w0.heap.size w0 w_2 ∧ RdBC w_2 w0.heap.size (.slice A1 x1.length c1) (x1) ∧ RdBI w_2 (w1.heap.size) p (zp) ∧ RdBS w_2 (w1.heap.size) s (zss) ∧ OwnS w_2 (w1.heap.size) (w_2.heap.size) left (zl)) := Lib.hid ⟨(S1.out.1).trans (hb2.mono (by omega)), (S1.out.2.1).below (hb2.mono (by omega)), (S1.out.2.2.1).below (hb2.mono (by omega)), (S1.out.2.2.2).below (hb2.mono (by omega)), (by simpa using ho2)⟩
  clear S1
  clear ho2 hb2
  go_wp2_with fail
  refine (RunOf_S _ zp _ zss _ ((S2.out.2.2.1).rd (by first | omega | (simp <;> omega))) (by omega) ((S2.out.2.2.2.1).rd (by first | omega | (simp <;> omega))) (by omega) (by omega) zl zn ok HR.out).mono ?_
  rintro e w_3 ⟨x, rfl, ho3, hb3⟩
  have hz3 : w_2.heap.size ≤ w_3.heap.size := by have := hb3.size; simpa using this
  replace hb3 : Below (w_2.heap.size) w_2 w_3 := by simpa using hb3
  have S3 : Hid (Below w0.heap.size w0 w_3 ∧ RdBC w_3 w0.heap.size (.slice A1 x1.length c1) (x1) ∧ RdBI w_3 (w1.heap.size) p (zp) ∧ RdBS w_3 (w1.heap.size) s (zss) ∧ OwnS w_3 (w1.heap.size) (w_2.heap.size) left (zl) ∧ RdBS w_3 (w_3.heap.size) x (zl)) := Lib.hid ⟨(S2.out.1).trans (hb3.mono (by omega)), (S2.out.2.1).below (hb3.mono (by omega)), (S2.out.2.2.1).below (hb3.mono (by omega)), (S2.out.2.2.2.1).below (hb3.mono (by omega)), (S2.out.2.2.2.2).belowB hb3 (by omega), ho3⟩
  clear S2
  clear ho3 hb3
  go_wp2_with fail
  refine (smS _ _ _ _ _ ((S3.out.2.2.2.2.1).rd) ((S3.out.2.2.2.2.2).rd (by first | omega | (simp <;> omega))) true (decide_eq_true rfl)).mono ?_
  rintro e w_4 ⟨rfl, hb4⟩
  have hz4 : w_3.heap.size ≤ w_4.heap.size := by have := hb4.size; simpa using this
  replace hb4 : Below (w_3.heap.size) w_3 w_4 := by simpa using hb4
  have S4 : Hid (Below w0.heap.size w0 w_4 ∧ RdBC w_4 w0.heap.size (.slice A1 x1.length c1) (x1) ∧ RdBI w_4 (w1.heap.size) p (zp) ∧ RdBS w_4 (w1.heap.size) s (zss) ∧ OwnS w_4 (w1.heap.size) (w_2.heap.size) left (zl)) := Lib.hid ⟨(S3.out.1).trans (hb4.mono (by omega)), (S3.out.2.1).below (hb4.mono (by omega)), (S3.out.2.2.1).below (hb4.mono (by omega)), (S3.out.2.2.2.1).below (hb4.mono (by omega)), (S3.out.2.2.2.2.1).belowB hb4 (by omega)⟩
  clear S3
  clear hb4
  -- at w_4: S4: base more p s left
  obtain ⟨Al, cl, rfl, _⟩ := (S4.out.2.2.2.2).rd
  rcases ok with _ | _
  · obtain ⟨rfl, rfl⟩ : zl = [] ∧ zn = 0 := by
      have h := runOfR_no (p := zp) (s := zss) (by rw [HR.out])
      rw [HR.out] at h; cases h; exact ⟨rfl, rfl⟩
    go_wp2_with fail
    refine (alive_any _).mono ?_
    rintro e w5 ⟨rfl, hb⟩
    have T := Lib.hid (S4.out.1.trans (hb.mono (by omega))); clear hb
    go_wp2
    go_ret
    exact ⟨rfl, T.out⟩
  · go_wp2_with fail
    refine (DrawRunOf_any _ x1 _ (S4.out.2.1.rd (by omega))).mono ?_
    rintro e w5 ⟨q, zq, s2, zss2, rfl, hq, hql, -, -, -, hb⟩
    have hz5 : w_4.heap.size ≤ w5.heap.size := hb.size
    have S5 : Hid (Below w0.heap.size w0 w5 ∧ RdBI w5 w5.heap.size p zp ∧ RdBS w5 w5.heap.size s zss ∧ RdBS w5 w5.heap.size (.slice Al zl.length cl) zl ∧ RdBI w5 w5.heap.size q zq) := Lib.hid ⟨S4.out.1.trans (hb.mono (by omega)), (RdI.step (S4.out.2.2.1.rd (by omega)) hb).at_, (RdS.step (S4.out.2.2.2.1.rd (by omega)) hb).at_, (RdS.step S4.out.2.2.2.2.rd hb).at_, hq.1.at_⟩
    clear hq hb S4
    rcases hT : thenR zp zq with ⟨zb, fits⟩
    have hbl := thenR_short hT
    have HT := Lib.hid hT; clear hT
    rcases hU : runOfR zb zss with ⟨z1, na, u⟩
    have HU := Lib.hid hU; clear hU
    rcases hV : runOfR zq zl with ⟨z2, nb, v⟩
    have HV := Lib.hid hV; clear hV
    obtain ⟨zu, hzu⟩ : ∃ zu, zu = [7] :: zss := ⟨_, rfl⟩
    obtain ⟨zv, hzv⟩ : ∃ zv, zv = [7] :: zl := ⟨_, rfl⟩
    rcases hW : runOfR zp zu with ⟨z3, nc, ww⟩
    have HW := Lib.hid hW; clear hW
    have Hzu := Lib.hid (And.intro hzu hzv); clear hzu hzv
    go_wp2_with fail
    refine (ProgThen_I _ zp _ zq _ ((S5.out.2.1).rd (by first | omega | (simp <;> omega))) (by omega) ((S5.out.2.2.2.2).rd (by first | omega | (simp <;> omega))) (by omega) zb fits HT.out).mono ?_
    rintro e w_6 ⟨both, rfl, ho6, hb6⟩
    have hz6 : w5.heap.size ≤ w_6.heap.size := by have := hb6.size; simpa using this
    replace hb6 : Below (w5.heap.size) w5 w_6 := by simpa using hb6
    have S6 : Hid (Below w0.heap.size w0 w_6 ∧ RdBI w_6 (w5.heap.size) p (zp) ∧ RdBS w_6 (w5.heap.size) s (zss) ∧ RdBS w_6 (w5.heap.size) (.slice Al zl.length cl) (zl) ∧ RdBI w_6 (w5.heap.size) q (zq) ∧ OwnI w_6 (w5.heap.size) (w_6.heap.size) both (zb)) := Lib.hid ⟨(S5.out.1).trans (hb6.mono (by omega)), (S5.out.2.1).below (hb6.mono (by omega)), (S5.out.2.2.1).below (hb6.mono (by omega)), (S5.out.2.2.2.1).below (hb6.mono (by omega)), (S5.out.2.2.2.2).below (hb6.mono (by omega)), (by simpa using ho6)⟩
    clear S5
    clear ho6 hb6
    go_wp2_with fail
    refine (RunOf_I _ zb _ zss _ ((S6.out.2.2.2.2.2).rd) (by omega) ((S6.out.2.2.1).rd (by first | omega | (simp <;> omega))) z1 na u HU.out).mono ?_
    rintro e w_7 ⟨one, rfl, ho7, hb7⟩
    have hz7 : w_6.heap.size ≤ w_7.heap.size := by have := hb7.size; simpa using this
    replace hb7 : Below (w_6.heap.size) w_6 w_7 := by simpa using hb7
    have S7 : Hid (Below w0.heap.size w0 w_7 ∧ RdBI w_7 (w5.heap.size) p (zp) ∧ RdBS w_7 (w5.heap.size) s (zss) ∧ RdBS w_7 (w5.heap.size) (.slice Al zl.length cl) (zl) ∧ RdBI w_7 (w5.heap.size) q (zq) ∧ OwnI w_7 (w5.heap.size) (w_6.heap.size) both (zb) ∧ OwnS w_7 (w_6.heap.size) (w_7.heap.size) one (z1)) := Lib.hid ⟨(S6.out.1).trans (hb7.mono (by omega)), (S6.out.2.1).below (hb7.mono (by omega)), (S6.out.2.2.1).below (hb7.mono (by omega)), (S6.out.2.2.2.1).below (hb7.mono (by omega)), (S6.out.2.2.2.2.1).below (hb7.mono (by omega)), (S6.out.2.2.2.2.2).belowB hb7 (by omega), (by simpa using ho7)⟩
    clear S6
    clear ho7 hb7
    go_wp2_with fail
    refine (RunOf_I _ zq _ zl _ ((S7.out.2.2.2.2.1).rd (by first | omega | (simp <;> omega))) (by omega) ((S7.out.2.2.2.1).rd (by first | omega | (simp <;> omega))) z2 nb v HV.out).mono ?_
    rintro e w_8 ⟨two, rfl, ho8, hb8⟩
    have hz8 : w_7.heap.size ≤ w_8.heap.size := by have := hb8.size; simpa using this
    replace hb8 : Below (w_7.heap.size) w_7 w_8 := by simpa using hb8
    have S8 : Hid (Below w0.heap.size w0 w_8 ∧ RdBI w_8 (w5.heap.size) p (zp) ∧ RdBS w_8 (w5.heap.size) s (zss) ∧ RdBS w_8 (w5.heap.size) (.slice Al zl.length cl) (zl) ∧ RdBI w_8 (w5.heap.size) q (zq) ∧ OwnI w_8 (w5.heap.size) (w_6.heap.size) both (zb) ∧ OwnS w_8 (w_6.heap.size) (w_7.heap.size) one (z1) ∧ OwnS w_8 (w_7.heap.size) (w_8.heap.size) two (z2)) := Lib.hid ⟨(S7.out.1).trans (hb8.mono (by omega)), (S7.out.2.1).below (hb8.mono (by omega)), (S7.out.2.2.1).below (hb8.mono (by omega)), (S7.out.2.2.2.1).below (hb8.mono (by omega)), (S7.out.2.2.2.2.1).below (hb8.mono (by omega)), (S7.out.2.2.2.2.2.1).belowB hb8 (by omega), (S7.out.2.2.2.2.2.2).belowB hb8 (by omega), (by simpa using ho8)⟩
    clear S7
    clear ho8 hb8
    -- at w_8: S8: base p s left q both one two
    rcases fits with _ | _
    · skip
      have F8 : Hid (Below w0.heap.size w0 w_8 ∧ RdBI w_8 w5.heap.size p zp ∧ RdBS w_8 w5.heap.size s zss ∧ RdBS w_8 w5.heap.size (.slice Al zl.length cl) zl) := Lib.hid ⟨S8.out.1, S8.out.2.1, S8.out.2.2.1, S8.out.2.2.2.1⟩
      clear S8
      have hb9 : Below (w_8.heap.size) w_8 (w_8.alloc (.cells #[.int .i64 (7)] 3)) := (Below.refl _ _).alloc (by first | omega | simp) _
      have ho9 := lits_own w_8 [7] (by simp) (by intro z hz; simp only [List.mem_cons, List.not_mem_nil, or_false] at hz; apply wf_near; omega)
      have S9 : Hid (Below w0.heap.size w0 (w_8.alloc (.cells #[.int .i64 (7)] 3)) ∧ RdBI (w_8.alloc (.cells #[.int .i64 (7)] 3)) (w5.heap.size) p (zp) ∧ RdBS (w_8.alloc (.cells #[.int .i64 (7)] 3)) (w5.heap.size) s (zss) ∧ RdBS (w_8.alloc (.cells #[.int .i64 (7)] 3)) (w5.heap.size) (.slice Al zl.length cl) (zl) ∧ OwnI (w_8.alloc (.cells #[.int .i64 (7)] 3)) (w_8.heap.size) (w_8.heap.size + 1) (.slice (some ⟨w_8.heap.size, 0, none⟩) 1 1) ([7])) := Lib.hid ⟨(F8.out.1).trans (hb9.mono (by omega)), (F8.out.2.1).below (hb9.mono (by omega)), (F8.out.2.2.1).below (hb9.mono (by omega)), (F8.out.2.2.2).below (hb9.mono (by omega)), (by simpa using ho9)⟩
      clear F8
      clear hb9 ho9
      go_wp2_with fail
      refine (under_B _ _ [7] zss zu _ Hzu.out.1 ((S9.out.2.2.2.2).rd) ((S9.out.2.2.1).rd (by first | omega | (simp <;> omega))) (by omega)).mono ?_
      rintro e w_10 ⟨low0, rfl, ho10, hb10⟩
      have hz10 : w_8.heap.size + 1 ≤ w_10.heap.size := by have := hb10.size; simpa using this
      replace hb10 : Below (w_8.heap.size + 1) (w_8.alloc (.cells #[.int .i64 (7)] 3)) w_10 := by simpa using hb10
      have S10 : Hid (Below w0.heap.size w0 w_10 ∧ RdBI w_10 (w5.heap.size) p (zp) ∧ RdBS w_10 (w5.heap.size) s (zss) ∧ RdBS w_10 (w5.heap.size) (.slice Al zl.length cl) (zl) ∧ OwnI w_10 (w_8.heap.size) (w_8.heap.size + 1) (.slice (some ⟨w_8.heap.size, 0, none⟩) 1 1) ([7]) ∧ RdBS w_10 (w_10.heap.size) low0 (zu)) := Lib.hid ⟨(S9.out.1).trans (hb10.mono (by omega)), (S9.out.2.1).below (hb10.mono (by omega)), (S9.out.2.2.1).below (hb10.mono (by omega)), (S9.out.2.2.2.1).below (hb10.mono (by omega)), (S9.out.2.2.2.2).belowB hb10 (by omega), ho10⟩
      clear S9
      clear ho10 hb10
      go_wp2_with fail
      refine (RunOf_I _ zp _ zu _ ((S10.out.2.1).rd (by first | omega | (simp <;> omega))) (by omega) ((S10.out.2.2.2.2.2).rd (by first | omega | (simp <;> omega))) z3 nc ww HW.out).mono ?_
      rintro e w_11 ⟨low, rfl, ho11, hb11⟩
      have hz11 : w_10.heap.size ≤ w_11.heap.size := by have := hb11.size; simpa using this
      replace hb11 : Below (w_10.heap.size) w_10 w_11 := by simpa using hb11
      have S11 : Hid (Below w0.heap.size w0 w_11 ∧ RdBI w_11 (w5.heap.size) p (zp) ∧ RdBS w_11 (w5.heap.size) s (zss) ∧ RdBS w_11 (w5.heap.size) (.slice Al zl.length cl) (zl) ∧ OwnI w_11 (w_8.heap.size) (w_8.heap.size + 1) (.slice (some ⟨w_8.heap.size, 0, none⟩) 1 1) ([7]) ∧ RdBS w_11 (w_10.heap.size) low0 (zu) ∧ OwnS w_11 (w_10.heap.size) (w_11.heap.size) low (z3)) := Lib.hid ⟨(S10.out.1).trans (hb11.mono (by omega)), (S10.out.2.1).below (hb11.mono (by omega)), (S10.out.2.2.1).below (hb11.mono (by omega)), (S10.out.2.2.2.1).below (hb11.mono (by omega)), (S10.out.2.2.2.2.1).belowB hb11 (by omega), (S10.out.2.2.2.2.2).below (hb11.mono (by omega)), (by simpa using ho11)⟩
      clear S10
      clear ho11 hb11
      go_wp2_with fail
      refine (StackOk_B _ zl _ ((S11.out.2.2.2.1).rd (by first | omega | (simp <;> omega))) true Hst.out).mono ?_
      rintro e w_12 ⟨rfl, hb12⟩
      have hz12 : w_11.heap.size ≤ w_12.heap.size := by have := hb12.size; simpa using this
      replace hb12 : Below (w_11.heap.size) w_11 w_12 := by simpa using hb12
      have S12 : Hid (Below w0.heap.size w0 w_12 ∧ RdBI w_12 (w5.heap.size) p (zp) ∧ RdBS w_12 (w5.heap.size) s (zss) ∧ RdBS w_12 (w5.heap.size) (.slice Al zl.length cl) (zl) ∧ OwnI w_12 (w_8.heap.size) (w_8.heap.size + 1) (.slice (some ⟨w_8.heap.size, 0, none⟩) 1 1) ([7]) ∧ RdBS w_12 (w_10.heap.size) low0 (zu) ∧ OwnS w_12 (w_10.heap.size) (w_11.heap.size) low (z3)) := Lib.hid ⟨(S11.out.1).trans (hb12.mono (by omega)), (S11.out.2.1).below (hb12.mono (by omega)), (S11.out.2.2.1).below (hb12.mono (by omega)), (S11.out.2.2.2.1).below (hb12.mono (by omega)), (S11.out.2.2.2.2.1).belowB hb12 (by omega), (S11.out.2.2.2.2.2.1).below (hb12.mono (by omega)), (S11.out.2.2.2.2.2.2).belowB hb12 (by omega)⟩
      clear S11
      clear hb12
      -- at w_12: S12: base p s left seven low0 low
      rcases ww with _ | _
      · go_wp2
        go_ret
        exact ⟨rfl, S12.out.1⟩
      · obtain ⟨e1, e2⟩ := run_low (v := [7]) HR.out (by rw [← Hzu.out.1]; exact HW.out)
        have hcn : (nc == zn) = true := by rw [e1]; simp
        have HE := Lib.hid (e2.trans Hzu.out.2.symm); clear e1 e2
        have hb13 : Below (w_12.heap.size) w_12 (w_12.alloc (.cells #[.int .i64 (7)] 3)) := (Below.refl _ _).alloc (by first | omega | simp) _
        have ho13 := lits_own w_12 [7] (by simp) (by intro z hz; simp only [List.mem_cons, List.not_mem_nil, or_false] at hz; apply wf_near; omega)
        have S13 : Hid (Below w0.heap.size w0 (w_12.alloc (.cells #[.int .i64 (7)] 3)) ∧ RdBI (w_12.alloc (.cells #[.int .i64 (7)] 3)) (w5.heap.size) p (zp) ∧ RdBS (w_12.alloc (.cells #[.int .i64 (7)] 3)) (w5.heap.size) s (zss) ∧ RdBS (w_12.alloc (.cells #[.int .i64 (7)] 3)) (w5.heap.size) (.slice Al zl.length cl) (zl) ∧ OwnI (w_12.alloc (.cells #[.int .i64 (7)] 3)) (w_8.heap.size) (w_8.heap.size + 1) (.slice (some ⟨w_8.heap.size, 0, none⟩) 1 1) ([7]) ∧ RdBS (w_12.alloc (.cells #[.int .i64 (7)] 3)) (w_10.heap.size) low0 (zu) ∧ OwnS (w_12.alloc (.cells #[.int .i64 (7)] 3)) (w_10.heap.size) (w_11.heap.size) low (z3) ∧ OwnI (w_12.alloc (.cells #[.int .i64 (7)] 3)) (w_12.heap.size) (w_12.heap.size + 1) (.slice (some ⟨w_12.heap.size, 0, none⟩) 1 1) ([7])) := Lib.hid ⟨(S12.out.1).trans (hb13.mono (by omega)), (S12.out.2.1).below (hb13.mono (by omega)), (S12.out.2.2.1).below (hb13.mono (by omega)), (S12.out.2.2.2.1).below (hb13.mono (by omega)), (S12.out.2.2.2.2.1).belowB hb13 (by omega), (S12.out.2.2.2.2.2.1).below (hb13.mono (by omega)), (S12.out.2.2.2.2.2.2).belowB hb13 (by omega), (by simpa using ho13)⟩
        clear S12
        clear hb13 ho13
        go_wp2_with fail
        refine (under_B _ _ [7] zl zv _ Hzu.out.2 ((S13.out.2.2.2.2.2.2.2).rd) ((S13.out.2.2.2.1).rd (by first | omega | (simp <;> omega))) (by omega)).mono ?_
        rintro e w_14 ⟨low2, rfl, ho14, hb14⟩
        have hz14 : w_12.heap.size + 1 ≤ w_14.heap.size := by have := hb14.size; simpa using this
        replace hb14 : Below (w_12.heap.size + 1) (w_12.alloc (.cells #[.int .i64 (7)] 3)) w_14 := by simpa using hb14
        have S14 : Hid (Below w0.heap.size w0 w_14 ∧ RdBI w_14 (w5.heap.size) p (zp) ∧ RdBS w_14 (w5.heap.size) s (zss) ∧ RdBS w_14 (w5.heap.size) (.slice Al zl.length cl) (zl) ∧ OwnI w_14 (w_8.heap.size) (w_8.heap.size + 1) (.slice (some ⟨w_8.heap.size, 0, none⟩) 1 1) ([7]) ∧ RdBS w_14 (w_10.heap.size) low0 (zu) ∧ OwnS w_14 (w_10.heap.size) (w_11.heap.size) low (z3) ∧ OwnI w_14 (w_12.heap.size) (w_12.heap.size + 1) (.slice (some ⟨w_12.heap.size, 0, none⟩) 1 1) ([7]) ∧ RdBS w_14 (w_14.heap.size) low2 (zv)) := Lib.hid ⟨(S13.out.1).trans (hb14.mono (by omega)), (S13.out.2.1).below (hb14.mono (by omega)), (S13.out.2.2.1).below (hb14.mono (by omega)), (S13.out.2.2.2.1).below (hb14.mono (by omega)), (S13.out.2.2.2.2.1).belowB hb14 (by omega), (S13.out.2.2.2.2.2.1).below (hb14.mono (by omega)), (S13.out.2.2.2.2.2.2.1).belowB hb14 (by omega), (S13.out.2.2.2.2.2.2.2).belowB hb14 (by omega), ho14⟩
        clear S13
        clear ho14 hb14
        go_wp2_with fail
        refine (smS _ _ z3 zv _ ((S14.out.2.2.2.2.2.2.1).rd) ((S14.out.2.2.2.2.2.2.2.2).rd (by first | omega | (simp <;> omega))) true (decide_eq_true HE.out)).mono ?_
        rintro e w_15 ⟨rfl, hb15⟩
        have hz15 : w_14.heap.size ≤ w_15.heap.size := by have := hb15.size; simpa using this
        replace hb15 : Below (w_14.heap.size) w_14 w_15 := by simpa using hb15
        have S15 : Hid (Below w0.heap.size w0 w_15 ∧ RdBI w_15 (w5.heap.size) p (zp) ∧ RdBS w_15 (w5.heap.size) s (zss) ∧ RdBS w_15 (w5.heap.size) (.slice Al zl.length cl) (zl) ∧ OwnI w_15 (w_8.heap.size) (w_8.heap.size + 1) (.slice (some ⟨w_8.heap.size, 0, none⟩) 1 1) ([7]) ∧ RdBS w_15 (w_10.heap.size) low0 (zu) ∧ OwnS w_15 (w_10.heap.size) (w_11.heap.size) low (z3) ∧ OwnI w_15 (w_12.heap.size) (w_12.heap.size + 1) (.slice (some ⟨w_12.heap.size, 0, none⟩) 1 1) ([7]) ∧ RdBS w_15 (w_14.heap.size) low2 (zv)) := Lib.hid ⟨(S14.out.1).trans (hb15.mono (by omega)), (S14.out.2.1).below (hb15.mono (by omega)), (S14.out.2.2.1).below (hb15.mono (by omega)), (S14.out.2.2.2.1).below (hb15.mono (by omega)), (S14.out.2.2.2.2.1).belowB hb15 (by omega), (S14.out.2.2.2.2.2.1).below (hb15.mono (by omega)), (S14.out.2.2.2.2.2.2.1).belowB hb15 (by omega), (S14.out.2.2.2.2.2.2.2.1).belowB hb15 (by omega), (S14.out.2.2.2.2.2.2.2.2).below (hb15.mono (by omega))⟩
        clear S14
        clear hb15
        -- at w_15: S15: base p s left seven low0 low seven2 low2
        go_wp2
        go_ret
        exact ⟨rfl, S15.out.1⟩
    · rcases u with _ | _
      · rcases v with _ | _
        · skip
          have F8 : Hid (Below w0.heap.size w0 w_8 ∧ RdBI w_8 w5.heap.size p zp ∧ RdBS w_8 w5.heap.size s zss ∧ RdBS w_8 w5.heap.size (.slice Al zl.length cl) zl) := Lib.hid ⟨S8.out.1, S8.out.2.1, S8.out.2.2.1, S8.out.2.2.2.1⟩
          clear S8
          have hb9 : Below (w_8.heap.size) w_8 (w_8.alloc (.cells #[.int .i64 (7)] 3)) := (Below.refl _ _).alloc (by first | omega | simp) _
          have ho9 := lits_own w_8 [7] (by simp) (by intro z hz; simp only [List.mem_cons, List.not_mem_nil, or_false] at hz; apply wf_near; omega)
          have S9 : Hid (Below w0.heap.size w0 (w_8.alloc (.cells #[.int .i64 (7)] 3)) ∧ RdBI (w_8.alloc (.cells #[.int .i64 (7)] 3)) (w5.heap.size) p (zp) ∧ RdBS (w_8.alloc (.cells #[.int .i64 (7)] 3)) (w5.heap.size) s (zss) ∧ RdBS (w_8.alloc (.cells #[.int .i64 (7)] 3)) (w5.heap.size) (.slice Al zl.length cl) (zl) ∧ OwnI (w_8.alloc (.cells #[.int .i64 (7)] 3)) (w_8.heap.size) (w_8.heap.size + 1) (.slice (some ⟨w_8.heap.size, 0, none⟩) 1 1) ([7])) := Lib.hid ⟨(F8.out.1).trans (hb9.mono (by omega)), (F8.out.2.1).below (hb9.mono (by omega)), (F8.out.2.2.1).below (hb9.mono (by omega)), (F8.out.2.2.2).below (hb9.mono (by omega)), (by simpa using ho9)⟩
          clear F8
          clear hb9 ho9
          go_wp2_with fail
          refine (under_B _ _ [7] zss zu _ Hzu.out.1 ((S9.out.2.2.2.2).rd) ((S9.out.2.2.1).rd (by first | omega | (simp <;> omega))) (by omega)).mono ?_
          rintro e w_10 ⟨low0, rfl, ho10, hb10⟩
          have hz10 : w_8.heap.size + 1 ≤ w_10.heap.size := by have := hb10.size; simpa using this
          replace hb10 : Below (w_8.heap.size + 1) (w_8.alloc (.cells #[.int .i64 (7)] 3)) w_10 := by simpa using hb10
          have S10 : Hid (Below w0.heap.size w0 w_10 ∧ RdBI w_10 (w5.heap.size) p (zp) ∧ RdBS w_10 (w5.heap.size) s (zss) ∧ RdBS w_10 (w5.heap.size) (.slice Al zl.length cl) (zl) ∧ OwnI w_10 (w_8.heap.size) (w_8.heap.size + 1) (.slice (some ⟨w_8.heap.size, 0, none⟩) 1 1) ([7]) ∧ RdBS w_10 (w_10.heap.size) low0 (zu)) := Lib.hid ⟨(S9.out.1).trans (hb10.mono (by omega)), (S9.out.2.1).below (hb10.mono (by omega)), (S9.out.2.2.1).below (hb10.mono (by omega)), (S9.out.2.2.2.1).below (hb10.mono (by omega)), (S9.out.2.2.2.2).belowB hb10 (by omega), ho10⟩
          clear S9
          clear ho10 hb10
          go_wp2_with fail
          refine (RunOf_I _ zp _ zu _ ((S10.out.2.1).rd (by first | omega | (simp <;> omega))) (by omega) ((S10.out.2.2.2.2.2).rd (by first | omega | (simp <;> omega))) z3 nc ww HW.out).mono ?_
          rintro e w_11 ⟨low, rfl, ho11, hb11⟩
          have hz11 : w_10.heap.size ≤ w_11.heap.size := by have := hb11.size; simpa using this
          replace hb11 : Below (w_10.heap.size) w_10 w_11 := by simpa using hb11
          have S11 : Hid (Below w0.heap.size w0 w_11 ∧ RdBI w_11 (w5.heap.size) p (zp) ∧ RdBS w_11 (w5.heap.size) s (zss) ∧ RdBS w_11 (w5.heap.size) (.slice Al zl.length cl) (zl) ∧ OwnI w_11 (w_8.heap.size) (w_8.heap.size + 1) (.slice (some ⟨w_8.heap.size, 0, none⟩) 1 1) ([7]) ∧ RdBS w_11 (w_10.heap.size) low0 (zu) ∧ OwnS w_11 (w_10.heap.size) (w_11.heap.size) low (z3)) := Lib.hid ⟨(S10.out.1).trans (hb11.mono (by omega)), (S10.out.2.1).below (hb11.mono (by omega)), (S10.out.2.2.1).below (hb11.mono (by omega)), (S10.out.2.2.2.1).below (hb11.mono (by omega)), (S10.out.2.2.2.2.1).belowB hb11 (by omega), (S10.out.2.2.2.2.2).below (hb11.mono (by omega)), (by simpa using ho11)⟩
          clear S10
          clear ho11 hb11
          go_wp2_with fail
          refine (StackOk_B _ zl _ ((S11.out.2.2.2.1).rd (by first | omega | (simp <;> omega))) true Hst.out).mono ?_
          rintro e w_12 ⟨rfl, hb12⟩
          have hz12 : w_11.heap.size ≤ w_12.heap.size := by have := hb12.size; simpa using this
          replace hb12 : Below (w_11.heap.size) w_11 w_12 := by simpa using hb12
          have S12 : Hid (Below w0.heap.size w0 w_12 ∧ RdBI w_12 (w5.heap.size) p (zp) ∧ RdBS w_12 (w5.heap.size) s (zss) ∧ RdBS w_12 (w5.heap.size) (.slice Al zl.length cl) (zl) ∧ OwnI w_12 (w_8.heap.size) (w_8.heap.size + 1) (.slice (some ⟨w_8.heap.size, 0, none⟩) 1 1) ([7]) ∧ RdBS w_12 (w_10.heap.size) low0 (zu) ∧ OwnS w_12 (w_10.heap.size) (w_11.heap.size) low (z3)) := Lib.hid ⟨(S11.out.1).trans (hb12.mono (by omega)), (S11.out.2.1).below (hb12.mono (by omega)), (S11.out.2.2.1).below (hb12.mono (by omega)), (S11.out.2.2.2.1).below (hb12.mono (by omega)), (S11.out.2.2.2.2.1).belowB hb12 (by omega), (S11.out.2.2.2.2.2.1).below (hb12.mono (by omega)), (S11.out.2.2.2.2.2.2).belowB hb12 (by omega)⟩
          clear S11
          clear hb12
          -- at w_12: S12: base p s left seven low0 low
          rcases ww with _ | _
          · go_wp2
            go_ret
            exact ⟨rfl, S12.out.1⟩
          · obtain ⟨e1, e2⟩ := run_low (v := [7]) HR.out (by rw [← Hzu.out.1]; exact HW.out)
            have hcn : (nc == zn) = true := by rw [e1]; simp
            have HE := Lib.hid (e2.trans Hzu.out.2.symm); clear e1 e2
            have hb13 : Below (w_12.heap.size) w_12 (w_12.alloc (.cells #[.int .i64 (7)] 3)) := (Below.refl _ _).alloc (by first | omega | simp) _
            have ho13 := lits_own w_12 [7] (by simp) (by intro z hz; simp only [List.mem_cons, List.not_mem_nil, or_false] at hz; apply wf_near; omega)
            have S13 : Hid (Below w0.heap.size w0 (w_12.alloc (.cells #[.int .i64 (7)] 3)) ∧ RdBI (w_12.alloc (.cells #[.int .i64 (7)] 3)) (w5.heap.size) p (zp) ∧ RdBS (w_12.alloc (.cells #[.int .i64 (7)] 3)) (w5.heap.size) s (zss) ∧ RdBS (w_12.alloc (.cells #[.int .i64 (7)] 3)) (w5.heap.size) (.slice Al zl.length cl) (zl) ∧ OwnI (w_12.alloc (.cells #[.int .i64 (7)] 3)) (w_8.heap.size) (w_8.heap.size + 1) (.slice (some ⟨w_8.heap.size, 0, none⟩) 1 1) ([7]) ∧ RdBS (w_12.alloc (.cells #[.int .i64 (7)] 3)) (w_10.heap.size) low0 (zu) ∧ OwnS (w_12.alloc (.cells #[.int .i64 (7)] 3)) (w_10.heap.size) (w_11.heap.size) low (z3) ∧ OwnI (w_12.alloc (.cells #[.int .i64 (7)] 3)) (w_12.heap.size) (w_12.heap.size + 1) (.slice (some ⟨w_12.heap.size, 0, none⟩) 1 1) ([7])) := Lib.hid ⟨(S12.out.1).trans (hb13.mono (by omega)), (S12.out.2.1).below (hb13.mono (by omega)), (S12.out.2.2.1).below (hb13.mono (by omega)), (S12.out.2.2.2.1).below (hb13.mono (by omega)), (S12.out.2.2.2.2.1).belowB hb13 (by omega), (S12.out.2.2.2.2.2.1).below (hb13.mono (by omega)), (S12.out.2.2.2.2.2.2).belowB hb13 (by omega), (by simpa using ho13)⟩
            clear S12
            clear hb13 ho13
            go_wp2_with fail
            refine (under_B _ _ [7] zl zv _ Hzu.out.2 ((S13.out.2.2.2.2.2.2.2).rd) ((S13.out.2.2.2.1).rd (by first | omega | (simp <;> omega))) (by omega)).mono ?_
            rintro e w_14 ⟨low2, rfl, ho14, hb14⟩
            have hz14 : w_12.heap.size + 1 ≤ w_14.heap.size := by have := hb14.size; simpa using this
            replace hb14 : Below (w_12.heap.size + 1) (w_12.alloc (.cells #[.int .i64 (7)] 3)) w_14 := by simpa using hb14
            have S14 : Hid (Below w0.heap.size w0 w_14 ∧ RdBI w_14 (w5.heap.size) p (zp) ∧ RdBS w_14 (w5.heap.size) s (zss) ∧ RdBS w_14 (w5.heap.size) (.slice Al zl.length cl) (zl) ∧ OwnI w_14 (w_8.heap.size) (w_8.heap.size + 1) (.slice (some ⟨w_8.heap.size, 0, none⟩) 1 1) ([7]) ∧ RdBS w_14 (w_10.heap.size) low0 (zu) ∧ OwnS w_14 (w_10.heap.size) (w_11.heap.size) low (z3) ∧ OwnI w_14 (w_12.heap.size) (w_12.heap.size + 1) (.slice (some ⟨w_12.heap.size, 0, none⟩) 1 1) ([7]) ∧ RdBS w_14 (w_14.heap.size) low2 (zv)) := Lib.hid ⟨(S13.out.1).trans (hb14.mono (by omega)), (S13.out.2.1).below (hb14.mono (by omega)), (S13.out.2.2.1).below (hb14.mono (by omega)), (S13.out.2.2.2.1).below (hb14.mono (by omega)), (S13.out.2.2.2.2.1).belowB hb14 (by omega), (S13.out.2.2.2.2.2.1).below (hb14.mono (by omega)), (S13.out.2.2.2.2.2.2.1).belowB hb14 (by omega), (S13.out.2.2.2.2.2.2.2).belowB hb14 (by omega), ho14⟩
            clear S13
            clear ho14 hb14
            go_wp2_with fail
            refine (smS _ _ z3 zv _ ((S14.out.2.2.2.2.2.2.1).rd) ((S14.out.2.2.2.2.2.2.2.2).rd (by first | omega | (simp <;> omega))) true (decide_eq_true HE.out)).mono ?_
            rintro e w_15 ⟨rfl, hb15⟩
            have hz15 : w_14.heap.size ≤ w_15.heap.size := by have := hb15.size; simpa using this
            replace hb15 : Below (w_14.heap.size) w_14 w_15 := by simpa using hb15
            have S15 : Hid (Below w0.heap.size w0 w_15 ∧ RdBI w_15 (w5.heap.size) p (zp) ∧ RdBS w_15 (w5.heap.size) s (zss) ∧ RdBS w_15 (w5.heap.size) (.slice Al zl.length cl) (zl) ∧ OwnI w_15 (w_8.heap.size) (w_8.heap.size + 1) (.slice (some ⟨w_8.heap.size, 0, none⟩) 1 1) ([7]) ∧ RdBS w_15 (w_10.heap.size) low0 (zu) ∧ OwnS w_15 (w_10.heap.size) (w_11.heap.size) low (z3) ∧ OwnI w_15 (w_12.heap.size) (w_12.heap.size + 1) (.slice (some ⟨w_12.heap.size, 0, none⟩) 1 1) ([7]) ∧ RdBS w_15 (w_14.heap.size) low2 (zv)) := Lib.hid ⟨(S14.out.1).trans (hb15.mono (by omega)), (S14.out.2.1).below (hb15.mono (by omega)), (S14.out.2.2.1).below (hb15.mono (by omega)), (S14.out.2.2.2.1).below (hb15.mono (by omega)), (S14.out.2.2.2.2.1).belowB hb15 (by omega), (S14.out.2.2.2.2.2.1).below (hb15.mono (by omega)), (S14.out.2.2.2.2.2.2.1).belowB hb15 (by omega), (S14.out.2.2.2.2.2.2.2.1).belowB hb15 (by omega), (S14.out.2.2.2.2.2.2.2.2).below (hb15.mono (by omega))⟩
            clear S14
            clear hb15
            -- at w_15: S15: base p s left seven low0 low seven2 low2
            go_wp2
            go_ret
            exact ⟨rfl, S15.out.1⟩
        · have hnb : ¬ (zn + nb ≤ 2000) := fun h => by
            have h1 := run_join HR.out HT.out HV.out h (by
              have h2 := HT.out
              unfold thenR at h2
              split at h2
              · rename_i hc
                cases h2
                rw [validB_append hc.1 hc.2.1]; exact decide_eq_true hc.2.2
              · cases h2)
            rw [HU.out] at h1
            cases h1
          have hnn : 0 ≤ zn ∧ zn ≤ 2000 := by
            obtain ⟨-, -, x, -, he, -, hle⟩ := runOfR_ok (p := zp) (s := zss) (by rw [HR.out])
            rw [HR.out] at he; cases he; omega
          have hnm : 0 ≤ nb ∧ nb ≤ 2000 := by
            obtain ⟨-, -, x, -, he, -, hle⟩ := runOfR_ok (p := zq) (s := zl) (by rw [HV.out])
            rw [HV.out] at he; cases he; omega
          have hnb2 : ¬ (zn + nb ≤ 2000) := hnb
          have hnb3 : 2000 < zn + nb := by omega
          clear hnb
          have F8 : Hid (Below w0.heap.size w0 w_8 ∧ RdBI w_8 w5.heap.size p zp ∧ RdBS w_8 w5.heap.size s zss ∧ RdBS w_8 w5.heap.size (.slice Al zl.length cl) zl) := Lib.hid ⟨S8.out.1, S8.out.2.1, S8.out.2.2.1, S8.out.2.2.2.1⟩
          clear S8
          have hb9 : Below (w_8.heap.size) w_8 (w_8.alloc (.cells #[.int .i64 (7)] 3)) := (Below.refl _ _).alloc (by first | omega | simp) _
          have ho9 := lits_own w_8 [7] (by simp) (by intro z hz; simp only [List.mem_cons, List.not_mem_nil, or_false] at hz; apply wf_near; omega)
          have S9 : Hid (Below w0.heap.size w0 (w_8.alloc (.cells #[.int .i64 (7)] 3)) ∧ RdBI (w_8.alloc (.cells #[.int .i64 (7)] 3)) (w5.heap.size) p (zp) ∧ RdBS (w_8.alloc (.cells #[.int .i64 (7)] 3)) (w5.heap.size) s (zss) ∧ RdBS (w_8.alloc (.cells #[.int .i64 (7)] 3)) (w5.heap.size) (.slice Al zl.length cl) (zl) ∧ OwnI (w_8.alloc (.cells #[.int .i64 (7)] 3)) (w_8.heap.size) (w_8.heap.size + 1) (.slice (some ⟨w_8.heap.size, 0, none⟩) 1 1) ([7])) := Lib.hid ⟨(F8.out.1).trans (hb9.mono (by omega)), (F8.out.2.1).below (hb9.mono (by omega)), (F8.out.2.2.1).below (hb9.mono (by omega)), (F8.out.2.2.2).below (hb9.mono (by omega)), (by simpa using ho9)⟩
          clear F8
          clear hb9 ho9
          go_wp2_with fail
          refine (under_B _ _ [7] zss zu _ Hzu.out.1 ((S9.out.2.2.2.2).rd) ((S9.out.2.2.1).rd (by first | omega | (simp <;> omega))) (by omega)).mono ?_
          rintro e w_10 ⟨low0, rfl, ho10, hb10⟩
          have hz10 : w_8.heap.size + 1 ≤ w_10.heap.size := by have := hb10.size; simpa using this
          replace hb10 : Below (w_8.heap.size + 1) (w_8.alloc (.cells #[.int .i64 (7)] 3)) w_10 := by simpa using hb10
          have S10 : Hid (Below w0.heap.size w0 w_10 ∧ RdBI w_10 (w5.heap.size) p (zp) ∧ RdBS w_10 (w5.heap.size) s (zss) ∧ RdBS w_10 (w5.heap.size) (.slice Al zl.length cl) (zl) ∧ OwnI w_10 (w_8.heap.size) (w_8.heap.size + 1) (.slice (some ⟨w_8.heap.size, 0, none⟩) 1 1) ([7]) ∧ RdBS w_10 (w_10.heap.size) low0 (zu)) := Lib.hid ⟨(S9.out.1).trans (hb10.mono (by omega)), (S9.out.2.1).below (hb10.mono (by omega)), (S9.out.2.2.1).below (hb10.mono (by omega)), (S9.out.2.2.2.1).below (hb10.mono (by omega)), (S9.out.2.2.2.2).belowB hb10 (by omega), ho10⟩
          clear S9
          clear ho10 hb10
          go_wp2_with fail
          refine (RunOf_I _ zp _ zu _ ((S10.out.2.1).rd (by first | omega | (simp <;> omega))) (by omega) ((S10.out.2.2.2.2.2).rd (by first | omega | (simp <;> omega))) z3 nc ww HW.out).mono ?_
          rintro e w_11 ⟨low, rfl, ho11, hb11⟩
          have hz11 : w_10.heap.size ≤ w_11.heap.size := by have := hb11.size; simpa using this
          replace hb11 : Below (w_10.heap.size) w_10 w_11 := by simpa using hb11
          have S11 : Hid (Below w0.heap.size w0 w_11 ∧ RdBI w_11 (w5.heap.size) p (zp) ∧ RdBS w_11 (w5.heap.size) s (zss) ∧ RdBS w_11 (w5.heap.size) (.slice Al zl.length cl) (zl) ∧ OwnI w_11 (w_8.heap.size) (w_8.heap.size + 1) (.slice (some ⟨w_8.heap.size, 0, none⟩) 1 1) ([7]) ∧ RdBS w_11 (w_10.heap.size) low0 (zu) ∧ OwnS w_11 (w_10.heap.size) (w_11.heap.size) low (z3)) := Lib.hid ⟨(S10.out.1).trans (hb11.mono (by omega)), (S10.out.2.1).below (hb11.mono (by omega)), (S10.out.2.2.1).below (hb11.mono (by omega)), (S10.out.2.2.2.1).below (hb11.mono (by omega)), (S10.out.2.2.2.2.1).belowB hb11 (by omega), (S10.out.2.2.2.2.2).below (hb11.mono (by omega)), (by simpa using ho11)⟩
          clear S10
          clear ho11 hb11
          go_wp2_with fail
          refine (StackOk_B _ zl _ ((S11.out.2.2.2.1).rd (by first | omega | (simp <;> omega))) true Hst.out).mono ?_
          rintro e w_12 ⟨rfl, hb12⟩
          have hz12 : w_11.heap.size ≤ w_12.heap.size := by have := hb12.size; simpa using this
          replace hb12 : Below (w_11.heap.size) w_11 w_12 := by simpa using hb12
          have S12 : Hid (Below w0.heap.size w0 w_12 ∧ RdBI w_12 (w5.heap.size) p (zp) ∧ RdBS w_12 (w5.heap.size) s (zss) ∧ RdBS w_12 (w5.heap.size) (.slice Al zl.length cl) (zl) ∧ OwnI w_12 (w_8.heap.size) (w_8.heap.size + 1) (.slice (some ⟨w_8.heap.size, 0, none⟩) 1 1) ([7]) ∧ RdBS w_12 (w_10.heap.size) low0 (zu) ∧ OwnS w_12 (w_10.heap.size) (w_11.heap.size) low (z3)) := Lib.hid ⟨(S11.out.1).trans (hb12.mono (by omega)), (S11.out.2.1).below (hb12.mono (by omega)), (S11.out.2.2.1).below (hb12.mono (by omega)), (S11.out.2.2.2.1).below (hb12.mono (by omega)), (S11.out.2.2.2.2.1).belowB hb12 (by omega), (S11.out.2.2.2.2.2.1).below (hb12.mono (by omega)), (S11.out.2.2.2.2.2.2).belowB hb12 (by omega)⟩
          clear S11
          clear hb12
          -- at w_12: S12: base p s left seven low0 low
          rcases ww with _ | _
          · go_wp2
            go_ret
            exact ⟨rfl, S12.out.1⟩
          · obtain ⟨e1, e2⟩ := run_low (v := [7]) HR.out (by rw [← Hzu.out.1]; exact HW.out)
            have hcn : (nc == zn) = true := by rw [e1]; simp
            have HE := Lib.hid (e2.trans Hzu.out.2.symm); clear e1 e2
            have hb13 : Below (w_12.heap.size) w_12 (w_12.alloc (.cells #[.int .i64 (7)] 3)) := (Below.refl _ _).alloc (by first | omega | simp) _
            have ho13 := lits_own w_12 [7] (by simp) (by intro z hz; simp only [List.mem_cons, List.not_mem_nil, or_false] at hz; apply wf_near; omega)
            have S13 : Hid (Below w0.heap.size w0 (w_12.alloc (.cells #[.int .i64 (7)] 3)) ∧ RdBI (w_12.alloc (.cells #[.int .i64 (7)] 3)) (w5.heap.size) p (zp) ∧ RdBS (w_12.alloc (.cells #[.int .i64 (7)] 3)) (w5.heap.size) s (zss) ∧ RdBS (w_12.alloc (.cells #[.int .i64 (7)] 3)) (w5.heap.size) (.slice Al zl.length cl) (zl) ∧ OwnI (w_12.alloc (.cells #[.int .i64 (7)] 3)) (w_8.heap.size) (w_8.heap.size + 1) (.slice (some ⟨w_8.heap.size, 0, none⟩) 1 1) ([7]) ∧ RdBS (w_12.alloc (.cells #[.int .i64 (7)] 3)) (w_10.heap.size) low0 (zu) ∧ OwnS (w_12.alloc (.cells #[.int .i64 (7)] 3)) (w_10.heap.size) (w_11.heap.size) low (z3) ∧ OwnI (w_12.alloc (.cells #[.int .i64 (7)] 3)) (w_12.heap.size) (w_12.heap.size + 1) (.slice (some ⟨w_12.heap.size, 0, none⟩) 1 1) ([7])) := Lib.hid ⟨(S12.out.1).trans (hb13.mono (by omega)), (S12.out.2.1).below (hb13.mono (by omega)), (S12.out.2.2.1).below (hb13.mono (by omega)), (S12.out.2.2.2.1).below (hb13.mono (by omega)), (S12.out.2.2.2.2.1).belowB hb13 (by omega), (S12.out.2.2.2.2.2.1).below (hb13.mono (by omega)), (S12.out.2.2.2.2.2.2).belowB hb13 (by omega), (by simpa using ho13)⟩
            clear S12
            clear hb13 ho13
            go_wp2_with fail
            refine (under_B _ _ [7] zl zv _ Hzu.out.2 ((S13.out.2.2.2.2.2.2.2).rd) ((S13.out.2.2.2.1).rd (by first | omega | (simp <;> omega))) (by omega)).mono ?_
            rintro e w_14 ⟨low2, rfl, ho14, hb14⟩
            have hz14 : w_12.heap.size + 1 ≤ w_14.heap.size := by have := hb14.size; simpa using this
            replace hb14 : Below (w_12.heap.size + 1) (w_12.alloc (.cells #[.int .i64 (7)] 3)) w_14 := by simpa using hb14
            have S14 : Hid (Below w0.heap.size w0 w_14 ∧ RdBI w_14 (w5.heap.size) p (zp) ∧ RdBS w_14 (w5.heap.size) s (zss) ∧ RdBS w_14 (w5.heap.size) (.slice Al zl.length cl) (zl) ∧ OwnI w_14 (w_8.heap.size) (w_8.heap.size + 1) (.slice (some ⟨w_8.heap.size, 0, none⟩) 1 1) ([7]) ∧ RdBS w_14 (w_10.heap.size) low0 (zu) ∧ OwnS w_14 (w_10.heap.size) (w_11.heap.size) low (z3) ∧ OwnI w_14 (w_12.heap.size) (w_12.heap.size + 1) (.slice (some ⟨w_12.heap.size, 0, none⟩) 1 1) ([7]) ∧ RdBS w_14 (w_14.heap.size) low2 (zv)) := Lib.hid ⟨(S13.out.1).trans (hb14.mono (by omega)), (S13.out.2.1).below (hb14.mono (by omega)), (S13.out.2.2.1).below (hb14.mono (by omega)), (S13.out.2.2.2.1).below (hb14.mono (by omega)), (S13.out.2.2.2.2.1).belowB hb14 (by omega), (S13.out.2.2.2.2.2.1).below (hb14.mono (by omega)), (S13.out.2.2.2.2.2.2.1).belowB hb14 (by omega), (S13.out.2.2.2.2.2.2.2).belowB hb14 (by omega), ho14⟩
            clear S13
            clear ho14 hb14
            go_wp2_with fail
            refine (smS _ _ z3 zv _ ((S14.out.2.2.2.2.2.2.1).rd) ((S14.out.2.2.2.2.2.2.2.2).rd (by first | omega | (simp <;> omega))) true (decide_eq_true HE.out)).mono ?_
            rintro e w_15 ⟨rfl, hb15⟩
            have hz15 : w_14.heap.size ≤ w_15.heap.size := by have := hb15.size; simpa using this
            replace hb15 : Below (w_14.heap.size) w_14 w_15 := by simpa using hb15
            have S15 : Hid (Below w0.heap.size w0 w_15 ∧ RdBI w_15 (w5.heap.size) p (zp) ∧ RdBS w_15 (w5.heap.size) s (zss) ∧ RdBS w_15 (w5.heap.size) (.slice Al zl.length cl) (zl) ∧ OwnI w_15 (w_8.heap.size) (w_8.heap.size + 1) (.slice (some ⟨w_8.heap.size, 0, none⟩) 1 1) ([7]) ∧ RdBS w_15 (w_10.heap.size) low0 (zu) ∧ OwnS w_15 (w_10.heap.size) (w_11.heap.size) low (z3) ∧ OwnI w_15 (w_12.heap.size) (w_12.heap.size + 1) (.slice (some ⟨w_12.heap.size, 0, none⟩) 1 1) ([7]) ∧ RdBS w_15 (w_14.heap.size) low2 (zv)) := Lib.hid ⟨(S14.out.1).trans (hb15.mono (by omega)), (S14.out.2.1).below (hb15.mono (by omega)), (S14.out.2.2.1).below (hb15.mono (by omega)), (S14.out.2.2.2.1).below (hb15.mono (by omega)), (S14.out.2.2.2.2.1).belowB hb15 (by omega), (S14.out.2.2.2.2.2.1).below (hb15.mono (by omega)), (S14.out.2.2.2.2.2.2.1).belowB hb15 (by omega), (S14.out.2.2.2.2.2.2.2.1).belowB hb15 (by omega), (S14.out.2.2.2.2.2.2.2.2).below (hb15.mono (by omega))⟩
            clear S14
            clear hb15
            -- at w_15: S15: base p s left seven low0 low seven2 low2
            go_wp2
            go_ret
            exact ⟨rfl, S15.out.1⟩
      · obtain ⟨b2, e1, e2⟩ := run_both HR.out HT.out HU.out
        rw [HV.out] at e1
        simp only [Prod.mk.injEq] at e1
        obtain ⟨e3, e4, e5⟩ := e1
        subst e5
        have hnn : 0 ≤ zn ∧ zn ≤ 2000 := by
          obtain ⟨-, -, x, -, he, -, hle⟩ := runOfR_ok (p := zp) (s := zss) (by rw [HR.out])
          rw [HR.out] at he; cases he; omega
        have hnm : 0 ≤ nb ∧ nb ≤ 2000 := by
          obtain ⟨-, -, x, -, he, -, hle⟩ := runOfR_ok (p := zq) (s := zl) (by rw [HV.out])
          rw [HV.out] at he; cases he; omega
        have hab : (na != zn + nb) = false := by rw [e2, e4]; simp
        have Hee := Lib.hid e3; clear e2 e3 e4
        go_wp2_with fail
        refine (smS _ _ z1 z2 _ ((S8.out.2.2.2.2.2.2.1).rd) ((S8.out.2.2.2.2.2.2.2).rd) true (decide_eq_true Hee.out.symm)).mono ?_
        rintro e w_9 ⟨rfl, hb9⟩
        have hz9 : w_8.heap.size ≤ w_9.heap.size := by have := hb9.size; simpa using this
        replace hb9 : Below (w_8.heap.size) w_8 w_9 := by simpa using hb9
        have S9 : Hid (Below w0.heap.size w0 w_9 ∧ RdBI w_9 (w5.heap.size) p (zp) ∧ RdBS w_9 (w5.heap.size) s (zss) ∧ RdBS w_9 (w5.heap.size) (.slice Al zl.length cl) (zl) ∧ RdBI w_9 (w5.heap.size) q (zq) ∧ OwnI w_9 (w5.heap.size) (w_6.heap.size) both (zb) ∧ OwnS w_9 (w_6.heap.size) (w_7.heap.size) one (z1) ∧ OwnS w_9 (w_7.heap.size) (w_8.heap.size) two (z2)) := Lib.hid ⟨(S8.out.1).trans (hb9.mono (by omega)), (S8.out.2.1).below (hb9.mono (by omega)), (S8.out.2.2.1).below (hb9.mono (by omega)), (S8.out.2.2.2.1).below (hb9.mono (by omega)), (S8.out.2.2.2.2.1).below (hb9.mono (by omega)), (S8.out.2.2.2.2.2.1).belowB hb9 (by omega), (S8.out.2.2.2.2.2.2.1).belowB hb9 (by omega), (S8.out.2.2.2.2.2.2.2).belowB hb9 (by omega)⟩
        clear S8
        clear hb9
        -- at w_9: S9: base p s left q both one two
        have F9 : Hid (Below w0.heap.size w0 w_9 ∧ RdBI w_9 w5.heap.size p zp ∧ RdBS w_9 w5.heap.size s zss ∧ RdBS w_9 w5.heap.size (.slice Al zl.length cl) zl) := Lib.hid ⟨S9.out.1, S9.out.2.1, S9.out.2.2.1, S9.out.2.2.2.1⟩
        clear S9
        have hb10 : Below (w_9.heap.size) w_9 (w_9.alloc (.cells #[.int .i64 (7)] 3)) := (Below.refl _ _).alloc (by first | omega | simp) _
        have ho10 := lits_own w_9 [7] (by simp) (by intro z hz; simp only [List.mem_cons, List.not_mem_nil, or_false] at hz; apply wf_near; omega)
        have S10 : Hid (Below w0.heap.size w0 (w_9.alloc (.cells #[.int .i64 (7)] 3)) ∧ RdBI (w_9.alloc (.cells #[.int .i64 (7)] 3)) (w5.heap.size) p (zp) ∧ RdBS (w_9.alloc (.cells #[.int .i64 (7)] 3)) (w5.heap.size) s (zss) ∧ RdBS (w_9.alloc (.cells #[.int .i64 (7)] 3)) (w5.heap.size) (.slice Al zl.length cl) (zl) ∧ OwnI (w_9.alloc (.cells #[.int .i64 (7)] 3)) (w_9.heap.size) (w_9.heap.size + 1) (.slice (some ⟨w_9.heap.size, 0, none⟩) 1 1) ([7])) := Lib.hid ⟨(F9.out.1).trans (hb10.mono (by omega)), (F9.out.2.1).below (hb10.mono (by omega)), (F9.out.2.2.1).below (hb10.mono (by omega)), (F9.out.2.2.2).below (hb10.mono (by omega)), (by simpa using ho10)⟩
        clear F9
        clear hb10 ho10
        go_wp2_with fail
        refine (under_B _ _ [7] zss zu _ Hzu.out.1 ((S10.out.2.2.2.2).rd) ((S10.out.2.2.1).rd (by first | omega | (simp <;> omega))) (by omega)).mono ?_
        rintro e w_11 ⟨low0, rfl, ho11, hb11⟩
        have hz11 : w_9.heap.size + 1 ≤ w_11.heap.size := by have := hb11.size; simpa using this
        replace hb11 : Below (w_9.heap.size + 1) (w_9.alloc (.cells #[.int .i64 (7)] 3)) w_11 := by simpa using hb11
        have S11 : Hid (Below w0.heap.size w0 w_11 ∧ RdBI w_11 (w5.heap.size) p (zp) ∧ RdBS w_11 (w5.heap.size) s (zss) ∧ RdBS w_11 (w5.heap.size) (.slice Al zl.length cl) (zl) ∧ OwnI w_11 (w_9.heap.size) (w_9.heap.size + 1) (.slice (some ⟨w_9.heap.size, 0, none⟩) 1 1) ([7]) ∧ RdBS w_11 (w_11.heap.size) low0 (zu)) := Lib.hid ⟨(S10.out.1).trans (hb11.mono (by omega)), (S10.out.2.1).below (hb11.mono (by omega)), (S10.out.2.2.1).below (hb11.mono (by omega)), (S10.out.2.2.2.1).below (hb11.mono (by omega)), (S10.out.2.2.2.2).belowB hb11 (by omega), ho11⟩
        clear S10
        clear ho11 hb11
        go_wp2_with fail
        refine (RunOf_I _ zp _ zu _ ((S11.out.2.1).rd (by first | omega | (simp <;> omega))) (by omega) ((S11.out.2.2.2.2.2).rd (by first | omega | (simp <;> omega))) z3 nc ww HW.out).mono ?_
        rintro e w_12 ⟨low, rfl, ho12, hb12⟩
        have hz12 : w_11.heap.size ≤ w_12.heap.size := by have := hb12.size; simpa using this
        replace hb12 : Below (w_11.heap.size) w_11 w_12 := by simpa using hb12
        have S12 : Hid (Below w0.heap.size w0 w_12 ∧ RdBI w_12 (w5.heap.size) p (zp) ∧ RdBS w_12 (w5.heap.size) s (zss) ∧ RdBS w_12 (w5.heap.size) (.slice Al zl.length cl) (zl) ∧ OwnI w_12 (w_9.heap.size) (w_9.heap.size + 1) (.slice (some ⟨w_9.heap.size, 0, none⟩) 1 1) ([7]) ∧ RdBS w_12 (w_11.heap.size) low0 (zu) ∧ OwnS w_12 (w_11.heap.size) (w_12.heap.size) low (z3)) := Lib.hid ⟨(S11.out.1).trans (hb12.mono (by omega)), (S11.out.2.1).below (hb12.mono (by omega)), (S11.out.2.2.1).below (hb12.mono (by omega)), (S11.out.2.2.2.1).below (hb12.mono (by omega)), (S11.out.2.2.2.2.1).belowB hb12 (by omega), (S11.out.2.2.2.2.2).below (hb12.mono (by omega)), (by simpa using ho12)⟩
        clear S11
        clear ho12 hb12
        go_wp2_with fail
        refine (StackOk_B _ zl _ ((S12.out.2.2.2.1).rd (by first | omega | (simp <;> omega))) true Hst.out).mono ?_
        rintro e w_13 ⟨rfl, hb13⟩
        have hz13 : w_12.heap.size ≤ w_13.heap.size := by have := hb13.size; simpa using this
        replace hb13 : Below (w_12.heap.size) w_12 w_13 := by simpa using hb13
        have S13 : Hid (Below w0.heap.size w0 w_13 ∧ RdBI w_13 (w5.heap.size) p (zp) ∧ RdBS w_13 (w5.heap.size) s (zss) ∧ RdBS w_13 (w5.heap.size) (.slice Al zl.length cl) (zl) ∧ OwnI w_13 (w_9.heap.size) (w_9.heap.size + 1) (.slice (some ⟨w_9.heap.size, 0, none⟩) 1 1) ([7]) ∧ RdBS w_13 (w_11.heap.size) low0 (zu) ∧ OwnS w_13 (w_11.heap.size) (w_12.heap.size) low (z3)) := Lib.hid ⟨(S12.out.1).trans (hb13.mono (by omega)), (S12.out.2.1).below (hb13.mono (by omega)), (S12.out.2.2.1).below (hb13.mono (by omega)), (S12.out.2.2.2.1).below (hb13.mono (by omega)), (S12.out.2.2.2.2.1).belowB hb13 (by omega), (S12.out.2.2.2.2.2.1).below (hb13.mono (by omega)), (S12.out.2.2.2.2.2.2).belowB hb13 (by omega)⟩
        clear S12
        clear hb13
        -- at w_13: S13: base p s left seven low0 low
        rcases ww with _ | _
        · go_wp2
          go_ret
          exact ⟨rfl, S13.out.1⟩
        · obtain ⟨e1, e2⟩ := run_low (v := [7]) HR.out (by rw [← Hzu.out.1]; exact HW.out)
          have hcn : (nc == zn) = true := by rw [e1]; simp
          have HE := Lib.hid (e2.trans Hzu.out.2.symm); clear e1 e2
          have hb14 : Below (w_13.heap.size) w_13 (w_13.alloc (.cells #[.int .i64 (7)] 3)) := (Below.refl _ _).alloc (by first | omega | simp) _
          have ho14 := lits_own w_13 [7] (by simp) (by intro z hz; simp only [List.mem_cons, List.not_mem_nil, or_false] at hz; apply wf_near; omega)
          have S14 : Hid (Below w0.heap.size w0 (w_13.alloc (.cells #[.int .i64 (7)] 3)) ∧ RdBI (w_13.alloc (.cells #[.int .i64 (7)] 3)) (w5.heap.size) p (zp) ∧ RdBS (w_13.alloc (.cells #[.int .i64 (7)] 3)) (w5.heap.size) s (zss) ∧ RdBS (w_13.alloc (.cells #[.int .i64 (7)] 3)) (w5.heap.size) (.slice Al zl.length cl) (zl) ∧ OwnI (w_13.alloc (.cells #[.int .i64 (7)] 3)) (w_9.heap.size) (w_9.heap.size + 1) (.slice (some ⟨w_9.heap.size, 0, none⟩) 1 1) ([7]) ∧ RdBS (w_13.alloc (.cells #[.int .i64 (7)] 3)) (w_11.heap.size) low0 (zu) ∧ OwnS (w_13.alloc (.cells #[.int .i64 (7)] 3)) (w_11.heap.size) (w_12.heap.size) low (z3) ∧ OwnI (w_13.alloc (.cells #[.int .i64 (7)] 3)) (w_13.heap.size) (w_13.heap.size + 1) (.slice (some ⟨w_13.heap.size, 0, none⟩) 1 1) ([7])) := Lib.hid ⟨(S13.out.1).trans (hb14.mono (by omega)), (S13.out.2.1).below (hb14.mono (by omega)), (S13.out.2.2.1).below (hb14.mono (by omega)), (S13.out.2.2.2.1).below (hb14.mono (by omega)), (S13.out.2.2.2.2.1).belowB hb14 (by omega), (S13.out.2.2.2.2.2.1).below (hb14.mono (by omega)), (S13.out.2.2.2.2.2.2).belowB hb14 (by omega), (by simpa using ho14)⟩
          clear S13
          clear hb14 ho14
          go_wp2_with fail
          refine (under_B _ _ [7] zl zv _ Hzu.out.2 ((S14.out.2.2.2.2.2.2.2).rd) ((S14.out.2.2.2.1).rd (by first | omega | (simp <;> omega))) (by omega)).mono ?_
          rintro e w_15 ⟨low2, rfl, ho15, hb15⟩
          have hz15 : w_13.heap.size + 1 ≤ w_15.heap.size := by have := hb15.size; simpa using this
          replace hb15 : Below (w_13.heap.size + 1) (w_13.alloc (.cells #[.int .i64 (7)] 3)) w_15 := by simpa using hb15
          have S15 : Hid (Below w0.heap.size w0 w_15 ∧ RdBI w_15 (w5.heap.size) p (zp) ∧ RdBS w_15 (w5.heap.size) s (zss) ∧ RdBS w_15 (w5.heap.size) (.slice Al zl.length cl) (zl) ∧ OwnI w_15 (w_9.heap.size) (w_9.heap.size + 1) (.slice (some ⟨w_9.heap.size, 0, none⟩) 1 1) ([7]) ∧ RdBS w_15 (w_11.heap.size) low0 (zu) ∧ OwnS w_15 (w_11.heap.size) (w_12.heap.size) low (z3) ∧ OwnI w_15 (w_13.heap.size) (w_13.heap.size + 1) (.slice (some ⟨w_13.heap.size, 0, none⟩) 1 1) ([7]) ∧ RdBS w_15 (w_15.heap.size) low2 (zv)) := Lib.hid ⟨(S14.out.1).trans (hb15.mono (by omega)), (S14.out.2.1).below (hb15.mono (by omega)), (S14.out.2.2.1).below (hb15.mono (by omega)), (S14.out.2.2.2.1).below (hb15.mono (by omega)), (S14.out.2.2.2.2.1).belowB hb15 (by omega), (S14.out.2.2.2.2.2.1).below (hb15.mono (by omega)), (S14.out.2.2.2.2.2.2.1).belowB hb15 (by omega), (S14.out.2.2.2.2.2.2.2).belowB hb15 (by omega), ho15⟩
          clear S14
          clear ho15 hb15
          go_wp2_with fail
          refine (smS _ _ z3 zv _ ((S15.out.2.2.2.2.2.2.1).rd) ((S15.out.2.2.2.2.2.2.2.2).rd (by first | omega | (simp <;> omega))) true (decide_eq_true HE.out)).mono ?_
          rintro e w_16 ⟨rfl, hb16⟩
          have hz16 : w_15.heap.size ≤ w_16.heap.size := by have := hb16.size; simpa using this
          replace hb16 : Below (w_15.heap.size) w_15 w_16 := by simpa using hb16
          have S16 : Hid (Below w0.heap.size w0 w_16 ∧ RdBI w_16 (w5.heap.size) p (zp) ∧ RdBS w_16 (w5.heap.size) s (zss) ∧ RdBS w_16 (w5.heap.size) (.slice Al zl.length cl) (zl) ∧ OwnI w_16 (w_9.heap.size) (w_9.heap.size + 1) (.slice (some ⟨w_9.heap.size, 0, none⟩) 1 1) ([7]) ∧ RdBS w_16 (w_11.heap.size) low0 (zu) ∧ OwnS w_16 (w_11.heap.size) (w_12.heap.size) low (z3) ∧ OwnI w_16 (w_13.heap.size) (w_13.heap.size + 1) (.slice (some ⟨w_13.heap.size, 0, none⟩) 1 1) ([7]) ∧ RdBS w_16 (w_15.heap.size) low2 (zv)) := Lib.hid ⟨(S15.out.1).trans (hb16.mono (by omega)), (S15.out.2.1).below (hb16.mono (by omega)), (S15.out.2.2.1).below (hb16.mono (by omega)), (S15.out.2.2.2.1).below (hb16.mono (by omega)), (S15.out.2.2.2.2.1).belowB hb16 (by omega), (S15.out.2.2.2.2.2.1).below (hb16.mono (by omega)), (S15.out.2.2.2.2.2.2.1).belowB hb16 (by omega), (S15.out.2.2.2.2.2.2.2.1).belowB hb16 (by omega), (S15.out.2.2.2.2.2.2.2.2).below (hb16.mono (by omega))⟩
          clear S15
          clear hb16
          -- at w_16: S16: base p s left seven low0 low seven2 low2
          go_wp2
          go_ret
          exact ⟨rfl, S16.out.1⟩

theorem fnRunOf_walk : LawWalk 4 Try.f4 := by
  intro H enc W base args ds ps hval hA
  rw [Try.params4] at hA hval
  obtain ⟨v0, v1, d0, d1, p0, p1, rfl, rfl, rfl, h0, h1⟩ := trodAll_two hA
  obtain ⟨A0, c0, zs0, rfl, hi0, hc0⟩ := ints_of_trod Try.underlying22 Try.underlying5 cells_byte (hval 0 _ _ rfl rfl) h0
  obtain ⟨A1, c1, zs1, rfl, hi1, hc1⟩ := ints_of_trod Try.underlying22 Try.underlying5 cells_byte (hval 1 _ _ rfl rfl) h1
  exact fnRunOf_any A0 c0 zs0 A1 c1 zs1 W (RdC.mk hi0 hc0) (RdC.mk hi1 hc1)

set_option maxRecDepth 100000 in
theorem fnRunOf_lifted (os : Os) (started : os.Started) (H : Type) (enc : TypeId × Value → H) :
    ReturnsInHanded {} Try.checked os 4 .any (Rows.fnRunOfSpec.pre6 enc Try.prog Try.f4 Rows.fnRunOfRow.domain false) (Rows.fnRunOfSpec.post enc Try.prog Try.f4 false true false false) := by
  refine returnsInHanded_of_change (C := Try.checked) own started (by kernel_rfl) Try.func4
    (ChangeSpec.witness6 (enc := enc) (C := Try.checked) false ⟨#[], #[.slice none 0 0, .slice none 0 0], []⟩ 8 (by kernel_rfl) (by kernel_rfl) (by kernel_rfl) (by kernel_rfl)) ?_
  intro W base args ds gs before hval hW _ _
  exact law_contract laidOut rfl (by kernel_rfl) rfl (fun H ds hd => by
    match ds, hd with
    | [d0, d1], _ => exact ⟨rfl, rfl, rfl⟩) fnRunOf_walk W base args ds gs before hval hW

/-- FnRunOf: the row as it is given. -/
theorem fnRunOf_holds : Rows.FnRunOfSaid :=
  OpenClaim.holds_of_wide 4 Try.f4 rfl rfl rfl rfl rfl rfl rfl ⟨rfl, rfl, rfl, rfl, rfl⟩ rfl rfl rfl rfl rfl (by kernel_rfl) Try.func4 (by unfold joinedFacts; rw [pf_enter, pf_lifts, pf_make]; kernel_rfl)
    (of_decide_eq_true (by kernel_rfl)) (by unfold Func.isWrapper; first | (rw [if_pos (by decide +kernel)]; kernel_rfl) | (rw [if_neg (by decide +kernel)]; exact ⟨rfl, rfl⟩))
    (fun os started H enc _ => fnRunOf_lifted os started H enc)

end Go.Proofs.Ytkdpfiaegimnlaa
