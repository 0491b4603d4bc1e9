/- The model's step: times, open. -/
import Derived.Test.YtenaeiedoiepdaaSb
import Derived.StillTailTactics
import Derived.Deep.RegionLaw
import Derived.Deep.RegionHeld3
import Derived.IntWalk
import Derived.Test.YtenaeiedoiepdaaSc
namespace Go.Proofs.Ytenaeiedoiepdaa
set_option maxRecDepth 100000
open Go.RowKit Go.WideShapes

set_option maxHeartbeats 2000000 in
theorem step_S_times (v0 v1 : Value) (r : List Int) (st : List (List Int)) (w : World) (h0 : RdI w v0 (1011 :: r)) (h1 : RdS w v1 st.reverse) (hl : r.length ≤ 1048576) (hok : okS (1011 :: r) st) :
    Calls Try.prog 18 #[.agg #[v0, v1]] w (StepPost w (l2R (1011 :: r) st)) := by
  have hsl := (stackB_all hok.2).1
  have hsv := fun v (hv : v ∈ st.reverse) => Nat.le_trans (valueB_len ((stackB_all hok.2).2 v (List.mem_reverse.1 hv))).2 (show 60 ≤ 1000000 by omega)
  have hlz : st.reverse.length ≤ 20 := by simpa using hsl
  generalize hzs : st.reverse = zss at *
  have HZ := Lib.hid hzs; clear hzs
  have HV := Lib.hid hsv; clear hsv
  have Hok := Lib.hid hok; clear hok
  have B2 : Below w.heap.size w ((w.alloc (.cells #[v0, v1] 26)).alloc (.cells #[.slice none 0 0, .slice none 0 0] 26)) := ((Below.refl _ _).alloc (Nat.le_refl _) _).alloc (by simp) _
  have B3 : Below w.heap.size w (((w.alloc (.cells #[v0, v1] 26)).alloc (.cells #[.slice none 0 0, .slice none 0 0] 26)).alloc (.cells #[] 3)) := B2.alloc (by simp; omega) _
  have H0 := Lib.hid h0.at_
  have H1 := Lib.hid h1.at_
  obtain ⟨A0, c0, rfl, hi0, hc0⟩ := h0
  obtain ⟨b0, o0, rfl, hb0, hcc0⟩ := hi0.at_ (by simp)
  obtain ⟨A1, c1, rfl, _⟩ := h1
  have hcell := hcc0 0 (by simp)
  simp only [List.length_cons] at hc0
  rw [Nat.add_zero] at hcell
  replace hcell := (B2.cell (p := ⟨b0, o0, none⟩) hb0).trans hcell
  simp only [List.getD_cons_zero, List.length_cons] at hcell
  have ht0 : RdI w (.slice (some ⟨b0, o0 + 1, none⟩) r.length (c0 - 1)) r := by
    have h1 := hi0.sub 1 r.length (by simp; omega)
    simp only [List.drop_succ_cons, List.drop_zero, List.take_length] at h1
    exact ⟨_, _, rfl, h1, by omega⟩
  have L1 : OwnI (((w.alloc (.cells #[.slice (some ⟨b0, o0, none⟩) (r.length + 1) c0, .slice A1 zss.length c1] 26)).alloc (.cells #[.slice none 0 0, .slice none 0 0] 26)).alloc (.cells #[] 3)) (w.heap.size + 1 + 1) (w.heap.size + 1 + 1 + 1) (.slice (some ⟨w.heap.size + 1 + 1, 0, none⟩) 0 0) [] := by simpa using lits_own ((w.alloc (.cells #[.slice (some ⟨b0, o0, none⟩) (r.length + 1) c0, .slice A1 zss.length c1] 26)).alloc (.cells #[.slice none 0 0, .slice none 0 0] 26)) [] (by simp) (by simp)
  have Y := Lib.hid (And.intro (RdI.step ht0 B3) (And.intro L1 B3))
  clear L1 B2 B3 hcc0 hi0 ht0
  have hcc : c0 = 1 ∨ 2 ≤ c0 := by omega
  rcases hcc with rfl | hc2
  all_goals go_enter Try.func18, Try.ntmps18
  all_goals go_wp2_with (at_builtin; (refine wpList_append_V rfl _ _ _ rfl Try.underlying23 intInfo (w.heap.size + 1 + 1) (w.heap.size + 1 + 1 + 1) _ [] rfl Y.out.2.1 (by simp) _ r rfl (by first | exact Y.out.1 | exact rd_nil (by omega) (by omega)) (by simp; omega) ?_))
  all_goals (
    intro v2 w2 ho2 hb2
    obtain ⟨k1, k2, k3, k4⟩ := blks hb2
    obtain ⟨p1, p2, -, -⟩ := k1.two
    have Z := Lib.hid (And.intro k1 (And.intro k2 (And.intro k3 ho2))); clear k1 k2 k3 ho2 hb2 Y hcell
    go_wp2_with fail
    refine (l2Copy_any _ zss _ ((H1.out.below Z.out.2.2.1).rd (by omega)) (by omega) HV.out).mono ?_
    rintro e w3 ⟨u, rfl, ho3, hb3⟩
    have hz3 : w2.heap.size ≤ w3.heap.size := hb3.size
    have X : Hid (Ahead w w3 w2.heap.size _ _ v2 u 1011 r zss) := Lib.hid ⟨Z.out.1.below hb3 (by omega), Z.out.2.1.below hb3 (by omega), (H0.out.below Z.out.2.2.1).below (hb3.mono (by omega)), Z.out.2.2.2.below hb3, ho3, Z.out.2.2.1.trans (hb3.mono (by omega))⟩
    clear Z ho3 hb3 p1 p2
    have q := X.out.1.two
    obtain ⟨q1, q2, -, -⟩ := q
    obtain ⟨Au, cu, rfl, _⟩ := X.out.2.2.2.2.1.rd
    obtain ⟨Ar, cr, rfl, _⟩ := X.out.2.2.2.1.rd
    have hm2 : w.heap.size + 1 + 1 ≤ w2.heap.size := by omega
    rcases st with _ | ⟨a, s1⟩
    · have HS : Hid (l2R (1011 :: r) [] = none) := Lib.hid (by simp [l2R, opR])
      have hne0 : ((zss.length : Int) == 0) = true := by rw [← HZ.out]; rfl
      have FR := Lib.hid X.out.2.1
      obtain ⟨fc1, fc2, ff1, ff2⟩ := FR.out.two
      obtain ⟨fe0, fe1⟩ := FR.out.two_out (x := .slice none 0 0) (y := .slice none 0 0)
      have FO := Lib.hid (And.intro (fail_below X.out.2.2.2.2.2 (.slice none 0 0) (.slice none 0 0)) (And.intro fe0 fe1)); clear fe0 fe1
      go_wp2
      obtain ⟨fo, fe0, fe1⟩ := FO.out
      refine bodyPost_ret (v := .tuple #[.agg #[.slice none 0 0, .slice none 0 0], .bool false]) (by simp [results, Try.results18, go_sem, fe0, fe1]) rfl ?_
      rw [HS.out]
      exact ⟨_, _, _, _, _, _, fo, rfl, fun y hy => by cases hy⟩
    rcases s1 with _ | ⟨b, s2⟩
    · have HS : Hid (l2R (1011 :: r) [a] = none) := Lib.hid (by simp [l2R, opR, opR1])
      have hne0 : ((zss.length : Int) == 0) = false := by rw [← HZ.out]; rfl
      have hne1 : ((zss.length : Int) == 1) = true := by rw [← HZ.out]; rfl
      have FR := Lib.hid X.out.2.1
      obtain ⟨fc1, fc2, ff1, ff2⟩ := FR.out.two
      obtain ⟨fe0, fe1⟩ := FR.out.two_out (x := .slice none 0 0) (y := .slice none 0 0)
      have FO := Lib.hid (And.intro (fail_below X.out.2.2.2.2.2 (.slice none 0 0) (.slice none 0 0)) (And.intro fe0 fe1)); clear fe0 fe1
      go_wp2
      obtain ⟨fo, fe0, fe1⟩ := FO.out
      refine bodyPost_ret (v := .tuple #[.agg #[.slice none 0 0, .slice none 0 0], .bool false]) (by simp [results, Try.results18, go_sem, fe0, fe1]) rfl ?_
      rw [HS.out]
      exact ⟨_, _, _, _, _, _, fo, rfl, fun y hy => by cases hy⟩
    · have hn2 : 2 ≤ zss.length := by rw [← HZ.out]; simp
      have HZ2 : Hid (zss.take (zss.length - 2) = s2.reverse) := Lib.hid (by rw [← HZ.out]; simp)
      have HZa : Hid (zss[zss.length - 1]? = some a) := Lib.hid (by rw [← HZ.out]; simp)
      have HZb : Hid (zss[zss.length - 2]? = some b) := Lib.hid (by rw [← HZ.out]; simp)
      have hne0 : ((zss.length : Int) == 0) = false := by rw [beq_eq_false_iff_ne]; omega
      have hne1 : ((zss.length : Int) == 1) = false := by rw [beq_eq_false_iff_ne]; omega
      have hcap := X.out.2.2.2.2.1.cap2
      have hva := (stackB_all Hok.out.2).2 a List.mem_cons_self
      have hvb := (stackB_all Hok.out.2).2 b (List.mem_cons_of_mem _ List.mem_cons_self)
      have HVA := Lib.hid hva; clear hva
      have HVB := Lib.hid hvb; clear hvb
      obtain ⟨g, b_g, ua, hAu, hgl, hca, hua⟩ := X.out.2.2.2.2.1.at1 HZa.out
      obtain ⟨g', b_g', ub, hAu', -, hcb, hub⟩ := X.out.2.2.2.2.1.at1 HZb.out
      subst hAu
      obtain rfl : g = g' := by cases hAu'; rfl
      clear hAu'
      have HUA := Lib.hid hua; clear hua
      have HUB := Lib.hid hub; clear hub
      have hal := (valueB_len HVA.out).2
      have hbl := (valueB_len HVB.out).2
      by_cases ha : 1 < a.length
      · have HA := Lib.hid (decide_eq_true ha)
        by_cases hb : 1 < b.length
        · have HB := Lib.hid (decide_eq_true hb)
          rcases s2 with _ | ⟨c, s3⟩
          · have HS : Hid (l2R (1011 :: r) [a, b] = none) := Lib.hid (by simp [l2R, opR, opR1, opR2, ha, hb])
            have hne2 : ((zss.length : Int) == 2) = true := by rw [← HZ.out]; rfl
            clear ha hb
            have FR := Lib.hid X.out.2.1
            obtain ⟨fc1, fc2, ff1, ff2⟩ := FR.out.two
            obtain ⟨fe0, fe1⟩ := FR.out.two_out (x := .slice none 0 0) (y := .slice none 0 0)
            have FO := Lib.hid (And.intro (fail_below X.out.2.2.2.2.2 (.slice none 0 0) (.slice none 0 0)) (And.intro fe0 fe1)); clear fe0 fe1
            go_wp2_with (first | (go_at_call 48; refine (l2Is_any _ a _ HUA.out true HA.out).mono ?_; rintro e w' ⟨rfl, rfl⟩) | (go_at_call 48; refine (l2Is_any _ b _ HUB.out true HB.out).mono ?_; rintro e w' ⟨rfl, rfl⟩) | (go_at_call 50; refine (l1In_any 1011 1006 1009 _).mono ?_; rintro e w' ⟨rfl, rfl⟩))
            obtain ⟨fo, fe0, fe1⟩ := FO.out
            refine bodyPost_ret (v := .tuple #[.agg #[.slice none 0 0, .slice none 0 0], .bool false]) (by simp [results, Try.results18, go_sem, fe0, fe1]) rfl ?_
            rw [HS.out]
            exact ⟨_, _, _, _, _, _, fo, rfl, fun y hy => by cases hy⟩
          · have HS : Hid (l2R (1011 :: r) (a :: b :: c :: s3) = none) := Lib.hid (by simp [l2R, opR, opR1, opR2, opR3, ha, hb])
            have hne2 : ((zss.length : Int) == 2) = false := by rw [← HZ.out, beq_eq_false_iff_ne]; simp; omega
            clear ha hb
            have FR := Lib.hid X.out.2.1
            obtain ⟨fc1, fc2, ff1, ff2⟩ := FR.out.two
            obtain ⟨fe0, fe1⟩ := FR.out.two_out (x := .slice none 0 0) (y := .slice none 0 0)
            have FO := Lib.hid (And.intro (fail_below X.out.2.2.2.2.2 (.slice none 0 0) (.slice none 0 0)) (And.intro fe0 fe1)); clear fe0 fe1
            go_wp2_with (first | (go_at_call 48; refine (l2Is_any _ a _ HUA.out true HA.out).mono ?_; rintro e w' ⟨rfl, rfl⟩) | (go_at_call 48; refine (l2Is_any _ b _ HUB.out true HB.out).mono ?_; rintro e w' ⟨rfl, rfl⟩) | (go_at_call 50; refine (l1In_any 1011 1006 1009 _).mono ?_; rintro e w' ⟨rfl, rfl⟩))
            obtain ⟨fo, fe0, fe1⟩ := FO.out
            refine bodyPost_ret (v := .tuple #[.agg #[.slice none 0 0, .slice none 0 0], .bool false]) (by simp [results, Try.results18, go_sem, fe0, fe1]) rfl ?_
            rw [HS.out]
            exact ⟨_, _, _, _, _, _, fo, rfl, fun y hy => by cases hy⟩
        · obtain ⟨hbv, k0, k9⟩ := num_of_value HVB.out hb
          generalize b.getD 0 0 = k at *
          subst hbv
          obtain ⟨Aa, ca, rfl, _⟩ := HUA.out
          obtain ⟨Ab, cb, rfl, hib, _⟩ := HUB.out
          obtain ⟨bb, ob, rfl, hbb, hccb⟩ := hib.at_ (by simp)
          have hnb := hccb 0 (by simp)
          rw [Nat.add_zero] at hnb
          simp only [List.getD_cons_zero] at hnb
          clear hccb hib hb
          have hil : (inside a).length ≤ 60 := Nat.le_trans inside_len hal
          have ht := Lib.hid (X.out.2.2.2.2.1.take (zss.length - 2) (by omega) (Nat.le_refl _))
          rw [HZ2.out] at ht
          by_cases hk : 0 < k
          · have HS : Hid (l2R (1011 :: r) (a :: [k] :: s2) = some (inside a ++ ((k - 1) :: a) ++ [1011] ++ r, s2)) := Lib.hid (by simp [l2R, opR, opR1, opR2, ha, hk])
            go_wp2_with (first | (go_at_call 48; refine (l2Is_any _ a _ HUA.out true HA.out).mono ?_; rintro e w' ⟨rfl, rfl⟩) | (go_at_call 48; refine (l2Is_any _ [k] _ HUB.out false rfl).mono ?_; rintro e w' ⟨rfl, rfl⟩))
            refine (l2Body_any _ a _ HUA.out (by omega)).mono ?_
            rintro e w4 ⟨ub, rfl, ho4, hb4⟩
            have hz4 : w3.heap.size ≤ w4.heap.size := hb4.size
            have hca4 := (hb4.cell (p := ⟨g, zss.length - 1, none⟩) hgl).trans hca
            have hg4 : g < w4.heap.size := by omega
            have hbl5 : Below w4.heap.size w4 (w4.alloc (.cells #[.int .i64 (k - 1)] 3)) := (Below.refl _ _).alloc (Nat.le_refl _) _
            have hca5 := (hbl5.cell (p := ⟨g, zss.length - 1, none⟩) hg4).trans hca4
            have Y := Lib.hid (And.intro (Below.refl w4.heap.size w4) (And.intro ho4 (And.intro (RdI.step HUA.out hb4).at_ (X.out.2.2.2.1.below hb4).rd.at_)))
            have HB4 := Lib.hid hb4
            obtain ⟨zs5, hzs5⟩ : ∃ zs5, zs5 = inside a ++ ((k - 1) :: a) ++ [1011] ++ r := ⟨_, rfl⟩
            have HZ5 := Lib.hid hzs5
            clear hbl5 ho4 hb4 hzs5
            have hb5 : Below (w4.heap.size) w4 (w4.alloc (.cells #[.int .i64 (k-1)] 3)) := (Below.refl _ _).alloc (by first | omega | simp) _
            have ho5 := lits_own w4 [k-1] (by simp) (by intro z hz; simp only [List.mem_cons, List.not_mem_nil, or_false] at hz; apply wf_near; omega)
            have S5 : Hid (Below w4.heap.size w4 (w4.alloc (.cells #[.int .i64 (k-1)] 3)) ∧ OwnI (w4.alloc (.cells #[.int .i64 (k-1)] 3)) (w3.heap.size) (w4.heap.size) ub (inside a) ∧ RdBI (w4.alloc (.cells #[.int .i64 (k-1)] 3)) w4.heap.size (.slice Aa a.length ca) (a) ∧ RdBI (w4.alloc (.cells #[.int .i64 (k-1)] 3)) w4.heap.size (.slice Ar r.length cr) (r) ∧ OwnI (w4.alloc (.cells #[.int .i64 (k-1)] 3)) (w4.heap.size) (w4.heap.size + 1) (.slice (some ⟨w4.heap.size, 0, none⟩) 1 1) ([k-1])) := Lib.hid ⟨(Y.out.1).trans (hb5.mono (by omega)), (Y.out.2.1).belowB hb5 (by omega), (Y.out.2.2.1).below (hb5.mono (by omega)), (Y.out.2.2.2).below (hb5.mono (by omega)), (by simpa using ho5)⟩
            clear Y
            clear hb5 ho5
            go_wp2_with (at_builtin; refine wpList_append_V rfl _ _ _ rfl Try.underlying23 intInfo (w4.heap.size) (w4.heap.size + 1) (.slice (some ⟨w4.heap.size, 0, none⟩) 1 1) ([k-1]) rfl S5.out.2.2.2.2 (by first | omega | (simp <;> omega)) (.slice Aa a.length ca) (a) rfl ((S5.out.2.2.1).rd (by first | omega | (simp <;> omega))) (by first | omega | (simp <;> omega)) ?_)
            intro c1 w_6 ho6 hb6
            have hz6 : w4.heap.size + 1 ≤ w_6.heap.size := by have := hb6.size; simpa using this
            have S6 : Hid (Below w4.heap.size w4 w_6 ∧ OwnI w_6 (w3.heap.size) (w4.heap.size) ub (inside a) ∧ RdBI w_6 w4.heap.size (.slice Ar r.length cr) (r) ∧ OwnI w_6 (w4.heap.size) (w_6.heap.size) c1 (([k-1]) ++ (a))) := Lib.hid ⟨(S5.out.1).trans (hb6.mono (by omega)), (S5.out.2.1).belowB hb6 (by omega), (S5.out.2.2.2.1).below (hb6.mono (by omega)), (by simpa using ho6)⟩
            clear S5
            clear ho6 hb6
            have hb7 : Below (w_6.heap.size) w_6 (w_6.alloc (.cells #[] 3)) := (Below.refl _ _).alloc (by first | omega | simp) _
            have ho7 := lits_own w_6 [] (by simp) (by simp)
            have S7 : Hid (Below w4.heap.size w4 (w_6.alloc (.cells #[] 3)) ∧ OwnI (w_6.alloc (.cells #[] 3)) (w3.heap.size) (w4.heap.size) ub (inside a) ∧ RdBI (w_6.alloc (.cells #[] 3)) w4.heap.size (.slice Ar r.length cr) (r) ∧ OwnI (w_6.alloc (.cells #[] 3)) (w4.heap.size) (w_6.heap.size) c1 (([k-1]) ++ (a)) ∧ OwnI (w_6.alloc (.cells #[] 3)) (w_6.heap.size) (w_6.heap.size + 1) (.slice (some ⟨w_6.heap.size, 0, none⟩) 0 0) ([])) := Lib.hid ⟨(S6.out.1).trans (hb7.mono (by omega)), (S6.out.2.1).belowB hb7 (by omega), (S6.out.2.2.1).below (hb7.mono (by omega)), (S6.out.2.2.2).belowB hb7 (by omega), (by simpa using ho7)⟩
            clear S6
            clear hb7 ho7
            go_wp2_with (at_builtin; refine wpList_append_V rfl _ _ _ rfl Try.underlying23 intInfo (w_6.heap.size) (w_6.heap.size + 1) (.slice (some ⟨w_6.heap.size, 0, none⟩) 0 0) ([]) rfl S7.out.2.2.2.2 (by first | omega | (simp <;> omega)) ub (inside a) rfl ((S7.out.2.1).rd) (by first | omega | (simp <;> omega)) ?_)
            intro c2 w_8 ho8 hb8
            have hz8 : w_6.heap.size + 1 ≤ w_8.heap.size := by have := hb8.size; simpa using this
            have S8 : Hid (Below w4.heap.size w4 w_8 ∧ RdBI w_8 w4.heap.size (.slice Ar r.length cr) (r) ∧ OwnI w_8 (w4.heap.size) (w_6.heap.size) c1 (([k-1]) ++ (a)) ∧ OwnI w_8 (w_6.heap.size) (w_8.heap.size) c2 (([]) ++ (inside a))) := Lib.hid ⟨(S7.out.1).trans (hb8.mono (by omega)), (S7.out.2.2.1).below (hb8.mono (by omega)), (S7.out.2.2.2.1).belowB hb8 (by omega), (by simpa using ho8)⟩
            clear S7
            clear ho8 hb8
            go_wp2_with (at_builtin; refine wpList_append_V rfl _ _ _ rfl Try.underlying23 intInfo (w_6.heap.size) (w_8.heap.size) c2 (([]) ++ (inside a)) rfl S8.out.2.2.2 (by first | omega | (simp <;> omega)) c1 (([k-1]) ++ (a)) rfl ((S8.out.2.2.1).rd) (by first | omega | (simp <;> omega)) ?_)
            intro c3 w_9 ho9 hb9
            have hz9 : w_8.heap.size ≤ w_9.heap.size := by have := hb9.size; simpa using this
            have S9 : Hid (Below w4.heap.size w4 w_9 ∧ RdBI w_9 w4.heap.size (.slice Ar r.length cr) (r) ∧ OwnI w_9 (w_6.heap.size) (w_9.heap.size) c3 ((([]) ++ (inside a)) ++ (([k-1]) ++ (a)))) := Lib.hid ⟨(S8.out.1).trans (hb9.mono (by omega)), (S8.out.2.1).below (hb9.mono (by omega)), (by simpa using ho9)⟩
            clear S8
            clear ho9 hb9
            have hb10 : Below (w_9.heap.size) w_9 (w_9.alloc (.cells #[.int .i64 (1011)] 3)) := (Below.refl _ _).alloc (by first | omega | simp) _
            have ho10 := lits_own w_9 [1011] (by simp) (by intro z hz; simp only [List.mem_cons, List.not_mem_nil, or_false] at hz; apply wf_near; omega)
            have S10 : Hid (Below w4.heap.size w4 (w_9.alloc (.cells #[.int .i64 (1011)] 3)) ∧ RdBI (w_9.alloc (.cells #[.int .i64 (1011)] 3)) w4.heap.size (.slice Ar r.length cr) (r) ∧ OwnI (w_9.alloc (.cells #[.int .i64 (1011)] 3)) (w_6.heap.size) (w_9.heap.size) c3 ((([]) ++ (inside a)) ++ (([k-1]) ++ (a))) ∧ OwnI (w_9.alloc (.cells #[.int .i64 (1011)] 3)) (w_9.heap.size) (w_9.heap.size + 1) (.slice (some ⟨w_9.heap.size, 0, none⟩) 1 1) ([1011])) := Lib.hid ⟨(S9.out.1).trans (hb10.mono (by omega)), (S9.out.2.1).below (hb10.mono (by omega)), (S9.out.2.2).belowB hb10 (by omega), (by simpa using ho10)⟩
            clear S9
            clear hb10 ho10
            go_wp2_with (at_builtin; refine wpList_append_V rfl _ _ _ rfl Try.underlying23 intInfo (w_6.heap.size) (w_9.heap.size) c3 ((([]) ++ (inside a)) ++ (([k-1]) ++ (a))) rfl S10.out.2.2.1 (by first | omega | (simp <;> omega)) (.slice (some ⟨w_9.heap.size, 0, none⟩) 1 1) ([1011]) rfl ((S10.out.2.2.2).rd) (by first | omega | (simp <;> omega)) ?_)
            intro c4 w_11 ho11 hb11
            have hz11 : w_9.heap.size + 1 ≤ w_11.heap.size := by have := hb11.size; simpa using this
            have S11 : Hid (Below w4.heap.size w4 w_11 ∧ RdBI w_11 w4.heap.size (.slice Ar r.length cr) (r) ∧ OwnI w_11 (w_6.heap.size) (w_11.heap.size) c4 (((([]) ++ (inside a)) ++ (([k-1]) ++ (a))) ++ ([1011]))) := Lib.hid ⟨(S10.out.1).trans (hb11.mono (by omega)), (S10.out.2.1).below (hb11.mono (by omega)), (by simpa using ho11)⟩
            clear S10
            clear ho11 hb11
            go_wp2_with (at_builtin; refine wpList_append_V rfl _ _ _ rfl Try.underlying23 intInfo (w_6.heap.size) (w_11.heap.size) c4 (((([]) ++ (inside a)) ++ (([k-1]) ++ (a))) ++ ([1011])) rfl S11.out.2.2 (by first | omega | (simp <;> omega)) (.slice Ar r.length cr) (r) rfl ((S11.out.2.1).rd (by first | omega | (simp <;> omega))) (by first | omega | (simp <;> omega)) ?_)
            intro c5 w_12 ho12 hb12
            have hz12 : w_11.heap.size ≤ w_12.heap.size := by have := hb12.size; simpa using this
            have S12 : Hid (Below w4.heap.size w4 w_12 ∧ OwnI w_12 (w_6.heap.size) (w_12.heap.size) c5 ((((([]) ++ (inside a)) ++ (([k-1]) ++ (a))) ++ ([1011])) ++ (r))) := Lib.hid ⟨(S11.out.1).trans (hb12.mono (by omega)), (by simpa using ho12)⟩
            clear S11
            clear ho12 hb12
            -- at w_12: S12: base c5
            have hE : Below w3.heap.size w3 w_12 := HB4.out.trans (S12.out.1.mono hz4)
            have ho5 : OwnI w_12 w3.heap.size w_12.heap.size c5 zs5 := by rw [HZ5.out]; have h := S12.out.2.low (lo := w3.heap.size) (by omega); simpa using h
            obtain ⟨A5, k5, rfl, _⟩ := ho5.rd
            generalize hl5 : zs5.length = n5 at *
            have O := Lib.hid (end_gen (X.out.2.1.below hE X.out.2.1.lt) (ho5.low (by omega)) ((ht.out.below hE).mono hm2) (X.out.2.2.2.2.2.trans (hE.mono X.out.2.2.2.2.2.size)))
            obtain ⟨fc1, fc2, ff1, ff2⟩ := O.out.2.2.2.2.2
            clear ho5 hl5 hE S12 X ht
            all_goals go_wp2
            all_goals obtain ⟨fo1, fo2, fo3, fe0, fe1, -⟩ := O.out
            all_goals refine bodyPost_ret (v := .tuple #[.agg #[.slice A5 n5 k5, .slice (some ⟨g, 0, none⟩) (zss.length - 2) cu], .bool true]) (by simp [results, Try.results18, go_sem, fe0, fe1]) rfl ?_
            all_goals rw [HS.out]
            all_goals refine ⟨_, _, _, _, _, _, fo3, rfl, fun y hy => ?_⟩
            all_goals cases hy
            all_goals exact ⟨by rw [← HZ5.out]; exact fo1, fo2⟩
          · have hk0 : k = 0 := by omega
            have HS : Hid (l2R (1011 :: r) (a :: [k] :: s2) = some (r, s2)) := Lib.hid (by simp [l2R, opR, opR1, opR2, ha, hk])
            clear hk
            go_wp2_with (first | (go_at_call 48; refine (l2Is_any _ a _ HUA.out true HA.out).mono ?_; rintro e w' ⟨rfl, rfl⟩) | (go_at_call 48; refine (l2Is_any _ [k] _ HUB.out false rfl).mono ?_; rintro e w' ⟨rfl, rfl⟩))
            refine (l2Body_any _ a _ HUA.out (by omega)).mono ?_
            rintro e w4 ⟨ub, rfl, ho4, hb4⟩
            have hz4 : w3.heap.size ≤ w4.heap.size := hb4.size
            have O := Lib.hid (end_gen (X.out.2.1.below hb4 X.out.2.1.lt) (X.out.2.2.2.1.belowB hb4 (by omega)) ((ht.out.below hb4).mono hm2) (X.out.2.2.2.2.2.trans (hb4.mono X.out.2.2.2.2.2.size)))
            obtain ⟨fc1, fc2, ff1, ff2⟩ := O.out.2.2.2.2.2
            clear ho4 hb4 X ht
            all_goals go_wp2
            all_goals obtain ⟨fo1, fo2, fo3, fe0, fe1, -⟩ := O.out
            all_goals refine bodyPost_ret (v := .tuple #[.agg #[.slice Ar r.length cr, .slice (some ⟨g, 0, none⟩) (zss.length - 2) cu], .bool true]) (by simp [results, Try.results18, go_sem, fe0, fe1]) rfl ?_
            all_goals rw [HS.out]
            all_goals refine ⟨_, _, _, _, _, _, fo3, rfl, fun y hy => ?_⟩
            all_goals cases hy
            all_goals exact ⟨fo1, fo2⟩
      · have HA := Lib.hid (decide_eq_false ha)
        rcases s2 with _ | ⟨c, s3⟩
        · have HS : Hid (l2R (1011 :: r) [a, b] = none) := Lib.hid (by simp [l2R, opR, opR1, opR2, ha])
          have hne2 : ((zss.length : Int) == 2) = true := by rw [← HZ.out]; rfl
          clear ha
          have FR := Lib.hid X.out.2.1
          obtain ⟨fc1, fc2, ff1, ff2⟩ := FR.out.two
          obtain ⟨fe0, fe1⟩ := FR.out.two_out (x := .slice none 0 0) (y := .slice none 0 0)
          have FO := Lib.hid (And.intro (fail_below X.out.2.2.2.2.2 (.slice none 0 0) (.slice none 0 0)) (And.intro fe0 fe1)); clear fe0 fe1
          go_wp2_with (first | (go_at_call 48; refine (l2Is_any _ a _ HUA.out false HA.out).mono ?_; rintro e w' ⟨rfl, rfl⟩) | (go_at_call 50; refine (l1In_any 1011 1006 1009 _).mono ?_; rintro e w' ⟨rfl, rfl⟩))
          obtain ⟨fo, fe0, fe1⟩ := FO.out
          refine bodyPost_ret (v := .tuple #[.agg #[.slice none 0 0, .slice none 0 0], .bool false]) (by simp [results, Try.results18, go_sem, fe0, fe1]) rfl ?_
          rw [HS.out]
          exact ⟨_, _, _, _, _, _, fo, rfl, fun y hy => by cases hy⟩
        · have HS : Hid (l2R (1011 :: r) (a :: b :: c :: s3) = none) := Lib.hid (by simp [l2R, opR, opR1, opR2, opR3, ha])
          have hne2 : ((zss.length : Int) == 2) = false := by rw [← HZ.out, beq_eq_false_iff_ne]; simp; omega
          clear ha
          have FR := Lib.hid X.out.2.1
          obtain ⟨fc1, fc2, ff1, ff2⟩ := FR.out.two
          obtain ⟨fe0, fe1⟩ := FR.out.two_out (x := .slice none 0 0) (y := .slice none 0 0)
          have FO := Lib.hid (And.intro (fail_below X.out.2.2.2.2.2 (.slice none 0 0) (.slice none 0 0)) (And.intro fe0 fe1)); clear fe0 fe1
          go_wp2_with (first | (go_at_call 48; refine (l2Is_any _ a _ HUA.out false HA.out).mono ?_; rintro e w' ⟨rfl, rfl⟩) | (go_at_call 50; refine (l1In_any 1011 1006 1009 _).mono ?_; rintro e w' ⟨rfl, rfl⟩))
          obtain ⟨fo, fe0, fe1⟩ := FO.out
          refine bodyPost_ret (v := .tuple #[.agg #[.slice none 0 0, .slice none 0 0], .bool false]) (by simp [results, Try.results18, go_sem, fe0, fe1]) rfl ?_
          rw [HS.out]
          exact ⟨_, _, _, _, _, _, fo, rfl, fun y hy => by cases hy⟩)
end Go.Proofs.Ytenaeiedoiepdaa
namespace Go.Proofs.Ytenaeiedoiepdaa
set_option maxRecDepth 100000
open Go.RowKit Go.WideShapes

set_option maxHeartbeats 8000000 in
theorem step_S_open (v0 v1 : Value) (r : List Int) (st : List (List Int)) (w : World) (h0 : RdI w v0 (1012 :: r)) (h1 : RdS w v1 st.reverse) (hl : r.length ≤ 1048576) (hok : okS (1012 :: r) st) :
    Calls Try.prog 18 #[.agg #[v0, v1]] w (StepPost w (l2R (1012 :: r) st)) := by
  have hsl := (stackB_all hok.2).1
  have hsv := fun v (hv : v ∈ st.reverse) => Nat.le_trans (valueB_len ((stackB_all hok.2).2 v (List.mem_reverse.1 hv))).2 (show 60 ≤ 1000000 by omega)
  have hlz : st.reverse.length ≤ 20 := by simpa using hsl
  generalize hzs : st.reverse = zss at *
  have HZ := Lib.hid hzs; clear hzs
  have HV := Lib.hid hsv; clear hsv
  have Hok := Lib.hid hok; clear hok
  have B2 : Below w.heap.size w ((w.alloc (.cells #[v0, v1] 26)).alloc (.cells #[.slice none 0 0, .slice none 0 0] 26)) := ((Below.refl _ _).alloc (Nat.le_refl _) _).alloc (by simp) _
  have B3 : Below w.heap.size w (((w.alloc (.cells #[v0, v1] 26)).alloc (.cells #[.slice none 0 0, .slice none 0 0] 26)).alloc (.cells #[] 3)) := B2.alloc (by simp; omega) _
  have H0 := Lib.hid h0.at_
  have H1 := Lib.hid h1.at_
  obtain ⟨A0, c0, rfl, hi0, hc0⟩ := h0
  obtain ⟨b0, o0, rfl, hb0, hcc0⟩ := hi0.at_ (by simp)
  obtain ⟨A1, c1, rfl, _⟩ := h1
  have hcell := hcc0 0 (by simp)
  simp only [List.length_cons] at hc0
  rw [Nat.add_zero] at hcell
  replace hcell := (B2.cell (p := ⟨b0, o0, none⟩) hb0).trans hcell
  simp only [List.getD_cons_zero, List.length_cons] at hcell
  have ht0 : RdI w (.slice (some ⟨b0, o0 + 1, none⟩) r.length (c0 - 1)) r := by
    have h1 := hi0.sub 1 r.length (by simp; omega)
    simp only [List.drop_succ_cons, List.drop_zero, List.take_length] at h1
    exact ⟨_, _, rfl, h1, by omega⟩
  have L1 : OwnI (((w.alloc (.cells #[.slice (some ⟨b0, o0, none⟩) (r.length + 1) c0, .slice A1 zss.length c1] 26)).alloc (.cells #[.slice none 0 0, .slice none 0 0] 26)).alloc (.cells #[] 3)) (w.heap.size + 1 + 1) (w.heap.size + 1 + 1 + 1) (.slice (some ⟨w.heap.size + 1 + 1, 0, none⟩) 0 0) [] := by simpa using lits_own ((w.alloc (.cells #[.slice (some ⟨b0, o0, none⟩) (r.length + 1) c0, .slice A1 zss.length c1] 26)).alloc (.cells #[.slice none 0 0, .slice none 0 0] 26)) [] (by simp) (by simp)
  have Y := Lib.hid (And.intro (RdI.step ht0 B3) (And.intro L1 B3))
  clear L1 B2 B3 hcc0 hi0 ht0
  have hcc : c0 = 1 ∨ 2 ≤ c0 := by omega
  rcases hcc with rfl | hc2
  all_goals go_enter Try.func18, Try.ntmps18
  all_goals go_wp2_with (at_builtin; (refine wpList_append_V rfl _ _ _ rfl Try.underlying23 intInfo (w.heap.size + 1 + 1) (w.heap.size + 1 + 1 + 1) _ [] rfl Y.out.2.1 (by simp) _ r rfl (by first | exact Y.out.1 | exact rd_nil (by omega) (by omega)) (by simp; omega) ?_))
  all_goals (
    intro v2 w2 ho2 hb2
    obtain ⟨k1, k2, k3, k4⟩ := blks hb2
    obtain ⟨p1, p2, -, -⟩ := k1.two
    have Z := Lib.hid (And.intro k1 (And.intro k2 (And.intro k3 ho2))); clear k1 k2 k3 ho2 hb2 Y hcell
    go_wp2_with fail
    refine (l2Copy_any _ zss _ ((H1.out.below Z.out.2.2.1).rd (by omega)) (by omega) HV.out).mono ?_
    rintro e w3 ⟨u, rfl, ho3, hb3⟩
    have hz3 : w2.heap.size ≤ w3.heap.size := hb3.size
    have X : Hid (Ahead w w3 w2.heap.size _ _ v2 u 1012 r zss) := Lib.hid ⟨Z.out.1.below hb3 (by omega), Z.out.2.1.below hb3 (by omega), (H0.out.below Z.out.2.2.1).below (hb3.mono (by omega)), Z.out.2.2.2.below hb3, ho3, Z.out.2.2.1.trans (hb3.mono (by omega))⟩
    clear Z ho3 hb3 p1 p2
    have q := X.out.1.two
    obtain ⟨q1, q2, -, -⟩ := q
    obtain ⟨Au, cu, rfl, _⟩ := X.out.2.2.2.2.1.rd
    obtain ⟨Ar, cr, rfl, _⟩ := X.out.2.2.2.1.rd
    have hm2 : w.heap.size + 1 + 1 ≤ w2.heap.size := by omega
    obtain ⟨n, m, hcut, hn1, hn2, -, -, -, -, -⟩ := quote_cut Hok.out.1
    obtain ⟨e0, rfl⟩ : ∃ e0, n = e0 + 1 := ⟨n - 1, by omega⟩
    have HC := Lib.hid hcut; clear hcut
    have HS : Hid (l2R (1012 :: r) st = some (r.drop e0, (1012 :: r.take e0) :: st)) := Lib.hid (by rw [l2R, if_neg (by omega), if_pos rfl, HC.out]; rfl)
    have HI := Lib.hid (X.out.2.2.1.rd X.out.2.2.2.2.2.size)
    first
      | (exfalso; omega)
      | (
          go_wp2_with fail
          obtain ⟨AI, cI, hAI, hII, hcI⟩ := HI.out
          cases hAI
          refine (l1End_any _ _ 0 (e0 + 1) e0 (1012 :: r) _ hII (by simp; omega) HC.out ⟨by omega, by simp; omega⟩ (by omega)).mono ?_
          rintro e w' ⟨rfl, rfl⟩
          go_wp2_with fail
          have HV := Lib.hid X.out.2.2.1
          have XD := Lib.hid X.out; clear X hII hcI
          have hwz : w.heap.size < w2.heap.size := by omega
          have l2 : (0 : Int) ≤ (e0 : Int) + 1 := by omega
          have l3 : (e0 : Int) + 1 ≤ (r.length : Int) + 1 := by omega
          have l4 : (e0 : Int) + 1 ≤ (c0 : Int) := by omega
          have l5 : ((e0 : Int) + 1).toNat = e0 + 1 := by omega
          have m1 : IntKind.i64.wrap ((e0 : Int) + 1) = (e0 : Int) + 1 := IntWalk.i64_in _ (by omega)
          have q3 : w3.cell? ⟨w.heap.size, 0, none⟩ = some (.slice (some ⟨b0, o0, none⟩) (r.length + 1) c0) := q1
          go_region_held3 (fun w' => w'.cell? ⟨w.heap.size, 0, none⟩ = some (.slice (some ⟨b0, o0, none⟩) (r.length + 1) c0)) (repeat (first | exact q1 | exact q1A | exact q1B | exact q1S | exact ((((Below.refl (w.heap.size + 1) wS).setCell (by simp) _).setCell (by simp) _).cell (p := ⟨w.heap.size, 0, none⟩) (by simp)).trans q1S | exact ((((Below.refl (w.heap.size + 1) wA).setCell (by simp) _).setCell (by simp) _).cell (p := ⟨w.heap.size, 0, none⟩) (by simp)).trans q1A | rw [World.cell?_drew] | rw [World.cell?_alloc_lt _ _ _ (by first | omega | (simp; omega))])) (first | (refine step_append_nil rfl _ _ _ rfl Try.underlying23 intInfo _ rfl ?_ _ (r.drop e0) rfl ?_ ?_ ?_; (· (first | omega | (simp; done) | (simp; omega))); (· (simp [Act.eval]; (try split) <;> (refine rd_part (HV.out.below (Below.mono (B := w2.heap.size) ?_ ?_)) ?_ (e0 + 1) ?_ ?_ ?_ ?_; (· (repeat (first | exact Below.refl _ _ | refine Below.drew ?_ | refine Below.trans ?_ (hbA.mono (by first | omega | (simp; done) | (simp; omega))) | refine Below.trans ?_ (hbB.mono (by first | omega | (simp; done) | (simp; omega))) | refine Below.trans ?_ (hwS.below (Nat.le_refl _) (by first | omega | (simp; done) | (simp; omega))) | refine Below.alloc ?_ (by first | omega | (simp; done) | (simp; omega)) _))); (· omega); (· (first | omega | (simp; done) | (simp; omega))); (· (first | (simp; done) | (simp; omega) | (simp; rw [List.take_of_length_le] <;> (first | omega | (simp; done) | (simp; omega))))); (· (first | omega | (simp; done) | (simp; omega))); (· (first | (left; omega) | (right; omega))); (· omega)))); (· (first | omega | (simp; done) | (simp; omega))); intro vA wA hoA hbA; have hsA := hbA.size; (try simp at hsA); replace hoA := RdG.weak (lo := w3.heap.size) hoA (by first | omega | (simp; done) | (simp; omega)); obtain ⟨AA, nA, cA, rfl⟩ := rd_form hoA.1; have hchA : Below w2.heap.size w3 wA := (by repeat (first | exact Below.refl _ _ | refine Below.drew ?_ | refine Below.trans ?_ (hbA.mono (by first | omega | (simp; done) | (simp; omega))) | refine Below.trans ?_ (hbB.mono (by first | omega | (simp; done) | (simp; omega))) | refine Below.trans ?_ (hwS.below (Nat.le_refl _) (by first | omega | (simp; done) | (simp; omega))) | refine Below.alloc ?_ (by first | omega | (simp; done) | (simp; omega)) _)); have RA := Lib.hid (XD.out.2.1.below hchA (by omega)); obtain ⟨fA1, fA2, fA3, fA4⟩ := RA.out.two; have q1A : wA.cell? ⟨w.heap.size, 0, none⟩ = some (.slice (some ⟨b0, o0, none⟩) (r.length + 1) c0) := (hchA.cell (p := ⟨w.heap.size, 0, none⟩) hwz).trans q3) | (refine step_append_nil rfl _ _ _ rfl Try.underlying23 intInfo _ rfl ?_ _ (1012 :: r.take e0) rfl ?_ ?_ ?_; (· (first | omega | (simp; done) | (simp; omega))); (· (simp [Act.eval]; (try split) <;> (refine rd_part (HV.out.below (Below.mono (B := w2.heap.size) ?_ ?_)) ?_ 0 ?_ ?_ ?_ ?_; (· (repeat (first | exact Below.refl _ _ | refine Below.drew ?_ | refine Below.trans ?_ (hbA.mono (by first | omega | (simp; done) | (simp; omega))) | refine Below.trans ?_ (hbB.mono (by first | omega | (simp; done) | (simp; omega))) | refine Below.trans ?_ (hwS.below (Nat.le_refl _) (by first | omega | (simp; done) | (simp; omega))) | refine Below.alloc ?_ (by first | omega | (simp; done) | (simp; omega)) _))); (· omega); (· (first | omega | (simp; done) | (simp; omega))); (· (first | (simp; done) | (simp; omega) | (simp; rw [List.take_of_length_le] <;> (first | omega | (simp; done) | (simp; omega))))); (· (first | omega | (simp; done) | (simp; omega))); (· (first | (left; omega) | (right; omega))); (· omega)))); (· (first | omega | (simp; done) | (simp; omega))); intro vB wB hoB hbB; have hsB := hbB.size; (try simp at hsB); replace hoB := RdG.weak (lo := w3.heap.size) hoB (by first | omega | (simp; done) | (simp; omega)); obtain ⟨AB, nB, cB, rfl⟩ := rd_form hoB.1; have hchB : Below w2.heap.size w3 wB := (by repeat (first | exact Below.refl _ _ | refine Below.drew ?_ | refine Below.trans ?_ (hbA.mono (by first | omega | (simp; done) | (simp; omega))) | refine Below.trans ?_ (hbB.mono (by first | omega | (simp; done) | (simp; omega))) | refine Below.trans ?_ (hwS.below (Nat.le_refl _) (by first | omega | (simp; done) | (simp; omega))) | refine Below.alloc ?_ (by first | omega | (simp; done) | (simp; omega)) _)); have RB := Lib.hid (XD.out.2.1.below hchB (by omega)); obtain ⟨fB1, fB2, fB3, fB4⟩ := RB.out.two; have q1B : wB.cell? ⟨w.heap.size, 0, none⟩ = some (.slice (some ⟨b0, o0, none⟩) (r.length + 1) c0) := (hchB.cell (p := ⟨w.heap.size, 0, none⟩) hwz).trans q3) | (refine step_append_R rfl _ _ _ rfl Try.underlying24 rowInfo w2.heap.size w3.heap.size _ zss rfl ?_ hz3 _ 1 (.slice AB nB cB) (1012 :: r.take e0) rfl ?_ ?_ ?_ (by omega) ?_; (· (refine XD.out.2.2.2.2.1.belowB (B := w3.heap.size) ?_ (Nat.le_refl _); repeat (first | exact Below.refl _ _ | refine Below.drew ?_ | refine Below.trans ?_ (hbA.mono (by first | omega | (simp; done) | (simp; omega))) | refine Below.trans ?_ (hbB.mono (by first | omega | (simp; done) | (simp; omega))) | refine Below.alloc ?_ (by first | omega | (simp; done) | (simp; omega)) _))); (· (first | exact lit_row _ _ | (simp; done) | (rw [hbA.cell (by first | omega | (simp; done) | (simp; omega))]; first | exact lit_row _ _ | (simp; done)))); (· (first | omega | (simp; done) | (simp; omega))); (· (repeat (first | exact hoB | refine RdG.below ?_ hbA | refine RdG.drew ?_ | refine RdG.alloc ?_ _))); intro vS wS hoS hwS; have hsS := hwS.size; (try simp at hsS); obtain ⟨AS, nS, cS, rfl⟩ := rdS_form hoS.rd; have hchS : Below w2.heap.size w3 wS := (by repeat (first | exact Below.refl _ _ | refine Below.drew ?_ | refine Below.trans ?_ (hbA.mono (by first | omega | (simp; done) | (simp; omega))) | refine Below.trans ?_ (hbB.mono (by first | omega | (simp; done) | (simp; omega))) | refine Below.trans ?_ (hwS.below (Nat.le_refl _) (by first | omega | (simp; done) | (simp; omega))) | refine Below.alloc ?_ (by first | omega | (simp; done) | (simp; omega)) _)); have RS := Lib.hid (XD.out.2.1.below hchS (by omega)); obtain ⟨fS1, fS2, fS3, fS4⟩ := RS.out.two; have q1S : wS.cell? ⟨w.heap.size, 0, none⟩ = some (.slice (some ⟨b0, o0, none⟩) (r.length + 1) c0) := (hchS.cell (p := ⟨w.heap.size, 0, none⟩) hwz).trans q3))
          all_goals (have GA : RdG w3.heap.size wS (.slice AA nA cA) (r.drop e0) := (by repeat (first | exact hoA | refine RdG.within ?_ hwS (Nat.le_refl _) | refine RdG.below ?_ hbB | refine RdG.alloc ?_ _ | refine RdG.drew ?_)))
          all_goals (have O := Lib.hid (end_read RS.out (GA.weak (by omega)) (hoS.weak hm2) (XD.out.2.2.2.2.2.trans (hchS.mono (by omega)))))
          all_goals clear GA hoA hbA hchA RA hoB hbB hchB RB hoS hwS hchS XD HV HI HC
          all_goals go_wp2
          all_goals obtain ⟨fo1, fo2, fo3, fe0, fe1⟩ := O.out
          all_goals refine bodyPost_ret (v := .tuple #[.agg #[.slice AA nA cA, .slice AS nS cS], .bool true]) (by simp [results, Try.results18, go_sem, fe0, fe1]) rfl ?_
          all_goals rw [HS.out]
          all_goals refine ⟨_, _, _, _, _, _, fo3, rfl, fun y hy => ?_⟩
          all_goals cases hy
          all_goals exact ⟨fo1, by rw [List.reverse_cons, HZ.out]; exact fo2⟩))
end Go.Proofs.Ytenaeiedoiepdaa
