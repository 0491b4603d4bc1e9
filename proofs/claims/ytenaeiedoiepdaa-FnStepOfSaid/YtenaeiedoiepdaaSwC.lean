/- The model's step: if0, if1, if2. -/
import Derived.Test.YtenaeiedoiepdaaSb
import Derived.StillTailTactics
import Derived.Deep.RegionLaw
import Derived.Deep.RegionHeld3
import Derived.IntWalk
namespace Go.Proofs.Ytenaeiedoiepdaa
set_option maxRecDepth 100000
open Go.RowKit Go.WideShapes

set_option maxHeartbeats 8000000 in
theorem step_S_if0 (v0 v1 : Value) (r : List Int) (st : List (List Int)) (w : World) (h0 : RdI w v0 (1010 :: r)) (h1 : RdS w v1 st.reverse) (hl : r.length ≤ 1048576) (hok : okS (1010 :: r) st) (hnot : Hid (∀ a b c s3, st = a :: b :: c :: s3 → ¬ (1 < a.length ∧ 1 < b.length ∧ ¬ 1 < c.length))) :
    Calls Try.prog 18 #[.agg #[v0, v1]] w (StepPost w (l2R (1010 :: r) st)) := by
  have hsl := (stackB_all hok.2).1
  have hsv := fun v (hv : v ∈ st.reverse) => Nat.le_trans (valueB_len ((stackB_all hok.2).2 v (List.mem_reverse.1 hv))).2 (show 60 ≤ 1000000 by omega)
  have hlz : st.reverse.length ≤ 20 := by simpa using hsl
  generalize hzs : st.reverse = zss at *
  have HZ := Lib.hid hzs; clear hzs
  have HV := Lib.hid hsv; clear hsv
  have Hok := Lib.hid hok; clear hok
  have B2 : Below w.heap.size w ((w.alloc (.cells #[v0, v1] 26)).alloc (.cells #[.slice none 0 0, .slice none 0 0] 26)) := ((Below.refl _ _).alloc (Nat.le_refl _) _).alloc (by simp) _
  have B3 : Below w.heap.size w (((w.alloc (.cells #[v0, v1] 26)).alloc (.cells #[.slice none 0 0, .slice none 0 0] 26)).alloc (.cells #[] 3)) := B2.alloc (by simp; omega) _
  have H0 := Lib.hid h0.at_
  have H1 := Lib.hid h1.at_
  obtain ⟨A0, c0, rfl, hi0, hc0⟩ := h0
  obtain ⟨b0, o0, rfl, hb0, hcc0⟩ := hi0.at_ (by simp)
  obtain ⟨A1, c1, rfl, _⟩ := h1
  have hcell := hcc0 0 (by simp)
  simp only [List.length_cons] at hc0
  rw [Nat.add_zero] at hcell
  replace hcell := (B2.cell (p := ⟨b0, o0, none⟩) hb0).trans hcell
  simp only [List.getD_cons_zero, List.length_cons] at hcell
  have ht0 : RdI w (.slice (some ⟨b0, o0 + 1, none⟩) r.length (c0 - 1)) r := by
    have h1 := hi0.sub 1 r.length (by simp; omega)
    simp only [List.drop_succ_cons, List.drop_zero, List.take_length] at h1
    exact ⟨_, _, rfl, h1, by omega⟩
  have L1 : OwnI (((w.alloc (.cells #[.slice (some ⟨b0, o0, none⟩) (r.length + 1) c0, .slice A1 zss.length c1] 26)).alloc (.cells #[.slice none 0 0, .slice none 0 0] 26)).alloc (.cells #[] 3)) (w.heap.size + 1 + 1) (w.heap.size + 1 + 1 + 1) (.slice (some ⟨w.heap.size + 1 + 1, 0, none⟩) 0 0) [] := by simpa using lits_own ((w.alloc (.cells #[.slice (some ⟨b0, o0, none⟩) (r.length + 1) c0, .slice A1 zss.length c1] 26)).alloc (.cells #[.slice none 0 0, .slice none 0 0] 26)) [] (by simp) (by simp)
  have Y := Lib.hid (And.intro (RdI.step ht0 B3) (And.intro L1 B3))
  clear L1 B2 B3 hcc0 hi0 ht0
  have hcc : c0 = 1 ∨ 2 ≤ c0 := by omega
  rcases hcc with rfl | hc2
  all_goals go_enter Try.func18, Try.ntmps18
  all_goals go_wp2_with (at_builtin; (refine wpList_append_V rfl _ _ _ rfl Try.underlying23 intInfo (w.heap.size + 1 + 1) (w.heap.size + 1 + 1 + 1) _ [] rfl Y.out.2.1 (by simp) _ r rfl (by first | exact Y.out.1 | exact rd_nil (by omega) (by omega)) (by simp; omega) ?_))
  all_goals (
    intro v2 w2 ho2 hb2
    obtain ⟨k1, k2, k3, k4⟩ := blks hb2
    obtain ⟨p1, p2, -, -⟩ := k1.two
    have Z := Lib.hid (And.intro k1 (And.intro k2 (And.intro k3 ho2))); clear k1 k2 k3 ho2 hb2 Y hcell
    go_wp2_with fail
    refine (l2Copy_any _ zss _ ((H1.out.below Z.out.2.2.1).rd (by omega)) (by omega) HV.out).mono ?_
    rintro e w3 ⟨u, rfl, ho3, hb3⟩
    have hz3 : w2.heap.size ≤ w3.heap.size := hb3.size
    have X : Hid (Ahead w w3 w2.heap.size _ _ v2 u 1010 r zss) := Lib.hid ⟨Z.out.1.below hb3 (by omega), Z.out.2.1.below hb3 (by omega), (H0.out.below Z.out.2.2.1).below (hb3.mono (by omega)), Z.out.2.2.2.below hb3, ho3, Z.out.2.2.1.trans (hb3.mono (by omega))⟩
    clear Z ho3 hb3 p1 p2
    have q := X.out.1.two
    obtain ⟨q1, q2, -, -⟩ := q
    obtain ⟨Au, cu, rfl, _⟩ := X.out.2.2.2.2.1.rd
    obtain ⟨Ar, cr, rfl, _⟩ := X.out.2.2.2.1.rd
    have hm2 : w.heap.size + 1 + 1 ≤ w2.heap.size := by omega
    rcases st with _ | ⟨a, s1⟩
    · have HS : Hid (l2R (1010 :: r) [] = none) := Lib.hid (by simp [l2R, opR])
      have hne0 : ((zss.length : Int) == 0) = true := by rw [← HZ.out]; rfl
      have FR := Lib.hid X.out.2.1
      obtain ⟨fc1, fc2, ff1, ff2⟩ := FR.out.two
      obtain ⟨fe0, fe1⟩ := FR.out.two_out (x := .slice none 0 0) (y := .slice none 0 0)
      have FO := Lib.hid (And.intro (fail_below X.out.2.2.2.2.2 (.slice none 0 0) (.slice none 0 0)) (And.intro fe0 fe1)); clear fe0 fe1
      go_wp2
      obtain ⟨fo, fe0, fe1⟩ := FO.out
      refine bodyPost_ret (v := .tuple #[.agg #[.slice none 0 0, .slice none 0 0], .bool false]) (by simp [results, Try.results18, go_sem, fe0, fe1]) rfl ?_
      rw [HS.out]
      exact ⟨_, _, _, _, _, _, fo, rfl, fun y hy => by cases hy⟩
    rcases s1 with _ | ⟨b, s2⟩
    · have HS : Hid (l2R (1010 :: r) [a] = none) := Lib.hid (by simp [l2R, opR, opR1])
      have hne0 : ((zss.length : Int) == 0) = false := by rw [← HZ.out]; rfl
      have hne1 : ((zss.length : Int) == 1) = true := by rw [← HZ.out]; rfl
      have FR := Lib.hid X.out.2.1
      obtain ⟨fc1, fc2, ff1, ff2⟩ := FR.out.two
      obtain ⟨fe0, fe1⟩ := FR.out.two_out (x := .slice none 0 0) (y := .slice none 0 0)
      have FO := Lib.hid (And.intro (fail_below X.out.2.2.2.2.2 (.slice none 0 0) (.slice none 0 0)) (And.intro fe0 fe1)); clear fe0 fe1
      go_wp2
      obtain ⟨fo, fe0, fe1⟩ := FO.out
      refine bodyPost_ret (v := .tuple #[.agg #[.slice none 0 0, .slice none 0 0], .bool false]) (by simp [results, Try.results18, go_sem, fe0, fe1]) rfl ?_
      rw [HS.out]
      exact ⟨_, _, _, _, _, _, fo, rfl, fun y hy => by cases hy⟩
    · have hn2 : 2 ≤ zss.length := by rw [← HZ.out]; simp
      have HZ2 : Hid (zss.take (zss.length - 2) = s2.reverse) := Lib.hid (by rw [← HZ.out]; simp)
      have HZa : Hid (zss[zss.length - 1]? = some a) := Lib.hid (by rw [← HZ.out]; simp)
      have HZb : Hid (zss[zss.length - 2]? = some b) := Lib.hid (by rw [← HZ.out]; simp)
      have hne0 : ((zss.length : Int) == 0) = false := by rw [beq_eq_false_iff_ne]; omega
      have hne1 : ((zss.length : Int) == 1) = false := by rw [beq_eq_false_iff_ne]; omega
      have hcap := X.out.2.2.2.2.1.cap2
      have hva := (stackB_all Hok.out.2).2 a List.mem_cons_self
      have hvb := (stackB_all Hok.out.2).2 b (List.mem_cons_of_mem _ List.mem_cons_self)
      have HVA := Lib.hid hva; clear hva
      have HVB := Lib.hid hvb; clear hvb
      obtain ⟨g, b_g, ua, hAu, hgl, hca, hua⟩ := X.out.2.2.2.2.1.at1 HZa.out
      obtain ⟨g', b_g', ub, hAu', -, hcb, hub⟩ := X.out.2.2.2.2.1.at1 HZb.out
      subst hAu
      obtain rfl : g = g' := by cases hAu'; rfl
      clear hAu'
      have HUA := Lib.hid hua; clear hua
      have HUB := Lib.hid hub; clear hub
      have hal := (valueB_len HVA.out).2
      have hbl := (valueB_len HVB.out).2
      rcases s2 with _ | ⟨c, s3⟩
      · have HS : Hid (l2R (1010 :: r) [a, b] = none) := Lib.hid (by simp [l2R, opR, opR1, opR2])
        have hne2 : ((zss.length : Int) == 2) = true := by rw [← HZ.out]; rfl
        have FR := Lib.hid X.out.2.1
        obtain ⟨fc1, fc2, ff1, ff2⟩ := FR.out.two
        obtain ⟨fe0, fe1⟩ := FR.out.two_out (x := .slice none 0 0) (y := .slice none 0 0)
        have FO := Lib.hid (And.intro (fail_below X.out.2.2.2.2.2 (.slice none 0 0) (.slice none 0 0)) (And.intro fe0 fe1)); clear fe0 fe1
        go_wp2_with (first | (go_at_call 50; refine (l1In_any 1010 1006 1009 _).mono ?_; rintro e w' ⟨rfl, rfl⟩))
        obtain ⟨fo, fe0, fe1⟩ := FO.out
        refine bodyPost_ret (v := .tuple #[.agg #[.slice none 0 0, .slice none 0 0], .bool false]) (by simp [results, Try.results18, go_sem, fe0, fe1]) rfl ?_
        rw [HS.out]
        exact ⟨_, _, _, _, _, _, fo, rfl, fun y hy => by cases hy⟩
      · have hne2 : ((zss.length : Int) == 2) = false := by rw [← HZ.out, beq_eq_false_iff_ne]; simp; omega
        have hn3 : 3 ≤ zss.length := by rw [← HZ.out]; simp
        have HZ3 : Hid (zss.take (zss.length - 3) = s3.reverse) := Lib.hid (by rw [← HZ.out]; simp)
        have HZc : Hid (zss[zss.length - 3]? = some c) := Lib.hid (by rw [← HZ.out]; simp)
        have hvc := (stackB_all Hok.out.2).2 c (List.mem_cons_of_mem _ (List.mem_cons_of_mem _ List.mem_cons_self))
        have HVC := Lib.hid hvc; clear hvc
        obtain ⟨g', b_g', uc, hAu', -, hcc, huc⟩ := X.out.2.2.2.2.1.at1 HZc.out
        obtain rfl : g = g' := by cases hAu'; rfl
        clear hAu'
        have HUC := Lib.hid huc; clear huc
        have hno := hnot.out a b c s3 rfl
        by_cases ha : 1 < a.length
        case neg =>
          have HA := Lib.hid (decide_eq_false ha)
          have HS : Hid (l2R (1010 :: r) (a :: b :: c :: s3) = none) := Lib.hid (by simp [l2R, opR, opR1, opR2, opR3, ha])
          clear ha
          have FR := Lib.hid X.out.2.1
          obtain ⟨fc1, fc2, ff1, ff2⟩ := FR.out.two
          obtain ⟨fe0, fe1⟩ := FR.out.two_out (x := .slice none 0 0) (y := .slice none 0 0)
          have FO := Lib.hid (And.intro (fail_below X.out.2.2.2.2.2 (.slice none 0 0) (.slice none 0 0)) (And.intro fe0 fe1)); clear fe0 fe1
          go_wp2_with (first | (go_at_call 48; refine (l2Is_any _ a _ HUA.out false HA.out).mono ?_; rintro e w' ⟨rfl, rfl⟩) | (go_at_call 50; refine (l1In_any 1010 1006 1009 _).mono ?_; rintro e w' ⟨rfl, rfl⟩))
          obtain ⟨fo, fe0, fe1⟩ := FO.out
          refine bodyPost_ret (v := .tuple #[.agg #[.slice none 0 0, .slice none 0 0], .bool false]) (by simp [results, Try.results18, go_sem, fe0, fe1]) rfl ?_
          rw [HS.out]
          exact ⟨_, _, _, _, _, _, fo, rfl, fun y hy => by cases hy⟩
        have HA := Lib.hid (decide_eq_true ha)
        by_cases hb : 1 < b.length
        case neg =>
          have HB := Lib.hid (decide_eq_false hb)
          have HS : Hid (l2R (1010 :: r) (a :: b :: c :: s3) = none) := Lib.hid (by simp [l2R, opR, opR1, opR2, opR3, ha, hb])
          clear ha hb
          have FR := Lib.hid X.out.2.1
          obtain ⟨fc1, fc2, ff1, ff2⟩ := FR.out.two
          obtain ⟨fe0, fe1⟩ := FR.out.two_out (x := .slice none 0 0) (y := .slice none 0 0)
          have FO := Lib.hid (And.intro (fail_below X.out.2.2.2.2.2 (.slice none 0 0) (.slice none 0 0)) (And.intro fe0 fe1)); clear fe0 fe1
          go_wp2_with (first | (go_at_call 48; refine (l2Is_any _ a _ HUA.out true HA.out).mono ?_; rintro e w' ⟨rfl, rfl⟩) | (go_at_call 48; refine (l2Is_any _ b _ HUB.out false HB.out).mono ?_; rintro e w' ⟨rfl, rfl⟩) | (go_at_call 50; refine (l1In_any 1010 1006 1009 _).mono ?_; rintro e w' ⟨rfl, rfl⟩))
          obtain ⟨fo, fe0, fe1⟩ := FO.out
          refine bodyPost_ret (v := .tuple #[.agg #[.slice none 0 0, .slice none 0 0], .bool false]) (by simp [results, Try.results18, go_sem, fe0, fe1]) rfl ?_
          rw [HS.out]
          exact ⟨_, _, _, _, _, _, fo, rfl, fun y hy => by cases hy⟩
        have HB := Lib.hid (decide_eq_true hb)
        have hc : 1 < c.length := by
          rcases Nat.lt_or_ge 1 c.length with h | h
          · exact h
          · exact absurd ⟨ha, hb, by omega⟩ hno
        have HC := Lib.hid (decide_eq_true hc)
        clear hno
        have HS : Hid (l2R (1010 :: r) (a :: b :: c :: s3) = none) := Lib.hid (by simp [l2R, opR, opR1, opR2, opR3, ha, hb, hc])
        clear ha hb hc
        have FR := Lib.hid X.out.2.1
        obtain ⟨fc1, fc2, ff1, ff2⟩ := FR.out.two
        obtain ⟨fe0, fe1⟩ := FR.out.two_out (x := .slice none 0 0) (y := .slice none 0 0)
        have FO := Lib.hid (And.intro (fail_below X.out.2.2.2.2.2 (.slice none 0 0) (.slice none 0 0)) (And.intro fe0 fe1)); clear fe0 fe1
        go_wp2_with (first | (go_at_call 48; refine (l2Is_any _ a _ HUA.out true HA.out).mono ?_; rintro e w' ⟨rfl, rfl⟩) | (go_at_call 48; refine (l2Is_any _ b _ HUB.out true HB.out).mono ?_; rintro e w' ⟨rfl, rfl⟩) | (go_at_call 48; refine (l2Is_any _ c _ HUC.out true HC.out).mono ?_; rintro e w' ⟨rfl, rfl⟩) | (go_at_call 50; refine (l1In_any 1010 1006 1009 _).mono ?_; rintro e w' ⟨rfl, rfl⟩))
        obtain ⟨fo, fe0, fe1⟩ := FO.out
        refine bodyPost_ret (v := .tuple #[.agg #[.slice none 0 0, .slice none 0 0], .bool false]) (by simp [results, Try.results18, go_sem, fe0, fe1]) rfl ?_
        rw [HS.out]
        exact ⟨_, _, _, _, _, _, fo, rfl, fun y hy => by cases hy⟩)
end Go.Proofs.Ytenaeiedoiepdaa
namespace Go.Proofs.Ytenaeiedoiepdaa
set_option maxRecDepth 100000
open Go.RowKit Go.WideShapes

set_option maxHeartbeats 8000000 in
theorem step_S_if1 (v0 v1 : Value) (r : List Int) (st : List (List Int)) (w : World) (h0 : RdI w v0 (1010 :: r)) (h1 : RdS w v1 st.reverse) (hl : r.length ≤ 1048576) (hok : okS (1010 :: r) st) (a b c : List Int) (s3 : List (List Int)) (hst : Hid (st = a :: b :: c :: s3)) (Ha : Hid (1 < a.length)) (Hb : Hid (1 < b.length)) (Hc : Hid (¬ 1 < c.length)) (Hk : Hid (0 < c.getD 0 0)) :
    Calls Try.prog 18 #[.agg #[v0, v1]] w (StepPost w (l2R (1010 :: r) st)) := by
  have hsl := (stackB_all hok.2).1
  have hsv := fun v (hv : v ∈ st.reverse) => Nat.le_trans (valueB_len ((stackB_all hok.2).2 v (List.mem_reverse.1 hv))).2 (show 60 ≤ 1000000 by omega)
  have hlz : st.reverse.length ≤ 20 := by simpa using hsl
  generalize hzs : st.reverse = zss at *
  have HZ := Lib.hid hzs; clear hzs
  have HV := Lib.hid hsv; clear hsv
  have Hok := Lib.hid hok; clear hok
  have B2 : Below w.heap.size w ((w.alloc (.cells #[v0, v1] 26)).alloc (.cells #[.slice none 0 0, .slice none 0 0] 26)) := ((Below.refl _ _).alloc (Nat.le_refl _) _).alloc (by simp) _
  have B3 : Below w.heap.size w (((w.alloc (.cells #[v0, v1] 26)).alloc (.cells #[.slice none 0 0, .slice none 0 0] 26)).alloc (.cells #[] 3)) := B2.alloc (by simp; omega) _
  have H0 := Lib.hid h0.at_
  have H1 := Lib.hid h1.at_
  obtain ⟨A0, c0, rfl, hi0, hc0⟩ := h0
  obtain ⟨b0, o0, rfl, hb0, hcc0⟩ := hi0.at_ (by simp)
  obtain ⟨A1, c1, rfl, _⟩ := h1
  have hcell := hcc0 0 (by simp)
  simp only [List.length_cons] at hc0
  rw [Nat.add_zero] at hcell
  replace hcell := (B2.cell (p := ⟨b0, o0, none⟩) hb0).trans hcell
  simp only [List.getD_cons_zero, List.length_cons] at hcell
  have ht0 : RdI w (.slice (some ⟨b0, o0 + 1, none⟩) r.length (c0 - 1)) r := by
    have h1 := hi0.sub 1 r.length (by simp; omega)
    simp only [List.drop_succ_cons, List.drop_zero, List.take_length] at h1
    exact ⟨_, _, rfl, h1, by omega⟩
  have L1 : OwnI (((w.alloc (.cells #[.slice (some ⟨b0, o0, none⟩) (r.length + 1) c0, .slice A1 zss.length c1] 26)).alloc (.cells #[.slice none 0 0, .slice none 0 0] 26)).alloc (.cells #[] 3)) (w.heap.size + 1 + 1) (w.heap.size + 1 + 1 + 1) (.slice (some ⟨w.heap.size + 1 + 1, 0, none⟩) 0 0) [] := by simpa using lits_own ((w.alloc (.cells #[.slice (some ⟨b0, o0, none⟩) (r.length + 1) c0, .slice A1 zss.length c1] 26)).alloc (.cells #[.slice none 0 0, .slice none 0 0] 26)) [] (by simp) (by simp)
  have Y := Lib.hid (And.intro (RdI.step ht0 B3) (And.intro L1 B3))
  clear L1 B2 B3 hcc0 hi0 ht0
  have hcc : c0 = 1 ∨ 2 ≤ c0 := by omega
  rcases hcc with rfl | hc2
  all_goals go_enter Try.func18, Try.ntmps18
  all_goals go_wp2_with (at_builtin; (refine wpList_append_V rfl _ _ _ rfl Try.underlying23 intInfo (w.heap.size + 1 + 1) (w.heap.size + 1 + 1 + 1) _ [] rfl Y.out.2.1 (by simp) _ r rfl (by first | exact Y.out.1 | exact rd_nil (by omega) (by omega)) (by simp; omega) ?_))
  all_goals (
    intro v2 w2 ho2 hb2
    obtain ⟨k1, k2, k3, k4⟩ := blks hb2
    obtain ⟨p1, p2, -, -⟩ := k1.two
    have Z := Lib.hid (And.intro k1 (And.intro k2 (And.intro k3 ho2))); clear k1 k2 k3 ho2 hb2 Y hcell
    go_wp2_with fail
    refine (l2Copy_any _ zss _ ((H1.out.below Z.out.2.2.1).rd (by omega)) (by omega) HV.out).mono ?_
    rintro e w3 ⟨u, rfl, ho3, hb3⟩
    have hz3 : w2.heap.size ≤ w3.heap.size := hb3.size
    have X : Hid (Ahead w w3 w2.heap.size _ _ v2 u 1010 r zss) := Lib.hid ⟨Z.out.1.below hb3 (by omega), Z.out.2.1.below hb3 (by omega), (H0.out.below Z.out.2.2.1).below (hb3.mono (by omega)), Z.out.2.2.2.below hb3, ho3, Z.out.2.2.1.trans (hb3.mono (by omega))⟩
    clear Z ho3 hb3 p1 p2
    have q := X.out.1.two
    obtain ⟨q1, q2, -, -⟩ := q
    obtain ⟨Au, cu, rfl, _⟩ := X.out.2.2.2.2.1.rd
    obtain ⟨Ar, cr, rfl, _⟩ := X.out.2.2.2.1.rd
    have hm2 : w.heap.size + 1 + 1 ≤ w2.heap.size := by omega
    have hst1 := hst.out
    subst hst1
    have ha := Ha.out
    have hb := Hb.out
    have hc := Hc.out
    have hn2 : 2 ≤ zss.length := by rw [← HZ.out]; simp
    have HZa : Hid (zss[zss.length - 1]? = some a) := Lib.hid (by rw [← HZ.out]; simp)
    have HZb : Hid (zss[zss.length - 2]? = some b) := Lib.hid (by rw [← HZ.out]; simp)
    have hne0 : ((zss.length : Int) == 0) = false := by rw [beq_eq_false_iff_ne]; omega
    have hne1 : ((zss.length : Int) == 1) = false := by rw [beq_eq_false_iff_ne]; omega
    have hcap := X.out.2.2.2.2.1.cap2
    have hva := (stackB_all Hok.out.2).2 a List.mem_cons_self
    have hvb := (stackB_all Hok.out.2).2 b (List.mem_cons_of_mem _ List.mem_cons_self)
    have HVA := Lib.hid hva; clear hva
    have HVB := Lib.hid hvb; clear hvb
    obtain ⟨g, b_g, ua, hAu, hgl, hca, hua⟩ := X.out.2.2.2.2.1.at1 HZa.out
    obtain ⟨g', b_g', ub, hAu', -, hcb, hub⟩ := X.out.2.2.2.2.1.at1 HZb.out
    subst hAu
    obtain rfl : g = g' := by cases hAu'; rfl
    clear hAu'
    have HUA := Lib.hid hua; clear hua
    have HUB := Lib.hid hub; clear hub
    have hal := (valueB_len HVA.out).2
    have hbl := (valueB_len HVB.out).2
    have hne2 : ((zss.length : Int) == 2) = false := by rw [← HZ.out, beq_eq_false_iff_ne]; simp; omega
    have hn3 : 3 ≤ zss.length := by rw [← HZ.out]; simp
    have HZ3 : Hid (zss.take (zss.length - 3) = s3.reverse) := Lib.hid (by rw [← HZ.out]; simp)
    have HZc : Hid (zss[zss.length - 3]? = some c) := Lib.hid (by rw [← HZ.out]; simp)
    have hvc := (stackB_all Hok.out.2).2 c (List.mem_cons_of_mem _ (List.mem_cons_of_mem _ List.mem_cons_self))
    have HVC := Lib.hid hvc; clear hvc
    obtain ⟨g', b_g', uc, hAu', -, hcc, huc⟩ := X.out.2.2.2.2.1.at1 HZc.out
    obtain rfl : g = g' := by cases hAu'; rfl
    clear hAu'
    have HUC := Lib.hid huc; clear huc
    have HA := Lib.hid (decide_eq_true ha)
    have HB := Lib.hid (decide_eq_true hb)
    obtain ⟨hcv, k0, k9⟩ := num_of_value HVC.out hc
    have hk := Hk.out
    generalize c.getD 0 0 = k at *
    subst hcv
    obtain ⟨Aa, ca, rfl, _⟩ := HUA.out
    obtain ⟨Ab, cb, rfl, _⟩ := HUB.out
    obtain ⟨Ac, ccc, rfl, hic, _⟩ := HUC.out
    obtain ⟨bc, oc, rfl, hbc, hccc⟩ := hic.at_ (by simp)
    have hnc := hccc 0 (by simp)
    rw [Nat.add_zero] at hnc
    simp only [List.getD_cons_zero] at hnc
    clear hccc hic hc
    have hila : (inside a).length ≤ 60 := Nat.le_trans inside_len hal
    have hilb : (inside b).length ≤ 60 := Nat.le_trans inside_len hbl
    have ht := Lib.hid (X.out.2.2.2.2.1.take (zss.length - 3) (by omega) (Nat.le_refl _))
    rw [HZ3.out] at ht
    have HS : Hid (l2R (1010 :: r) (a :: b :: [k] :: s3) = some (inside b ++ r, s3)) := Lib.hid (by simp [l2R, opR, opR1, opR2, opR3, ha, hb, hk])
    go_wp2_with (first | (go_at_call 50; refine (l1In_any 1010 1006 1009 _).mono ?_; rintro e w' ⟨rfl, rfl⟩) | (go_at_call 48; refine (l2Is_any _ [k] _ HUC.out false rfl).mono ?_; rintro e w' ⟨rfl, rfl⟩) | (go_at_call 48; refine (l2Is_any _ a _ HUA.out true HA.out).mono ?_; rintro e w' ⟨rfl, rfl⟩) | (go_at_call 48; refine (l2Is_any _ b _ HUB.out true HB.out).mono ?_; rintro e w' ⟨rfl, rfl⟩))
    refine (l2Body_any _ a _ HUA.out (by omega)).mono ?_
    rintro e w4 ⟨ua4, rfl, ho4, hb4⟩
    have hz4 : w3.heap.size ≤ w4.heap.size := hb4.size
    have hcb4 := (hb4.cell (p := ⟨g, zss.length - 2, none⟩) hgl).trans hcb
    have hcc4 := (hb4.cell (p := ⟨g, zss.length - 3, none⟩) hgl).trans hcc
    have hnc4 := (hb4.cell (p := ⟨bc, oc, none⟩) hbc).trans hnc
    have HU4 := Lib.hid (RdI.step HUB.out hb4)
    have HB4 := Lib.hid hb4
    clear ho4 hb4
    go_wp2_with fail
    refine (l2Body_any _ b _ HU4.out (by omega)).mono ?_
    rintro e w9 ⟨ub5, rfl, ho5, hb5⟩
    have hzx : w3.heap.size ≤ w9.heap.size := Nat.le_trans hz4 hb5.size
    have hbx : Below w3.heap.size w3 w9 := HB4.out.trans (hb5.mono hz4)
    go_wp2_with fail
    have hd : Below w9.heap.size w9 w9.drew := (Below.refl _ _).drew
    have hE4 : Below w3.heap.size w3 w9.drew := hbx.trans (hd.mono hzx)
    have HD := Lib.hid (And.intro ((ho5.below hd).low (lo := w3.heap.size) (by omega)) (And.intro (X.out.2.2.2.1.below hE4).rd hE4))
    obtain ⟨zs5, hzs5⟩ : ∃ zs5, zs5 = inside b ++ r := ⟨_, rfl⟩
    have HZ5 := Lib.hid hzs5
    clear hd ho5 hbx hE4 hzs5
    have l23 : (3 : Int) ≤ (zss.length : Int) := by omega
    have l33 : (zss.length : Int) - 3 ≤ (cu : Int) := by omega
    have l53 : (zss.length : Int) - 3 < (zss.length : Int) := by omega
    have l73 : ((zss.length : Int) - 3).toNat = zss.length - 3 := by omega
    have l93 : (0 : Int) ≤ (zss.length : Int) - 3 := by omega
    have m23 : IntKind.i64.wrap ((zss.length : Int) - 3) = (zss.length : Int) - 3 := IntWalk.i64_in _ (by omega)
    go_region_law (refine step_append_V rfl _ _ _ rfl Try.underlying23 intInfo w3.heap.size w9.heap.size ub5 (inside b) (by kernel_rfl) HD.out.1 (by first | omega | (simp; omega)) (.slice Ar r.length cr) r (by kernel_rfl) HD.out.2.1 (by omega) ?_; intro v5 w5 ho5 hb5; rw [← HZ5.out] at ho5; obtain ⟨A5, k5, rfl, _⟩ := ho5.rd; generalize hl5 : zs5.length = n5 at ho5 ⊢; have hE : Below w3.heap.size w3 w5 := HD.out.2.2.trans hb5; have O := Lib.hid (end_gen (X.out.2.1.below hE X.out.2.1.lt) (ho5.low (by omega)) ((ht.out.below hE).mono hm2) (X.out.2.2.2.2.2.trans (hE.mono X.out.2.2.2.2.2.size))); obtain ⟨fc1, fc2, ff1, ff2⟩ := O.out.2.2.2.2.2; clear ho5 hb5 hl5 hE)
    clear l23 l33 l53 l73 l93 m23
    clear X ht HD
    all_goals go_wp2
    all_goals obtain ⟨fo1, fo2, fo3, fe0, fe1, -⟩ := O.out
    all_goals refine bodyPost_ret (v := .tuple #[.agg #[.slice A5 n5 k5, .slice (some ⟨g, 0, none⟩) (zss.length - 3) cu], .bool true]) (by simp [results, Try.results18, go_sem, fe0, fe1]) rfl ?_
    all_goals rw [HS.out]
    all_goals refine ⟨_, _, _, _, _, _, fo3, rfl, fun y hy => ?_⟩
    all_goals cases hy
    all_goals exact ⟨by rw [← HZ5.out]; exact fo1, fo2⟩)
end Go.Proofs.Ytenaeiedoiepdaa
namespace Go.Proofs.Ytenaeiedoiepdaa
set_option maxRecDepth 100000
open Go.RowKit Go.WideShapes

set_option maxHeartbeats 8000000 in
theorem step_S_if2 (v0 v1 : Value) (r : List Int) (st : List (List Int)) (w : World) (h0 : RdI w v0 (1010 :: r)) (h1 : RdS w v1 st.reverse) (hl : r.length ≤ 1048576) (hok : okS (1010 :: r) st) (a b c : List Int) (s3 : List (List Int)) (hst : Hid (st = a :: b :: c :: s3)) (Ha : Hid (1 < a.length)) (Hb : Hid (1 < b.length)) (Hc : Hid (¬ 1 < c.length)) (Hk : Hid (c.getD 0 0 ≤ 0)) :
    Calls Try.prog 18 #[.agg #[v0, v1]] w (StepPost w (l2R (1010 :: r) st)) := by
  have hsl := (stackB_all hok.2).1
  have hsv := fun v (hv : v ∈ st.reverse) => Nat.le_trans (valueB_len ((stackB_all hok.2).2 v (List.mem_reverse.1 hv))).2 (show 60 ≤ 1000000 by omega)
  have hlz : st.reverse.length ≤ 20 := by simpa using hsl
  generalize hzs : st.reverse = zss at *
  have HZ := Lib.hid hzs; clear hzs
  have HV := Lib.hid hsv; clear hsv
  have Hok := Lib.hid hok; clear hok
  have B2 : Below w.heap.size w ((w.alloc (.cells #[v0, v1] 26)).alloc (.cells #[.slice none 0 0, .slice none 0 0] 26)) := ((Below.refl _ _).alloc (Nat.le_refl _) _).alloc (by simp) _
  have B3 : Below w.heap.size w (((w.alloc (.cells #[v0, v1] 26)).alloc (.cells #[.slice none 0 0, .slice none 0 0] 26)).alloc (.cells #[] 3)) := B2.alloc (by simp; omega) _
  have H0 := Lib.hid h0.at_
  have H1 := Lib.hid h1.at_
  obtain ⟨A0, c0, rfl, hi0, hc0⟩ := h0
  obtain ⟨b0, o0, rfl, hb0, hcc0⟩ := hi0.at_ (by simp)
  obtain ⟨A1, c1, rfl, _⟩ := h1
  have hcell := hcc0 0 (by simp)
  simp only [List.length_cons] at hc0
  rw [Nat.add_zero] at hcell
  replace hcell := (B2.cell (p := ⟨b0, o0, none⟩) hb0).trans hcell
  simp only [List.getD_cons_zero, List.length_cons] at hcell
  have ht0 : RdI w (.slice (some ⟨b0, o0 + 1, none⟩) r.length (c0 - 1)) r := by
    have h1 := hi0.sub 1 r.length (by simp; omega)
    simp only [List.drop_succ_cons, List.drop_zero, List.take_length] at h1
    exact ⟨_, _, rfl, h1, by omega⟩
  have L1 : OwnI (((w.alloc (.cells #[.slice (some ⟨b0, o0, none⟩) (r.length + 1) c0, .slice A1 zss.length c1] 26)).alloc (.cells #[.slice none 0 0, .slice none 0 0] 26)).alloc (.cells #[] 3)) (w.heap.size + 1 + 1) (w.heap.size + 1 + 1 + 1) (.slice (some ⟨w.heap.size + 1 + 1, 0, none⟩) 0 0) [] := by simpa using lits_own ((w.alloc (.cells #[.slice (some ⟨b0, o0, none⟩) (r.length + 1) c0, .slice A1 zss.length c1] 26)).alloc (.cells #[.slice none 0 0, .slice none 0 0] 26)) [] (by simp) (by simp)
  have Y := Lib.hid (And.intro (RdI.step ht0 B3) (And.intro L1 B3))
  clear L1 B2 B3 hcc0 hi0 ht0
  have hcc : c0 = 1 ∨ 2 ≤ c0 := by omega
  rcases hcc with rfl | hc2
  all_goals go_enter Try.func18, Try.ntmps18
  all_goals go_wp2_with (at_builtin; (refine wpList_append_V rfl _ _ _ rfl Try.underlying23 intInfo (w.heap.size + 1 + 1) (w.heap.size + 1 + 1 + 1) _ [] rfl Y.out.2.1 (by simp) _ r rfl (by first | exact Y.out.1 | exact rd_nil (by omega) (by omega)) (by simp; omega) ?_))
  all_goals (
    intro v2 w2 ho2 hb2
    obtain ⟨k1, k2, k3, k4⟩ := blks hb2
    obtain ⟨p1, p2, -, -⟩ := k1.two
    have Z := Lib.hid (And.intro k1 (And.intro k2 (And.intro k3 ho2))); clear k1 k2 k3 ho2 hb2 Y hcell
    go_wp2_with fail
    refine (l2Copy_any _ zss _ ((H1.out.below Z.out.2.2.1).rd (by omega)) (by omega) HV.out).mono ?_
    rintro e w3 ⟨u, rfl, ho3, hb3⟩
    have hz3 : w2.heap.size ≤ w3.heap.size := hb3.size
    have X : Hid (Ahead w w3 w2.heap.size _ _ v2 u 1010 r zss) := Lib.hid ⟨Z.out.1.below hb3 (by omega), Z.out.2.1.below hb3 (by omega), (H0.out.below Z.out.2.2.1).below (hb3.mono (by omega)), Z.out.2.2.2.below hb3, ho3, Z.out.2.2.1.trans (hb3.mono (by omega))⟩
    clear Z ho3 hb3 p1 p2
    have q := X.out.1.two
    obtain ⟨q1, q2, -, -⟩ := q
    obtain ⟨Au, cu, rfl, _⟩ := X.out.2.2.2.2.1.rd
    obtain ⟨Ar, cr, rfl, _⟩ := X.out.2.2.2.1.rd
    have hm2 : w.heap.size + 1 + 1 ≤ w2.heap.size := by omega
    have hst1 := hst.out
    subst hst1
    have ha := Ha.out
    have hb := Hb.out
    have hc := Hc.out
    have hn2 : 2 ≤ zss.length := by rw [← HZ.out]; simp
    have HZa : Hid (zss[zss.length - 1]? = some a) := Lib.hid (by rw [← HZ.out]; simp)
    have HZb : Hid (zss[zss.length - 2]? = some b) := Lib.hid (by rw [← HZ.out]; simp)
    have hne0 : ((zss.length : Int) == 0) = false := by rw [beq_eq_false_iff_ne]; omega
    have hne1 : ((zss.length : Int) == 1) = false := by rw [beq_eq_false_iff_ne]; omega
    have hcap := X.out.2.2.2.2.1.cap2
    have hva := (stackB_all Hok.out.2).2 a List.mem_cons_self
    have hvb := (stackB_all Hok.out.2).2 b (List.mem_cons_of_mem _ List.mem_cons_self)
    have HVA := Lib.hid hva; clear hva
    have HVB := Lib.hid hvb; clear hvb
    obtain ⟨g, b_g, ua, hAu, hgl, hca, hua⟩ := X.out.2.2.2.2.1.at1 HZa.out
    obtain ⟨g', b_g', ub, hAu', -, hcb, hub⟩ := X.out.2.2.2.2.1.at1 HZb.out
    subst hAu
    obtain rfl : g = g' := by cases hAu'; rfl
    clear hAu'
    have HUA := Lib.hid hua; clear hua
    have HUB := Lib.hid hub; clear hub
    have hal := (valueB_len HVA.out).2
    have hbl := (valueB_len HVB.out).2
    have hne2 : ((zss.length : Int) == 2) = false := by rw [← HZ.out, beq_eq_false_iff_ne]; simp; omega
    have hn3 : 3 ≤ zss.length := by rw [← HZ.out]; simp
    have HZ3 : Hid (zss.take (zss.length - 3) = s3.reverse) := Lib.hid (by rw [← HZ.out]; simp)
    have HZc : Hid (zss[zss.length - 3]? = some c) := Lib.hid (by rw [← HZ.out]; simp)
    have hvc := (stackB_all Hok.out.2).2 c (List.mem_cons_of_mem _ (List.mem_cons_of_mem _ List.mem_cons_self))
    have HVC := Lib.hid hvc; clear hvc
    obtain ⟨g', b_g', uc, hAu', -, hcc, huc⟩ := X.out.2.2.2.2.1.at1 HZc.out
    obtain rfl : g = g' := by cases hAu'; rfl
    clear hAu'
    have HUC := Lib.hid huc; clear huc
    have HA := Lib.hid (decide_eq_true ha)
    have HB := Lib.hid (decide_eq_true hb)
    obtain ⟨hcv, k0, k9⟩ := num_of_value HVC.out hc
    have hk := Hk.out
    generalize c.getD 0 0 = k at *
    subst hcv
    obtain ⟨Aa, ca, rfl, _⟩ := HUA.out
    obtain ⟨Ab, cb, rfl, _⟩ := HUB.out
    obtain ⟨Ac, ccc, rfl, hic, _⟩ := HUC.out
    obtain ⟨bc, oc, rfl, hbc, hccc⟩ := hic.at_ (by simp)
    have hnc := hccc 0 (by simp)
    rw [Nat.add_zero] at hnc
    simp only [List.getD_cons_zero] at hnc
    clear hccc hic hc
    have hila : (inside a).length ≤ 60 := Nat.le_trans inside_len hal
    have hilb : (inside b).length ≤ 60 := Nat.le_trans inside_len hbl
    have ht := Lib.hid (X.out.2.2.2.2.1.take (zss.length - 3) (by omega) (Nat.le_refl _))
    rw [HZ3.out] at ht
    have hk0 : k ≤ 0 := hk
    have HS : Hid (l2R (1010 :: r) (a :: b :: [k] :: s3) = some (inside a ++ r, s3)) := Lib.hid (by simp [l2R, opR, opR1, opR2, opR3, ha, hb, show ¬ 0 < k by omega])
    go_wp2_with (first | (go_at_call 50; refine (l1In_any 1010 1006 1009 _).mono ?_; rintro e w' ⟨rfl, rfl⟩) | (go_at_call 48; refine (l2Is_any _ [k] _ HUC.out false rfl).mono ?_; rintro e w' ⟨rfl, rfl⟩) | (go_at_call 48; refine (l2Is_any _ a _ HUA.out true HA.out).mono ?_; rintro e w' ⟨rfl, rfl⟩) | (go_at_call 48; refine (l2Is_any _ b _ HUB.out true HB.out).mono ?_; rintro e w' ⟨rfl, rfl⟩))
    refine (l2Body_any _ a _ HUA.out (by omega)).mono ?_
    rintro e w4 ⟨ua4, rfl, ho4, hb4⟩
    have hzx : w3.heap.size ≤ w4.heap.size := hb4.size
    have hcc4 := (hb4.cell (p := ⟨g, zss.length - 3, none⟩) hgl).trans hcc
    have hnc4 := (hb4.cell (p := ⟨bc, oc, none⟩) hbc).trans hnc
    have hbx : Below w3.heap.size w3 w4 := hb4
    go_wp2_with fail
    have hd : Below w4.heap.size w4 w4.drew := (Below.refl _ _).drew
    have hE4 : Below w3.heap.size w3 w4.drew := hbx.trans (hd.mono hzx)
    have HD := Lib.hid (And.intro ((ho4.below hd).low (lo := w3.heap.size) (by omega)) (And.intro (X.out.2.2.2.1.below hE4).rd hE4))
    obtain ⟨zs5, hzs5⟩ : ∃ zs5, zs5 = inside a ++ r := ⟨_, rfl⟩
    have HZ5 := Lib.hid hzs5
    clear hd ho4 hbx hE4 hzs5
    have l23 : (3 : Int) ≤ (zss.length : Int) := by omega
    have l33 : (zss.length : Int) - 3 ≤ (cu : Int) := by omega
    have l53 : (zss.length : Int) - 3 < (zss.length : Int) := by omega
    have l73 : ((zss.length : Int) - 3).toNat = zss.length - 3 := by omega
    have l93 : (0 : Int) ≤ (zss.length : Int) - 3 := by omega
    have m23 : IntKind.i64.wrap ((zss.length : Int) - 3) = (zss.length : Int) - 3 := IntWalk.i64_in _ (by omega)
    go_region_law (refine step_append_V rfl _ _ _ rfl Try.underlying23 intInfo w3.heap.size w4.heap.size ua4 (inside a) (by kernel_rfl) HD.out.1 (by first | omega | (simp; omega)) (.slice Ar r.length cr) r (by kernel_rfl) HD.out.2.1 (by omega) ?_; intro v5 w5 ho5 hb5; rw [← HZ5.out] at ho5; obtain ⟨A5, k5, rfl, _⟩ := ho5.rd; generalize hl5 : zs5.length = n5 at ho5 ⊢; have hE : Below w3.heap.size w3 w5 := HD.out.2.2.trans hb5; have O := Lib.hid (end_gen (X.out.2.1.below hE X.out.2.1.lt) (ho5.low (by omega)) ((ht.out.below hE).mono hm2) (X.out.2.2.2.2.2.trans (hE.mono X.out.2.2.2.2.2.size))); obtain ⟨fc1, fc2, ff1, ff2⟩ := O.out.2.2.2.2.2; clear ho5 hb5 hl5 hE)
    clear l23 l33 l53 l73 l93 m23
    clear X ht HD
    all_goals go_wp2
    all_goals obtain ⟨fo1, fo2, fo3, fe0, fe1, -⟩ := O.out
    all_goals refine bodyPost_ret (v := .tuple #[.agg #[.slice A5 n5 k5, .slice (some ⟨g, 0, none⟩) (zss.length - 3) cu], .bool true]) (by simp [results, Try.results18, go_sem, fe0, fe1]) rfl ?_
    all_goals rw [HS.out]
    all_goals refine ⟨_, _, _, _, _, _, fo3, rfl, fun y hy => ?_⟩
    all_goals cases hy
    all_goals exact ⟨by rw [← HZ5.out]; exact fo1, fo2⟩)
end Go.Proofs.Ytenaeiedoiepdaa
