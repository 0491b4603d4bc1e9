/- The model's step: call, dip. -/
import Derived.Test.YtenaeiedoiepdaaSb
import Derived.StillTailTactics
import Derived.Deep.RegionLaw
import Derived.Deep.RegionHeld3
import Derived.IntWalk
namespace Go.Proofs.Ytenaeiedoiepdaa
set_option maxRecDepth 100000
open Go.RowKit Go.WideShapes

set_option maxHeartbeats 2000000 in
theorem step_S_call (v0 v1 : Value) (r : List Int) (st : List (List Int)) (w : World) (h0 : RdI w v0 (1005 :: r)) (h1 : RdS w v1 st.reverse) (hl : r.length ≤ 1048576) (hok : okS (1005 :: r) st) :
    Calls Try.prog 18 #[.agg #[v0, v1]] w (StepPost w (l2R (1005 :: r) st)) := by
  have hsl := (stackB_all hok.2).1
  have hsv := fun v (hv : v ∈ st.reverse) => Nat.le_trans (valueB_len ((stackB_all hok.2).2 v (List.mem_reverse.1 hv))).2 (show 60 ≤ 1000000 by omega)
  have hlz : st.reverse.length ≤ 20 := by simpa using hsl
  generalize hzs : st.reverse = zss at *
  have HZ := Lib.hid hzs; clear hzs
  have HV := Lib.hid hsv; clear hsv
  have Hok := Lib.hid hok; clear hok
  have B2 : Below w.heap.size w ((w.alloc (.cells #[v0, v1] 26)).alloc (.cells #[.slice none 0 0, .slice none 0 0] 26)) := ((Below.refl _ _).alloc (Nat.le_refl _) _).alloc (by simp) _
  have B3 : Below w.heap.size w (((w.alloc (.cells #[v0, v1] 26)).alloc (.cells #[.slice none 0 0, .slice none 0 0] 26)).alloc (.cells #[] 3)) := B2.alloc (by simp; omega) _
  have H0 := Lib.hid h0.at_
  have H1 := Lib.hid h1.at_
  obtain ⟨A0, c0, rfl, hi0, hc0⟩ := h0
  obtain ⟨b0, o0, rfl, hb0, hcc0⟩ := hi0.at_ (by simp)
  obtain ⟨A1, c1, rfl, _⟩ := h1
  have hcell := hcc0 0 (by simp)
  simp only [List.length_cons] at hc0
  rw [Nat.add_zero] at hcell
  replace hcell := (B2.cell (p := ⟨b0, o0, none⟩) hb0).trans hcell
  simp only [List.getD_cons_zero, List.length_cons] at hcell
  have ht0 : RdI w (.slice (some ⟨b0, o0 + 1, none⟩) r.length (c0 - 1)) r := by
    have h1 := hi0.sub 1 r.length (by simp; omega)
    simp only [List.drop_succ_cons, List.drop_zero, List.take_length] at h1
    exact ⟨_, _, rfl, h1, by omega⟩
  have L1 : OwnI (((w.alloc (.cells #[.slice (some ⟨b0, o0, none⟩) (r.length + 1) c0, .slice A1 zss.length c1] 26)).alloc (.cells #[.slice none 0 0, .slice none 0 0] 26)).alloc (.cells #[] 3)) (w.heap.size + 1 + 1) (w.heap.size + 1 + 1 + 1) (.slice (some ⟨w.heap.size + 1 + 1, 0, none⟩) 0 0) [] := by simpa using lits_own ((w.alloc (.cells #[.slice (some ⟨b0, o0, none⟩) (r.length + 1) c0, .slice A1 zss.length c1] 26)).alloc (.cells #[.slice none 0 0, .slice none 0 0] 26)) [] (by simp) (by simp)
  have Y := Lib.hid (And.intro (RdI.step ht0 B3) (And.intro L1 B3))
  clear L1 B2 B3 hcc0 hi0 ht0
  have hcc : c0 = 1 ∨ 2 ≤ c0 := by omega
  rcases hcc with rfl | hc2
  all_goals go_enter Try.func18, Try.ntmps18
  all_goals go_wp2_with (at_builtin; (refine wpList_append_V rfl _ _ _ rfl Try.underlying23 intInfo (w.heap.size + 1 + 1) (w.heap.size + 1 + 1 + 1) _ [] rfl Y.out.2.1 (by simp) _ r rfl (by first | exact Y.out.1 | exact rd_nil (by omega) (by omega)) (by simp; omega) ?_))
  all_goals (
    intro v2 w2 ho2 hb2
    obtain ⟨k1, k2, k3, k4⟩ := blks hb2
    obtain ⟨p1, p2, -, -⟩ := k1.two
    have Z := Lib.hid (And.intro k1 (And.intro k2 (And.intro k3 ho2))); clear k1 k2 k3 ho2 hb2 Y hcell
    go_wp2_with fail
    refine (l2Copy_any _ zss _ ((H1.out.below Z.out.2.2.1).rd (by omega)) (by omega) HV.out).mono ?_
    rintro e w3 ⟨u, rfl, ho3, hb3⟩
    have hz3 : w2.heap.size ≤ w3.heap.size := hb3.size
    have X : Hid (Ahead w w3 w2.heap.size _ _ v2 u 1005 r zss) := Lib.hid ⟨Z.out.1.below hb3 (by omega), Z.out.2.1.below hb3 (by omega), (H0.out.below Z.out.2.2.1).below (hb3.mono (by omega)), Z.out.2.2.2.below hb3, ho3, Z.out.2.2.1.trans (hb3.mono (by omega))⟩
    clear Z ho3 hb3 p1 p2
    have q := X.out.1.two
    obtain ⟨q1, q2, -, -⟩ := q
    obtain ⟨Au, cu, rfl, _⟩ := X.out.2.2.2.2.1.rd
    obtain ⟨Ar, cr, rfl, _⟩ := X.out.2.2.2.1.rd
    have hm2 : w.heap.size + 1 + 1 ≤ w2.heap.size := by omega
    rcases st with _ | ⟨a, s1⟩
    · have HS : Hid (l2R (1005 :: r) [] = none) := Lib.hid (by simp [l2R, opR])
      have hne0 : ((zss.length : Int) == 0) = true := by rw [← HZ.out]; rfl
      have FR := Lib.hid X.out.2.1
      obtain ⟨fc1, fc2, ff1, ff2⟩ := FR.out.two
      obtain ⟨fe0, fe1⟩ := FR.out.two_out (x := .slice none 0 0) (y := .slice none 0 0)
      have FO := Lib.hid (And.intro (fail_below X.out.2.2.2.2.2 (.slice none 0 0) (.slice none 0 0)) (And.intro fe0 fe1)); clear fe0 fe1
      go_wp2
      obtain ⟨fo, fe0, fe1⟩ := FO.out
      refine bodyPost_ret (v := .tuple #[.agg #[.slice none 0 0, .slice none 0 0], .bool false]) (by simp [results, Try.results18, go_sem, fe0, fe1]) rfl ?_
      rw [HS.out]
      exact ⟨_, _, _, _, _, _, fo, rfl, fun y hy => by cases hy⟩
    · have hn1 : 1 ≤ zss.length := by rw [← HZ.out]; simp
      have HZ1 : Hid (zss.take (zss.length - 1) = s1.reverse) := Lib.hid (by rw [← HZ.out]; simp)
      have hne0 : ((zss.length : Int) == 0) = false := by rw [beq_eq_false_iff_ne]; omega
      have hcap := X.out.2.2.2.2.1.cap2
      obtain ⟨g, b_g, ua, hAu, hgl, hca, hua⟩ := X.out.2.2.2.2.1.at1 (j := zss.length - 1) (zs := a) (by rw [← HZ.out]; simp)
      subst hAu
      have hal := (valueB_len ((stackB_all Hok.out.2).2 a List.mem_cons_self)).2
      have HUA := Lib.hid hua; clear hua
      by_cases ha : 1 < a.length
      · have HS : Hid (l2R (1005 :: r) (a :: s1) = some (inside a ++ r, s1)) := Lib.hid (by simp [l2R, opR, opR1, ha])
        obtain ⟨Aa, ca, rfl, _⟩ := HUA.out
        have HA := Lib.hid (decide_eq_true ha)
        have hil : (inside a).length ≤ 60 := Nat.le_trans inside_len hal
        have hd : Below w3.heap.size w3 w3.drew := (Below.refl _ _).drew
        have HUD := Lib.hid (RdI.step HUA.out hd)
        have XD := Lib.hid X.out.drew; clear X hd
        have ht := Lib.hid (XD.out.2.2.2.2.1.take (zss.length - 1) (by omega) (Nat.le_refl _))
        go_wp2_with (go_at_call 48; refine (l2Is_any _ a _ HUA.out true HA.out).mono ?_; rintro e w' ⟨rfl, rfl⟩)
        have l2 : (1 : Int) ≤ (zss.length : Int) := by omega
        have l3 : (zss.length : Int) - 1 ≤ (cu : Int) := by omega
        have l5 : (zss.length : Int) - 1 < (zss.length : Int) := by omega
        have l7 : ((zss.length : Int) - 1).toNat = zss.length - 1 := by omega
        have l9 : (0 : Int) ≤ (zss.length : Int) - 1 := by omega
        have m2 : IntKind.i64.wrap ((zss.length : Int) - 1) = (zss.length : Int) - 1 := IntWalk.i64_in _ (by omega)
        go_region_law (first
          | (refine step_append_V rfl _ _ _ rfl Try.underlying23 intInfo w3.heap.size w4.heap.size _ (inside a) rfl ho4 (by omega) _ r rfl ((XD.out.2.2.2.1.below hb4).rd) (by omega) ?_; intro v5 w5 ho5 hb5; obtain ⟨A5, k5, rfl, _⟩ := ho5.rd; generalize hl5 : (inside a ++ r).length = n5 at *; have hE : Below w3.drew.heap.size w3.drew w5 := hb4.trans hb5; have O := Lib.hid (end_gen (XD.out.2.1.below hE XD.out.2.1.lt) (ho5.low (by omega)) ((ht.out.below hE).mono hm2) (XD.out.2.2.2.2.2.trans (hE.mono XD.out.2.2.2.2.2.size))); obtain ⟨fc1, fc2, ff1, ff2⟩ := O.out.2.2.2.2.2; clear ho5 hb5 hl5 hE)
          | (go_simp; go_at_call 49; refine (l2Body_any _ a _ HUD.out (by omega)).mono ?_; rintro e w4 ⟨ub, rfl, ho4, hb4⟩; have hz4 : w3.heap.size ≤ w4.heap.size := hb4.size))
        clear l2 l3 l5 l7 l9 m2 XD ht HUD
        all_goals go_wp2
        all_goals obtain ⟨fo1, fo2, fo3, fe0, fe1, -⟩ := O.out
        all_goals refine bodyPost_ret (v := .tuple #[.agg #[.slice A5 n5 k5, .slice (some ⟨g, 0, none⟩) (zss.length - 1) cu], .bool true]) (by simp [results, Try.results18, go_sem, fe0, fe1]) rfl ?_
        all_goals rw [HS.out]
        all_goals refine ⟨_, _, _, _, _, _, fo3, rfl, fun y hy => ?_⟩
        all_goals cases hy
        all_goals exact ⟨fo1, by rw [← HZ1.out]; exact fo2⟩
      · have HA := Lib.hid (decide_eq_false ha)
        rcases s1 with _ | ⟨b, s2⟩
        · have HS : Hid (l2R (1005 :: r) [a] = none) := Lib.hid (by simp [l2R, opR, opR1, ha])
          have hne1 : ((zss.length : Int) == 1) = true := by rw [← HZ.out]; rfl
          clear ha
          have FR := Lib.hid X.out.2.1
          obtain ⟨fc1, fc2, ff1, ff2⟩ := FR.out.two
          obtain ⟨fe0, fe1⟩ := FR.out.two_out (x := .slice none 0 0) (y := .slice none 0 0)
          have FO := Lib.hid (And.intro (fail_below X.out.2.2.2.2.2 (.slice none 0 0) (.slice none 0 0)) (And.intro fe0 fe1)); clear fe0 fe1
          go_wp2_with (first | (go_at_call 48; refine (l2Is_any _ a _ HUA.out false HA.out).mono ?_; rintro e w' ⟨rfl, rfl⟩) | (go_at_call 50; refine (l1In_any 1005 1006 1009 _).mono ?_; rintro e w' ⟨rfl, rfl⟩))
          obtain ⟨fo, fe0, fe1⟩ := FO.out
          refine bodyPost_ret (v := .tuple #[.agg #[.slice none 0 0, .slice none 0 0], .bool false]) (by simp [results, Try.results18, go_sem, fe0, fe1]) rfl ?_
          rw [HS.out]
          exact ⟨_, _, _, _, _, _, fo, rfl, fun y hy => by cases hy⟩
        · have hne1 : ((zss.length : Int) == 1) = false := by rw [← HZ.out, beq_eq_false_iff_ne]; simp; omega
          rcases s2 with _ | ⟨c, s3⟩
          · have HS : Hid (l2R (1005 :: r) [a, b] = none) := Lib.hid (by simp [l2R, opR, opR1, opR2, ha])
            have hne2 : ((zss.length : Int) == 2) = true := by rw [← HZ.out]; rfl
            clear ha
            have FR := Lib.hid X.out.2.1
            obtain ⟨fc1, fc2, ff1, ff2⟩ := FR.out.two
            obtain ⟨fe0, fe1⟩ := FR.out.two_out (x := .slice none 0 0) (y := .slice none 0 0)
            have FO := Lib.hid (And.intro (fail_below X.out.2.2.2.2.2 (.slice none 0 0) (.slice none 0 0)) (And.intro fe0 fe1)); clear fe0 fe1
            go_wp2_with (first | (go_at_call 48; refine (l2Is_any _ a _ HUA.out false HA.out).mono ?_; rintro e w' ⟨rfl, rfl⟩) | (go_at_call 50; refine (l1In_any 1005 1006 1009 _).mono ?_; rintro e w' ⟨rfl, rfl⟩))
            obtain ⟨fo, fe0, fe1⟩ := FO.out
            refine bodyPost_ret (v := .tuple #[.agg #[.slice none 0 0, .slice none 0 0], .bool false]) (by simp [results, Try.results18, go_sem, fe0, fe1]) rfl ?_
            rw [HS.out]
            exact ⟨_, _, _, _, _, _, fo, rfl, fun y hy => by cases hy⟩
          · have HS : Hid (l2R (1005 :: r) (a :: b :: c :: s3) = none) := Lib.hid (by simp [l2R, opR, opR1, opR2, opR3, ha])
            have hne2 : ((zss.length : Int) == 2) = false := by rw [← HZ.out, beq_eq_false_iff_ne]; simp; omega
            clear ha
            have FR := Lib.hid X.out.2.1
            obtain ⟨fc1, fc2, ff1, ff2⟩ := FR.out.two
            obtain ⟨fe0, fe1⟩ := FR.out.two_out (x := .slice none 0 0) (y := .slice none 0 0)
            have FO := Lib.hid (And.intro (fail_below X.out.2.2.2.2.2 (.slice none 0 0) (.slice none 0 0)) (And.intro fe0 fe1)); clear fe0 fe1
            go_wp2_with (first | (go_at_call 48; refine (l2Is_any _ a _ HUA.out false HA.out).mono ?_; rintro e w' ⟨rfl, rfl⟩) | (go_at_call 50; refine (l1In_any 1005 1006 1009 _).mono ?_; rintro e w' ⟨rfl, rfl⟩))
            obtain ⟨fo, fe0, fe1⟩ := FO.out
            refine bodyPost_ret (v := .tuple #[.agg #[.slice none 0 0, .slice none 0 0], .bool false]) (by simp [results, Try.results18, go_sem, fe0, fe1]) rfl ?_
            rw [HS.out]
            exact ⟨_, _, _, _, _, _, fo, rfl, fun y hy => by cases hy⟩)
end Go.Proofs.Ytenaeiedoiepdaa
namespace Go.Proofs.Ytenaeiedoiepdaa
set_option maxRecDepth 100000
open Go.RowKit Go.WideShapes

set_option maxHeartbeats 2000000 in
theorem step_S_dip (v0 v1 : Value) (r : List Int) (st : List (List Int)) (w : World) (h0 : RdI w v0 (1004 :: r)) (h1 : RdS w v1 st.reverse) (hl : r.length ≤ 1048576) (hok : okS (1004 :: r) st) :
    Calls Try.prog 18 #[.agg #[v0, v1]] w (StepPost w (l2R (1004 :: r) st)) := by
  have hsl := (stackB_all hok.2).1
  have hsv := fun v (hv : v ∈ st.reverse) => Nat.le_trans (valueB_len ((stackB_all hok.2).2 v (List.mem_reverse.1 hv))).2 (show 60 ≤ 1000000 by omega)
  have hlz : st.reverse.length ≤ 20 := by simpa using hsl
  generalize hzs : st.reverse = zss at *
  have HZ := Lib.hid hzs; clear hzs
  have HV := Lib.hid hsv; clear hsv
  have Hok := Lib.hid hok; clear hok
  have B2 : Below w.heap.size w ((w.alloc (.cells #[v0, v1] 26)).alloc (.cells #[.slice none 0 0, .slice none 0 0] 26)) := ((Below.refl _ _).alloc (Nat.le_refl _) _).alloc (by simp) _
  have B3 : Below w.heap.size w (((w.alloc (.cells #[v0, v1] 26)).alloc (.cells #[.slice none 0 0, .slice none 0 0] 26)).alloc (.cells #[] 3)) := B2.alloc (by simp; omega) _
  have H0 := Lib.hid h0.at_
  have H1 := Lib.hid h1.at_
  obtain ⟨A0, c0, rfl, hi0, hc0⟩ := h0
  obtain ⟨b0, o0, rfl, hb0, hcc0⟩ := hi0.at_ (by simp)
  obtain ⟨A1, c1, rfl, _⟩ := h1
  have hcell := hcc0 0 (by simp)
  simp only [List.length_cons] at hc0
  rw [Nat.add_zero] at hcell
  replace hcell := (B2.cell (p := ⟨b0, o0, none⟩) hb0).trans hcell
  simp only [List.getD_cons_zero, List.length_cons] at hcell
  have ht0 : RdI w (.slice (some ⟨b0, o0 + 1, none⟩) r.length (c0 - 1)) r := by
    have h1 := hi0.sub 1 r.length (by simp; omega)
    simp only [List.drop_succ_cons, List.drop_zero, List.take_length] at h1
    exact ⟨_, _, rfl, h1, by omega⟩
  have L1 : OwnI (((w.alloc (.cells #[.slice (some ⟨b0, o0, none⟩) (r.length + 1) c0, .slice A1 zss.length c1] 26)).alloc (.cells #[.slice none 0 0, .slice none 0 0] 26)).alloc (.cells #[] 3)) (w.heap.size + 1 + 1) (w.heap.size + 1 + 1 + 1) (.slice (some ⟨w.heap.size + 1 + 1, 0, none⟩) 0 0) [] := by simpa using lits_own ((w.alloc (.cells #[.slice (some ⟨b0, o0, none⟩) (r.length + 1) c0, .slice A1 zss.length c1] 26)).alloc (.cells #[.slice none 0 0, .slice none 0 0] 26)) [] (by simp) (by simp)
  have Y := Lib.hid (And.intro (RdI.step ht0 B3) (And.intro L1 B3))
  clear L1 B2 B3 hcc0 hi0 ht0
  have hcc : c0 = 1 ∨ 2 ≤ c0 := by omega
  rcases hcc with rfl | hc2
  all_goals go_enter Try.func18, Try.ntmps18
  all_goals go_wp2_with (at_builtin; (refine wpList_append_V rfl _ _ _ rfl Try.underlying23 intInfo (w.heap.size + 1 + 1) (w.heap.size + 1 + 1 + 1) _ [] rfl Y.out.2.1 (by simp) _ r rfl (by first | exact Y.out.1 | exact rd_nil (by omega) (by omega)) (by simp; omega) ?_))
  all_goals (
    intro v2 w2 ho2 hb2
    obtain ⟨k1, k2, k3, k4⟩ := blks hb2
    obtain ⟨p1, p2, -, -⟩ := k1.two
    have Z := Lib.hid (And.intro k1 (And.intro k2 (And.intro k3 ho2))); clear k1 k2 k3 ho2 hb2 Y hcell
    go_wp2_with fail
    refine (l2Copy_any _ zss _ ((H1.out.below Z.out.2.2.1).rd (by omega)) (by omega) HV.out).mono ?_
    rintro e w3 ⟨u, rfl, ho3, hb3⟩
    have hz3 : w2.heap.size ≤ w3.heap.size := hb3.size
    have X : Hid (Ahead w w3 w2.heap.size _ _ v2 u 1004 r zss) := Lib.hid ⟨Z.out.1.below hb3 (by omega), Z.out.2.1.below hb3 (by omega), (H0.out.below Z.out.2.2.1).below (hb3.mono (by omega)), Z.out.2.2.2.below hb3, ho3, Z.out.2.2.1.trans (hb3.mono (by omega))⟩
    clear Z ho3 hb3 p1 p2
    have q := X.out.1.two
    obtain ⟨q1, q2, -, -⟩ := q
    obtain ⟨Au, cu, rfl, _⟩ := X.out.2.2.2.2.1.rd
    obtain ⟨Ar, cr, rfl, _⟩ := X.out.2.2.2.1.rd
    have hm2 : w.heap.size + 1 + 1 ≤ w2.heap.size := by omega
    rcases st with _ | ⟨a, s1⟩
    · have HS : Hid (l2R (1004 :: r) [] = none) := Lib.hid (by simp [l2R, opR])
      have hne0 : ((zss.length : Int) == 0) = true := by rw [← HZ.out]; rfl
      have FR := Lib.hid X.out.2.1
      obtain ⟨fc1, fc2, ff1, ff2⟩ := FR.out.two
      obtain ⟨fe0, fe1⟩ := FR.out.two_out (x := .slice none 0 0) (y := .slice none 0 0)
      have FO := Lib.hid (And.intro (fail_below X.out.2.2.2.2.2 (.slice none 0 0) (.slice none 0 0)) (And.intro fe0 fe1)); clear fe0 fe1
      go_wp2
      obtain ⟨fo, fe0, fe1⟩ := FO.out
      refine bodyPost_ret (v := .tuple #[.agg #[.slice none 0 0, .slice none 0 0], .bool false]) (by simp [results, Try.results18, go_sem, fe0, fe1]) rfl ?_
      rw [HS.out]
      exact ⟨_, _, _, _, _, _, fo, rfl, fun y hy => by cases hy⟩
    rcases s1 with _ | ⟨b, s2⟩
    · have HS : Hid (l2R (1004 :: r) [a] = none) := Lib.hid (by simp [l2R, opR, opR1])
      have hne0 : ((zss.length : Int) == 0) = false := by rw [← HZ.out]; rfl
      have hne1 : ((zss.length : Int) == 1) = true := by rw [← HZ.out]; rfl
      have FR := Lib.hid X.out.2.1
      obtain ⟨fc1, fc2, ff1, ff2⟩ := FR.out.two
      obtain ⟨fe0, fe1⟩ := FR.out.two_out (x := .slice none 0 0) (y := .slice none 0 0)
      have FO := Lib.hid (And.intro (fail_below X.out.2.2.2.2.2 (.slice none 0 0) (.slice none 0 0)) (And.intro fe0 fe1)); clear fe0 fe1
      go_wp2
      obtain ⟨fo, fe0, fe1⟩ := FO.out
      refine bodyPost_ret (v := .tuple #[.agg #[.slice none 0 0, .slice none 0 0], .bool false]) (by simp [results, Try.results18, go_sem, fe0, fe1]) rfl ?_
      rw [HS.out]
      exact ⟨_, _, _, _, _, _, fo, rfl, fun y hy => by cases hy⟩
    · have hn2 : 2 ≤ zss.length := by rw [← HZ.out]; simp
      have HZ2 : Hid (zss.take (zss.length - 2) = s2.reverse) := Lib.hid (by rw [← HZ.out]; simp)
      have HZa : Hid (zss[zss.length - 1]? = some a) := Lib.hid (by rw [← HZ.out]; simp)
      have HZb : Hid (zss[zss.length - 2]? = some b) := Lib.hid (by rw [← HZ.out]; simp)
      have hne0 : ((zss.length : Int) == 0) = false := by rw [beq_eq_false_iff_ne]; omega
      have hne1 : ((zss.length : Int) == 1) = false := by rw [beq_eq_false_iff_ne]; omega
      have hcap := X.out.2.2.2.2.1.cap2
      have hva := (stackB_all Hok.out.2).2 a List.mem_cons_self
      have hvb := (stackB_all Hok.out.2).2 b (List.mem_cons_of_mem _ List.mem_cons_self)
      have HVA := Lib.hid hva; clear hva
      have HVB := Lib.hid hvb; clear hvb
      obtain ⟨g, b_g, ua, hAu, hgl, hca, hua⟩ := X.out.2.2.2.2.1.at1 HZa.out
      obtain ⟨g', b_g', ub, hAu', -, hcb, hub⟩ := X.out.2.2.2.2.1.at1 HZb.out
      subst hAu
      obtain rfl : g = g' := by cases hAu'; rfl
      clear hAu'
      have HUA := Lib.hid hua; clear hua
      have HUB := Lib.hid hub; clear hub
      have hal := (valueB_len HVA.out).2
      have hbl := (valueB_len HVB.out).2
      by_cases ha : 1 < a.length
      · have HS : Hid (l2R (1004 :: r) (a :: b :: s2) = some (inside a ++ b ++ r, s2)) := Lib.hid (by simp [l2R, opR, opR1, opR2, ha])
        obtain ⟨Aa, ca, rfl, _⟩ := HUA.out
        obtain ⟨Ab, cb, rfl, _⟩ := HUB.out
        have HA := Lib.hid (decide_eq_true ha)
        have hil : (inside a).length ≤ 60 := Nat.le_trans inside_len hal
        have hab : (inside a ++ b).length ≤ 120 := by rw [List.length_append]; omega
        have hd : Below w3.heap.size w3 w3.drew := (Below.refl _ _).drew
        have HUD := Lib.hid (RdI.step HUA.out hd)
        have HBD := Lib.hid (RdI.step HUB.out hd)
        have XD := Lib.hid X.out.drew; clear X hd
        have ht := Lib.hid (XD.out.2.2.2.2.1.take (zss.length - 2) (by omega) (Nat.le_refl _))
        rw [HZ2.out] at ht
        generalize hgab : inside a ++ b = ab at *
        have HG := Lib.hid hgab; clear hgab
        go_wp2_with (go_at_call 48; refine (l2Is_any _ a _ HUA.out true HA.out).mono ?_; rintro e w' ⟨rfl, rfl⟩)
        have l21 : (1 : Int) ≤ (zss.length : Int) := by omega
        have l31 : (zss.length : Int) - 1 ≤ (cu : Int) := by omega
        have l51 : (zss.length : Int) - 1 < (zss.length : Int) := by omega
        have l71 : ((zss.length : Int) - 1).toNat = zss.length - 1 := by omega
        have l91 : (0 : Int) ≤ (zss.length : Int) - 1 := by omega
        have l22 : (2 : Int) ≤ (zss.length : Int) := by omega
        have l32 : (zss.length : Int) - 2 ≤ (cu : Int) := by omega
        have l52 : (zss.length : Int) - 2 < (zss.length : Int) := by omega
        have l72 : ((zss.length : Int) - 2).toNat = zss.length - 2 := by omega
        have l92 : (0 : Int) ≤ (zss.length : Int) - 2 := by omega
        have m21 : IntKind.i64.wrap ((zss.length : Int) - 1) = (zss.length : Int) - 1 := IntWalk.i64_in _ (by omega)
        have m22 : IntKind.i64.wrap ((zss.length : Int) - 2) = (zss.length : Int) - 2 := IntWalk.i64_in _ (by omega)
        go_region_law? (first
          | (refine step_append_V rfl _ _ _ rfl Try.underlying23 intInfo w3.heap.size w5.heap.size _ ab rfl ho5 (by omega) _ r rfl ((XD.out.2.2.2.1.below hE5).rd) (by omega) ?_; intro v6 w6 ho6 hb6; obtain ⟨A6, k6, rfl, _⟩ := ho6.rd; generalize hl6 : (ab ++ r).length = l6 at *; have hE : Below w3.drew.heap.size w3.drew w6 := hE5.trans hb6; have O := Lib.hid (end_gen (XD.out.2.1.below hE XD.out.2.1.lt) (ho6.low (by omega)) ((ht.out.below hE).mono hm2) (XD.out.2.2.2.2.2.trans (hE.mono XD.out.2.2.2.2.2.size))); obtain ⟨fc1, fc2, ff1, ff2⟩ := O.out.2.2.2.2.2; clear ho6 hb6 hl6 hE)
          | (refine step_append_V rfl _ _ _ rfl Try.underlying23 intInfo w3.heap.size w4.heap.size _ (inside a) rfl ho4 (by omega) _ b rfl (RdI.step HBD.out hb4) (by omega) ?_; intro v5 w5 ho5 hb5; rw [HG.out] at ho5; obtain ⟨A5, k5, rfl, _⟩ := ho5.rd; have hE5 : Below w3.drew.heap.size w3.drew w5 := hb4.trans hb5; have hz5 : w3.heap.size ≤ w5.heap.size := hE5.size)
          | (go_simp; go_at_call 49; refine (l2Body_any _ a _ HUD.out (by omega)).mono ?_; rintro e w4 ⟨ub, rfl, ho4, hb4⟩; have hz4 : w3.heap.size ≤ w4.heap.size := hb4.size; have hcb4 := (hb4.cell (p := ⟨g, zss.length - 2, none⟩) hgl).trans hcb))
        clear l21 l31 l51 l71 l91 m21 l22 l32 l52 l72 l92 m22
        clear XD ht HUD HBD
        all_goals go_wp2
        all_goals obtain ⟨fo1, fo2, fo3, fe0, fe1, -⟩ := O.out
        all_goals refine bodyPost_ret (v := .tuple #[.agg #[.slice A6 l6 k6, .slice (some ⟨g, 0, none⟩) (zss.length - 2) cu], .bool true]) (by simp [results, Try.results18, go_sem, fe0, fe1]) rfl ?_
        all_goals rw [HS.out]
        all_goals refine ⟨_, _, _, _, _, _, fo3, rfl, fun y hy => ?_⟩
        all_goals cases hy
        all_goals exact ⟨fo1, fo2⟩
      · have HA := Lib.hid (decide_eq_false ha)
        rcases s2 with _ | ⟨c, s3⟩
        · have HS : Hid (l2R (1004 :: r) [a, b] = none) := Lib.hid (by simp [l2R, opR, opR1, opR2, ha])
          have hne2 : ((zss.length : Int) == 2) = true := by rw [← HZ.out]; rfl
          clear ha
          have FR := Lib.hid X.out.2.1
          obtain ⟨fc1, fc2, ff1, ff2⟩ := FR.out.two
          obtain ⟨fe0, fe1⟩ := FR.out.two_out (x := .slice none 0 0) (y := .slice none 0 0)
          have FO := Lib.hid (And.intro (fail_below X.out.2.2.2.2.2 (.slice none 0 0) (.slice none 0 0)) (And.intro fe0 fe1)); clear fe0 fe1
          go_wp2_with (first | (go_at_call 48; refine (l2Is_any _ a _ HUA.out false HA.out).mono ?_; rintro e w' ⟨rfl, rfl⟩) | (go_at_call 50; refine (l1In_any 1004 1006 1009 _).mono ?_; rintro e w' ⟨rfl, rfl⟩))
          obtain ⟨fo, fe0, fe1⟩ := FO.out
          refine bodyPost_ret (v := .tuple #[.agg #[.slice none 0 0, .slice none 0 0], .bool false]) (by simp [results, Try.results18, go_sem, fe0, fe1]) rfl ?_
          rw [HS.out]
          exact ⟨_, _, _, _, _, _, fo, rfl, fun y hy => by cases hy⟩
        · have HS : Hid (l2R (1004 :: r) (a :: b :: c :: s3) = none) := Lib.hid (by simp [l2R, opR, opR1, opR2, opR3, ha])
          have hne2 : ((zss.length : Int) == 2) = false := by rw [← HZ.out, beq_eq_false_iff_ne]; simp; omega
          clear ha
          have FR := Lib.hid X.out.2.1
          obtain ⟨fc1, fc2, ff1, ff2⟩ := FR.out.two
          obtain ⟨fe0, fe1⟩ := FR.out.two_out (x := .slice none 0 0) (y := .slice none 0 0)
          have FO := Lib.hid (And.intro (fail_below X.out.2.2.2.2.2 (.slice none 0 0) (.slice none 0 0)) (And.intro fe0 fe1)); clear fe0 fe1
          go_wp2_with (first | (go_at_call 48; refine (l2Is_any _ a _ HUA.out false HA.out).mono ?_; rintro e w' ⟨rfl, rfl⟩) | (go_at_call 50; refine (l1In_any 1004 1006 1009 _).mono ?_; rintro e w' ⟨rfl, rfl⟩))
          obtain ⟨fo, fe0, fe1⟩ := FO.out
          refine bodyPost_ret (v := .tuple #[.agg #[.slice none 0 0, .slice none 0 0], .bool false]) (by simp [results, Try.results18, go_sem, fe0, fe1]) rfl ?_
          rw [HS.out]
          exact ⟨_, _, _, _, _, _, fo, rfl, fun y hy => by cases hy⟩)
end Go.Proofs.Ytenaeiedoiepdaa
