/- The model's step: reck. -/
import Derived.Test.YtenaeiedoiepdaaSb
import Derived.StillTailTactics
import Derived.Deep.RegionLaw
import Derived.Deep.RegionHeld3
import Derived.IntWalk
namespace Go.Proofs.Ytenaeiedoiepdaa
set_option maxRecDepth 100000
open Go.RowKit Go.WideShapes

theorem l1In_reck (z : Int) (hz1 : 1006 ≤ z) (hz2 : z ≤ 1009) (w : World) : Calls Try.prog 50 #[.int .i64 z, .int .i64 1006, .int .i64 1009] w fun e w' => e = .returned (.bool true) ∧ w = w' := by
  refine (l1In_any z 1006 1009 w).mono ?_
  rintro e w' ⟨rfl, rfl⟩
  exact ⟨ret_bool (by simp [hz1, hz2]), rfl⟩

set_option maxHeartbeats 8000000 in
theorem step_S_reck (v0 v1 : Value) (z : Int) (hz1 : 1006 ≤ z) (hz2 : z ≤ 1009) (r : List Int) (st : List (List Int)) (w : World) (h0 : RdI w v0 (z :: r)) (h1 : RdS w v1 st.reverse) (hl : r.length ≤ 1048576) (hok : okS (z :: r) st) :
    Calls Try.prog 18 #[.agg #[v0, v1]] w (StepPost w (l2R (z :: r) st)) := by
  have hsl := (stackB_all hok.2).1
  have hsv := fun v (hv : v ∈ st.reverse) => Nat.le_trans (valueB_len ((stackB_all hok.2).2 v (List.mem_reverse.1 hv))).2 (show 60 ≤ 1000000 by omega)
  have hlz : st.reverse.length ≤ 20 := by simpa using hsl
  generalize hzs : st.reverse = zss at *
  have HZ := Lib.hid hzs; clear hzs
  have HV := Lib.hid hsv; clear hsv
  have Hok := Lib.hid hok; clear hok
  have B2 : Below w.heap.size w ((w.alloc (.cells #[v0, v1] 26)).alloc (.cells #[.slice none 0 0, .slice none 0 0] 26)) := ((Below.refl _ _).alloc (Nat.le_refl _) _).alloc (by simp) _
  have B3 : Below w.heap.size w (((w.alloc (.cells #[v0, v1] 26)).alloc (.cells #[.slice none 0 0, .slice none 0 0] 26)).alloc (.cells #[] 3)) := B2.alloc (by simp; omega) _
  have H0 := Lib.hid h0.at_
  have H1 := Lib.hid h1.at_
  obtain ⟨A0, c0, rfl, hi0, hc0⟩ := h0
  obtain ⟨b0, o0, rfl, hb0, hcc0⟩ := hi0.at_ (by simp)
  obtain ⟨A1, c1, rfl, _⟩ := h1
  have hcell := hcc0 0 (by simp)
  simp only [List.length_cons] at hc0
  rw [Nat.add_zero] at hcell
  replace hcell := (B2.cell (p := ⟨b0, o0, none⟩) hb0).trans hcell
  simp only [List.getD_cons_zero, List.length_cons] at hcell
  have ht0 : RdI w (.slice (some ⟨b0, o0 + 1, none⟩) r.length (c0 - 1)) r := by
    have h1 := hi0.sub 1 r.length (by simp; omega)
    simp only [List.drop_succ_cons, List.drop_zero, List.take_length] at h1
    exact ⟨_, _, rfl, h1, by omega⟩
  have L1 : OwnI (((w.alloc (.cells #[.slice (some ⟨b0, o0, none⟩) (r.length + 1) c0, .slice A1 zss.length c1] 26)).alloc (.cells #[.slice none 0 0, .slice none 0 0] 26)).alloc (.cells #[] 3)) (w.heap.size + 1 + 1) (w.heap.size + 1 + 1 + 1) (.slice (some ⟨w.heap.size + 1 + 1, 0, none⟩) 0 0) [] := by simpa using lits_own ((w.alloc (.cells #[.slice (some ⟨b0, o0, none⟩) (r.length + 1) c0, .slice A1 zss.length c1] 26)).alloc (.cells #[.slice none 0 0, .slice none 0 0] 26)) [] (by simp) (by simp)
  have Y := Lib.hid (And.intro (RdI.step ht0 B3) (And.intro L1 B3))
  clear L1 B2 B3 hcc0 hi0 ht0
  have hcc : c0 = 1 ∨ 2 ≤ c0 := by omega
  rcases hcc with rfl | hc2
  all_goals go_enter Try.func18, Try.ntmps18
  all_goals go_wp2_with (at_builtin; (refine wpList_append_V rfl _ _ _ rfl Try.underlying23 intInfo (w.heap.size + 1 + 1) (w.heap.size + 1 + 1 + 1) _ [] rfl Y.out.2.1 (by simp) _ r rfl (by first | exact Y.out.1 | exact rd_nil (by omega) (by omega)) (by simp; omega) ?_))
  all_goals (
    intro v2 w2 ho2 hb2
    obtain ⟨k1, k2, k3, k4⟩ := blks hb2
    obtain ⟨p1, p2, -, -⟩ := k1.two
    have Z := Lib.hid (And.intro k1 (And.intro k2 (And.intro k3 ho2))); clear k1 k2 k3 ho2 hb2 Y hcell
    go_wp2_with fail
    refine (l2Copy_any _ zss _ ((H1.out.below Z.out.2.2.1).rd (by omega)) (by omega) HV.out).mono ?_
    rintro e w3 ⟨u, rfl, ho3, hb3⟩
    have hz3 : w2.heap.size ≤ w3.heap.size := hb3.size
    have X : Hid (Ahead w w3 w2.heap.size _ _ v2 u z r zss) := Lib.hid ⟨Z.out.1.below hb3 (by omega), Z.out.2.1.below hb3 (by omega), (H0.out.below Z.out.2.2.1).below (hb3.mono (by omega)), Z.out.2.2.2.below hb3, ho3, Z.out.2.2.1.trans (hb3.mono (by omega))⟩
    clear Z ho3 hb3 p1 p2
    have q := X.out.1.two
    obtain ⟨q1, q2, -, -⟩ := q
    obtain ⟨Au, cu, rfl, _⟩ := X.out.2.2.2.2.1.rd
    obtain ⟨Ar, cr, rfl, _⟩ := X.out.2.2.2.1.rd
    have hm2 : w.heap.size + 1 + 1 ≤ w2.heap.size := by omega
    rcases st with _ | ⟨a, s1⟩
    · have HS : Hid (l2R (z :: r) [] = none) := Lib.hid (by simp [l2R, opR, show ¬ z ≤ 999 by omega, show ¬ z = 1012 by omega])
      have hne0 : ((zss.length : Int) == 0) = true := by rw [← HZ.out]; rfl
      have FR := Lib.hid X.out.2.1
      obtain ⟨fc1, fc2, ff1, ff2⟩ := FR.out.two
      obtain ⟨fe0, fe1⟩ := FR.out.two_out (x := .slice none 0 0) (y := .slice none 0 0)
      have FO := Lib.hid (And.intro (fail_below X.out.2.2.2.2.2 (.slice none 0 0) (.slice none 0 0)) (And.intro fe0 fe1)); clear fe0 fe1
      go_wp2
      obtain ⟨fo, fe0, fe1⟩ := FO.out
      refine bodyPost_ret (v := .tuple #[.agg #[.slice none 0 0, .slice none 0 0], .bool false]) (by simp [results, Try.results18, go_sem, fe0, fe1]) rfl ?_
      rw [HS.out]
      exact ⟨_, _, _, _, _, _, fo, rfl, fun y hy => by cases hy⟩
    rcases s1 with _ | ⟨b, s2⟩
    · have HS : Hid (l2R (z :: r) [a] = none) := Lib.hid (by simp [l2R, opR, opR1, show ¬ z ≤ 999 by omega, show ¬ z = 1012 by omega, show ¬ z = 1001 by omega, show ¬ z = 1002 by omega, show ¬ z = 1005 by omega])
      have hne0 : ((zss.length : Int) == 0) = false := by rw [← HZ.out]; rfl
      have hne1 : ((zss.length : Int) == 1) = true := by rw [← HZ.out]; rfl
      have FR := Lib.hid X.out.2.1
      obtain ⟨fc1, fc2, ff1, ff2⟩ := FR.out.two
      obtain ⟨fe0, fe1⟩ := FR.out.two_out (x := .slice none 0 0) (y := .slice none 0 0)
      have FO := Lib.hid (And.intro (fail_below X.out.2.2.2.2.2 (.slice none 0 0) (.slice none 0 0)) (And.intro fe0 fe1)); clear fe0 fe1
      go_wp2
      obtain ⟨fo, fe0, fe1⟩ := FO.out
      refine bodyPost_ret (v := .tuple #[.agg #[.slice none 0 0, .slice none 0 0], .bool false]) (by simp [results, Try.results18, go_sem, fe0, fe1]) rfl ?_
      rw [HS.out]
      exact ⟨_, _, _, _, _, _, fo, rfl, fun y hy => by cases hy⟩
    · have hn2 : 2 ≤ zss.length := by rw [← HZ.out]; simp
      have HZ2 : Hid (zss.take (zss.length - 2) = s2.reverse) := Lib.hid (by rw [← HZ.out]; simp)
      have HZa : Hid (zss[zss.length - 1]? = some a) := Lib.hid (by rw [← HZ.out]; simp)
      have HZb : Hid (zss[zss.length - 2]? = some b) := Lib.hid (by rw [← HZ.out]; simp)
      have hne0 : ((zss.length : Int) == 0) = false := by rw [beq_eq_false_iff_ne]; omega
      have hne1 : ((zss.length : Int) == 1) = false := by rw [beq_eq_false_iff_ne]; omega
      have hcap := X.out.2.2.2.2.1.cap2
      have hva := (stackB_all Hok.out.2).2 a List.mem_cons_self
      have hvb := (stackB_all Hok.out.2).2 b (List.mem_cons_of_mem _ List.mem_cons_self)
      have HVA := Lib.hid hva; clear hva
      have HVB := Lib.hid hvb; clear hvb
      obtain ⟨g, b_g, ua, hAu, hgl, hca, hua⟩ := X.out.2.2.2.2.1.at1 HZa.out
      obtain ⟨g', b_g', ub, hAu', -, hcb, hub⟩ := X.out.2.2.2.2.1.at1 HZb.out
      subst hAu
      obtain rfl : g = g' := by cases hAu'; rfl
      clear hAu'
      have HUA := Lib.hid hua; clear hua
      have HUB := Lib.hid hub; clear hub
      have hal := (valueB_len HVA.out).2
      have hbl := (valueB_len HVB.out).2
      by_cases ha : 1 < a.length
      · have HA := Lib.hid (decide_eq_true ha)
        rcases s2 with _ | ⟨c, s3⟩
        · have HS : Hid (l2R (z :: r) [a, b] = none) := Lib.hid (by simp [l2R, opR, opR1, opR2, ha, show ¬ z ≤ 999 by omega, show ¬ z = 1012 by omega, show ¬ z = 1001 by omega, show ¬ z = 1002 by omega, show ¬ z = 1005 by omega, show ¬ z = 1003 by omega, show ¬ z = 1004 by omega, show ¬ z = 1011 by omega, hz1, hz2])
          have hne2 : ((zss.length : Int) == 2) = true := by rw [← HZ.out]; rfl
          clear ha
          have FR := Lib.hid X.out.2.1
          obtain ⟨fc1, fc2, ff1, ff2⟩ := FR.out.two
          obtain ⟨fe0, fe1⟩ := FR.out.two_out (x := .slice none 0 0) (y := .slice none 0 0)
          have FO := Lib.hid (And.intro (fail_below X.out.2.2.2.2.2 (.slice none 0 0) (.slice none 0 0)) (And.intro fe0 fe1)); clear fe0 fe1
          go_wp2_with (first | (go_at_call 48; refine (l2Is_any _ a _ HUA.out true HA.out).mono ?_; rintro e w' ⟨rfl, rfl⟩) | (go_at_call 50; refine (l1In_reck z hz1 hz2 _).mono ?_; rintro e w' ⟨rfl, rfl⟩))
          obtain ⟨fo, fe0, fe1⟩ := FO.out
          refine bodyPost_ret (v := .tuple #[.agg #[.slice none 0 0, .slice none 0 0], .bool false]) (by simp [results, Try.results18, go_sem, fe0, fe1]) rfl ?_
          rw [HS.out]
          exact ⟨_, _, _, _, _, _, fo, rfl, fun y hy => by cases hy⟩
        · have HS : Hid (l2R (z :: r) (a :: b :: c :: s3) = none) := Lib.hid (by simp [l2R, opR, opR1, opR2, opR3, ha, show ¬ z ≤ 999 by omega, show ¬ z = 1012 by omega, show ¬ z = 1001 by omega, show ¬ z = 1002 by omega, show ¬ z = 1005 by omega, show ¬ z = 1003 by omega, show ¬ z = 1004 by omega, show ¬ z = 1011 by omega, hz1, hz2, show ¬ z = 1010 by omega])
          have hne2 : ((zss.length : Int) == 2) = false := by rw [← HZ.out, beq_eq_false_iff_ne]; simp; omega
          clear ha
          have FR := Lib.hid X.out.2.1
          obtain ⟨fc1, fc2, ff1, ff2⟩ := FR.out.two
          obtain ⟨fe0, fe1⟩ := FR.out.two_out (x := .slice none 0 0) (y := .slice none 0 0)
          have FO := Lib.hid (And.intro (fail_below X.out.2.2.2.2.2 (.slice none 0 0) (.slice none 0 0)) (And.intro fe0 fe1)); clear fe0 fe1
          go_wp2_with (first | (go_at_call 48; refine (l2Is_any _ a _ HUA.out true HA.out).mono ?_; rintro e w' ⟨rfl, rfl⟩) | (go_at_call 50; refine (l1In_reck z hz1 hz2 _).mono ?_; rintro e w' ⟨rfl, rfl⟩))
          obtain ⟨fo, fe0, fe1⟩ := FO.out
          refine bodyPost_ret (v := .tuple #[.agg #[.slice none 0 0, .slice none 0 0], .bool false]) (by simp [results, Try.results18, go_sem, fe0, fe1]) rfl ?_
          rw [HS.out]
          exact ⟨_, _, _, _, _, _, fo, rfl, fun y hy => by cases hy⟩
      · have HA := Lib.hid (decide_eq_false ha)
        by_cases hb : 1 < b.length
        · have HB := Lib.hid (decide_eq_true hb)
          rcases s2 with _ | ⟨c, s3⟩
          · have HS : Hid (l2R (z :: r) [a, b] = none) := Lib.hid (by simp [l2R, opR, opR1, opR2, ha, hb, show ¬ z ≤ 999 by omega, show ¬ z = 1012 by omega, show ¬ z = 1001 by omega, show ¬ z = 1002 by omega, show ¬ z = 1005 by omega, show ¬ z = 1003 by omega, show ¬ z = 1004 by omega, show ¬ z = 1011 by omega, hz1, hz2])
            have hne2 : ((zss.length : Int) == 2) = true := by rw [← HZ.out]; rfl
            clear ha hb
            have FR := Lib.hid X.out.2.1
            obtain ⟨fc1, fc2, ff1, ff2⟩ := FR.out.two
            obtain ⟨fe0, fe1⟩ := FR.out.two_out (x := .slice none 0 0) (y := .slice none 0 0)
            have FO := Lib.hid (And.intro (fail_below X.out.2.2.2.2.2 (.slice none 0 0) (.slice none 0 0)) (And.intro fe0 fe1)); clear fe0 fe1
            go_wp2_with (first | (go_at_call 48; refine (l2Is_any _ a _ HUA.out false HA.out).mono ?_; rintro e w' ⟨rfl, rfl⟩) | (go_at_call 48; refine (l2Is_any _ b _ HUB.out true HB.out).mono ?_; rintro e w' ⟨rfl, rfl⟩) | (go_at_call 50; refine (l1In_reck z hz1 hz2 _).mono ?_; rintro e w' ⟨rfl, rfl⟩))
            obtain ⟨fo, fe0, fe1⟩ := FO.out
            refine bodyPost_ret (v := .tuple #[.agg #[.slice none 0 0, .slice none 0 0], .bool false]) (by simp [results, Try.results18, go_sem, fe0, fe1]) rfl ?_
            rw [HS.out]
            exact ⟨_, _, _, _, _, _, fo, rfl, fun y hy => by cases hy⟩
          · have HS : Hid (l2R (z :: r) (a :: b :: c :: s3) = none) := Lib.hid (by simp [l2R, opR, opR1, opR2, opR3, ha, hb, show ¬ z ≤ 999 by omega, show ¬ z = 1012 by omega, show ¬ z = 1001 by omega, show ¬ z = 1002 by omega, show ¬ z = 1005 by omega, show ¬ z = 1003 by omega, show ¬ z = 1004 by omega, show ¬ z = 1011 by omega, hz1, hz2, show ¬ z = 1010 by omega])
            have hne2 : ((zss.length : Int) == 2) = false := by rw [← HZ.out, beq_eq_false_iff_ne]; simp; omega
            clear ha hb
            have FR := Lib.hid X.out.2.1
            obtain ⟨fc1, fc2, ff1, ff2⟩ := FR.out.two
            obtain ⟨fe0, fe1⟩ := FR.out.two_out (x := .slice none 0 0) (y := .slice none 0 0)
            have FO := Lib.hid (And.intro (fail_below X.out.2.2.2.2.2 (.slice none 0 0) (.slice none 0 0)) (And.intro fe0 fe1)); clear fe0 fe1
            go_wp2_with (first | (go_at_call 48; refine (l2Is_any _ a _ HUA.out false HA.out).mono ?_; rintro e w' ⟨rfl, rfl⟩) | (go_at_call 48; refine (l2Is_any _ b _ HUB.out true HB.out).mono ?_; rintro e w' ⟨rfl, rfl⟩) | (go_at_call 50; refine (l1In_reck z hz1 hz2 _).mono ?_; rintro e w' ⟨rfl, rfl⟩))
            obtain ⟨fo, fe0, fe1⟩ := FO.out
            refine bodyPost_ret (v := .tuple #[.agg #[.slice none 0 0, .slice none 0 0], .bool false]) (by simp [results, Try.results18, go_sem, fe0, fe1]) rfl ?_
            rw [HS.out]
            exact ⟨_, _, _, _, _, _, fo, rfl, fun y hy => by cases hy⟩
        · obtain ⟨hav, n0, n9⟩ := num_of_value HVA.out ha
          obtain ⟨hbv, k0, k9⟩ := num_of_value HVB.out hb
          generalize a.getD 0 0 = n at *
          generalize b.getD 0 0 = k at *
          subst hav
          subst hbv
          obtain ⟨Aa, ca, rfl, hia, _⟩ := HUA.out
          obtain ⟨Ab, cb, rfl, hib, _⟩ := HUB.out
          obtain ⟨ba, oa, rfl, hba, hcca⟩ := hia.at_ (by simp)
          obtain ⟨bb, ob, rfl, hbb, hccb⟩ := hib.at_ (by simp)
          have hna := hcca 0 (by simp)
          have hnb := hccb 0 (by simp)
          rw [Nat.add_zero] at hna hnb
          simp only [List.getD_cons_zero] at hna hnb
          clear hcca hccb hia hib
          have HS : Hid (l2R (z :: r) ([n] :: [k] :: s2) = some (r, [reck z k n] :: s2)) := Lib.hid (by simp [l2R, opR, opR1, opR2, show ¬ z ≤ 999 by omega, show ¬ z = 1012 by omega, show ¬ z = 1001 by omega, show ¬ z = 1002 by omega, show ¬ z = 1005 by omega, show ¬ z = 1003 by omega, show ¬ z = 1004 by omega, show ¬ z = 1011 by omega, hz1, hz2])
          have hr9 := reck_num (w := z) (a := k) (b := n)
          obtain ⟨hr0, hr1⟩ := hr9
          have hd : Below w3.heap.size w3 w3.drew := (Below.refl _ _).drew
          have XD := Lib.hid X.out.drew
          have ht := Lib.hid (XD.out.2.2.2.2.1.take (zss.length - 2) (by omega) (Nat.le_refl _))
          rw [HZ2.out] at ht
          have V := Lib.hid (lit_facts (w := w3.drew) (zs := [reck z k n]) (ht.out.widen (Nat.le_refl _)) (by simp) (by intro y hy; simp only [List.mem_cons, List.not_mem_nil, or_false] at hy; subst hy; omega))
          simp only [List.map_nil, List.map_cons, List.length_nil, List.length_cons, Nat.zero_add] at V
          go_wp2_with (first | (go_at_call 50; refine (l1In_reck z hz1 hz2 _).mono ?_; rintro e w' ⟨rfl, rfl⟩) | (go_at_call 48; refine (l2Is_any _ [n] _ HUA.out false rfl).mono ?_; rintro e w' ⟨rfl, rfl⟩) | (go_at_call 48; refine (l2Is_any _ [k] _ HUB.out false rfl).mono ?_; rintro e w' ⟨rfl, rfl⟩))
          have hs2 : s2.reverse.length ≤ 20 := by rw [← HZ2.out]; simp; omega
          have l21 : (1 : Int) ≤ (zss.length : Int) := by omega
          have l31 : (zss.length : Int) - 1 ≤ (cu : Int) := by omega
          have l51 : (zss.length : Int) - 1 < (zss.length : Int) := by omega
          have l71 : ((zss.length : Int) - 1).toNat = zss.length - 1 := by omega
          have l91 : (0 : Int) ≤ (zss.length : Int) - 1 := by omega
          have l22 : (2 : Int) ≤ (zss.length : Int) := by omega
          have l32 : (zss.length : Int) - 2 ≤ (cu : Int) := by omega
          have l52 : (zss.length : Int) - 2 < (zss.length : Int) := by omega
          have l72 : ((zss.length : Int) - 2).toNat = zss.length - 2 := by omega
          have l92 : (0 : Int) ≤ (zss.length : Int) - 2 := by omega
          have m21 : IntKind.i64.wrap ((zss.length : Int) - 1) = (zss.length : Int) - 1 := IntWalk.i64_in _ (by omega)
          have m22 : IntKind.i64.wrap ((zss.length : Int) - 2) = (zss.length : Int) - 2 := IntWalk.i64_in _ (by omega)
          go_region_law (first
            | (refine step_append_S rfl _ _ _ rfl Try.underlying24 rowInfo w2.heap.size w3.drew.heap.size _ s2.reverse rfl V.out.1 hz3 _ 1 _ [reck z k n] rfl V.out.2.2.1 (by first | (simp; done) | (simp; omega)) V.out.2.1 (by omega) ?_; intro v6 w6 ho6 hb6; obtain ⟨A6, k6, rfl, _⟩ := ho6.rd; generalize hl6 : (s2.reverse ++ [[reck z k n]]).length = l6 at *; have hE : Below w2.heap.size w3.drew w6 := (V.out.2.2.2.mono hz3).trans hb6; have O := Lib.hid (end_gen (XD.out.2.1.below hE (by omega)) (XD.out.2.2.2.1.belowB hE (Nat.le_refl _)) (ho6.mono hm2) (XD.out.2.2.2.2.2.trans (hE.mono (by omega)))); obtain ⟨fc1, fc2, ff1, ff2⟩ := O.out.2.2.2.2.2; clear ho6 hb6 hl6 hE)
            | (go_simp; go_at_call 51; refine (l2Reckon_any z k n _ (by omega) (by omega) (by omega)).mono ?_; rintro e w' ⟨rfl, rfl⟩))
          clear l21 l31 l51 l71 l91 m21 l22 l32 l52 l72 l92 m22
          clear XD ht V
          all_goals go_wp2
          all_goals obtain ⟨fo1, fo2, fo3, fe0, fe1, -⟩ := O.out
          all_goals refine bodyPost_ret (v := .tuple #[.agg #[.slice Ar r.length cr, .slice A6 l6 k6], .bool true]) (by simp [results, Try.results18, go_sem, fe0, fe1]) rfl ?_
          all_goals rw [HS.out]
          all_goals refine ⟨_, _, _, _, _, _, fo3, rfl, fun y hy => ?_⟩
          all_goals cases hy
          all_goals exact ⟨fo1, by rw [List.reverse_cons]; exact fo2⟩)
end Go.Proofs.Ytenaeiedoiepdaa
