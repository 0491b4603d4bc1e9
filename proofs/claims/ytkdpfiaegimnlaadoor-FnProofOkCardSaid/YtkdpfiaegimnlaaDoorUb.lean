/- The model's rules at a place: 5, 6, 7. -/
import Derived.Test.YtkdpfiaegimnlaaDoorVm
import Derived.Deep.RegionLaw
import Derived.Deep.RegionHeld3
import Derived.IntWalk
namespace Go.Proofs.YtkdpfiaegimnlaaDoor
set_option maxRecDepth 100000
open Go.RowKit Go.WideShapes

set_option maxHeartbeats 4000000 in
theorem use_5 (v : Value) (ps : List (List Int)) (a : Nat) (w : World) (h : RdS w v ps) (ha : a < ps.length) (hl : ps.length ≤ 60) (hp : ∀ q ∈ ps, isPart q) (hne : ∀ q ∈ ps, 1 ≤ q.length) (hv60 : ∀ q ∈ ps, q.length ≤ 60) :
    Calls Tryd.prog 58 #[v, .int .i64 5, .int .i64 a] w (UsPost w (mUse 5 (ps.drop a))) := by
  obtain ⟨C, hq0, hq1, hq2⟩ := useCtx v ps a w h ha hne
  have H := Lib.hid h
  obtain ⟨A, c, rfl, _⟩ := h
  have haI : (a : Int) < ps.length := by omega
  have hlI : (ps.length : Int) ≤ 60 := by omega
  have HP := Lib.hid hp; clear hp
  have HN := Lib.hid (And.intro hne hv60)
  clear hne hv60
  obtain ⟨ps', hps⟩ : ∃ ps', ps.drop a = ps' := ⟨_, rfl⟩
  rw [hps] at C hq0 hq1 hq2 ⊢
  have HPS := Lib.hid hps; clear hps
  rcases C with ⟨b0, b1, p1, n0, e0, e1, e2, e3, C0, C1, C2, C3, CW, CN, CQ⟩
  have D0 := Lib.hid C0; have D1 := Lib.hid C1; have D2 := Lib.hid C2; have D3 := Lib.hid C3; have DW := Lib.hid CW; have DN := Lib.hid CN; have DQ := Lib.hid CQ
  clear C0 C1 C2 C3 CW CN CQ
  have E := Lib.hid (And.intro e0 (And.intro e1 (And.intro e2 e3)))
  clear e0 e1 e2 e3
  have Q := Lib.hid (And.intro hq0 (And.intro hq1 hq2)); clear hq0 hq1 hq2
  rcases n0 with _ | _
  · go_enter Tryd.func58, Tryd.ntmps58
    go_wp2_with fail
    refine D0.out.mono ?_
    rintro e w' ⟨rfl, rfl⟩
    go_wp2_with fail
    refine D1.out.mono ?_
    rintro e w' ⟨rfl, rfl⟩
    go_wp2_with fail
    refine D2.out.mono ?_
    rintro e w' ⟨rfl, rfl⟩
    go_wp2_with fail
    refine D3.out.mono ?_
    rintro e w' ⟨rfl, rfl⟩
    clear D0 D1 D2 D3
    have L0 := Lib.hid (lit_nil w)
    go_wp2
    go_ret3
    exact use_none L0.out (by simp [mUse, E.out.2.2.2])
  · rcases hwn : nAt ps' 1 with _ | _
    · have Wn := Lib.hid hwn; clear hwn; have Vn := Lib.hid (DN.out 1 _ Wn.out)
      go_enter Tryd.func58, Tryd.ntmps58
      go_wp2_with fail
      refine D0.out.mono ?_
      rintro e w' ⟨rfl, rfl⟩
      go_wp2_with fail
      refine D1.out.mono ?_
      rintro e w' ⟨rfl, rfl⟩
      go_wp2_with fail
      refine D2.out.mono ?_
      rintro e w' ⟨rfl, rfl⟩
      go_wp2_with fail
      refine D3.out.mono ?_
      rintro e w' ⟨rfl, rfl⟩
      clear D0 D1 D2 D3
      have L0 := Lib.hid (lit_nil w)
      go_wp2_with ((go_at_call 84; refine Vn.out.mono ?_; rintro e w' ⟨rfl, rfl⟩))
      go_ret3
      exact use_none L0.out (by simp [mUse, Wn.out])
    · have Wn := Lib.hid hwn; clear hwn; have Vn := Lib.hid (DN.out 1 _ Wn.out)
      by_cases h2 : a + 2 < ps.length
      case neg =>
        have h2I : ¬ ((a : Int) + 2 < (ps.length : Int)) := by omega
        have h2L : Hid (¬ 2 < ps'.length) := Lib.hid (by rw [← HPS.out, List.length_drop]; omega)
        go_enter Tryd.func58, Tryd.ntmps58
        go_wp2_with fail
        refine D0.out.mono ?_
        rintro e w' ⟨rfl, rfl⟩
        go_wp2_with fail
        refine D1.out.mono ?_
        rintro e w' ⟨rfl, rfl⟩
        go_wp2_with fail
        refine D2.out.mono ?_
        rintro e w' ⟨rfl, rfl⟩
        go_wp2_with fail
        refine D3.out.mono ?_
        rintro e w' ⟨rfl, rfl⟩
        clear D0 D1 D2 D3
        have L0 := Lib.hid (lit_nil w)
        go_wp2_with ((go_at_call 84; refine Vn.out.mono ?_; rintro e w' ⟨rfl, rfl⟩))
        go_ret3
        exact use_none L0.out (by simp [mUse, h2L.out])
      have hj2 : a + 2 < ps.length := (by omega)
      have hjI2 : (a : Int) + 2 < (ps.length : Int) := by omega
      have hjP2 : (0 : Int) ≤ (a : Int) + 2 := by omega
      have hjT2 : ((a : Int) + 2).toNat = a + 2 := by omega
      have hjW2 : IntKind.i64.wrap ((a : Int) + 2) = (a : Int) + 2 := IntWalk.i64_in _ (by omega)
      obtain ⟨bb2, off2, u2, hA2, hbb2, cell2, hu2⟩ := RdBS.get H.out (getD_at hj2)
      have m2 := And.intro (HN.out.1 _ (List.mem_of_getElem? (getD_at hj2))) (HN.out.2 _ (List.mem_of_getElem? (getD_at hj2)))
      rw [← Q.out.2.2] at hu2 m2
      cases hA2
      have U2 := Lib.hid (hu2.rd (Nat.le_refl _)); clear hu2
      obtain ⟨q2, hq2⟩ : ∃ q, ps'.getD 2 [] = q := ⟨_, rfl⟩
      rw [hq2] at U2 m2
      have HQ2 := Lib.hid hq2; clear hq2
      obtain ⟨Av2, cv2, rfl, _⟩ := id U2.out
      obtain ⟨m2a, m2b⟩ := m2
      obtain ⟨z2, hzf2⟩ : ∃ z, q2.getD 0 0 = z := ⟨_, rfl⟩
      obtain ⟨A2q, c2q, hA2q, hi2q, _⟩ := id U2.out
      cases hA2q
      obtain ⟨bn2, on2, rfl, hbn2, hcn2⟩ := hi2q.at_ (by omega)
      have ncell2 := hcn2 0 (by omega)
      rw [Nat.add_zero, hzf2] at ncell2
      have HH2 := Lib.hid hzf2
      have hql2 : (0 : Int) < (q2.length : Int) := by omega
      clear hcn2 hi2q hzf2
      have HZ2 := Lib.hid (show zAt ps' 2 = z2 from by unfold zAt; rw [HQ2.out]; exact HH2.out)
      have h2L : Hid (2 < ps'.length) := Lib.hid (by rw [← HPS.out, List.length_drop]; omega)
      rcases hin : (decide (1006 ≤ z2) && decide (z2 ≤ 1009)) with _ | _
      · have Hin := Lib.hid hin; clear hin
        have hnr : Hid (¬ (1006 ≤ zAt ps' 2 ∧ zAt ps' 2 ≤ 1009)) := Lib.hid (by rw [HZ2.out]; simpa using Hin.out)
        go_enter Tryd.func58, Tryd.ntmps58
        go_wp2_with fail
        refine D0.out.mono ?_
        rintro e w' ⟨rfl, rfl⟩
        go_wp2_with fail
        refine D1.out.mono ?_
        rintro e w' ⟨rfl, rfl⟩
        go_wp2_with fail
        refine D2.out.mono ?_
        rintro e w' ⟨rfl, rfl⟩
        go_wp2_with fail
        refine D3.out.mono ?_
        rintro e w' ⟨rfl, rfl⟩
        clear D0 D1 D2 D3
        have L0 := Lib.hid (lit_nil w)
        go_wp2_with (first | (go_at_call 84; refine Vn.out.mono ?_; rintro e w' ⟨rfl, rfl⟩) | (go_at_call 57; refine (l1In_any z2 1006 1009 _).mono ?_; rw [Hin.out]; rintro e w' ⟨rfl, rfl⟩))
        go_ret3
        exact use_none L0.out (by unfold mUse; rw [if_neg (by omega), if_neg (by omega), if_neg (by omega), if_neg (by omega), if_neg (by omega), if_neg (fun h => hnr.out h.2.2.2.2), if_neg (by omega), if_neg (by omega), if_neg (by omega)])
      · have Hin := Lib.hid hin; clear hin
        have hyr : 1006 ≤ z2 ∧ z2 ≤ 1009 := by simpa using Hin.out
        have HYR := Lib.hid (show 1006 ≤ zAt ps' 2 ∧ zAt ps' 2 ≤ 1009 from by rw [HZ2.out]; exact hyr)
        have hq2f : q2 = [z2] := by
          have hmem : q2 ∈ ps := by rw [← HQ2.out, Q.out.2.2]; exact List.mem_of_getElem? (getD_at hj2)
          have h2 := HH2.out
          rcases HP.out q2 hmem with h | ⟨o, h, _⟩
          · rcases val_or h with ⟨z, h1, _, _⟩ | ⟨_, h1⟩
            · rw [h1] at h2; simp at h2; omega
            · omega
          · rw [h] at h2 ⊢; simp at h2; rw [h2]
        subst hq2f
        simp only [List.length_cons, List.length_nil, Nat.zero_add] at cell2
        obtain ⟨bb0, off0, u0, hA0, hbb0, cell0, hu0⟩ := RdBS.get H.out (getD_at ha)
        have m0 := And.intro (HN.out.1 _ (List.mem_of_getElem? (getD_at ha))) (HN.out.2 _ (List.mem_of_getElem? (getD_at ha)))
        rw [← Q.out.1] at hu0 m0
        cases hA0
        have U0 := Lib.hid (hu0.rd (Nat.le_refl _)); clear hu0
        obtain ⟨q0, hq0⟩ : ∃ q, ps'.getD 0 [] = q := ⟨_, rfl⟩
        rw [hq0] at U0 m0
        have HQ0 := Lib.hid hq0; clear hq0
        obtain ⟨Av0, cv0, rfl, _⟩ := id U0.out
        obtain ⟨m0a, m0b⟩ := m0
        obtain ⟨z0, hzf0, hzl0, hzh0⟩ := nAt_form E.out.2.2.2
        rw [HQ0.out] at hzf0
        subst hzf0
        obtain ⟨A0q, c0q, hA0q, hi0q, _⟩ := U0.out
        cases hA0q
        obtain ⟨bn0, on0, rfl, hbn0, hcn0⟩ := hi0q.at_ (by simp)
        have ncell0 := hcn0 0 (by simp)
        simp only [Nat.add_zero, List.getD_cons_zero] at ncell0
        clear hcn0 hi0q
        simp only [List.length_cons, List.length_nil, Nat.zero_add] at cell0
        have hj1 : a + 1 < ps.length := (vAt_lt HPS.out (nAt_v Wn.out))
        have hjI1 : (a : Int) + 1 < (ps.length : Int) := by omega
        have hjP1 : (0 : Int) ≤ (a : Int) + 1 := by omega
        have hjT1 : ((a : Int) + 1).toNat = a + 1 := by omega
        have hjW1 : IntKind.i64.wrap ((a : Int) + 1) = (a : Int) + 1 := IntWalk.i64_in _ (by omega)
        obtain ⟨bb1, off1, u1, hA1, hbb1, cell1, hu1⟩ := RdBS.get H.out (getD_at hj1)
        have m1 := And.intro (HN.out.1 _ (List.mem_of_getElem? (getD_at hj1))) (HN.out.2 _ (List.mem_of_getElem? (getD_at hj1)))
        rw [← Q.out.2.1] at hu1 m1
        cases hA1
        have U1 := Lib.hid (hu1.rd (Nat.le_refl _)); clear hu1
        obtain ⟨q1, hq1⟩ : ∃ q, ps'.getD 1 [] = q := ⟨_, rfl⟩
        rw [hq1] at U1 m1
        have HQ1 := Lib.hid hq1; clear hq1
        obtain ⟨Av1, cv1, rfl, _⟩ := id U1.out
        obtain ⟨m1a, m1b⟩ := m1
        obtain ⟨z1, hzf1, hzl1, hzh1⟩ := nAt_form Wn.out
        rw [HQ1.out] at hzf1
        subst hzf1
        obtain ⟨A1q, c1q, hA1q, hi1q, _⟩ := U1.out
        cases hA1q
        obtain ⟨bn1, on1, rfl, hbn1, hcn1⟩ := hi1q.at_ (by simp)
        have ncell1 := hcn1 0 (by simp)
        simp only [Nat.add_zero, List.getD_cons_zero] at ncell1
        clear hcn1 hi1q
        simp only [List.length_cons, List.length_nil, Nat.zero_add] at cell1
        have HZ := Lib.hid (show zAt ps' 0 = z0 from by unfold zAt; rw [HQ0.out]; rfl)
        have HZ1 := Lib.hid (show zAt ps' 1 = z1 from by unfold zAt; rw [HQ1.out]; rfl)
        go_enter Tryd.func58, Tryd.ntmps58
        go_wp2_with fail
        refine D0.out.mono ?_
        rintro e w' ⟨rfl, rfl⟩
        go_wp2_with fail
        refine D1.out.mono ?_
        rintro e w' ⟨rfl, rfl⟩
        go_wp2_with fail
        refine D2.out.mono ?_
        rintro e w' ⟨rfl, rfl⟩
        go_wp2_with fail
        refine D3.out.mono ?_
        rintro e w' ⟨rfl, rfl⟩
        clear D0 D1 D2 D3
        go_wp2_with (first | (go_at_call 84; refine Vn.out.mono ?_; rintro e w' ⟨rfl, rfl⟩) | (go_at_call 57; refine (l1In_any z2 1006 1009 _).mono ?_; rw [Hin.out]; rintro e w' ⟨rfl, rfl⟩))
        have hd : Below w.heap.size w w.drew := (Below.refl _ _).drew
        have kk0 := (hd.cell (p := ⟨bb2, off2 + a, none⟩) hbb0).trans cell0
        have kk1 := (hd.cell (p := ⟨bb2, off2 + (a + 1), none⟩) hbb1).trans cell1
        have kk2 := (hd.cell (p := ⟨bb2, off2 + (a + 2), none⟩) hbb2).trans cell2
        have nn0 := (hd.cell (p := ⟨bn0, on0, none⟩) hbn0).trans ncell0
        have nn1 := (hd.cell (p := ⟨bn1, on1, none⟩) hbn1).trans ncell1
        have nn2 := (hd.cell (p := ⟨bn2, on2, none⟩) hbn2).trans ncell2
        have HR5 := @reck_num z2 z0 z1
        have Hm5 := mUse_y5 E.out.2.2.2 Wn.out h2L.out HYR.out
        rw [HZ.out, HZ1.out, HZ2.out] at Hm5
        have HM5 := Lib.hid Hm5; clear Hm5
        have L5 := Lib.hid (fun W => lits_own W [reck z2 z0 z1] (by simp) (by intro y hy; simp only [List.mem_cons, List.not_mem_nil, or_false] at hy; subst hy; exact wf_near _ (by omega)))
        have hrk := fun W => l2Reckon_any z2 z0 z1 W hyr ⟨hzl0, hzh0⟩ ⟨hzl1, hzh1⟩
        have RK := Lib.hid hrk; clear hrk
        generalize reck z2 z0 z1 = rk at *
        go_region_held3 (fun W => W.cell? ⟨bb2, off2 + (a + 2), none⟩ = some (.slice (some ⟨bn2, on2, none⟩) 1 cv2) ∧ W.cell? ⟨bn2, on2, none⟩ = some (.int .i64 z2) ∧ W.cell? ⟨bb2, off2 + a, none⟩ = some (.slice (some ⟨bn0, on0, none⟩) 1 cv0) ∧ W.cell? ⟨bn0, on0, none⟩ = some (.int .i64 z0) ∧ W.cell? ⟨bb2, off2 + (a + 1), none⟩ = some (.slice (some ⟨bn1, on1, none⟩) 1 cv1) ∧ W.cell? ⟨bn1, on1, none⟩ = some (.int .i64 z1)) (repeat' (first | exact kk0 | exact kk1 | exact kk2 | exact nn0 | exact nn1 | exact nn2 | apply And.intro | rw [World.cell?_drew] | rw [World.cell?_alloc_lt _ _ _ (by first | omega | (simp; omega))])) (first | (go_at_call 87; refine (RK.out _).mono ?_; rintro e w1 ⟨rfl, rfl⟩) | fail)
        all_goals
          have ho := L5.out w; simp only [List.map_cons, List.map_nil, List.length_cons, List.length_nil, Nat.zero_add] at ho
          have O := Lib.hid (use5 ho)
          clear ho hd
          go_wp2
          go_ret3
          exact use_some (y := (3, [rk])) O.out.1 O.out.2 HM5.out

set_option maxHeartbeats 4000000 in
theorem use_6 (v : Value) (ps : List (List Int)) (a : Nat) (w : World) (h : RdS w v ps) (ha : a < ps.length) (hl : ps.length ≤ 60) (hp : ∀ q ∈ ps, isPart q) (hne : ∀ q ∈ ps, 1 ≤ q.length) (hv60 : ∀ q ∈ ps, q.length ≤ 60) :
    Calls Tryd.prog 58 #[v, .int .i64 6, .int .i64 a] w (UsPost w (mUse 6 (ps.drop a))) := by
  obtain ⟨C, hq0, hq1, hq2⟩ := useCtx v ps a w h ha hne
  have H := Lib.hid h
  obtain ⟨A, c, rfl, _⟩ := h
  have haI : (a : Int) < ps.length := by omega
  have hlI : (ps.length : Int) ≤ 60 := by omega
  have HP := Lib.hid hp; clear hp
  have HN := Lib.hid (And.intro hne hv60)
  clear hne hv60
  obtain ⟨ps', hps⟩ : ∃ ps', ps.drop a = ps' := ⟨_, rfl⟩
  rw [hps] at C hq0 hq1 hq2 ⊢
  have HPS := Lib.hid hps; clear hps
  rcases C with ⟨b0, b1, p1, n0, e0, e1, e2, e3, C0, C1, C2, C3, CW, CN, CQ⟩
  have D0 := Lib.hid C0; have D1 := Lib.hid C1; have D2 := Lib.hid C2; have D3 := Lib.hid C3; have DW := Lib.hid CW; have DN := Lib.hid CN; have DQ := Lib.hid CQ
  clear C0 C1 C2 C3 CW CN CQ
  have E := Lib.hid (And.intro e0 (And.intro e1 (And.intro e2 e3)))
  clear e0 e1 e2 e3
  have Q := Lib.hid (And.intro hq0 (And.intro hq1 hq2)); clear hq0 hq1 hq2
  rcases n0 with _ | _
  · go_enter Tryd.func58, Tryd.ntmps58
    go_wp2_with fail
    refine D0.out.mono ?_
    rintro e w' ⟨rfl, rfl⟩
    go_wp2_with fail
    refine D1.out.mono ?_
    rintro e w' ⟨rfl, rfl⟩
    go_wp2_with fail
    refine D2.out.mono ?_
    rintro e w' ⟨rfl, rfl⟩
    go_wp2_with fail
    refine D3.out.mono ?_
    rintro e w' ⟨rfl, rfl⟩
    clear D0 D1 D2 D3
    have L0 := Lib.hid (lit_nil w)
    go_wp2
    go_ret3
    exact use_none L0.out (by simp [mUse, E.out.2.2.2])
  · rcases p1 with _ | _
    · go_enter Tryd.func58, Tryd.ntmps58
      go_wp2_with fail
      refine D0.out.mono ?_
      rintro e w' ⟨rfl, rfl⟩
      go_wp2_with fail
      refine D1.out.mono ?_
      rintro e w' ⟨rfl, rfl⟩
      go_wp2_with fail
      refine D2.out.mono ?_
      rintro e w' ⟨rfl, rfl⟩
      go_wp2_with fail
      refine D3.out.mono ?_
      rintro e w' ⟨rfl, rfl⟩
      clear D0 D1 D2 D3
      have L0 := Lib.hid (lit_nil w)
      go_wp2
      go_ret3
      exact use_none L0.out (by simp [mUse, E.out.2.2.1])
    · rcases hwq : qAt ps' 2 with _ | _
      · have Wq := Lib.hid hwq; clear hwq; have Vq := Lib.hid (DQ.out 2 _ Wq.out)
        go_enter Tryd.func58, Tryd.ntmps58
        go_wp2_with fail
        refine D0.out.mono ?_
        rintro e w' ⟨rfl, rfl⟩
        go_wp2_with fail
        refine D1.out.mono ?_
        rintro e w' ⟨rfl, rfl⟩
        go_wp2_with fail
        refine D2.out.mono ?_
        rintro e w' ⟨rfl, rfl⟩
        go_wp2_with fail
        refine D3.out.mono ?_
        rintro e w' ⟨rfl, rfl⟩
        clear D0 D1 D2 D3
        have L0 := Lib.hid (lit_nil w)
        go_wp2_with ((go_at_call 83; refine Vq.out.mono ?_; rintro e w' ⟨rfl, rfl⟩))
        go_ret3
        exact use_none L0.out (by simp [mUse, Wq.out])
      · have Wq := Lib.hid hwq; clear hwq; have Vq := Lib.hid (DQ.out 2 _ Wq.out)
        rcases hwd : wAt ps' 3 1010 with _ | _
        · have Wd := Lib.hid hwd; clear hwd; have WC := Lib.hid (DW.out 3 1010 _ Wd.out); clear DW
          go_enter Tryd.func58, Tryd.ntmps58
          go_wp2_with fail
          refine D0.out.mono ?_
          rintro e w' ⟨rfl, rfl⟩
          go_wp2_with fail
          refine D1.out.mono ?_
          rintro e w' ⟨rfl, rfl⟩
          go_wp2_with fail
          refine D2.out.mono ?_
          rintro e w' ⟨rfl, rfl⟩
          go_wp2_with fail
          refine D3.out.mono ?_
          rintro e w' ⟨rfl, rfl⟩
          clear D0 D1 D2 D3
          have L0 := Lib.hid (lit_nil w)
          go_wp2_with ((first | (go_at_call 83; refine Vq.out.mono ?_; rintro e w' ⟨rfl, rfl⟩) | (go_at_call 85; refine WC.out.mono ?_; rintro e w' ⟨rfl, rfl⟩)))
          go_ret3
          exact use_none L0.out (by simp [mUse, Wd.out])
        · have Wd := Lib.hid hwd; clear hwd; have WC := Lib.hid (DW.out 3 1010 _ Wd.out); clear DW
          obtain ⟨bb0, off0, u0, hA0, hbb0, cell0, hu0⟩ := RdBS.get H.out (getD_at ha)
          have m0 := And.intro (HN.out.1 _ (List.mem_of_getElem? (getD_at ha))) (HN.out.2 _ (List.mem_of_getElem? (getD_at ha)))
          rw [← Q.out.1] at hu0 m0
          cases hA0
          have U0 := Lib.hid (hu0.rd (Nat.le_refl _)); clear hu0
          obtain ⟨q0, hq0⟩ : ∃ q, ps'.getD 0 [] = q := ⟨_, rfl⟩
          rw [hq0] at U0 m0
          have HQ0 := Lib.hid hq0; clear hq0
          obtain ⟨Av0, cv0, rfl, _⟩ := id U0.out
          obtain ⟨m0a, m0b⟩ := m0
          obtain ⟨z0, hzf0, hzl0, hzh0⟩ := nAt_form E.out.2.2.2
          rw [HQ0.out] at hzf0
          subst hzf0
          obtain ⟨A0q, c0q, hA0q, hi0q, _⟩ := U0.out
          cases hA0q
          obtain ⟨bn0, on0, rfl, hbn0, hcn0⟩ := hi0q.at_ (by simp)
          have ncell0 := hcn0 0 (by simp)
          simp only [Nat.add_zero, List.getD_cons_zero] at ncell0
          clear hcn0 hi0q
          simp only [List.length_cons, List.length_nil, Nat.zero_add] at cell0
          have hj1 : a + 1 < ps.length := (vAt_lt HPS.out (qAt_v E.out.2.2.1).1)
          have hjI1 : (a : Int) + 1 < (ps.length : Int) := by omega
          have hjP1 : (0 : Int) ≤ (a : Int) + 1 := by omega
          have hjT1 : ((a : Int) + 1).toNat = a + 1 := by omega
          have hjW1 : IntKind.i64.wrap ((a : Int) + 1) = (a : Int) + 1 := IntWalk.i64_in _ (by omega)
          obtain ⟨bb1, off1, u1, hA1, hbb1, cell1, hu1⟩ := RdBS.get H.out (getD_at hj1)
          have m1 := And.intro (HN.out.1 _ (List.mem_of_getElem? (getD_at hj1))) (HN.out.2 _ (List.mem_of_getElem? (getD_at hj1)))
          rw [← Q.out.2.1] at hu1 m1
          cases hA1
          have U1 := Lib.hid (hu1.rd (Nat.le_refl _)); clear hu1
          obtain ⟨q1, hq1⟩ : ∃ q, ps'.getD 1 [] = q := ⟨_, rfl⟩
          rw [hq1] at U1 m1
          have HQ1 := Lib.hid hq1; clear hq1
          obtain ⟨Av1, cv1, rfl, _⟩ := id U1.out
          obtain ⟨m1a, m1b⟩ := m1
          have hj2 : a + 2 < ps.length := (vAt_lt HPS.out (qAt_v Wq.out).1)
          have hjI2 : (a : Int) + 2 < (ps.length : Int) := by omega
          have hjP2 : (0 : Int) ≤ (a : Int) + 2 := by omega
          have hjT2 : ((a : Int) + 2).toNat = a + 2 := by omega
          have hjW2 : IntKind.i64.wrap ((a : Int) + 2) = (a : Int) + 2 := IntWalk.i64_in _ (by omega)
          obtain ⟨bb2, off2, u2, hA2, hbb2, cell2, hu2⟩ := RdBS.get H.out (getD_at hj2)
          have m2 := And.intro (HN.out.1 _ (List.mem_of_getElem? (getD_at hj2))) (HN.out.2 _ (List.mem_of_getElem? (getD_at hj2)))
          rw [← Q.out.2.2] at hu2 m2
          cases hA2
          have U2 := Lib.hid (hu2.rd (Nat.le_refl _)); clear hu2
          obtain ⟨q2, hq2⟩ : ∃ q, ps'.getD 2 [] = q := ⟨_, rfl⟩
          rw [hq2] at U2 m2
          have HQ2 := Lib.hid hq2; clear hq2
          obtain ⟨Av2, cv2, rfl, _⟩ := id U2.out
          obtain ⟨m2a, m2b⟩ := m2
          have hq1 := (qAt_v E.out.2.2.1).2
          rw [HQ1.out] at hq1
          have hq2 := (qAt_v Wq.out).2
          rw [HQ2.out] at hq2
          have HZ := Lib.hid (show zAt ps' 0 = z0 from by unfold zAt; rw [HQ0.out]; rfl)
          by_cases hz0 : 0 < z0
          · go_enter Tryd.func58, Tryd.ntmps58
            go_wp2_with fail
            refine D0.out.mono ?_
            rintro e w' ⟨rfl, rfl⟩
            go_wp2_with fail
            refine D1.out.mono ?_
            rintro e w' ⟨rfl, rfl⟩
            go_wp2_with fail
            refine D2.out.mono ?_
            rintro e w' ⟨rfl, rfl⟩
            go_wp2_with fail
            refine D3.out.mono ?_
            rintro e w' ⟨rfl, rfl⟩
            clear D0 D1 D2 D3
            go_wp2_with (first | (go_at_call 83; refine Vq.out.mono ?_; rintro e w' ⟨rfl, rfl⟩) | (go_at_call 85; refine WC.out.mono ?_; rintro e w' ⟨rfl, rfl⟩) | (go_at_call 86; refine (l2Body_any _ q1 _ U1.out (by omega)).mono ?_; rintro e w1 ⟨v1, rfl, ho1, hb1⟩))
            all_goals
              have O := Lib.hid (And.intro ho1 (hb1))
              clear ho1 hb1
              go_wp2
              go_ret3
              exact use_some (y := (4, inside q1)) O.out.1 O.out.2 (by rw [mUse_y6 E.out.2.2.2 E.out.2.2.1 Wq.out Wd.out, HZ.out, HQ1.out, if_pos hz0])
          · go_enter Tryd.func58, Tryd.ntmps58
            go_wp2_with fail
            refine D0.out.mono ?_
            rintro e w' ⟨rfl, rfl⟩
            go_wp2_with fail
            refine D1.out.mono ?_
            rintro e w' ⟨rfl, rfl⟩
            go_wp2_with fail
            refine D2.out.mono ?_
            rintro e w' ⟨rfl, rfl⟩
            go_wp2_with fail
            refine D3.out.mono ?_
            rintro e w' ⟨rfl, rfl⟩
            clear D0 D1 D2 D3
            go_wp2_with (first | (go_at_call 83; refine Vq.out.mono ?_; rintro e w' ⟨rfl, rfl⟩) | (go_at_call 85; refine WC.out.mono ?_; rintro e w' ⟨rfl, rfl⟩) | (go_at_call 86; refine (l2Body_any _ q2 _ U2.out (by omega)).mono ?_; rintro e w1 ⟨v1, rfl, ho1, hb1⟩))
            all_goals
              have O := Lib.hid (And.intro ho1 (hb1))
              clear ho1 hb1
              go_wp2
              go_ret3
              exact use_some (y := (4, inside q2)) O.out.1 O.out.2 (by rw [mUse_y6 E.out.2.2.2 E.out.2.2.1 Wq.out Wd.out, HZ.out, HQ2.out, if_neg (by omega)])

set_option maxHeartbeats 4000000 in
theorem use_7 (v : Value) (ps : List (List Int)) (a : Nat) (w : World) (h : RdS w v ps) (ha : a < ps.length) (hl : ps.length ≤ 60) (hp : ∀ q ∈ ps, isPart q) (hne : ∀ q ∈ ps, 1 ≤ q.length) (hv60 : ∀ q ∈ ps, q.length ≤ 60) :
    Calls Tryd.prog 58 #[v, .int .i64 7, .int .i64 a] w (UsPost w (mUse 7 (ps.drop a))) := by
  obtain ⟨C, hq0, hq1, hq2⟩ := useCtx v ps a w h ha hne
  have H := Lib.hid h
  obtain ⟨A, c, rfl, _⟩ := h
  have haI : (a : Int) < ps.length := by omega
  have hlI : (ps.length : Int) ≤ 60 := by omega
  have HP := Lib.hid hp; clear hp
  have HN := Lib.hid (And.intro hne hv60)
  clear hne hv60
  obtain ⟨ps', hps⟩ : ∃ ps', ps.drop a = ps' := ⟨_, rfl⟩
  rw [hps] at C hq0 hq1 hq2 ⊢
  have HPS := Lib.hid hps; clear hps
  rcases C with ⟨b0, b1, p1, n0, e0, e1, e2, e3, C0, C1, C2, C3, CW, CN, CQ⟩
  have D0 := Lib.hid C0; have D1 := Lib.hid C1; have D2 := Lib.hid C2; have D3 := Lib.hid C3; have DW := Lib.hid CW; have DN := Lib.hid CN; have DQ := Lib.hid CQ
  clear C0 C1 C2 C3 CW CN CQ
  have E := Lib.hid (And.intro e0 (And.intro e1 (And.intro e2 e3)))
  clear e0 e1 e2 e3
  have Q := Lib.hid (And.intro hq0 (And.intro hq1 hq2)); clear hq0 hq1 hq2
  rcases n0 with _ | _
  · go_enter Tryd.func58, Tryd.ntmps58
    go_wp2_with fail
    refine D0.out.mono ?_
    rintro e w' ⟨rfl, rfl⟩
    go_wp2_with fail
    refine D1.out.mono ?_
    rintro e w' ⟨rfl, rfl⟩
    go_wp2_with fail
    refine D2.out.mono ?_
    rintro e w' ⟨rfl, rfl⟩
    go_wp2_with fail
    refine D3.out.mono ?_
    rintro e w' ⟨rfl, rfl⟩
    clear D0 D1 D2 D3
    have L0 := Lib.hid (lit_nil w)
    go_wp2
    go_ret3
    exact use_none L0.out (by simp [mUse, E.out.2.2.2])
  · obtain ⟨bb0, off0, u0, hA0, hbb0, cell0, hu0⟩ := RdBS.get H.out (getD_at ha)
    have m0 := And.intro (HN.out.1 _ (List.mem_of_getElem? (getD_at ha))) (HN.out.2 _ (List.mem_of_getElem? (getD_at ha)))
    rw [← Q.out.1] at hu0 m0
    cases hA0
    have U0 := Lib.hid (hu0.rd (Nat.le_refl _)); clear hu0
    obtain ⟨q0, hq0⟩ : ∃ q, ps'.getD 0 [] = q := ⟨_, rfl⟩
    rw [hq0] at U0 m0
    have HQ0 := Lib.hid hq0; clear hq0
    obtain ⟨Av0, cv0, rfl, _⟩ := id U0.out
    obtain ⟨m0a, m0b⟩ := m0
    obtain ⟨z0, hzf0, hzl0, hzh0⟩ := nAt_form E.out.2.2.2
    rw [HQ0.out] at hzf0
    subst hzf0
    obtain ⟨A0q, c0q, hA0q, hi0q, _⟩ := U0.out
    cases hA0q
    obtain ⟨bn0, on0, rfl, hbn0, hcn0⟩ := hi0q.at_ (by simp)
    have ncell0 := hcn0 0 (by simp)
    simp only [Nat.add_zero, List.getD_cons_zero] at ncell0
    clear hcn0 hi0q
    simp only [List.length_cons, List.length_nil, Nat.zero_add] at cell0
    have HZ := Lib.hid (show zAt ps' 0 = z0 from by unfold zAt; rw [HQ0.out]; rfl)
    by_cases hz0 : z0 = 0
    · subst hz0
      rcases p1 with _ | _
      · go_enter Tryd.func58, Tryd.ntmps58
        go_wp2_with fail
        refine D0.out.mono ?_
        rintro e w' ⟨rfl, rfl⟩
        go_wp2_with fail
        refine D1.out.mono ?_
        rintro e w' ⟨rfl, rfl⟩
        go_wp2_with fail
        refine D2.out.mono ?_
        rintro e w' ⟨rfl, rfl⟩
        go_wp2_with fail
        refine D3.out.mono ?_
        rintro e w' ⟨rfl, rfl⟩
        clear D0 D1 D2 D3
        have L0 := Lib.hid (lit_nil w)
        go_wp2
        go_ret3
        exact use_none L0.out (by simp [mUse, E.out.2.2.1])
      · rcases hwd : wAt ps' 2 1011 with _ | _
        · have Wd := Lib.hid hwd; clear hwd; have WC := Lib.hid (DW.out 2 1011 _ Wd.out); clear DW
          go_enter Tryd.func58, Tryd.ntmps58
          go_wp2_with fail
          refine D0.out.mono ?_
          rintro e w' ⟨rfl, rfl⟩
          go_wp2_with fail
          refine D1.out.mono ?_
          rintro e w' ⟨rfl, rfl⟩
          go_wp2_with fail
          refine D2.out.mono ?_
          rintro e w' ⟨rfl, rfl⟩
          go_wp2_with fail
          refine D3.out.mono ?_
          rintro e w' ⟨rfl, rfl⟩
          clear D0 D1 D2 D3
          have L0 := Lib.hid (lit_nil w)
          go_wp2_with ((go_at_call 85; refine WC.out.mono ?_; rintro e w' ⟨rfl, rfl⟩))
          go_ret3
          exact use_none L0.out (by simp [mUse, Wd.out])
        · have Wd := Lib.hid hwd; clear hwd; have WC := Lib.hid (DW.out 2 1011 _ Wd.out); clear DW
          go_enter Tryd.func58, Tryd.ntmps58
          go_wp2_with fail
          refine D0.out.mono ?_
          rintro e w' ⟨rfl, rfl⟩
          go_wp2_with fail
          refine D1.out.mono ?_
          rintro e w' ⟨rfl, rfl⟩
          go_wp2_with fail
          refine D2.out.mono ?_
          rintro e w' ⟨rfl, rfl⟩
          go_wp2_with fail
          refine D3.out.mono ?_
          rintro e w' ⟨rfl, rfl⟩
          clear D0 D1 D2 D3
          go_wp2_with (go_at_call 85; refine WC.out.mono ?_; rintro e w' ⟨rfl, rfl⟩)
          have L0 := Lib.hid (lit_nil w)
          go_ret3
          exact use_some (y := (3, [])) L0.out.1 L0.out.2 (by simp [mUse, E.out.2.2.1, E.out.2.2.2, HZ.out, Wd.out])
    · have hzb : (z0 == 0) = false := by simp [hz0]
      have hzn := Lib.hid hz0
      clear hz0
      go_enter Tryd.func58, Tryd.ntmps58
      go_wp2_with fail
      refine D0.out.mono ?_
      rintro e w' ⟨rfl, rfl⟩
      go_wp2_with fail
      refine D1.out.mono ?_
      rintro e w' ⟨rfl, rfl⟩
      go_wp2_with fail
      refine D2.out.mono ?_
      rintro e w' ⟨rfl, rfl⟩
      go_wp2_with fail
      refine D3.out.mono ?_
      rintro e w' ⟨rfl, rfl⟩
      clear D0 D1 D2 D3
      have L0 := Lib.hid (lit_nil w)
      go_wp2
      go_ret3
      exact use_none L0.out (by simp [mUse, HZ.out, hzn.out])
end Go.Proofs.YtkdpfiaegimnlaaDoor
