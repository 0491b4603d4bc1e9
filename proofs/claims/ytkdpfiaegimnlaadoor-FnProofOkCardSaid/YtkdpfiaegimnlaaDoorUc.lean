/- The model's rules at a place: 8. -/
import Derived.Test.YtkdpfiaegimnlaaDoorVm
import Derived.Deep.RegionLaw
import Derived.Deep.RegionHeld3
import Derived.IntWalk
namespace Go.Proofs.YtkdpfiaegimnlaaDoor
set_option maxRecDepth 100000
open Go.RowKit Go.WideShapes

set_option maxHeartbeats 8000000 in
theorem use_8 (v : Value) (ps : List (List Int)) (a : Nat) (w : World) (h : RdS w v ps) (ha : a < ps.length) (hl : ps.length ≤ 60) (hp : ∀ q ∈ ps, isPart q) (hne : ∀ q ∈ ps, 1 ≤ q.length) (hv60 : ∀ q ∈ ps, q.length ≤ 60) :
    Calls Tryd.prog 58 #[v, .int .i64 8, .int .i64 a] w (UsPost w (mUse 8 (ps.drop a))) := by
  obtain ⟨C, hq0, hq1, hq2⟩ := useCtx v ps a w h ha hne
  have H := Lib.hid h
  obtain ⟨A, c, rfl, _⟩ := h
  have haI : (a : Int) < ps.length := by omega
  have hlI : (ps.length : Int) ≤ 60 := by omega
  have HP := Lib.hid hp; clear hp
  have HN := Lib.hid (And.intro hne hv60)
  clear hne hv60
  obtain ⟨ps', hps⟩ : ∃ ps', ps.drop a = ps' := ⟨_, rfl⟩
  rw [hps] at C hq0 hq1 hq2 ⊢
  have HPS := Lib.hid hps; clear hps
  rcases C with ⟨b0, b1, p1, n0, e0, e1, e2, e3, C0, C1, C2, C3, CW, CN, CQ⟩
  have D0 := Lib.hid C0; have D1 := Lib.hid C1; have D2 := Lib.hid C2; have D3 := Lib.hid C3; have DW := Lib.hid CW; have DN := Lib.hid CN; have DQ := Lib.hid CQ
  clear C0 C1 C2 C3 CW CN CQ
  have E := Lib.hid (And.intro e0 (And.intro e1 (And.intro e2 e3)))
  clear e0 e1 e2 e3
  have Q := Lib.hid (And.intro hq0 (And.intro hq1 hq2)); clear hq0 hq1 hq2
  rcases n0 with _ | _
  · go_enter Tryd.func58, Tryd.ntmps58
    go_wp2_with fail
    refine D0.out.mono ?_
    rintro e w' ⟨rfl, rfl⟩
    go_wp2_with fail
    refine D1.out.mono ?_
    rintro e w' ⟨rfl, rfl⟩
    go_wp2_with fail
    refine D2.out.mono ?_
    rintro e w' ⟨rfl, rfl⟩
    go_wp2_with fail
    refine D3.out.mono ?_
    rintro e w' ⟨rfl, rfl⟩
    clear D0 D1 D2 D3
    have L0 := Lib.hid (lit_nil w)
    go_wp2
    go_ret3
    exact use_none L0.out (by simp [mUse, E.out.2.2.2])
  · obtain ⟨bb0, off0, u0, hA0, hbb0, cell0, hu0⟩ := RdBS.get H.out (getD_at ha)
    have m0 := And.intro (HN.out.1 _ (List.mem_of_getElem? (getD_at ha))) (HN.out.2 _ (List.mem_of_getElem? (getD_at ha)))
    rw [← Q.out.1] at hu0 m0
    cases hA0
    have U0 := Lib.hid (hu0.rd (Nat.le_refl _)); clear hu0
    obtain ⟨q0, hq0⟩ : ∃ q, ps'.getD 0 [] = q := ⟨_, rfl⟩
    rw [hq0] at U0 m0
    have HQ0 := Lib.hid hq0; clear hq0
    obtain ⟨Av0, cv0, rfl, _⟩ := id U0.out
    obtain ⟨m0a, m0b⟩ := m0
    obtain ⟨z0, hzf0, hzl0, hzh0⟩ := nAt_form E.out.2.2.2
    rw [HQ0.out] at hzf0
    subst hzf0
    obtain ⟨A0q, c0q, hA0q, hi0q, _⟩ := U0.out
    cases hA0q
    obtain ⟨bn0, on0, rfl, hbn0, hcn0⟩ := hi0q.at_ (by simp)
    have ncell0 := hcn0 0 (by simp)
    simp only [Nat.add_zero, List.getD_cons_zero] at ncell0
    clear hcn0 hi0q
    simp only [List.length_cons, List.length_nil, Nat.zero_add] at cell0
    have HZ := Lib.hid (show zAt ps' 0 = z0 from by unfold zAt; rw [HQ0.out]; rfl)
    by_cases hz8 : 0 < z0
    · rcases p1 with _ | _
      · go_enter Tryd.func58, Tryd.ntmps58
        go_wp2_with fail
        refine D0.out.mono ?_
        rintro e w' ⟨rfl, rfl⟩
        go_wp2_with fail
        refine D1.out.mono ?_
        rintro e w' ⟨rfl, rfl⟩
        go_wp2_with fail
        refine D2.out.mono ?_
        rintro e w' ⟨rfl, rfl⟩
        go_wp2_with fail
        refine D3.out.mono ?_
        rintro e w' ⟨rfl, rfl⟩
        clear D0 D1 D2 D3
        have L0 := Lib.hid (lit_nil w)
        go_wp2
        go_ret3
        exact use_none L0.out (by simp [mUse, E.out.2.2.1])
      · rcases hwd : wAt ps' 2 1011 with _ | _
        · have Wd := Lib.hid hwd; clear hwd; have WC := Lib.hid (DW.out 2 1011 _ Wd.out); clear DW
          go_enter Tryd.func58, Tryd.ntmps58
          go_wp2_with fail
          refine D0.out.mono ?_
          rintro e w' ⟨rfl, rfl⟩
          go_wp2_with fail
          refine D1.out.mono ?_
          rintro e w' ⟨rfl, rfl⟩
          go_wp2_with fail
          refine D2.out.mono ?_
          rintro e w' ⟨rfl, rfl⟩
          go_wp2_with fail
          refine D3.out.mono ?_
          rintro e w' ⟨rfl, rfl⟩
          clear D0 D1 D2 D3
          have L0 := Lib.hid (lit_nil w)
          go_wp2_with ((go_at_call 85; refine WC.out.mono ?_; rintro e w' ⟨rfl, rfl⟩))
          go_ret3
          exact use_none L0.out (by simp [mUse, Wd.out])
        · have Wd := Lib.hid hwd; clear hwd; have WC := Lib.hid (DW.out 2 1011 _ Wd.out); clear DW
          have hj1 : a + 1 < ps.length := (vAt_lt HPS.out (qAt_v E.out.2.2.1).1)
          have hjI1 : (a : Int) + 1 < (ps.length : Int) := by omega
          have hjP1 : (0 : Int) ≤ (a : Int) + 1 := by omega
          have hjT1 : ((a : Int) + 1).toNat = a + 1 := by omega
          have hjW1 : IntKind.i64.wrap ((a : Int) + 1) = (a : Int) + 1 := IntWalk.i64_in _ (by omega)
          obtain ⟨bb1, off1, u1, hA1, hbb1, cell1, hu1⟩ := RdBS.get H.out (getD_at hj1)
          have m1 := And.intro (HN.out.1 _ (List.mem_of_getElem? (getD_at hj1))) (HN.out.2 _ (List.mem_of_getElem? (getD_at hj1)))
          rw [← Q.out.2.1] at hu1 m1
          cases hA1
          have U1 := Lib.hid (hu1.rd (Nat.le_refl _)); clear hu1
          obtain ⟨q1, hq1⟩ : ∃ q, ps'.getD 1 [] = q := ⟨_, rfl⟩
          rw [hq1] at U1 m1
          have HQ1 := Lib.hid hq1; clear hq1
          obtain ⟨Av1, cv1, rfl, _⟩ := id U1.out
          obtain ⟨m1a, m1b⟩ := m1
          have hq2 := (qAt_v E.out.2.2.1).2
          rw [HQ1.out] at hq2
          go_enter Tryd.func58, Tryd.ntmps58
          go_wp2_with fail
          refine D0.out.mono ?_
          rintro e w' ⟨rfl, rfl⟩
          go_wp2_with fail
          refine D1.out.mono ?_
          rintro e w' ⟨rfl, rfl⟩
          go_wp2_with fail
          refine D2.out.mono ?_
          rintro e w' ⟨rfl, rfl⟩
          go_wp2_with fail
          refine D3.out.mono ?_
          rintro e w' ⟨rfl, rfl⟩
          clear D0 D1 D2 D3
          go_wp2_with (go_at_call 85; refine WC.out.mono ?_; rintro e w' ⟨rfl, rfl⟩)
          have hd : Below w.heap.size w w.drew := (Below.refl _ _).drew
          have kk0 := (hd.cell (p := ⟨bb0, off0 + a, none⟩) hbb0).trans cell0
          have kk1 := (hd.cell (p := ⟨bb0, off0 + (a + 1), none⟩) hbb1).trans cell1
          have nn0 := (hd.cell (p := ⟨bn0, on0, none⟩) hbn0).trans ncell0
          have HW1 : Hid (InK .i64 (z0 - 1)) := Lib.hid (wf_near _ (by omega))
          have HW2 : Hid (InK .i64 1011) := Lib.hid (wf_near _ (by omega))
          have hww : IntKind.i64.wrap (z0 - 1) = z0 - 1 := IntWalk.i64_in _ (by omega)
          have hil := @inside_len q1
          go_region_held3 (fun W => W.cell? ⟨bb0, off0 + (a + 1), none⟩ = some (.slice Av1 q1.length cv1) ∧ W.cell? ⟨bb0, off0 + a, none⟩ = some (.slice (some ⟨bn0, on0, none⟩) 1 cv0) ∧ W.cell? ⟨bn0, on0, none⟩ = some (.int .i64 z0)) (repeat' (first | exact kk0 | exact kk1 | exact nn0 | exact kkL_0 | exact kkL_1 | exact kkL_2 | exact kk1_0 | exact kk1_1 | exact kk1_2 | exact kk2_0 | exact kk2_1 | exact kk2_2 | exact kk3_0 | exact kk3_1 | exact kk3_2 | apply And.intro | rw [World.cell?_drew] | rw [World.cell?_alloc_lt _ _ _ (by first | omega | (simp; omega))])) (first | (refine step_append_O rfl _ _ _ rfl Tryd.underlying23 intInfo _ _ (.slice Aw2 n2 cw2) (inside q1 ++ [z0 - 1] ++ q1) rfl (OwnI.below ho2 ?_) (by first | omega | (simp; done) | (simp; omega)) _ ([1011]) rfl ?_ (by first | omega | (simp; done) | (simp; omega)) ?_; (· (repeat (first | exact Below.refl _ _ | refine Below.alloc ?_ (by first | omega | (simp; done) | (simp; omega)) _ | refine Below.drew ?_))); (· exact rd_cell (by (repeat' (first | rw [World.cell?_drew] | exact lit_cell _ _ _ _ (by first | omega | (simp; done) | (simp; omega)) | rw [World.cell?_alloc_lt _ _ _ (by first | omega | (simp; done) | (simp; omega))] | (refine (g2 _ _ ?_ ?_).1) | (refine (g1 _ _ ?_ ?_).1) | exact own_ne_hi ho1 (by first | omega | (simp; done) | (simp; omega)) | exact own_ne_hi hoL (by first | omega | (simp; done) | (simp; omega)) | exact own_ne_lo hoL (by first | omega | (simp; done) | (simp; omega)) | (refine (g1 ⟨_, 0, none⟩ (.int .i64 1011) ?_ ?_).2) | (refine (hbL.cell (by first | omega | (simp; done) | (simp; omega))).trans ?_)))) HW2.out); intro v3 w3 ho3 hb3 g3; have hz3 := hb3.size; (try simp at hz3); have F3 : Below w.heap.size w w3 := (by refine Below.trans ?_ (hb3.mono (by first | omega | (simp; done) | (simp; omega))); (repeat (first | exact Below.refl _ _ | exact F2 | exact F1 | exact FL | refine Below.alloc ?_ (by first | omega | (simp; done) | (simp; omega)) _ | refine Below.drew ?_))); have O3 := Lib.hid (And.intro (ho3.low (lo := w.heap.size) (by first | omega | (simp; done) | (simp; omega))) F3); have kk3_0 := (F3.cell (p := ⟨bb0, off0 + a, none⟩) hbb0).trans cell0; have kk3_1 := (F3.cell (p := ⟨bb0, off0 + (a + 1), none⟩) hbb1).trans cell1; have kk3_2 := (F3.cell (p := ⟨bn0, on0, none⟩) hbn0).trans ncell0) | (refine step_append_O rfl _ _ _ rfl Tryd.underlying23 intInfo _ _ (.slice Aw1 n1 cw1) (inside q1 ++ [z0 - 1]) rfl (OwnI.below ho1 ?_) (by first | omega | (simp; done) | (simp; omega)) _ (q1) rfl ?_ (by first | omega | (simp; done) | (simp; omega)) ?_; (· (repeat (first | exact Below.refl _ _ | refine Below.alloc ?_ (by first | omega | (simp; done) | (simp; omega)) _ | refine Below.drew ?_))); (· exact U1.out.step (by (repeat (first | exact Below.refl _ _ | exact F2 | exact F1 | exact FL | refine Below.alloc ?_ (by first | omega | (simp; done) | (simp; omega)) _ | refine Below.drew ?_)))); intro v2 w2 ho2 hb2 g2; have hz2 := hb2.size; (try simp at hz2); obtain ⟨Aw2, cw2, rfl, _⟩ := id ho2.rd; generalize hn2 : (inside q1 ++ [z0 - 1] ++ q1).length = n2 at ho2 g2 ⊢; clear hn2; have F2 : Below w.heap.size w w2 := (by refine Below.trans ?_ (hb2.mono (by first | omega | (simp; done) | (simp; omega))); (repeat (first | exact Below.refl _ _ | exact F2 | exact F1 | exact FL | refine Below.alloc ?_ (by first | omega | (simp; done) | (simp; omega)) _ | refine Below.drew ?_))); have kk2_0 := (F2.cell (p := ⟨bb0, off0 + a, none⟩) hbb0).trans cell0; have kk2_1 := (F2.cell (p := ⟨bb0, off0 + (a + 1), none⟩) hbb1).trans cell1; have kk2_2 := (F2.cell (p := ⟨bn0, on0, none⟩) hbn0).trans ncell0) | (refine step_append_O rfl _ _ _ rfl Tryd.underlying23 intInfo _ _ (.slice AwL (inside q1).length cwL) (inside q1) rfl (OwnI.below hoL ?_) (by first | omega | (simp; done) | (simp; omega)) _ [z0 - 1] rfl ?_ (by first | omega | (simp; done) | (simp; omega)) ?_; (· (repeat (first | exact Below.refl _ _ | refine Below.alloc ?_ (by first | omega | (simp; done) | (simp; omega)) _ | refine Below.drew ?_))); (· exact rd_cell (by (repeat' (first | rw [World.cell?_drew] | exact lit_cell _ _ _ _ (by first | omega | (simp; done) | (simp; omega)) | rw [World.cell?_alloc_lt _ _ _ (by first | omega | (simp; done) | (simp; omega))] | (refine (hbL.cell (by first | omega | (simp; done) | (simp; omega))).trans ?_)))) HW1.out); intro v1 w1 ho1 hb1 g1; have hz1 := hb1.size; (try simp at hz1); obtain ⟨Aw1, cw1, rfl, _⟩ := id ho1.rd; generalize hn1 : (inside q1 ++ [z0 - 1]).length = n1 at ho1 g1 ⊢; clear hn1; have F1 : Below w.heap.size w w1 := (by refine Below.trans ?_ (hb1.mono (by first | omega | (simp; done) | (simp; omega))); (repeat (first | exact Below.refl _ _ | exact F2 | exact F1 | exact FL | refine Below.alloc ?_ (by first | omega | (simp; done) | (simp; omega)) _ | refine Below.drew ?_))); have kk1_0 := (F1.cell (p := ⟨bb0, off0 + a, none⟩) hbb0).trans cell0; have kk1_1 := (F1.cell (p := ⟨bb0, off0 + (a + 1), none⟩) hbb1).trans cell1; have kk1_2 := (F1.cell (p := ⟨bn0, on0, none⟩) hbn0).trans ncell0) | (go_at_call 86; refine (l2Body_any _ q1 _ (U1.out.step ?_) (by omega)).mono ?_; (· (repeat (first | exact Below.refl _ _ | exact F2 | exact F1 | exact FL | refine Below.alloc ?_ (by first | omega | (simp; done) | (simp; omega)) _ | refine Below.drew ?_))); rintro e wL ⟨vL, rfl, hoL, hbL⟩; have hzL := hbL.size; (try simp at hzL); have FL : Below w.heap.size w wL := (by refine Below.trans ?_ (hbL.mono (by first | omega | (simp; done) | (simp; omega))); (repeat (first | exact Below.refl _ _ | exact F2 | exact F1 | exact FL | refine Below.alloc ?_ (by first | omega | (simp; done) | (simp; omega)) _ | refine Below.drew ?_))); obtain ⟨AwL, cwL, rfl, _⟩ := id hoL.rd; have kkL_0 := (FL.cell (p := ⟨bb0, off0 + a, none⟩) hbb0).trans cell0; have kkL_1 := (FL.cell (p := ⟨bb0, off0 + (a + 1), none⟩) hbb1).trans cell1; have kkL_2 := (FL.cell (p := ⟨bn0, on0, none⟩) hbn0).trans ncell0))
          all_goals
            clear F1 F2 F3 FL ho1 ho2 ho3 hoL hb1 hb2 hb3 hbL g1 g2 g3 hd
            go_wp2
            go_ret3
            exact use_some (y := (3, inside q1 ++ [z0 - 1] ++ q1 ++ [1011])) O3.out.1 O3.out.2 (by rw [mUse_y8 E.out.2.2.2 (by rw [HZ.out]; exact hz8) E.out.2.2.1 Wd.out, HZ.out, HQ1.out]; simp)
    · have hzn := Lib.hid hz8
      have hz9 : ¬ (0 < z0) := hz8
      go_enter Tryd.func58, Tryd.ntmps58
      go_wp2_with fail
      refine D0.out.mono ?_
      rintro e w' ⟨rfl, rfl⟩
      go_wp2_with fail
      refine D1.out.mono ?_
      rintro e w' ⟨rfl, rfl⟩
      go_wp2_with fail
      refine D2.out.mono ?_
      rintro e w' ⟨rfl, rfl⟩
      go_wp2_with fail
      refine D3.out.mono ?_
      rintro e w' ⟨rfl, rfl⟩
      clear D0 D1 D2 D3
      have L0 := Lib.hid (lit_nil w)
      go_wp2
      go_ret3
      exact use_none L0.out (by unfold mUse; rw [if_neg (by omega), if_neg (by omega), if_neg (by omega), if_neg (by omega), if_neg (by omega), if_neg (by omega), if_neg (by omega), if_neg (by omega), if_neg (fun h => by have h8 := h.2.2.1; have h9 := hzn.out; rw [HZ.out] at h8; omega)])
end Go.Proofs.YtkdpfiaegimnlaaDoor
