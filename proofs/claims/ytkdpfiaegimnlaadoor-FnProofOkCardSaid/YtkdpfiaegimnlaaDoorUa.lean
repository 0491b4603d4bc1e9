/- The model's rules at a place: 0, 1, 2, 3, 4, x. -/
import Derived.Test.YtkdpfiaegimnlaaDoorVm
import Derived.Deep.RegionLaw
import Derived.Deep.RegionHeld3
import Derived.IntWalk
namespace Go.Proofs.YtkdpfiaegimnlaaDoor
set_option maxRecDepth 100000
open Go.RowKit Go.WideShapes

set_option maxHeartbeats 4000000 in
theorem use_0 (v : Value) (ps : List (List Int)) (a : Nat) (w : World) (h : RdS w v ps) (ha : a < ps.length) (hl : ps.length ≤ 60) (hp : ∀ q ∈ ps, isPart q) (hne : ∀ q ∈ ps, 1 ≤ q.length) (hv60 : ∀ q ∈ ps, q.length ≤ 60) :
    Calls Tryd.prog 58 #[v, .int .i64 0, .int .i64 a] w (UsPost w (mUse 0 (ps.drop a))) := by
  obtain ⟨C, hq0, hq1, hq2⟩ := useCtx v ps a w h ha hne
  have H := Lib.hid h
  obtain ⟨A, c, rfl, _⟩ := h
  have haI : (a : Int) < ps.length := by omega
  have hlI : (ps.length : Int) ≤ 60 := by omega
  have HP := Lib.hid hp; clear hp
  have HN := Lib.hid (And.intro hne hv60)
  clear hne hv60
  obtain ⟨ps', hps⟩ : ∃ ps', ps.drop a = ps' := ⟨_, rfl⟩
  rw [hps] at C hq0 hq1 hq2 ⊢
  have HPS := Lib.hid hps; clear hps
  rcases C with ⟨b0, b1, p1, n0, e0, e1, e2, e3, C0, C1, C2, C3, CW, CN, CQ⟩
  have D0 := Lib.hid C0; have D1 := Lib.hid C1; have D2 := Lib.hid C2; have D3 := Lib.hid C3; have DW := Lib.hid CW; have DN := Lib.hid CN; have DQ := Lib.hid CQ
  clear C0 C1 C2 C3 CW CN CQ
  have E := Lib.hid (And.intro e0 (And.intro e1 (And.intro e2 e3)))
  clear e0 e1 e2 e3
  have Q := Lib.hid (And.intro hq0 (And.intro hq1 hq2)); clear hq0 hq1 hq2
  rcases b0 with _ | _
  · go_enter Tryd.func58, Tryd.ntmps58
    go_wp2_with fail
    refine D0.out.mono ?_
    rintro e w' ⟨rfl, rfl⟩
    go_wp2_with fail
    refine D1.out.mono ?_
    rintro e w' ⟨rfl, rfl⟩
    go_wp2_with fail
    refine D2.out.mono ?_
    rintro e w' ⟨rfl, rfl⟩
    go_wp2_with fail
    refine D3.out.mono ?_
    rintro e w' ⟨rfl, rfl⟩
    clear D0 D1 D2 D3
    have L0 := Lib.hid (lit_nil w)
    go_wp2
    go_ret3
    exact use_none L0.out (by simp [mUse, E.out.1])
  · rcases hwd : wAt ps' 1 1002 with _ | _
    · have Wd := Lib.hid hwd; clear hwd; have WC := Lib.hid (DW.out 1 1002 _ Wd.out); clear DW
      go_enter Tryd.func58, Tryd.ntmps58
      go_wp2_with fail
      refine D0.out.mono ?_
      rintro e w' ⟨rfl, rfl⟩
      go_wp2_with fail
      refine D1.out.mono ?_
      rintro e w' ⟨rfl, rfl⟩
      go_wp2_with fail
      refine D2.out.mono ?_
      rintro e w' ⟨rfl, rfl⟩
      go_wp2_with fail
      refine D3.out.mono ?_
      rintro e w' ⟨rfl, rfl⟩
      clear D0 D1 D2 D3
      have L0 := Lib.hid (lit_nil w)
      go_wp2_with ((go_at_call 85; refine WC.out.mono ?_; rintro e w' ⟨rfl, rfl⟩))
      go_ret3
      exact use_none L0.out (by simp [mUse, Wd.out])
    · have Wd := Lib.hid hwd; clear hwd; have WC := Lib.hid (DW.out 1 1002 _ Wd.out); clear DW
      go_enter Tryd.func58, Tryd.ntmps58
      go_wp2_with fail
      refine D0.out.mono ?_
      rintro e w' ⟨rfl, rfl⟩
      go_wp2_with fail
      refine D1.out.mono ?_
      rintro e w' ⟨rfl, rfl⟩
      go_wp2_with fail
      refine D2.out.mono ?_
      rintro e w' ⟨rfl, rfl⟩
      go_wp2_with fail
      refine D3.out.mono ?_
      rintro e w' ⟨rfl, rfl⟩
      clear D0 D1 D2 D3
      go_wp2_with (go_at_call 85; refine WC.out.mono ?_; rintro e w' ⟨rfl, rfl⟩)
      have L0 := Lib.hid (lit_nil w)
      go_ret3
      exact use_some (y := (2, [])) L0.out.1 L0.out.2 (by simp [mUse, E.out.1, Wd.out])

set_option maxHeartbeats 4000000 in
theorem use_1 (v : Value) (ps : List (List Int)) (a : Nat) (w : World) (h : RdS w v ps) (ha : a < ps.length) (hl : ps.length ≤ 60) (hp : ∀ q ∈ ps, isPart q) (hne : ∀ q ∈ ps, 1 ≤ q.length) (hv60 : ∀ q ∈ ps, q.length ≤ 60) :
    Calls Tryd.prog 58 #[v, .int .i64 1, .int .i64 a] w (UsPost w (mUse 1 (ps.drop a))) := by
  obtain ⟨C, hq0, hq1, hq2⟩ := useCtx v ps a w h ha hne
  have H := Lib.hid h
  obtain ⟨A, c, rfl, _⟩ := h
  have haI : (a : Int) < ps.length := by omega
  have hlI : (ps.length : Int) ≤ 60 := by omega
  have HP := Lib.hid hp; clear hp
  have HN := Lib.hid (And.intro hne hv60)
  clear hne hv60
  obtain ⟨ps', hps⟩ : ∃ ps', ps.drop a = ps' := ⟨_, rfl⟩
  rw [hps] at C hq0 hq1 hq2 ⊢
  have HPS := Lib.hid hps; clear hps
  rcases C with ⟨b0, b1, p1, n0, e0, e1, e2, e3, C0, C1, C2, C3, CW, CN, CQ⟩
  have D0 := Lib.hid C0; have D1 := Lib.hid C1; have D2 := Lib.hid C2; have D3 := Lib.hid C3; have DW := Lib.hid CW; have DN := Lib.hid CN; have DQ := Lib.hid CQ
  clear C0 C1 C2 C3 CW CN CQ
  have E := Lib.hid (And.intro e0 (And.intro e1 (And.intro e2 e3)))
  clear e0 e1 e2 e3
  have Q := Lib.hid (And.intro hq0 (And.intro hq1 hq2)); clear hq0 hq1 hq2
  rcases b0 with _ | _
  · go_enter Tryd.func58, Tryd.ntmps58
    go_wp2_with fail
    refine D0.out.mono ?_
    rintro e w' ⟨rfl, rfl⟩
    go_wp2_with fail
    refine D1.out.mono ?_
    rintro e w' ⟨rfl, rfl⟩
    go_wp2_with fail
    refine D2.out.mono ?_
    rintro e w' ⟨rfl, rfl⟩
    go_wp2_with fail
    refine D3.out.mono ?_
    rintro e w' ⟨rfl, rfl⟩
    clear D0 D1 D2 D3
    have L0 := Lib.hid (lit_nil w)
    go_wp2
    go_ret3
    exact use_none L0.out (by simp [mUse, E.out.1])
  · rcases hwd : wAt ps' 1 1001 with _ | _
    · have Wd := Lib.hid hwd; clear hwd; have WC := Lib.hid (DW.out 1 1001 _ Wd.out); clear DW
      go_enter Tryd.func58, Tryd.ntmps58
      go_wp2_with fail
      refine D0.out.mono ?_
      rintro e w' ⟨rfl, rfl⟩
      go_wp2_with fail
      refine D1.out.mono ?_
      rintro e w' ⟨rfl, rfl⟩
      go_wp2_with fail
      refine D2.out.mono ?_
      rintro e w' ⟨rfl, rfl⟩
      go_wp2_with fail
      refine D3.out.mono ?_
      rintro e w' ⟨rfl, rfl⟩
      clear D0 D1 D2 D3
      have L0 := Lib.hid (lit_nil w)
      go_wp2_with ((go_at_call 85; refine WC.out.mono ?_; rintro e w' ⟨rfl, rfl⟩))
      go_ret3
      exact use_none L0.out (by simp [mUse, Wd.out])
    · have Wd := Lib.hid hwd; clear hwd; have WC := Lib.hid (DW.out 1 1001 _ Wd.out); clear DW
      go_enter Tryd.func58, Tryd.ntmps58
      go_wp2_with fail
      refine D0.out.mono ?_
      rintro e w' ⟨rfl, rfl⟩
      go_wp2_with fail
      refine D1.out.mono ?_
      rintro e w' ⟨rfl, rfl⟩
      go_wp2_with fail
      refine D2.out.mono ?_
      rintro e w' ⟨rfl, rfl⟩
      go_wp2_with fail
      refine D3.out.mono ?_
      rintro e w' ⟨rfl, rfl⟩
      clear D0 D1 D2 D3
      obtain ⟨bb0, off0, u0, hA0, hbb0, cell0, hu0⟩ := RdBS.get H.out (getD_at ha)
      have m0 := And.intro (HN.out.1 _ (List.mem_of_getElem? (getD_at ha))) (HN.out.2 _ (List.mem_of_getElem? (getD_at ha)))
      rw [← Q.out.1] at hu0 m0
      cases hA0
      have U0 := Lib.hid (hu0.rd (Nat.le_refl _)); clear hu0
      obtain ⟨q0, hq0⟩ : ∃ q, ps'.getD 0 [] = q := ⟨_, rfl⟩
      rw [hq0] at U0 m0
      have HQ0 := Lib.hid hq0; clear hq0
      obtain ⟨Av0, cv0, rfl, _⟩ := id U0.out
      obtain ⟨m0a, m0b⟩ := m0
      go_wp2_with (go_at_call 85; refine WC.out.mono ?_; rintro e w' ⟨rfl, rfl⟩)
      obtain ⟨L0, hd⟩ := lit_nil_drew w
      have kk0 := (hd.cell (p := ⟨bb0, off0 + a, none⟩) hbb0).trans cell0
      go_region_held3 (fun W => W.cell? ⟨bb0, off0 + a, none⟩ = some (.slice Av0 q0.length cv0)) (repeat' (first | exact cell0 | exact kk0 | exact kk1_0 | exact kk2_0 | apply And.intro | rw [World.cell?_drew] | rw [World.cell?_alloc_lt _ _ _ (by first | omega | (simp; omega))])) (first | (refine step_append_V rfl _ _ _ rfl Tryd.underlying23 intInfo (w.heap.size) (w1.heap.size) _ (q0) rfl ho1 (by first | omega | (simp; done) | (simp; omega)) _ (q0) rfl (U0.out.step (hd.trans hb1)) (by first | omega | (simp; done) | (simp; omega)) ?_; intro v2 w2 ho2 hb2; (try rw [List.nil_append] at ho2); have hz2 := hb2.size; (try simp at hz2); have kk2_0 := (hb2.cell (p := ⟨bb0, off0 + a, none⟩) hbb0).trans kk1_0) | (refine step_append_V rfl _ _ _ rfl Tryd.underlying23 intInfo (w.heap.size) (w.heap.size + 1) _ ([]) rfl L0 (by first | omega | (simp; done) | (simp; omega)) _ (q0) rfl (U0.out.step hd) (by first | omega | (simp; done) | (simp; omega)) ?_; intro v1 w1 ho1 hb1; (try rw [List.nil_append] at ho1); have hz1 := hb1.size; (try simp at hz1); obtain ⟨Aw1, cw1, rfl, _⟩ := id ho1.rd; have kk1_0 := (hb1.cell (p := ⟨bb0, off0 + a, none⟩) hbb0).trans kk0))
      all_goals
        have O := Lib.hid (And.intro ho2 (hd.trans (hb1.trans hb2)))
        clear ho1 ho2 hb1 hb2 hd L0
        go_wp2
        go_ret3
        exact use_some (y := (2, q0 ++ q0)) O.out.1 O.out.2 (by rw [mUse_y1 E.out.1 Wd.out, HQ0.out])

set_option maxHeartbeats 4000000 in
theorem use_2 (v : Value) (ps : List (List Int)) (a : Nat) (w : World) (h : RdS w v ps) (ha : a < ps.length) (hl : ps.length ≤ 60) (hp : ∀ q ∈ ps, isPart q) (hne : ∀ q ∈ ps, 1 ≤ q.length) (hv60 : ∀ q ∈ ps, q.length ≤ 60) :
    Calls Tryd.prog 58 #[v, .int .i64 2, .int .i64 a] w (UsPost w (mUse 2 (ps.drop a))) := by
  obtain ⟨C, hq0, hq1, hq2⟩ := useCtx v ps a w h ha hne
  have H := Lib.hid h
  obtain ⟨A, c, rfl, _⟩ := h
  have haI : (a : Int) < ps.length := by omega
  have hlI : (ps.length : Int) ≤ 60 := by omega
  have HP := Lib.hid hp; clear hp
  have HN := Lib.hid (And.intro hne hv60)
  clear hne hv60
  obtain ⟨ps', hps⟩ : ∃ ps', ps.drop a = ps' := ⟨_, rfl⟩
  rw [hps] at C hq0 hq1 hq2 ⊢
  have HPS := Lib.hid hps; clear hps
  rcases C with ⟨b0, b1, p1, n0, e0, e1, e2, e3, C0, C1, C2, C3, CW, CN, CQ⟩
  have D0 := Lib.hid C0; have D1 := Lib.hid C1; have D2 := Lib.hid C2; have D3 := Lib.hid C3; have DW := Lib.hid CW; have DN := Lib.hid CN; have DQ := Lib.hid CQ
  clear C0 C1 C2 C3 CW CN CQ
  have E := Lib.hid (And.intro e0 (And.intro e1 (And.intro e2 e3)))
  clear e0 e1 e2 e3
  have Q := Lib.hid (And.intro hq0 (And.intro hq1 hq2)); clear hq0 hq1 hq2
  rcases b0 with _ | _
  · go_enter Tryd.func58, Tryd.ntmps58
    go_wp2_with fail
    refine D0.out.mono ?_
    rintro e w' ⟨rfl, rfl⟩
    go_wp2_with fail
    refine D1.out.mono ?_
    rintro e w' ⟨rfl, rfl⟩
    go_wp2_with fail
    refine D2.out.mono ?_
    rintro e w' ⟨rfl, rfl⟩
    go_wp2_with fail
    refine D3.out.mono ?_
    rintro e w' ⟨rfl, rfl⟩
    clear D0 D1 D2 D3
    have L0 := Lib.hid (lit_nil w)
    go_wp2
    go_ret3
    exact use_none L0.out (by simp [mUse, E.out.1])
  · rcases b1 with _ | _
    · go_enter Tryd.func58, Tryd.ntmps58
      go_wp2_with fail
      refine D0.out.mono ?_
      rintro e w' ⟨rfl, rfl⟩
      go_wp2_with fail
      refine D1.out.mono ?_
      rintro e w' ⟨rfl, rfl⟩
      go_wp2_with fail
      refine D2.out.mono ?_
      rintro e w' ⟨rfl, rfl⟩
      go_wp2_with fail
      refine D3.out.mono ?_
      rintro e w' ⟨rfl, rfl⟩
      clear D0 D1 D2 D3
      have L0 := Lib.hid (lit_nil w)
      go_wp2
      go_ret3
      exact use_none L0.out (by simp [mUse, E.out.2.1])
    · rcases hwd : wAt ps' 2 1003 with _ | _
      · have Wd := Lib.hid hwd; clear hwd; have WC := Lib.hid (DW.out 2 1003 _ Wd.out); clear DW
        go_enter Tryd.func58, Tryd.ntmps58
        go_wp2_with fail
        refine D0.out.mono ?_
        rintro e w' ⟨rfl, rfl⟩
        go_wp2_with fail
        refine D1.out.mono ?_
        rintro e w' ⟨rfl, rfl⟩
        go_wp2_with fail
        refine D2.out.mono ?_
        rintro e w' ⟨rfl, rfl⟩
        go_wp2_with fail
        refine D3.out.mono ?_
        rintro e w' ⟨rfl, rfl⟩
        clear D0 D1 D2 D3
        have L0 := Lib.hid (lit_nil w)
        go_wp2_with ((go_at_call 85; refine WC.out.mono ?_; rintro e w' ⟨rfl, rfl⟩))
        go_ret3
        exact use_none L0.out (by simp [mUse, Wd.out])
      · have Wd := Lib.hid hwd; clear hwd; have WC := Lib.hid (DW.out 2 1003 _ Wd.out); clear DW
        go_enter Tryd.func58, Tryd.ntmps58
        go_wp2_with fail
        refine D0.out.mono ?_
        rintro e w' ⟨rfl, rfl⟩
        go_wp2_with fail
        refine D1.out.mono ?_
        rintro e w' ⟨rfl, rfl⟩
        go_wp2_with fail
        refine D2.out.mono ?_
        rintro e w' ⟨rfl, rfl⟩
        go_wp2_with fail
        refine D3.out.mono ?_
        rintro e w' ⟨rfl, rfl⟩
        clear D0 D1 D2 D3
        obtain ⟨bb0, off0, u0, hA0, hbb0, cell0, hu0⟩ := RdBS.get H.out (getD_at ha)
        have m0 := And.intro (HN.out.1 _ (List.mem_of_getElem? (getD_at ha))) (HN.out.2 _ (List.mem_of_getElem? (getD_at ha)))
        rw [← Q.out.1] at hu0 m0
        cases hA0
        have U0 := Lib.hid (hu0.rd (Nat.le_refl _)); clear hu0
        obtain ⟨q0, hq0⟩ : ∃ q, ps'.getD 0 [] = q := ⟨_, rfl⟩
        rw [hq0] at U0 m0
        have HQ0 := Lib.hid hq0; clear hq0
        obtain ⟨Av0, cv0, rfl, _⟩ := id U0.out
        obtain ⟨m0a, m0b⟩ := m0
        have hj1 : a + 1 < ps.length := vAt_lt HPS.out E.out.2.1
        have hjI1 : (a : Int) + 1 < (ps.length : Int) := by omega
        have hjP1 : (0 : Int) ≤ (a : Int) + 1 := by omega
        have hjT1 : ((a : Int) + 1).toNat = a + 1 := by omega
        have hjW1 : IntKind.i64.wrap ((a : Int) + 1) = (a : Int) + 1 := IntWalk.i64_in _ (by omega)
        obtain ⟨bb1, off1, u1, hA1, hbb1, cell1, hu1⟩ := RdBS.get H.out (getD_at hj1)
        have m1 := And.intro (HN.out.1 _ (List.mem_of_getElem? (getD_at hj1))) (HN.out.2 _ (List.mem_of_getElem? (getD_at hj1)))
        rw [← Q.out.2.1] at hu1 m1
        cases hA1
        have U1 := Lib.hid (hu1.rd (Nat.le_refl _)); clear hu1
        obtain ⟨q1, hq1⟩ : ∃ q, ps'.getD 1 [] = q := ⟨_, rfl⟩
        rw [hq1] at U1 m1
        have HQ1 := Lib.hid hq1; clear hq1
        obtain ⟨Av1, cv1, rfl, _⟩ := id U1.out
        obtain ⟨m1a, m1b⟩ := m1
        go_wp2_with (go_at_call 85; refine WC.out.mono ?_; rintro e w' ⟨rfl, rfl⟩)
        obtain ⟨L0, hd⟩ := lit_nil_drew w
        have kk0 := (hd.cell (p := ⟨bb0, off0 + a, none⟩) hbb0).trans cell0
        have kk1 := (hd.cell (p := ⟨bb0, off0 + (a + 1), none⟩) hbb1).trans cell1
        go_region_held3 (fun W => W.cell? ⟨bb0, off0 + (a + 1), none⟩ = some (.slice Av1 q1.length cv1) ∧ W.cell? ⟨bb0, off0 + a, none⟩ = some (.slice Av0 q0.length cv0)) (repeat' (first | exact cell0 | exact cell1 | exact kk0 | exact kk1 | exact kk1_0 | exact kk1_1 | exact kk2_0 | exact kk2_1 | apply And.intro | rw [World.cell?_drew] | rw [World.cell?_alloc_lt _ _ _ (by first | omega | (simp; omega))])) (first | (refine step_append_V rfl _ _ _ rfl Tryd.underlying23 intInfo (w.heap.size) (w1.heap.size) _ (q1) rfl ho1 (by first | omega | (simp; done) | (simp; omega)) _ (q0) rfl (U0.out.step (hd.trans hb1)) (by first | omega | (simp; done) | (simp; omega)) ?_; intro v2 w2 ho2 hb2; (try rw [List.nil_append] at ho2); have hz2 := hb2.size; (try simp at hz2); have kk2_0 := (hb2.cell (p := ⟨bb0, off0 + a, none⟩) hbb0).trans kk1_0; have kk2_1 := (hb2.cell (p := ⟨bb0, off0 + (a + 1), none⟩) hbb1).trans kk1_1) | (refine step_append_V rfl _ _ _ rfl Tryd.underlying23 intInfo (w.heap.size) (w.heap.size + 1) _ ([]) rfl L0 (by first | omega | (simp; done) | (simp; omega)) _ (q1) rfl (U1.out.step hd) (by first | omega | (simp; done) | (simp; omega)) ?_; intro v1 w1 ho1 hb1; (try rw [List.nil_append] at ho1); have hz1 := hb1.size; (try simp at hz1); obtain ⟨Aw1, cw1, rfl, _⟩ := id ho1.rd; have kk1_0 := (hb1.cell (p := ⟨bb0, off0 + a, none⟩) hbb0).trans kk0; have kk1_1 := (hb1.cell (p := ⟨bb0, off0 + (a + 1), none⟩) hbb1).trans kk1))
        all_goals
          have O := Lib.hid (And.intro ho2 (hd.trans (hb1.trans hb2)))
          clear ho1 ho2 hb1 hb2 hd L0
          go_wp2
          go_ret3
          exact use_some (y := (3, q1 ++ q0)) O.out.1 O.out.2 (by rw [mUse_y2 E.out.1 E.out.2.1 Wd.out, HQ0.out, HQ1.out])

set_option maxHeartbeats 4000000 in
theorem use_3 (v : Value) (ps : List (List Int)) (a : Nat) (w : World) (h : RdS w v ps) (ha : a < ps.length) (hl : ps.length ≤ 60) (hp : ∀ q ∈ ps, isPart q) (hne : ∀ q ∈ ps, 1 ≤ q.length) (hv60 : ∀ q ∈ ps, q.length ≤ 60) :
    Calls Tryd.prog 58 #[v, .int .i64 3, .int .i64 a] w (UsPost w (mUse 3 (ps.drop a))) := by
  obtain ⟨C, hq0, hq1, hq2⟩ := useCtx v ps a w h ha hne
  have H := Lib.hid h
  obtain ⟨A, c, rfl, _⟩ := h
  have haI : (a : Int) < ps.length := by omega
  have hlI : (ps.length : Int) ≤ 60 := by omega
  have HP := Lib.hid hp; clear hp
  have HN := Lib.hid (And.intro hne hv60)
  clear hne hv60
  obtain ⟨ps', hps⟩ : ∃ ps', ps.drop a = ps' := ⟨_, rfl⟩
  rw [hps] at C hq0 hq1 hq2 ⊢
  have HPS := Lib.hid hps; clear hps
  rcases C with ⟨b0, b1, p1, n0, e0, e1, e2, e3, C0, C1, C2, C3, CW, CN, CQ⟩
  have D0 := Lib.hid C0; have D1 := Lib.hid C1; have D2 := Lib.hid C2; have D3 := Lib.hid C3; have DW := Lib.hid CW; have DN := Lib.hid CN; have DQ := Lib.hid CQ
  clear C0 C1 C2 C3 CW CN CQ
  have E := Lib.hid (And.intro e0 (And.intro e1 (And.intro e2 e3)))
  clear e0 e1 e2 e3
  have Q := Lib.hid (And.intro hq0 (And.intro hq1 hq2)); clear hq0 hq1 hq2
  rcases hwq : qAt ps' 0 with _ | _
  · have Wq := Lib.hid hwq; clear hwq; have Vq := Lib.hid (show Calls Tryd.prog 83 #[.slice A ps.length c, .int .i64 a] w _ from by have := DQ.out 0 _ Wq.out; simpa using this)
    go_enter Tryd.func58, Tryd.ntmps58
    go_wp2_with fail
    refine D0.out.mono ?_
    rintro e w' ⟨rfl, rfl⟩
    go_wp2_with fail
    refine D1.out.mono ?_
    rintro e w' ⟨rfl, rfl⟩
    go_wp2_with fail
    refine D2.out.mono ?_
    rintro e w' ⟨rfl, rfl⟩
    go_wp2_with fail
    refine D3.out.mono ?_
    rintro e w' ⟨rfl, rfl⟩
    clear D0 D1 D2 D3
    have L0 := Lib.hid (lit_nil w)
    go_wp2_with ((go_at_call 83; refine Vq.out.mono ?_; rintro e w' ⟨rfl, rfl⟩))
    go_ret3
    exact use_none L0.out (by simp [mUse, Wq.out])
  · have Wq := Lib.hid hwq; clear hwq; have Vq := Lib.hid (show Calls Tryd.prog 83 #[.slice A ps.length c, .int .i64 a] w _ from by have := DQ.out 0 _ Wq.out; simpa using this)
    rcases hwd : wAt ps' 1 1005 with _ | _
    · have Wd := Lib.hid hwd; clear hwd; have WC := Lib.hid (DW.out 1 1005 _ Wd.out); clear DW
      go_enter Tryd.func58, Tryd.ntmps58
      go_wp2_with fail
      refine D0.out.mono ?_
      rintro e w' ⟨rfl, rfl⟩
      go_wp2_with fail
      refine D1.out.mono ?_
      rintro e w' ⟨rfl, rfl⟩
      go_wp2_with fail
      refine D2.out.mono ?_
      rintro e w' ⟨rfl, rfl⟩
      go_wp2_with fail
      refine D3.out.mono ?_
      rintro e w' ⟨rfl, rfl⟩
      clear D0 D1 D2 D3
      have L0 := Lib.hid (lit_nil w)
      go_wp2_with ((first | (go_at_call 83; refine Vq.out.mono ?_; rintro e w' ⟨rfl, rfl⟩) | (go_at_call 85; refine WC.out.mono ?_; rintro e w' ⟨rfl, rfl⟩)))
      go_ret3
      exact use_none L0.out (by simp [mUse, Wd.out])
    · have Wd := Lib.hid hwd; clear hwd; have WC := Lib.hid (DW.out 1 1005 _ Wd.out); clear DW
      go_enter Tryd.func58, Tryd.ntmps58
      go_wp2_with fail
      refine D0.out.mono ?_
      rintro e w' ⟨rfl, rfl⟩
      go_wp2_with fail
      refine D1.out.mono ?_
      rintro e w' ⟨rfl, rfl⟩
      go_wp2_with fail
      refine D2.out.mono ?_
      rintro e w' ⟨rfl, rfl⟩
      go_wp2_with fail
      refine D3.out.mono ?_
      rintro e w' ⟨rfl, rfl⟩
      clear D0 D1 D2 D3
      obtain ⟨bb0, off0, u0, hA0, hbb0, cell0, hu0⟩ := RdBS.get H.out (getD_at ha)
      have m0 := And.intro (HN.out.1 _ (List.mem_of_getElem? (getD_at ha))) (HN.out.2 _ (List.mem_of_getElem? (getD_at ha)))
      rw [← Q.out.1] at hu0 m0
      cases hA0
      have U0 := Lib.hid (hu0.rd (Nat.le_refl _)); clear hu0
      obtain ⟨q0, hq0⟩ : ∃ q, ps'.getD 0 [] = q := ⟨_, rfl⟩
      rw [hq0] at U0 m0
      have HQ0 := Lib.hid hq0; clear hq0
      obtain ⟨Av0, cv0, rfl, _⟩ := id U0.out
      obtain ⟨m0a, m0b⟩ := m0
      have hq2 := (qAt_v Wq.out).2
      rw [HQ0.out] at hq2
      go_wp2_with (first | (go_at_call 83; refine Vq.out.mono ?_; rintro e w' ⟨rfl, rfl⟩) | (go_at_call 85; refine WC.out.mono ?_; rintro e w' ⟨rfl, rfl⟩) | (go_at_call 86; refine (l2Body_any _ q0 _ U0.out (by omega)).mono ?_; rintro e w1 ⟨v1, rfl, ho1, hb1⟩))
      all_goals
        have O := Lib.hid (And.intro ho1 (hb1))
        clear ho1 hb1
        go_wp2
        go_ret3
        exact use_some (y := (2, inside q0)) O.out.1 O.out.2 (by rw [mUse_y3 Wq.out Wd.out, HQ0.out])

set_option maxHeartbeats 4000000 in
theorem use_4 (v : Value) (ps : List (List Int)) (a : Nat) (w : World) (h : RdS w v ps) (ha : a < ps.length) (hl : ps.length ≤ 60) (hp : ∀ q ∈ ps, isPart q) (hne : ∀ q ∈ ps, 1 ≤ q.length) (hv60 : ∀ q ∈ ps, q.length ≤ 60) :
    Calls Tryd.prog 58 #[v, .int .i64 4, .int .i64 a] w (UsPost w (mUse 4 (ps.drop a))) := by
  obtain ⟨C, hq0, hq1, hq2⟩ := useCtx v ps a w h ha hne
  have H := Lib.hid h
  obtain ⟨A, c, rfl, _⟩ := h
  have haI : (a : Int) < ps.length := by omega
  have hlI : (ps.length : Int) ≤ 60 := by omega
  have HP := Lib.hid hp; clear hp
  have HN := Lib.hid (And.intro hne hv60)
  clear hne hv60
  obtain ⟨ps', hps⟩ : ∃ ps', ps.drop a = ps' := ⟨_, rfl⟩
  rw [hps] at C hq0 hq1 hq2 ⊢
  have HPS := Lib.hid hps; clear hps
  rcases C with ⟨b0, b1, p1, n0, e0, e1, e2, e3, C0, C1, C2, C3, CW, CN, CQ⟩
  have D0 := Lib.hid C0; have D1 := Lib.hid C1; have D2 := Lib.hid C2; have D3 := Lib.hid C3; have DW := Lib.hid CW; have DN := Lib.hid CN; have DQ := Lib.hid CQ
  clear C0 C1 C2 C3 CW CN CQ
  have E := Lib.hid (And.intro e0 (And.intro e1 (And.intro e2 e3)))
  clear e0 e1 e2 e3
  have Q := Lib.hid (And.intro hq0 (And.intro hq1 hq2)); clear hq0 hq1 hq2
  rcases b0 with _ | _
  · go_enter Tryd.func58, Tryd.ntmps58
    go_wp2_with fail
    refine D0.out.mono ?_
    rintro e w' ⟨rfl, rfl⟩
    go_wp2_with fail
    refine D1.out.mono ?_
    rintro e w' ⟨rfl, rfl⟩
    go_wp2_with fail
    refine D2.out.mono ?_
    rintro e w' ⟨rfl, rfl⟩
    go_wp2_with fail
    refine D3.out.mono ?_
    rintro e w' ⟨rfl, rfl⟩
    clear D0 D1 D2 D3
    have L0 := Lib.hid (lit_nil w)
    go_wp2
    go_ret3
    exact use_none L0.out (by simp [mUse, E.out.1])
  · rcases p1 with _ | _
    · go_enter Tryd.func58, Tryd.ntmps58
      go_wp2_with fail
      refine D0.out.mono ?_
      rintro e w' ⟨rfl, rfl⟩
      go_wp2_with fail
      refine D1.out.mono ?_
      rintro e w' ⟨rfl, rfl⟩
      go_wp2_with fail
      refine D2.out.mono ?_
      rintro e w' ⟨rfl, rfl⟩
      go_wp2_with fail
      refine D3.out.mono ?_
      rintro e w' ⟨rfl, rfl⟩
      clear D0 D1 D2 D3
      have L0 := Lib.hid (lit_nil w)
      go_wp2
      go_ret3
      exact use_none L0.out (by simp [mUse, E.out.2.2.1])
    · rcases hwd : wAt ps' 2 1004 with _ | _
      · have Wd := Lib.hid hwd; clear hwd; have WC := Lib.hid (DW.out 2 1004 _ Wd.out); clear DW
        go_enter Tryd.func58, Tryd.ntmps58
        go_wp2_with fail
        refine D0.out.mono ?_
        rintro e w' ⟨rfl, rfl⟩
        go_wp2_with fail
        refine D1.out.mono ?_
        rintro e w' ⟨rfl, rfl⟩
        go_wp2_with fail
        refine D2.out.mono ?_
        rintro e w' ⟨rfl, rfl⟩
        go_wp2_with fail
        refine D3.out.mono ?_
        rintro e w' ⟨rfl, rfl⟩
        clear D0 D1 D2 D3
        have L0 := Lib.hid (lit_nil w)
        go_wp2_with ((go_at_call 85; refine WC.out.mono ?_; rintro e w' ⟨rfl, rfl⟩))
        go_ret3
        exact use_none L0.out (by simp [mUse, Wd.out])
      · have Wd := Lib.hid hwd; clear hwd; have WC := Lib.hid (DW.out 2 1004 _ Wd.out); clear DW
        go_enter Tryd.func58, Tryd.ntmps58
        go_wp2_with fail
        refine D0.out.mono ?_
        rintro e w' ⟨rfl, rfl⟩
        go_wp2_with fail
        refine D1.out.mono ?_
        rintro e w' ⟨rfl, rfl⟩
        go_wp2_with fail
        refine D2.out.mono ?_
        rintro e w' ⟨rfl, rfl⟩
        go_wp2_with fail
        refine D3.out.mono ?_
        rintro e w' ⟨rfl, rfl⟩
        clear D0 D1 D2 D3
        obtain ⟨bb0, off0, u0, hA0, hbb0, cell0, hu0⟩ := RdBS.get H.out (getD_at ha)
        have m0 := And.intro (HN.out.1 _ (List.mem_of_getElem? (getD_at ha))) (HN.out.2 _ (List.mem_of_getElem? (getD_at ha)))
        rw [← Q.out.1] at hu0 m0
        cases hA0
        have U0 := Lib.hid (hu0.rd (Nat.le_refl _)); clear hu0
        obtain ⟨q0, hq0⟩ : ∃ q, ps'.getD 0 [] = q := ⟨_, rfl⟩
        rw [hq0] at U0 m0
        have HQ0 := Lib.hid hq0; clear hq0
        obtain ⟨Av0, cv0, rfl, _⟩ := id U0.out
        obtain ⟨m0a, m0b⟩ := m0
        have hj1 : a + 1 < ps.length := (vAt_lt HPS.out (qAt_v E.out.2.2.1).1)
        have hjI1 : (a : Int) + 1 < (ps.length : Int) := by omega
        have hjP1 : (0 : Int) ≤ (a : Int) + 1 := by omega
        have hjT1 : ((a : Int) + 1).toNat = a + 1 := by omega
        have hjW1 : IntKind.i64.wrap ((a : Int) + 1) = (a : Int) + 1 := IntWalk.i64_in _ (by omega)
        obtain ⟨bb1, off1, u1, hA1, hbb1, cell1, hu1⟩ := RdBS.get H.out (getD_at hj1)
        have m1 := And.intro (HN.out.1 _ (List.mem_of_getElem? (getD_at hj1))) (HN.out.2 _ (List.mem_of_getElem? (getD_at hj1)))
        rw [← Q.out.2.1] at hu1 m1
        cases hA1
        have U1 := Lib.hid (hu1.rd (Nat.le_refl _)); clear hu1
        obtain ⟨q1, hq1⟩ : ∃ q, ps'.getD 1 [] = q := ⟨_, rfl⟩
        rw [hq1] at U1 m1
        have HQ1 := Lib.hid hq1; clear hq1
        obtain ⟨Av1, cv1, rfl, _⟩ := id U1.out
        obtain ⟨m1a, m1b⟩ := m1
        have hq2 := (qAt_v E.out.2.2.1).2
        rw [HQ1.out] at hq2
        have hil := @inside_len q1
        go_wp2_with (go_at_call 85; refine WC.out.mono ?_; rintro e w' ⟨rfl, rfl⟩)
        have hd : Below w.heap.size w w.drew := (Below.refl _ _).drew
        have kk0 := (hd.cell (p := ⟨bb0, off0 + a, none⟩) hbb0).trans cell0
        have kk1 := (hd.cell (p := ⟨bb0, off0 + (a + 1), none⟩) hbb1).trans cell1
        go_region_held3 (fun W => W.cell? ⟨bb0, off0 + (a + 1), none⟩ = some (.slice Av1 q1.length cv1) ∧ W.cell? ⟨bb0, off0 + a, none⟩ = some (.slice Av0 q0.length cv0)) (repeat' (first | exact cell0 | exact cell1 | exact kk0 | exact kk1 | exact kk1_0 | exact kk1_1 | exact kk2_0 | exact kk2_1 | apply And.intro | rw [World.cell?_drew] | rw [World.cell?_alloc_lt _ _ _ (by first | omega | (simp; omega))])) (first | (refine step_append_V rfl _ _ _ rfl Tryd.underlying23 intInfo (w.heap.size) (w1.heap.size) _ (inside q1) rfl ho1 (by first | omega | (simp; done) | (simp; omega)) _ (q0) rfl (U0.out.step (hd.trans hb1)) (by first | omega | (simp; done) | (simp; omega)) ?_; intro v2 w2 ho2 hb2; (try rw [List.nil_append] at ho2); have hz2 := hb2.size; (try simp at hz2); have kk2_0 := (hb2.cell (p := ⟨bb0, off0 + a, none⟩) hbb0).trans kk1_0; have kk2_1 := (hb2.cell (p := ⟨bb0, off0 + (a + 1), none⟩) hbb1).trans kk1_1) | (go_at_call 86; refine (l2Body_any _ q1 _ (U1.out.step hd) (by omega)).mono ?_; rintro e w1 ⟨v1, rfl, ho1, hb1⟩; obtain ⟨Aw1, cw1, rfl, _⟩ := id ho1.rd; have kk1_0 := (hb1.cell (p := ⟨bb0, off0 + a, none⟩) hbb0).trans kk0; have kk1_1 := (hb1.cell (p := ⟨bb0, off0 + (a + 1), none⟩) hbb1).trans kk1; have hz1 : w.heap.size ≤ w1.heap.size := hb1.size))
        all_goals
          have O := Lib.hid (And.intro ho2 (hd.trans (hb1.trans hb2)))
          clear ho1 ho2 hb1 hb2 hd
          go_wp2
          go_ret3
          exact use_some (y := (3, inside q1 ++ q0)) O.out.1 O.out.2 (by rw [mUse_y4 E.out.1 E.out.2.2.1 Wd.out, HQ0.out, HQ1.out])

set_option maxHeartbeats 4000000 in
theorem use_x (v : Value) (z : Int) (ps : List (List Int)) (a : Nat) (w : World) (h : RdS w v ps) (ha : a < ps.length) (hl : ps.length ≤ 60) (hp : ∀ q ∈ ps, isPart q) (hne : ∀ q ∈ ps, 1 ≤ q.length) (hv60 : ∀ q ∈ ps, q.length ≤ 60) (hz : z < 0 ∨ 8 < z) :
    Calls Tryd.prog 58 #[v, .int .i64 z, .int .i64 a] w (UsPost w (mUse z (ps.drop a))) := by
  have HX : Hid (mUse z (ps.drop a) = none) := Lib.hid (by unfold mUse; rw [if_neg (by omega), if_neg (by omega), if_neg (by omega), if_neg (by omega), if_neg (by omega), if_neg (by omega), if_neg (by omega), if_neg (by omega), if_neg (by omega)])
  obtain ⟨C, hq0, hq1, hq2⟩ := useCtx v ps a w h ha hne
  have H := Lib.hid h
  obtain ⟨A, c, rfl, _⟩ := h
  have haI : (a : Int) < ps.length := by omega
  have hlI : (ps.length : Int) ≤ 60 := by omega
  have HP := Lib.hid hp; clear hp
  have HN := Lib.hid (And.intro hne hv60)
  clear hne hv60
  obtain ⟨ps', hps⟩ : ∃ ps', ps.drop a = ps' := ⟨_, rfl⟩
  rw [hps] at C hq0 hq1 hq2 HX ⊢
  have HPS := Lib.hid hps; clear hps
  rcases C with ⟨b0, b1, p1, n0, e0, e1, e2, e3, C0, C1, C2, C3, CW, CN, CQ⟩
  have D0 := Lib.hid C0; have D1 := Lib.hid C1; have D2 := Lib.hid C2; have D3 := Lib.hid C3; have DW := Lib.hid CW; have DN := Lib.hid CN; have DQ := Lib.hid CQ
  clear C0 C1 C2 C3 CW CN CQ
  have E := Lib.hid (And.intro e0 (And.intro e1 (And.intro e2 e3)))
  clear e0 e1 e2 e3
  have Q := Lib.hid (And.intro hq0 (And.intro hq1 hq2)); clear hq0 hq1 hq2
  have hk0 : (z == (0 : Int)) = false := by simp; omega
  have hk1 : (z == (1 : Int)) = false := by simp; omega
  have hk2 : (z == (2 : Int)) = false := by simp; omega
  have hk3 : (z == (3 : Int)) = false := by simp; omega
  have hk4 : (z == (4 : Int)) = false := by simp; omega
  have hk5 : (z == (5 : Int)) = false := by simp; omega
  have hk6 : (z == (6 : Int)) = false := by simp; omega
  have hk7 : (z == (7 : Int)) = false := by simp; omega
  have hk8 : (z == (8 : Int)) = false := by simp; omega
  go_enter Tryd.func58, Tryd.ntmps58
  go_wp2_with fail
  refine D0.out.mono ?_
  rintro e w' ⟨rfl, rfl⟩
  go_wp2_with fail
  refine D1.out.mono ?_
  rintro e w' ⟨rfl, rfl⟩
  go_wp2_with fail
  refine D2.out.mono ?_
  rintro e w' ⟨rfl, rfl⟩
  go_wp2_with fail
  refine D3.out.mono ?_
  rintro e w' ⟨rfl, rfl⟩
  clear D0 D1 D2 D3
  have L0 := Lib.hid (lit_nil w)
  go_wp2
  go_ret3
  exact use_none L0.out HX.out
end Go.Proofs.YtkdpfiaegimnlaaDoor
