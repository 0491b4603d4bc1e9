/- The model's step: num, dup, drop, swap. -/
import Derived.Test.YtenaeiedoiepdaaSb
import Derived.StillTailTactics
import Derived.Deep.RegionLaw
import Derived.Deep.RegionHeld3
import Derived.IntWalk
namespace Go.Proofs.Ytenaeiedoiepdaa
set_option maxRecDepth 100000
open Go.RowKit Go.WideShapes

set_option maxHeartbeats 2000000 in
theorem step_S_num (v0 v1 : Value) (z : Int) (r : List Int) (st : List (List Int)) (w : World) (h0 : RdI w v0 (z :: r)) (h1 : RdS w v1 st.reverse) (hl : r.length ≤ 1048576) (hok : okS (z :: r) st) (hn : z ≤ 999) :
    Calls Try.prog 18 #[.agg #[v0, v1]] w (StepPost w (l2R (z :: r) st)) := by
  have Hz : Hid (0 ≤ z ∧ z ≤ 1013) := Lib.hid (by have h := hok.1; simp only [restB, Bool.and_eq_true, List.all_cons, isWordB, isNumB, Bool.or_eq_true, decide_eq_true_eq] at h; omega)
  have hsl := (stackB_all hok.2).1
  have hsv := fun v (hv : v ∈ st.reverse) => Nat.le_trans (valueB_len ((stackB_all hok.2).2 v (List.mem_reverse.1 hv))).2 (show 60 ≤ 1000000 by omega)
  have hlz : st.reverse.length ≤ 20 := by simpa using hsl
  generalize hzs : st.reverse = zss at *
  have HZ := Lib.hid hzs; clear hzs
  have HV := Lib.hid hsv; clear hsv
  have Hok := Lib.hid hok; clear hok
  have B2 : Below w.heap.size w ((w.alloc (.cells #[v0, v1] 26)).alloc (.cells #[.slice none 0 0, .slice none 0 0] 26)) := ((Below.refl _ _).alloc (Nat.le_refl _) _).alloc (by simp) _
  have B3 : Below w.heap.size w (((w.alloc (.cells #[v0, v1] 26)).alloc (.cells #[.slice none 0 0, .slice none 0 0] 26)).alloc (.cells #[] 3)) := B2.alloc (by simp; omega) _
  have H0 := Lib.hid h0.at_
  have H1 := Lib.hid h1.at_
  obtain ⟨A0, c0, rfl, hi0, hc0⟩ := h0
  obtain ⟨b0, o0, rfl, hb0, hcc0⟩ := hi0.at_ (by simp)
  obtain ⟨A1, c1, rfl, _⟩ := h1
  have hcell := hcc0 0 (by simp)
  simp only [List.length_cons] at hc0
  rw [Nat.add_zero] at hcell
  replace hcell := (B2.cell (p := ⟨b0, o0, none⟩) hb0).trans hcell
  simp only [List.getD_cons_zero, List.length_cons] at hcell
  have ht0 : RdI w (.slice (some ⟨b0, o0 + 1, none⟩) r.length (c0 - 1)) r := by
    have h1 := hi0.sub 1 r.length (by simp; omega)
    simp only [List.drop_succ_cons, List.drop_zero, List.take_length] at h1
    exact ⟨_, _, rfl, h1, by omega⟩
  have L1 : OwnI (((w.alloc (.cells #[.slice (some ⟨b0, o0, none⟩) (r.length + 1) c0, .slice A1 zss.length c1] 26)).alloc (.cells #[.slice none 0 0, .slice none 0 0] 26)).alloc (.cells #[] 3)) (w.heap.size + 1 + 1) (w.heap.size + 1 + 1 + 1) (.slice (some ⟨w.heap.size + 1 + 1, 0, none⟩) 0 0) [] := by simpa using lits_own ((w.alloc (.cells #[.slice (some ⟨b0, o0, none⟩) (r.length + 1) c0, .slice A1 zss.length c1] 26)).alloc (.cells #[.slice none 0 0, .slice none 0 0] 26)) [] (by simp) (by simp)
  have Y := Lib.hid (And.intro (RdI.step ht0 B3) (And.intro L1 B3))
  clear L1 B2 B3 hcc0 hi0 ht0
  have hcc : c0 = 1 ∨ 2 ≤ c0 := by omega
  rcases hcc with rfl | hc2
  all_goals go_enter Try.func18, Try.ntmps18
  all_goals go_wp2_with (at_builtin; (refine wpList_append_V rfl _ _ _ rfl Try.underlying23 intInfo (w.heap.size + 1 + 1) (w.heap.size + 1 + 1 + 1) _ [] rfl Y.out.2.1 (by simp) _ r rfl (by first | exact Y.out.1 | exact rd_nil (by omega) (by omega)) (by simp; omega) ?_))
  all_goals (
    intro v2 w2 ho2 hb2
    obtain ⟨k1, k2, k3, k4⟩ := blks hb2
    obtain ⟨p1, p2, -, -⟩ := k1.two
    have Z := Lib.hid (And.intro k1 (And.intro k2 (And.intro k3 ho2))); clear k1 k2 k3 ho2 hb2 Y hcell
    go_wp2_with fail
    refine (l2Copy_any _ zss _ ((H1.out.below Z.out.2.2.1).rd (by omega)) (by omega) HV.out).mono ?_
    rintro e w3 ⟨u, rfl, ho3, hb3⟩
    have hz3 : w2.heap.size ≤ w3.heap.size := hb3.size
    have X : Hid (Ahead w w3 w2.heap.size _ _ v2 u z r zss) := Lib.hid ⟨Z.out.1.below hb3 (by omega), Z.out.2.1.below hb3 (by omega), (H0.out.below Z.out.2.2.1).below (hb3.mono (by omega)), Z.out.2.2.2.below hb3, ho3, Z.out.2.2.1.trans (hb3.mono (by omega))⟩
    clear Z ho3 hb3 p1 p2
    have q := X.out.1.two
    obtain ⟨q1, q2, -, -⟩ := q
    obtain ⟨Au, cu, rfl, _⟩ := X.out.2.2.2.2.1.rd
    obtain ⟨Ar, cr, rfl, _⟩ := X.out.2.2.2.1.rd
    have hm2 : w.heap.size + 1 + 1 ≤ w2.heap.size := by omega
    have HS : Hid (l2R (z :: r) st = some (r, [z] :: st)) := Lib.hid (by rw [l2R, if_pos hn])
    have V := Lib.hid (lit_facts (zs := [z]) X.out.2.2.2.2.1 (by simp) (by intro y hy; simp only [List.mem_cons, List.not_mem_nil, or_false] at hy; subst hy; have := Hz.out; omega))
    simp only [List.map_nil, List.map_cons, List.length_nil, List.length_cons, Nat.zero_add] at V
    go_wp2_with (at_builtin; refine wpList_append_S rfl _ _ _ rfl Try.underlying24 rowInfo w2.heap.size w3.heap.size _ zss rfl V.out.1 hz3 _ 1 _ [z] rfl V.out.2.2.1 (by simp; omega) V.out.2.1 (by omega) ?_)
    intro v4 w4 ho4 hb4
    obtain ⟨A4, k4, rfl, _⟩ := ho4.rd
    generalize hl4 : (zss ++ [[z]]).length = l4 at *
    have hz4 : w3.heap.size ≤ w4.heap.size := by have := hb4.size; simp at this; omega
    have hbE : Below w2.heap.size w3 w4 := (V.out.2.2.2.mono hz3).trans hb4
    have R := Lib.hid (X.out.2.1.below hbE (by omega))
    obtain ⟨fc1, fc2, ff1, ff2⟩ := R.out.two
    obtain ⟨fo1, fo2, fo3⟩ := step_out (x0 := .slice Ar r.length cr) (x1 := .slice A4 l4 k4) (X.out.2.2.2.1.belowB hbE (Nat.le_refl _)) (ho4.mono hm2) (X.out.2.2.2.2.2.trans (hbE.mono (by omega)))
    obtain ⟨fe0, fe1⟩ := R.out.two_out (x := .slice Ar r.length cr) (y := .slice A4 l4 k4)
    have O := Lib.hid (And.intro fo1 (And.intro fo2 (And.intro fo3 (And.intro fe0 fe1)))); clear fo1 fo2 fo3 fe0 fe1
    clear ho4 hb4 hbE X V hl4
    go_wp2
    obtain ⟨fo1, fo2, fo3, fe0, fe1⟩ := O.out
    refine bodyPost_ret (v := .tuple #[.agg #[.slice Ar r.length cr, .slice A4 l4 k4], .bool true]) (by simp [results, Try.results18, go_sem, fe0, fe1]) rfl ?_
    rw [HS.out]
    refine ⟨_, _, _, _, _, _, fo3, rfl, fun y hy => ?_⟩
    cases hy
    exact ⟨fo1, by rw [List.reverse_cons, HZ.out]; exact fo2⟩)
end Go.Proofs.Ytenaeiedoiepdaa
namespace Go.Proofs.Ytenaeiedoiepdaa
set_option maxRecDepth 100000
open Go.RowKit Go.WideShapes

set_option maxHeartbeats 2000000 in
theorem step_S_dup (v0 v1 : Value) (r : List Int) (st : List (List Int)) (w : World) (h0 : RdI w v0 (1001 :: r)) (h1 : RdS w v1 st.reverse) (hl : r.length ≤ 1048576) (hok : okS (1001 :: r) st) :
    Calls Try.prog 18 #[.agg #[v0, v1]] w (StepPost w (l2R (1001 :: r) st)) := by
  have hsl := (stackB_all hok.2).1
  have hsv := fun v (hv : v ∈ st.reverse) => Nat.le_trans (valueB_len ((stackB_all hok.2).2 v (List.mem_reverse.1 hv))).2 (show 60 ≤ 1000000 by omega)
  have hlz : st.reverse.length ≤ 20 := by simpa using hsl
  generalize hzs : st.reverse = zss at *
  have HZ := Lib.hid hzs; clear hzs
  have HV := Lib.hid hsv; clear hsv
  have Hok := Lib.hid hok; clear hok
  have B2 : Below w.heap.size w ((w.alloc (.cells #[v0, v1] 26)).alloc (.cells #[.slice none 0 0, .slice none 0 0] 26)) := ((Below.refl _ _).alloc (Nat.le_refl _) _).alloc (by simp) _
  have B3 : Below w.heap.size w (((w.alloc (.cells #[v0, v1] 26)).alloc (.cells #[.slice none 0 0, .slice none 0 0] 26)).alloc (.cells #[] 3)) := B2.alloc (by simp; omega) _
  have H0 := Lib.hid h0.at_
  have H1 := Lib.hid h1.at_
  obtain ⟨A0, c0, rfl, hi0, hc0⟩ := h0
  obtain ⟨b0, o0, rfl, hb0, hcc0⟩ := hi0.at_ (by simp)
  obtain ⟨A1, c1, rfl, _⟩ := h1
  have hcell := hcc0 0 (by simp)
  simp only [List.length_cons] at hc0
  rw [Nat.add_zero] at hcell
  replace hcell := (B2.cell (p := ⟨b0, o0, none⟩) hb0).trans hcell
  simp only [List.getD_cons_zero, List.length_cons] at hcell
  have ht0 : RdI w (.slice (some ⟨b0, o0 + 1, none⟩) r.length (c0 - 1)) r := by
    have h1 := hi0.sub 1 r.length (by simp; omega)
    simp only [List.drop_succ_cons, List.drop_zero, List.take_length] at h1
    exact ⟨_, _, rfl, h1, by omega⟩
  have L1 : OwnI (((w.alloc (.cells #[.slice (some ⟨b0, o0, none⟩) (r.length + 1) c0, .slice A1 zss.length c1] 26)).alloc (.cells #[.slice none 0 0, .slice none 0 0] 26)).alloc (.cells #[] 3)) (w.heap.size + 1 + 1) (w.heap.size + 1 + 1 + 1) (.slice (some ⟨w.heap.size + 1 + 1, 0, none⟩) 0 0) [] := by simpa using lits_own ((w.alloc (.cells #[.slice (some ⟨b0, o0, none⟩) (r.length + 1) c0, .slice A1 zss.length c1] 26)).alloc (.cells #[.slice none 0 0, .slice none 0 0] 26)) [] (by simp) (by simp)
  have Y := Lib.hid (And.intro (RdI.step ht0 B3) (And.intro L1 B3))
  clear L1 B2 B3 hcc0 hi0 ht0
  have hcc : c0 = 1 ∨ 2 ≤ c0 := by omega
  rcases hcc with rfl | hc2
  all_goals go_enter Try.func18, Try.ntmps18
  all_goals go_wp2_with (at_builtin; (refine wpList_append_V rfl _ _ _ rfl Try.underlying23 intInfo (w.heap.size + 1 + 1) (w.heap.size + 1 + 1 + 1) _ [] rfl Y.out.2.1 (by simp) _ r rfl (by first | exact Y.out.1 | exact rd_nil (by omega) (by omega)) (by simp; omega) ?_))
  all_goals (
    intro v2 w2 ho2 hb2
    obtain ⟨k1, k2, k3, k4⟩ := blks hb2
    obtain ⟨p1, p2, -, -⟩ := k1.two
    have Z := Lib.hid (And.intro k1 (And.intro k2 (And.intro k3 ho2))); clear k1 k2 k3 ho2 hb2 Y hcell
    go_wp2_with fail
    refine (l2Copy_any _ zss _ ((H1.out.below Z.out.2.2.1).rd (by omega)) (by omega) HV.out).mono ?_
    rintro e w3 ⟨u, rfl, ho3, hb3⟩
    have hz3 : w2.heap.size ≤ w3.heap.size := hb3.size
    have X : Hid (Ahead w w3 w2.heap.size _ _ v2 u 1001 r zss) := Lib.hid ⟨Z.out.1.below hb3 (by omega), Z.out.2.1.below hb3 (by omega), (H0.out.below Z.out.2.2.1).below (hb3.mono (by omega)), Z.out.2.2.2.below hb3, ho3, Z.out.2.2.1.trans (hb3.mono (by omega))⟩
    clear Z ho3 hb3 p1 p2
    have q := X.out.1.two
    obtain ⟨q1, q2, -, -⟩ := q
    obtain ⟨Au, cu, rfl, _⟩ := X.out.2.2.2.2.1.rd
    obtain ⟨Ar, cr, rfl, _⟩ := X.out.2.2.2.1.rd
    have hm2 : w.heap.size + 1 + 1 ≤ w2.heap.size := by omega
    rcases st with _ | ⟨a, s1⟩
    · have HS : Hid (l2R (1001 :: r) [] = none) := Lib.hid (by simp [l2R, opR])
      have hne0 : ((zss.length : Int) == 0) = true := by rw [← HZ.out]; rfl
      have FR := Lib.hid X.out.2.1
      obtain ⟨fc1, fc2, ff1, ff2⟩ := FR.out.two
      obtain ⟨fe0, fe1⟩ := FR.out.two_out (x := .slice none 0 0) (y := .slice none 0 0)
      have FO := Lib.hid (And.intro (fail_below X.out.2.2.2.2.2 (.slice none 0 0) (.slice none 0 0)) (And.intro fe0 fe1)); clear fe0 fe1
      go_wp2
      obtain ⟨fo, fe0, fe1⟩ := FO.out
      refine bodyPost_ret (v := .tuple #[.agg #[.slice none 0 0, .slice none 0 0], .bool false]) (by simp [results, Try.results18, go_sem, fe0, fe1]) rfl ?_
      rw [HS.out]
      exact ⟨_, _, _, _, _, _, fo, rfl, fun y hy => by cases hy⟩
    · have hn1 : 1 ≤ zss.length := by rw [← HZ.out]; simp
      have HZ1 : Hid (zss.take (zss.length - 1) = s1.reverse) := Lib.hid (by rw [← HZ.out]; simp)
      have hne0 : ((zss.length : Int) == 0) = false := by rw [beq_eq_false_iff_ne]; omega
      have hcap := X.out.2.2.2.2.1.cap2
      obtain ⟨g, b_g, ua, hAu, hgl, hca, hua⟩ := X.out.2.2.2.2.1.at1 (j := zss.length - 1) (zs := a) (by rw [← HZ.out]; simp)
      subst hAu
      have HS : Hid (l2R (1001 :: r) (a :: s1) = some (r, a :: a :: s1)) := Lib.hid (by simp [l2R, opR, opR1])
      have hal := Nat.le_trans (valueB_len ((stackB_all Hok.out.2).2 a List.mem_cons_self)).2 (show 60 ≤ 1000 by omega)
      have L1 : OwnI (w3.alloc (.cells #[] 3)) w3.heap.size (w3.heap.size + 1) (.slice (some ⟨w3.heap.size, 0, none⟩) 0 0) [] := by simpa using lits_own w3 [] (by simp) (by simp)
      have Hbl : Below w3.heap.size w3 (w3.alloc (.cells #[] 3)) := (Below.refl _ _).alloc (Nat.le_refl _) _
      have hca2 := (Hbl.cell (p := ⟨g, zss.length - 1, none⟩) hgl).trans hca
      have Y := Lib.hid (And.intro (RdI.step hua Hbl) (And.intro L1 Hbl)); clear L1 Hbl hua hca
      go_wp2_with (at_builtin; refine wpList_append_V rfl _ _ _ rfl Try.underlying23 intInfo w3.heap.size (w3.heap.size + 1) _ [] rfl Y.out.2.1 (by simp) ua a rfl Y.out.1 (by simp; omega) ?_)
      intro v4 w4 ho4 hb4
      have hz4 : w3.heap.size + 1 ≤ w4.heap.size := by have := hb4.size; simpa using this
      obtain ⟨A4, k4, rfl, _⟩ := ho4.rd
      have hbl : Below w4.heap.size w4 (w4.alloc (.cells #[.slice A4 a.length k4] 23)) := (Below.refl _ _).alloc (Nat.le_refl _) _
      have ho5 : OwnI (w4.alloc (.cells #[.slice A4 a.length k4] 23)) w3.heap.size (w4.alloc (.cells #[.slice A4 a.length k4] 23)).heap.size (.slice A4 a.length k4) a := by
        have h1 := ho4.belowB hbl (Nat.le_refl _)
        exact ⟨h1.own, fun q hq => by have := h1.lt q hq; simp; omega⟩
      have hb5 : Below w3.heap.size w3 (w4.alloc (.cells #[.slice A4 a.length k4] 23)) := (Y.out.2.2.trans hb4).trans (hbl.mono (by omega))
      have V := Lib.hid (And.intro (X.out.2.2.2.2.1.belowB hb5 (Nat.le_refl _)) (And.intro ho5 (And.intro (lit_row w4 (.slice A4 a.length k4)) hb5))); clear ho4 ho5 hb4 hbl hb5 Y
      go_wp2_with (at_builtin; refine wpList_append_S rfl _ _ _ rfl Try.underlying24 rowInfo w2.heap.size w3.heap.size _ zss rfl V.out.1 hz3 w4.heap.size 1 _ a rfl V.out.2.2.1 (by simp; omega) V.out.2.1 (by omega) ?_)
      intro v6 w6 ho6 hb6
      obtain ⟨A6, k6, rfl, _⟩ := ho6.rd
      generalize hl6 : (zss ++ [a]).length = l6 at *
      have hz6 : w3.heap.size ≤ w6.heap.size := by have := hb6.size; simp at this; omega
      have hbE : Below w2.heap.size w3 w6 := (V.out.2.2.2.mono hz3).trans hb6
      have R := Lib.hid (X.out.2.1.below hbE (by omega))
      obtain ⟨fc1, fc2, ff1, ff2⟩ := R.out.two
      obtain ⟨fo1, fo2, fo3⟩ := step_out (x0 := .slice Ar r.length cr) (x1 := .slice A6 l6 k6) (X.out.2.2.2.1.belowB hbE (Nat.le_refl _)) (ho6.mono hm2) (X.out.2.2.2.2.2.trans (hbE.mono (by omega)))
      obtain ⟨fe0, fe1⟩ := R.out.two_out (x := .slice Ar r.length cr) (y := .slice A6 l6 k6)
      have O := Lib.hid (And.intro fo1 (And.intro fo2 (And.intro fo3 (And.intro fe0 fe1)))); clear fo1 fo2 fo3 fe0 fe1
      clear ho6 hb6 hbE X V hl6
      go_wp2
      obtain ⟨fo1, fo2, fo3, fe0, fe1⟩ := O.out
      refine bodyPost_ret (v := .tuple #[.agg #[.slice Ar r.length cr, .slice A6 l6 k6], .bool true]) (by simp [results, Try.results18, go_sem, fe0, fe1]) rfl ?_
      rw [HS.out]
      refine ⟨_, _, _, _, _, _, fo3, rfl, fun y hy => ?_⟩
      cases hy
      exact ⟨fo1, by rw [List.reverse_cons, HZ.out]; exact fo2⟩)
end Go.Proofs.Ytenaeiedoiepdaa
namespace Go.Proofs.Ytenaeiedoiepdaa
set_option maxRecDepth 100000
open Go.RowKit Go.WideShapes

set_option maxHeartbeats 2000000 in
theorem step_S_drop (v0 v1 : Value) (r : List Int) (st : List (List Int)) (w : World) (h0 : RdI w v0 (1002 :: r)) (h1 : RdS w v1 st.reverse) (hl : r.length ≤ 1048576) (hok : okS (1002 :: r) st) :
    Calls Try.prog 18 #[.agg #[v0, v1]] w (StepPost w (l2R (1002 :: r) st)) := by
  have hsl := (stackB_all hok.2).1
  have hsv := fun v (hv : v ∈ st.reverse) => Nat.le_trans (valueB_len ((stackB_all hok.2).2 v (List.mem_reverse.1 hv))).2 (show 60 ≤ 1000000 by omega)
  have hlz : st.reverse.length ≤ 20 := by simpa using hsl
  generalize hzs : st.reverse = zss at *
  have HZ := Lib.hid hzs; clear hzs
  have HV := Lib.hid hsv; clear hsv
  have Hok := Lib.hid hok; clear hok
  have B2 : Below w.heap.size w ((w.alloc (.cells #[v0, v1] 26)).alloc (.cells #[.slice none 0 0, .slice none 0 0] 26)) := ((Below.refl _ _).alloc (Nat.le_refl _) _).alloc (by simp) _
  have B3 : Below w.heap.size w (((w.alloc (.cells #[v0, v1] 26)).alloc (.cells #[.slice none 0 0, .slice none 0 0] 26)).alloc (.cells #[] 3)) := B2.alloc (by simp; omega) _
  have H0 := Lib.hid h0.at_
  have H1 := Lib.hid h1.at_
  obtain ⟨A0, c0, rfl, hi0, hc0⟩ := h0
  obtain ⟨b0, o0, rfl, hb0, hcc0⟩ := hi0.at_ (by simp)
  obtain ⟨A1, c1, rfl, _⟩ := h1
  have hcell := hcc0 0 (by simp)
  simp only [List.length_cons] at hc0
  rw [Nat.add_zero] at hcell
  replace hcell := (B2.cell (p := ⟨b0, o0, none⟩) hb0).trans hcell
  simp only [List.getD_cons_zero, List.length_cons] at hcell
  have ht0 : RdI w (.slice (some ⟨b0, o0 + 1, none⟩) r.length (c0 - 1)) r := by
    have h1 := hi0.sub 1 r.length (by simp; omega)
    simp only [List.drop_succ_cons, List.drop_zero, List.take_length] at h1
    exact ⟨_, _, rfl, h1, by omega⟩
  have L1 : OwnI (((w.alloc (.cells #[.slice (some ⟨b0, o0, none⟩) (r.length + 1) c0, .slice A1 zss.length c1] 26)).alloc (.cells #[.slice none 0 0, .slice none 0 0] 26)).alloc (.cells #[] 3)) (w.heap.size + 1 + 1) (w.heap.size + 1 + 1 + 1) (.slice (some ⟨w.heap.size + 1 + 1, 0, none⟩) 0 0) [] := by simpa using lits_own ((w.alloc (.cells #[.slice (some ⟨b0, o0, none⟩) (r.length + 1) c0, .slice A1 zss.length c1] 26)).alloc (.cells #[.slice none 0 0, .slice none 0 0] 26)) [] (by simp) (by simp)
  have Y := Lib.hid (And.intro (RdI.step ht0 B3) (And.intro L1 B3))
  clear L1 B2 B3 hcc0 hi0 ht0
  have hcc : c0 = 1 ∨ 2 ≤ c0 := by omega
  rcases hcc with rfl | hc2
  all_goals go_enter Try.func18, Try.ntmps18
  all_goals go_wp2_with (at_builtin; (refine wpList_append_V rfl _ _ _ rfl Try.underlying23 intInfo (w.heap.size + 1 + 1) (w.heap.size + 1 + 1 + 1) _ [] rfl Y.out.2.1 (by simp) _ r rfl (by first | exact Y.out.1 | exact rd_nil (by omega) (by omega)) (by simp; omega) ?_))
  all_goals (
    intro v2 w2 ho2 hb2
    obtain ⟨k1, k2, k3, k4⟩ := blks hb2
    obtain ⟨p1, p2, -, -⟩ := k1.two
    have Z := Lib.hid (And.intro k1 (And.intro k2 (And.intro k3 ho2))); clear k1 k2 k3 ho2 hb2 Y hcell
    go_wp2_with fail
    refine (l2Copy_any _ zss _ ((H1.out.below Z.out.2.2.1).rd (by omega)) (by omega) HV.out).mono ?_
    rintro e w3 ⟨u, rfl, ho3, hb3⟩
    have hz3 : w2.heap.size ≤ w3.heap.size := hb3.size
    have X : Hid (Ahead w w3 w2.heap.size _ _ v2 u 1002 r zss) := Lib.hid ⟨Z.out.1.below hb3 (by omega), Z.out.2.1.below hb3 (by omega), (H0.out.below Z.out.2.2.1).below (hb3.mono (by omega)), Z.out.2.2.2.below hb3, ho3, Z.out.2.2.1.trans (hb3.mono (by omega))⟩
    clear Z ho3 hb3 p1 p2
    have q := X.out.1.two
    obtain ⟨q1, q2, -, -⟩ := q
    obtain ⟨Au, cu, rfl, _⟩ := X.out.2.2.2.2.1.rd
    obtain ⟨Ar, cr, rfl, _⟩ := X.out.2.2.2.1.rd
    have hm2 : w.heap.size + 1 + 1 ≤ w2.heap.size := by omega
    rcases st with _ | ⟨a, s1⟩
    · have HS : Hid (l2R (1002 :: r) [] = none) := Lib.hid (by simp [l2R, opR])
      have hne0 : ((zss.length : Int) == 0) = true := by rw [← HZ.out]; rfl
      have FR := Lib.hid X.out.2.1
      obtain ⟨fc1, fc2, ff1, ff2⟩ := FR.out.two
      obtain ⟨fe0, fe1⟩ := FR.out.two_out (x := .slice none 0 0) (y := .slice none 0 0)
      have FO := Lib.hid (And.intro (fail_below X.out.2.2.2.2.2 (.slice none 0 0) (.slice none 0 0)) (And.intro fe0 fe1)); clear fe0 fe1
      go_wp2
      obtain ⟨fo, fe0, fe1⟩ := FO.out
      refine bodyPost_ret (v := .tuple #[.agg #[.slice none 0 0, .slice none 0 0], .bool false]) (by simp [results, Try.results18, go_sem, fe0, fe1]) rfl ?_
      rw [HS.out]
      exact ⟨_, _, _, _, _, _, fo, rfl, fun y hy => by cases hy⟩
    · have hn1 : 1 ≤ zss.length := by rw [← HZ.out]; simp
      have HZ1 : Hid (zss.take (zss.length - 1) = s1.reverse) := Lib.hid (by rw [← HZ.out]; simp)
      have hne0 : ((zss.length : Int) == 0) = false := by rw [beq_eq_false_iff_ne]; omega
      have hcap := X.out.2.2.2.2.1.cap2
      have HS : Hid (l2R (1002 :: r) (a :: s1) = some (r, s1)) := Lib.hid (by simp [l2R, opR, opR1])
      have hbE : Below w2.heap.size w3 w3 := Below.refl _ _
      have ht := X.out.2.2.2.2.1.take (zss.length - 1) (by omega) (Nat.le_refl _)
      rw [HZ1.out] at ht
      have R := Lib.hid (X.out.2.1.below hbE (by omega))
      obtain ⟨fc1, fc2, ff1, ff2⟩ := R.out.two
      obtain ⟨fo1, fo2, fo3⟩ := step_out (x0 := .slice Ar r.length cr) (x1 := .slice Au (zss.length - 1) cu) (X.out.2.2.2.1.belowB hbE (Nat.le_refl _)) (ht.mono hm2) (X.out.2.2.2.2.2.trans (hbE.mono (by omega)))
      obtain ⟨fe0, fe1⟩ := R.out.two_out (x := .slice Ar r.length cr) (y := .slice Au (zss.length - 1) cu)
      have O := Lib.hid (And.intro fo1 (And.intro fo2 (And.intro fo3 (And.intro fe0 fe1)))); clear fo1 fo2 fo3 fe0 fe1
      clear ht hbE X
      go_wp2
      obtain ⟨fo1, fo2, fo3, fe0, fe1⟩ := O.out
      refine bodyPost_ret (v := .tuple #[.agg #[.slice Ar r.length cr, .slice Au (zss.length - 1) cu], .bool true]) (by simp [results, Try.results18, go_sem, fe0, fe1]) rfl ?_
      rw [HS.out]
      refine ⟨_, _, _, _, _, _, fo3, rfl, fun y hy => ?_⟩
      cases hy
      exact ⟨fo1, by skip; exact fo2⟩)
end Go.Proofs.Ytenaeiedoiepdaa
namespace Go.Proofs.Ytenaeiedoiepdaa
set_option maxRecDepth 100000
open Go.RowKit Go.WideShapes

set_option maxHeartbeats 2000000 in
theorem step_S_swap (v0 v1 : Value) (r : List Int) (st : List (List Int)) (w : World) (h0 : RdI w v0 (1003 :: r)) (h1 : RdS w v1 st.reverse) (hl : r.length ≤ 1048576) (hok : okS (1003 :: r) st) :
    Calls Try.prog 18 #[.agg #[v0, v1]] w (StepPost w (l2R (1003 :: r) st)) := by
  have hsl := (stackB_all hok.2).1
  have hsv := fun v (hv : v ∈ st.reverse) => Nat.le_trans (valueB_len ((stackB_all hok.2).2 v (List.mem_reverse.1 hv))).2 (show 60 ≤ 1000000 by omega)
  have hlz : st.reverse.length ≤ 20 := by simpa using hsl
  generalize hzs : st.reverse = zss at *
  have HZ := Lib.hid hzs; clear hzs
  have HV := Lib.hid hsv; clear hsv
  have Hok := Lib.hid hok; clear hok
  have B2 : Below w.heap.size w ((w.alloc (.cells #[v0, v1] 26)).alloc (.cells #[.slice none 0 0, .slice none 0 0] 26)) := ((Below.refl _ _).alloc (Nat.le_refl _) _).alloc (by simp) _
  have B3 : Below w.heap.size w (((w.alloc (.cells #[v0, v1] 26)).alloc (.cells #[.slice none 0 0, .slice none 0 0] 26)).alloc (.cells #[] 3)) := B2.alloc (by simp; omega) _
  have H0 := Lib.hid h0.at_
  have H1 := Lib.hid h1.at_
  obtain ⟨A0, c0, rfl, hi0, hc0⟩ := h0
  obtain ⟨b0, o0, rfl, hb0, hcc0⟩ := hi0.at_ (by simp)
  obtain ⟨A1, c1, rfl, _⟩ := h1
  have hcell := hcc0 0 (by simp)
  simp only [List.length_cons] at hc0
  rw [Nat.add_zero] at hcell
  replace hcell := (B2.cell (p := ⟨b0, o0, none⟩) hb0).trans hcell
  simp only [List.getD_cons_zero, List.length_cons] at hcell
  have ht0 : RdI w (.slice (some ⟨b0, o0 + 1, none⟩) r.length (c0 - 1)) r := by
    have h1 := hi0.sub 1 r.length (by simp; omega)
    simp only [List.drop_succ_cons, List.drop_zero, List.take_length] at h1
    exact ⟨_, _, rfl, h1, by omega⟩
  have L1 : OwnI (((w.alloc (.cells #[.slice (some ⟨b0, o0, none⟩) (r.length + 1) c0, .slice A1 zss.length c1] 26)).alloc (.cells #[.slice none 0 0, .slice none 0 0] 26)).alloc (.cells #[] 3)) (w.heap.size + 1 + 1) (w.heap.size + 1 + 1 + 1) (.slice (some ⟨w.heap.size + 1 + 1, 0, none⟩) 0 0) [] := by simpa using lits_own ((w.alloc (.cells #[.slice (some ⟨b0, o0, none⟩) (r.length + 1) c0, .slice A1 zss.length c1] 26)).alloc (.cells #[.slice none 0 0, .slice none 0 0] 26)) [] (by simp) (by simp)
  have Y := Lib.hid (And.intro (RdI.step ht0 B3) (And.intro L1 B3))
  clear L1 B2 B3 hcc0 hi0 ht0
  have hcc : c0 = 1 ∨ 2 ≤ c0 := by omega
  rcases hcc with rfl | hc2
  all_goals go_enter Try.func18, Try.ntmps18
  all_goals go_wp2_with (at_builtin; (refine wpList_append_V rfl _ _ _ rfl Try.underlying23 intInfo (w.heap.size + 1 + 1) (w.heap.size + 1 + 1 + 1) _ [] rfl Y.out.2.1 (by simp) _ r rfl (by first | exact Y.out.1 | exact rd_nil (by omega) (by omega)) (by simp; omega) ?_))
  all_goals (
    intro v2 w2 ho2 hb2
    obtain ⟨k1, k2, k3, k4⟩ := blks hb2
    obtain ⟨p1, p2, -, -⟩ := k1.two
    have Z := Lib.hid (And.intro k1 (And.intro k2 (And.intro k3 ho2))); clear k1 k2 k3 ho2 hb2 Y hcell
    go_wp2_with fail
    refine (l2Copy_any _ zss _ ((H1.out.below Z.out.2.2.1).rd (by omega)) (by omega) HV.out).mono ?_
    rintro e w3 ⟨u, rfl, ho3, hb3⟩
    have hz3 : w2.heap.size ≤ w3.heap.size := hb3.size
    have X : Hid (Ahead w w3 w2.heap.size _ _ v2 u 1003 r zss) := Lib.hid ⟨Z.out.1.below hb3 (by omega), Z.out.2.1.below hb3 (by omega), (H0.out.below Z.out.2.2.1).below (hb3.mono (by omega)), Z.out.2.2.2.below hb3, ho3, Z.out.2.2.1.trans (hb3.mono (by omega))⟩
    clear Z ho3 hb3 p1 p2
    have q := X.out.1.two
    obtain ⟨q1, q2, -, -⟩ := q
    obtain ⟨Au, cu, rfl, _⟩ := X.out.2.2.2.2.1.rd
    obtain ⟨Ar, cr, rfl, _⟩ := X.out.2.2.2.1.rd
    have hm2 : w.heap.size + 1 + 1 ≤ w2.heap.size := by omega
    rcases st with _ | ⟨a, s1⟩
    · have HS : Hid (l2R (1003 :: r) [] = none) := Lib.hid (by simp [l2R, opR])
      have hne0 : ((zss.length : Int) == 0) = true := by rw [← HZ.out]; rfl
      have FR := Lib.hid X.out.2.1
      obtain ⟨fc1, fc2, ff1, ff2⟩ := FR.out.two
      obtain ⟨fe0, fe1⟩ := FR.out.two_out (x := .slice none 0 0) (y := .slice none 0 0)
      have FO := Lib.hid (And.intro (fail_below X.out.2.2.2.2.2 (.slice none 0 0) (.slice none 0 0)) (And.intro fe0 fe1)); clear fe0 fe1
      go_wp2
      obtain ⟨fo, fe0, fe1⟩ := FO.out
      refine bodyPost_ret (v := .tuple #[.agg #[.slice none 0 0, .slice none 0 0], .bool false]) (by simp [results, Try.results18, go_sem, fe0, fe1]) rfl ?_
      rw [HS.out]
      exact ⟨_, _, _, _, _, _, fo, rfl, fun y hy => by cases hy⟩
    rcases s1 with _ | ⟨b, s2⟩
    · have HS : Hid (l2R (1003 :: r) [a] = none) := Lib.hid (by simp [l2R, opR, opR1])
      have hne0 : ((zss.length : Int) == 0) = false := by rw [← HZ.out]; rfl
      have hne1 : ((zss.length : Int) == 1) = true := by rw [← HZ.out]; rfl
      have FR := Lib.hid X.out.2.1
      obtain ⟨fc1, fc2, ff1, ff2⟩ := FR.out.two
      obtain ⟨fe0, fe1⟩ := FR.out.two_out (x := .slice none 0 0) (y := .slice none 0 0)
      have FO := Lib.hid (And.intro (fail_below X.out.2.2.2.2.2 (.slice none 0 0) (.slice none 0 0)) (And.intro fe0 fe1)); clear fe0 fe1
      go_wp2
      obtain ⟨fo, fe0, fe1⟩ := FO.out
      refine bodyPost_ret (v := .tuple #[.agg #[.slice none 0 0, .slice none 0 0], .bool false]) (by simp [results, Try.results18, go_sem, fe0, fe1]) rfl ?_
      rw [HS.out]
      exact ⟨_, _, _, _, _, _, fo, rfl, fun y hy => by cases hy⟩
    · have hn2 : 2 ≤ zss.length := by rw [← HZ.out]; simp
      have HZ2 : Hid (zss.take (zss.length - 2) = s2.reverse) := Lib.hid (by rw [← HZ.out]; simp)
      have HZa : Hid (zss[zss.length - 1]? = some a) := Lib.hid (by rw [← HZ.out]; simp)
      have HZb : Hid (zss[zss.length - 2]? = some b) := Lib.hid (by rw [← HZ.out]; simp)
      have hne0 : ((zss.length : Int) == 0) = false := by rw [beq_eq_false_iff_ne]; omega
      have hne1 : ((zss.length : Int) == 1) = false := by rw [beq_eq_false_iff_ne]; omega
      have hcap := X.out.2.2.2.2.1.cap2
      have hva := (stackB_all Hok.out.2).2 a List.mem_cons_self
      have hvb := (stackB_all Hok.out.2).2 b (List.mem_cons_of_mem _ List.mem_cons_self)
      have HVA := Lib.hid hva; clear hva
      have HVB := Lib.hid hvb; clear hvb
      obtain ⟨vs, hvs⟩ := X.out.2.2.2.2.1
      obtain ⟨g, ua, hAu, hgl, hca, hva2, hua⟩ := hvs.at2 HZa.out
      obtain ⟨g', ub, hAu', -, hcb, hvb2, hub⟩ := hvs.at2 HZb.out
      subst hAu
      obtain rfl : g = g' := by cases hAu'; rfl
      clear hAu'
      have HS : Hid (l2R (1003 :: r) (a :: b :: s2) = some (r, b :: a :: s2)) := Lib.hid (by simp [l2R, opR, opR1, opR2])
      have HW := Lib.hid (And.intro hvs (And.intro hva2 (And.intro hvb2 (And.intro hua hub)))); clear hvs hva2 hvb2 hua hub
      obtain ⟨Aa, ca, rfl, _⟩ := HW.out.2.2.2.1
      obtain ⟨Ab, cb, rfl, _⟩ := HW.out.2.2.2.2
      go_wp2_with fail
      have l1 : (2 : Int) ≤ (zss.length : Int) := by omega
      have l2 : (1 : Int) ≤ (zss.length : Int) := by omega
      have l3 : (zss.length : Int) - 2 ≤ (cu : Int) := by omega
      have l4 : (zss.length : Int) - 2 < (zss.length : Int) := by omega
      have l5 : (zss.length : Int) - 1 < (zss.length : Int) := by omega
      have l6 : ((zss.length : Int) - 2).toNat = zss.length - 2 := by omega
      have l7 : ((zss.length : Int) - 1).toNat = zss.length - 1 := by omega
      have l8 : (0 : Int) ≤ (zss.length : Int) - 2 := by omega
      have l9 : (0 : Int) ≤ (zss.length : Int) - 1 := by omega
      have m1 : IntKind.i64.wrap ((zss.length : Int) - 2) = (zss.length : Int) - 2 := IntWalk.i64_in _ (by omega)
      have m2 : IntKind.i64.wrap ((zss.length : Int) - 1) = (zss.length : Int) - 1 := IntWalk.i64_in _ (by omega)
      have XD := Lib.hid X.out.drew; clear X
      have hd : Below w3.heap.size w3 w3.drew := (Below.refl _ _).drew
      have hbl : Below w3.drew.heap.size w3.drew (w3.drew.alloc (.cells #[.slice Aa a.length ca, .slice Ab b.length cb] 23)) := (Below.refl _ _).alloc (Nat.le_refl _) _
      have VL := Lib.hid (And.intro ((HW.out.1.below hd).below hbl) (And.intro HW.out.2.1 (And.intro HW.out.2.2.1 (And.intro ((Blk.new w3.drew #[.slice Aa a.length ca, .slice Ab b.length cb] 23).cell 0) ((Blk.new w3.drew #[.slice Aa a.length ca, .slice Ab b.length cb] 23).cell 1)))))
      go_region_law (refine step_append_swap rfl _ _ _ rfl Try.underlying24 rowInfo w2.heap.size w3.heap.size (zss.length - 2) _ cu zss.length vs zss rfl VL.out.1 hz3 (by first | (simp; done) | (simp; omega)) (by omega) (by omega) _ 2 _ _ a b rfl VL.out.2.2.2.1 VL.out.2.2.2.2 (by rw [show zss.length - 2 + 1 = zss.length - 1 by omega]; exact VL.out.2.1) VL.out.2.2.1 (by rw [show zss.length - 2 + 1 = zss.length - 1 by omega]; exact HZa.out) HZb.out ?_; intro v4 w4 ho4 hb4; obtain ⟨A4, k4, rfl, _⟩ := ho4.rd; generalize hl4 : (zss.take (zss.length - 2) ++ [a, b]).length = l4 at *; have O := Lib.hid (end_step XD.out ((hbl.mono hz3).trans hb4) hm2 ho4); obtain ⟨fc1, fc2, ff1, ff2⟩ := O.out.2.2.2.2.2; clear ho4 hb4 hl4)
      clear XD VL hbl hd HW
      all_goals go_wp2
      all_goals obtain ⟨fo1, fo2, fo3, fe0, fe1, -⟩ := O.out
      all_goals refine bodyPost_ret (v := .tuple #[.agg #[.slice Ar r.length cr, .slice A4 l4 k4], .bool true]) (by simp [results, Try.results18, go_sem, fe0, fe1]) rfl ?_
      all_goals rw [HS.out]
      all_goals refine ⟨_, _, _, _, _, _, fo3, rfl, fun y hy => ?_⟩
      all_goals cases hy
      all_goals exact ⟨fo1, by rw [show (b :: a :: s2).reverse = zss.take (zss.length - 2) ++ [a, b] by rw [HZ2.out]; simp]; exact fo2⟩)
end Go.Proofs.Ytenaeiedoiepdaa
