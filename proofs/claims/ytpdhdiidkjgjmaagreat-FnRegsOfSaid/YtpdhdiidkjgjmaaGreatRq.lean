/- RegsOf of the model. -/
import Derived.Test.YtpdhdiidkjgjmaaGreatRo
import Derived.Test.YtpdhdiidkjgjmaaGreatRp
import Derived.Test.YtpdhdiidkjgjmaaGreatZq
import Derived.Test.YtpdhdiidkjgjmaaGreatCp
import Derived.Test.YtpdhdiidkjgjmaaGreatJh
import Derived.Test.YtpdhdiidkjgjmaaGreatJf
import Derived.Deep.RegionHeld3
import Derived.BigQuiet
import Derived.Deep.RegionLaw
namespace Go.Proofs.YtpdhdiidkjgjmaaGreat
set_option maxRecDepth 100000
open Go.RowKit Go.WideShapes Go.Deep

theorem opInfoR : (Tryz.prog.info? 33).map (fun i => (i.zero, i.size, i.bytes)) = some (some (.agg #[.int .i64 0, .int .i64 0, .int .i64 0]), 3, 24) := by kernel_rfl
def RgPost (w : World) (T : Int) (ms : List (Int × Int × Int)) (row : List Int) (ok : Bool) (e : Ending) (w' : World) : Prop :=
  ∃ u0 u1, e = .returned (.tuple #[.agg #[.int .i64 T, u0, u1], .bool ok]) ∧ w'.ownsRow w.heap.size 33 3 u0 ms.length ((flat3 ms).map (Value.int .i64)) ∧ Own w' w.heap.size u1 row ∧ (∀ g, u0.ownBlock = some g → u1.ownBlock ≠ some g) ∧ Below w.heap.size w w'
theorem regsOfR_no {p : List Int} (h : (countR p).1 < 0) : regsOfR p = (0, [], [], false) := by unfold regsOfR; rw [if_pos h]
theorem countR_neg {p : List Int} (h : (countR p).1 < 0) : countR p = (-1, -1) := by
  unfold countR at h ⊢
  split
  · rename_i hc; rw [if_pos hc] at h; omega
  · rfl
theorem countR_pos {p : List Int} (h : ¬ (countR p).1 < 0) : validB p = true ∧ p.all straightB = true ∧ (countR p).1 = ((countL (0, 0) p).1 : Int) := by
  unfold countR at h ⊢
  split
  · rename_i hc; exact ⟨hc.1, hc.2, rfl⟩
  · rename_i hc; rw [if_neg hc] at h; simp at h
set_option maxHeartbeats 8000000 in
theorem RegsOf_S (v0 : Value) (p : List Int) (w : World) (h0 : RdI w v0 p) (hl0 : p.length ≤ 1048576) (T : Int) (MS : List (Int × Int × Int)) (ROW : List Int) (ok : Bool) (hR : regsOfR p = (T, MS, ROW, ok)) :
    Calls Tryz.prog 7 #[v0] w (RgPost w T MS ROW ok) := by
  have hb0 : Below w.heap.size w (w.alloc (.cells #[.int .i64 0, .slice none 0 0, .slice none 0 0] 27)) := (Below.refl _ _).alloc (Nat.le_refl _) _
  have bR := Blk.new w #[.int .i64 0, .slice none 0 0, .slice none 0 0] 27
  have H := Lib.hid (And.intro (h0.step hb0) (And.intro hb0 bR))
  have HAt := Lib.hid h0.at_
  obtain ⟨A, c, rfl, _⟩ := h0
  clear hb0 bR
  have HR := Lib.hid hR; clear hR
  rcases hc : countR p with ⟨x, y⟩
  have HC := Lib.hid hc
  by_cases hx : x < 0
  · have hneg : (countR p).1 < 0 := by rw [hc]; exact hx
    obtain ⟨rfl, rfl⟩ : -1 = x ∧ -1 = y := by have := countR_neg hneg; rw [hc] at this; cases this; exact ⟨rfl, rfl⟩
    obtain ⟨rfl, rfl, rfl, rfl⟩ : 0 = T ∧ [] = MS ∧ [] = ROW ∧ false = ok := by have := HR.out; rw [regsOfR_no hneg] at this; cases this; exact ⟨rfl, rfl, rfl, rfl⟩
    clear hc hneg
    go_enter Tryz.func7, Tryz.ntmps7
    go_wp2_with fail
    refine (CountOf_S _ p _ H.out.1 hl0 (-1) (-1) HC.out).mono ?_
    rintro e w1 ⟨rfl, hb⟩
    have hz1 : w.heap.size + 1 ≤ w1.heap.size := by have := hb.size; simpa using this
    have b1 := H.out.2.2.below hb (by simp)
    obtain ⟨c0, c1, c2, f0, f1, f2⟩ := blkThree b1
    have e0 := (((b1.set 0 (.int .i64 0)).set 1 (.slice none 0 0)).set 2 (.slice none 0 0))
    obtain ⟨k0, k1, k2, _, _, _⟩ := blkThree e0
    have X := Lib.hid (show Below w.heap.size w (((w1.setCell ⟨w.heap.size, 0, none⟩ (.int .i64 0)).setCell ⟨w.heap.size, 1, none⟩ (.slice none 0 0)).setCell ⟨w.heap.size, 2, none⟩ (.slice none 0 0)) from (((H.out.2.1.trans (hb.mono (by simp))).setCell (Nat.le_refl _) _).setCell (p := ⟨w.heap.size, 1, none⟩) (Nat.le_refl _) _).setCell (p := ⟨w.heap.size, 2, none⟩) (Nat.le_refl _) _); clear hb b1 e0
    go_wp2
    refine bodyPost_ret (v := .tuple #[.agg #[.int .i64 0, .slice none 0 0, .slice none 0 0], .bool false]) (by simp [results, Tryz.results7, go_sem, k0, k1, k2]) rfl ?_
    exact ⟨_, _, rfl, World.ownsRow_nil _ _ _ _, Own.nil _ _, fun g hg => by simp [Value.ownBlock] at hg, X.out⟩
  · have hpos : ¬ (countR p).1 < 0 := by rw [hc]; exact hx
    obtain ⟨hv, hst, hT⟩ := countR_pos hpos
    rw [hc] at hT
    dsimp only at hT
    obtain ⟨n0, hn0⟩ : ∃ n, (countL (0, 0) p).1 = n := ⟨_, rfl⟩
    rw [hn0] at hT
    obtain ⟨rfl, hM2, hW2, rfl⟩ : (n0 : Int) = T ∧ (regRun ([], startR n0) p).1 = MS ∧ (regRun ([], startR n0) p).2 = ROW ∧ true = ok := by
      have := HR.out
      unfold regsOfR at this
      rw [if_neg hpos, hc] at this
      dsimp only at this
      rw [hT, Int.toNat_natCast] at this
      cases this; exact ⟨rfl, rfl, rfl, rfl⟩
    have hl60 := validB_len hv
    have hn120 : n0 ≤ 120 := by have := countL_le p (0, 0); rw [hn0] at this; simp only [] at this; omega
    have HW := Lib.hid (And.intro hst (And.intro hn0 (And.intro hM2 hW2))); clear hst hn0 hM2 hW2 hc hpos hv HR
    subst hT
    go_enter Tryz.func7, Tryz.ntmps7
    go_wp2_with fail
    refine (CountOf_S _ p _ H.out.1 hl0 (n0 : Int) y HC.out).mono ?_
    rintro e w1 ⟨rfl, hb⟩
    have hz1 : w.heap.size + 1 ≤ w1.heap.size := by have := hb.size; simpa using this
    have hxI : ¬ (n0 : Int) < 0 := by omega
    have bR := H.out.2.2.below hb (by simp)
    have hbw := H.out.2.1.trans (hb.mono (by simp))
    have hba : Below w1.heap.size w1 ((w1.alloc (.cells #[.int .i64 n0, .slice none 0 0, .slice none 0 0] 27)).alloc (.cells #[] 3)) := ((Below.refl _ _).alloc (Nat.le_refl _) _).alloc (by simp) _
    have bO := (Blk.new w1 #[.int .i64 n0, .slice none 0 0, .slice none 0 0] 27).below ((Below.refl _ _).alloc (Nat.le_refl _) (.cells #[] 3)) (by simp)
    have L0 := (nilLit (w1.alloc (.cells #[.int .i64 n0, .slice none 0 0, .slice none 0 0] 27))).1
    have X := Lib.hid (And.intro (hbw.trans (hba.mono (by omega))) (And.intro (bR.below hba (by omega)) (RgS.mk (T := (n0 : Int)) (ms := []) bO (World.ownsRow_nil _ _ _ _) (L0.own.mono (show w1.heap.size + 1 ≤ (w1.alloc (.cells #[.int .i64 n0, .slice none 0 0, .slice none 0 0] 27)).heap.size by simp))))); clear hb bR hbw hba bO L0 H
    go_wp2
    go_loopw [7, 8] (fun v i wr => ∃ k : Nat, k ≤ n0 ∧ i = .int .i64 k ∧ w1.heap.size + 1 ≤ wr.heap.size ∧ Below w.heap.size w wr ∧ Blk wr w.heap.size #[.int .i64 0, .slice none 0 0, .slice none 0 0] 27 ∧ RgS wr (w1.heap.size + 1) w1.heap.size (n0 : Int) (.slice none 0 0) v [] (startR k)) (fun _ i _ => n0 - (intOf i).toNat)
    case atStart => exact ⟨0, Nat.zero_le _, by first | rfl | simp, by simp, X.out.1, X.out.2.1, by simpa [startR] using X.out.2.2⟩
    case round =>
      clear X
      obtain ⟨k, hk, rfl, hsz, r1, r2, r3⟩ := hrel
      have hrk : (startR k).length ≤ 120 := by rw [startR_len]; omega
      obtain ⟨Ar, cr, rfl, _⟩ := r3.row.ints
      have R := Lib.hid (And.intro r1 (And.intro r2 r3)); clear r1 r2 r3
      by_cases hlt : k < n0
      · have hltI : (k : Int) < (n0 : Int) := by omega
        have hss := startR_succ k
        have HS := Lib.hid hss; clear hss
        generalize startR k = rk at *
        go_wp2_with (at_builtin; refine wpList_append_Kz rfl _ _ _ rfl Tryz.underlying23 intInfo (2000 + (k : Int)) rfl (wf_near _ (by omega)) (w1.heap.size + 1) _ rk rfl R.out.2.2.row (by omega) rfl (by omega) ?_)
        intro v2 w2 ho2 hg2
        have hz2 : w1.heap.size + 1 ≤ w2.heap.size := by have := hg2.size; omega
        have hbl := R.out.2.2.below (by omega) hg2
        have Z := Lib.hid (And.intro (R.out.1.trans (hbl.mono (by omega))) (And.intro (R.out.2.1.below hbl (by omega)) (R.out.2.2.grown ho2 hg2))); clear hbl ho2 hg2
        go_wp2
        go_roundw
        case rel => exact ⟨k + 1, by omega, by go_num, hz2, Z.out.1, Z.out.2.1, by rw [HS.out]; exact Z.out.2.2⟩
        case measure => simp [intOf]; omega
      · obtain rfl : k = n0 := by omega
        go_wp2
        go_loopw [7, 9] (fun v i wr => ∃ (j n m : Nat) (ul : Value) (ms : List (Int × Int × Int)) (row : List Int), j ≤ p.length ∧ i = .int .i64 j ∧ w1.heap.size + 1 ≤ wr.heap.size ∧ Below w.heap.size w wr ∧ Blk wr w.heap.size #[.int .i64 0, .slice none 0 0, .slice none 0 0] 27 ∧ RgS wr (w1.heap.size + 1) w1.heap.size (k : Int) ul v ms row ∧ row.length + n = m + k ∧ row.length ≤ 120 + 2 * j ∧ ms.length ≤ j ∧ (p.drop j).all straightB = true ∧ (countL (n, m) (p.drop j)).1 = k ∧ regRun (ms, row) (p.drop j) = regRun ([], startR k) p) (fun _ i _ => p.length - (intOf i).toNat)
        case atStart => exact ⟨0, 0, 0, .slice none 0 0, [], startR k, Nat.zero_le _, by first | rfl | simp, hsz, R.out.1, R.out.2.1, R.out.2.2, by rw [startR_len]; omega, by omega, by simp, by simpa using HW.out.1, by simpa using HW.out.2.1, by simp⟩
        case round =>
          clear R
          obtain ⟨j, n, m, ul, ms, row, hj, rfl, hsz, r1, r2, r3, q1, q2, q3, q4, q5, q6⟩ := hrel
          obtain ⟨Ar, cr, rfl, _⟩ := r3.row.ints
          obtain ⟨o0, o1, o2, f0, f1, f2⟩ := blkThree r3.blk
          have R := Lib.hid (And.intro r1 (And.intro r2 (And.intro r3 (And.intro q4 (And.intro q5 q6))))); clear r1 r2 r3 q4 q5 q6
          by_cases hlt : j < p.length
          · have hjI : (j : Int) < p.length := by omega
            obtain ⟨_, _, ei, hi, _⟩ := HAt.out
            cases ei
            obtain ⟨bb, off, rfl, hbb, hcc⟩ := hi.at_ (by omega)
            have hcell := (R.out.1.cell (p := ⟨bb, off + j, none⟩) hbb).trans (hcc j hlt)
            have g4 := R.out.2.2.2.1
            have g5 := R.out.2.2.2.2.1
            have g6 := R.out.2.2.2.2.2
            rw [all_drop hlt, Bool.and_eq_true] at g4
            rw [countL_drop hlt] at g5
            rw [regRun_drop hlt] at g6
            clear hcc hi
            generalize p.getD j 0 = z at *
            obtain ⟨gs, g4⟩ := g4
            have htk := row_takes (st := (ms, row)) g5 (by simpa using q1)
            have hnx := row_next (st := (ms, row)) gs g5 (by simpa using q1)
            have G := Lib.hid (And.intro g4 (And.intro g5 (And.intro g6 (And.intro hnx htk)))); clear g4 g5 g6 hnx
            have hz20 : w1.heap.size + 1 ≤ wr.heap.size := hsz
            rcases straight_cases gs with hz | rfl | rfl | rfl | hz
            · have hst : regStep z (ms, row) = (ms, row ++ [z]) := by rw [regStep, if_pos hz.2]
              have hzI : z ≤ 999 := hz.2
              have HST := Lib.hid hst; clear hst
              go_wp2_with (at_builtin; refine wpList_append_Kz rfl _ _ _ rfl Tryz.underlying23 intInfo z rfl (wf_near _ (by omega)) (w1.heap.size + 1) _ row rfl R.out.2.2.1.row (by omega) rfl (by omega) ?_)
              intro v2 w2 ho2 hg2
              have hz2 : w1.heap.size + 1 ≤ w2.heap.size := by have := hg2.size; omega
              have hbl := R.out.2.2.1.below (by omega) hg2
              have Z := Lib.hid (And.intro (R.out.1.trans (hbl.mono (by omega))) (And.intro (R.out.2.1.below hbl (by omega)) (R.out.2.2.1.grown ho2 hg2))); clear hbl ho2 hg2
              have hrow : (row ++ [z]).length ≤ 120 + 2 * (j + 1) := by simp; omega
              go_wp2
              go_roundw
              case rel => exact ⟨j + 1, (stepC z (n, m)).1, (stepC z (n, m)).2, ul, ms, row ++ [z], by omega, by go_num, hz2, Z.out.1, Z.out.2.1, Z.out.2.2, by have h := G.out.2.2.2.1; rw [HST.out] at h; exact h, hrow, by omega, G.out.1, G.out.2.1, by rw [← G.out.2.2.1, HST.out]⟩
              case measure => simp [intOf]; omega
            · have h1 : 1 ≤ row.length := by simpa [tpR] using htk
              obtain ⟨q, hq⟩ : ∃ q, row.length = q + 1 := ⟨row.length - 1, by omega⟩
              have hqI : (row.length : Int) - 1 = (q : Int) := by omega
              have hqr : (q : Int) < row.length := by omega
              obtain ⟨_, _, er, hir, _⟩ := R.out.2.2.1.row.ints
              cases er
              obtain ⟨b1, of1, rfl, hb1, hc1⟩ := hir.at_ (by omega)
              have hcell1 := hc1 q (by omega)
              have hwf1 : InK .i64 (row.getD q 0) := by
                simp only [List.getD, List.getElem?_eq_getElem (show q < row.length by omega), Option.getD_some]
                exact hir.wf _ (List.getElem_mem _)
              have hst : regStep 1001 (ms, row) = (ms, row ++ [row.getD q 0]) := by simp [regStep, hq]
              have HST := Lib.hid (And.intro hst hwf1); clear hst hwf1 hc1 hir hq
              generalize row.getD q 0 = x1 at *
              go_wp2_with (at_builtin; refine wpList_append_Kz rfl _ _ _ rfl Tryz.underlying23 intInfo x1 rfl HST.out.2 (w1.heap.size + 1) _ row rfl R.out.2.2.1.row (by omega) rfl (by omega) ?_)
              intro v2 w2 ho2 hg2
              have hz2 : w1.heap.size + 1 ≤ w2.heap.size := by have := hg2.size; omega
              have hbl := R.out.2.2.1.below (by omega) hg2
              have Z := Lib.hid (And.intro (R.out.1.trans (hbl.mono (by omega))) (And.intro (R.out.2.1.below hbl (by omega)) (R.out.2.2.1.grown ho2 hg2))); clear hbl ho2 hg2
              have hrow : (row ++ [x1]).length ≤ 120 + 2 * (j + 1) := by simp; omega
              go_wp2
              go_roundw
              case rel => exact ⟨j + 1, (stepC 1001 (n, m)).1, (stepC 1001 (n, m)).2, ul, ms, row ++ [x1], by omega, by go_num, hz2, Z.out.1, Z.out.2.1, Z.out.2.2, by have h := G.out.2.2.2.1; rw [HST.out.1] at h; exact h, hrow, by omega, G.out.1, G.out.2.1, by rw [← G.out.2.2.1, HST.out.1]⟩
              case measure => simp [intOf]; omega
            · have h1 : 1 ≤ row.length := by simpa [tpR] using htk
              obtain ⟨q, hq⟩ : ∃ q, row.length = q + 1 := ⟨row.length - 1, by omega⟩
              have hqI : (row.length : Int) - 1 = (q : Int) := by omega
              have hqr : (q : Int) ≤ row.length := by omega
              have hro := R.out.2.2.1.row.own
              rcases hro.2 with ⟨_, h00⟩ | ⟨g1, cap1, cur1, e, _, _, hcp, _⟩
              · exfalso; omega
              cases e
              have htake := ownsRow_take hro q (by omega)
              rw [← List.map_take] at htake
              have hql : (row.take q).length = q := by rw [List.length_take]; omega
              have hcI : (q : Int) ≤ cr := by omega
              have hst : regStep 1002 (ms, row) = (ms, row.take q) := by simp [regStep, hq]
              have Z := Lib.hid (RgS.grown (v' := .slice (some ⟨g1, 0, none⟩) q cr) (row' := row.take q) R.out.2.2.1 ⟨by rw [hql]; exact htake, fun y hy => R.out.2.2.1.row.wf y (List.mem_of_mem_take hy)⟩ (World.grownBy.refl _ _))
              have HST := Lib.hid (And.intro hst hql); clear hst hql htake hro hq
              have hrow : (row.take q).length ≤ 120 + 2 * (j + 1) := by rw [HST.out.2]; omega
              go_wp2
              go_roundw
              case rel => exact ⟨j + 1, (stepC 1002 (n, m)).1, (stepC 1002 (n, m)).2, ul, ms, row.take q, by omega, by go_num, hz20, R.out.1, R.out.2.1, Z.out, by have h := G.out.2.2.2.1; rw [HST.out.1] at h; exact h, hrow, by omega, G.out.1, G.out.2.1, by rw [← G.out.2.2.1, HST.out.1]⟩
              case measure => simp [intOf]; omega
            · have h1 : 2 ≤ row.length := by simpa [tpR] using htk
              obtain ⟨q, hq⟩ : ∃ q, row.length = q + 2 := ⟨row.length - 2, by omega⟩
              obtain ⟨q1, hq1⟩ : ∃ q1, q1 = q + 1 := ⟨_, rfl⟩
              have hqI : (row.length : Int) - 1 = (q1 : Int) := by omega
              have hqJ : (row.length : Int) - 2 = (q : Int) := by omega
              have hqr : (q1 : Int) < row.length := by omega
              have hqs : (q : Int) < row.length := by omega
              have hro := R.out.2.2.1.row.own
              rcases hro.2 with ⟨_, h00⟩ | ⟨g1, cap1, cur1, e, hg0, _, hcp, _⟩
              · exfalso; omega
              cases e
              have hcI : (q : Int) ≤ cr := by omega
              have hg1 : g1 < wr.heap.size := (R.out.2.2.1.row.ge g1 rfl).2
              have hcA : wr.cell? ⟨g1, q1, none⟩ = some (.int .i64 (row.getD q1 0)) := by
                rw [hro.cellAt q1 (by omega), List.getElem?_map, List.getElem?_eq_getElem (by omega)]; simp [List.getD, List.getElem?_eq_getElem (show q1 < row.length by omega)]
              have hcB : wr.cell? ⟨g1, q, none⟩ = some (.int .i64 (row.getD q 0)) := by
                rw [hro.cellAt q (by omega), List.getElem?_map, List.getElem?_eq_getElem (by omega)]; simp [List.getD, List.getElem?_eq_getElem (show q < row.length by omega)]
              have hwA : InK .i64 (row.getD q1 0) := by
                simp only [List.getD, List.getElem?_eq_getElem (show q1 < row.length by omega), Option.getD_some]
                exact R.out.2.2.1.row.wf _ (List.getElem_mem _)
              have hwB : InK .i64 (row.getD q 0) := by
                simp only [List.getD, List.getElem?_eq_getElem (show q < row.length by omega), Option.getD_some]
                exact R.out.2.2.1.row.wf _ (List.getElem_mem _)
              have hst : regStep 1003 (ms, row) = (ms, row.take q ++ [row.getD q1 0, row.getD q 0]) := by
                simp [regStep, hq, hq1]
              have hql : (row.take q).length = q := by rw [List.length_take]; omega
              have hrt : RdI wr (.slice (some ⟨g1, 0, none⟩) q cr) (row.take q) := by
                have h := (OwnI.mk (lo := w1.heap.size + 1) (hi := wr.heap.size) (v := .slice (some ⟨g1, 0, none⟩) q cr) (zs := row.take q) ⟨by rw [hql, List.map_take]; exact ownsRow_take hro q (by omega), fun y hy => R.out.2.2.1.row.wf y (List.mem_of_mem_take hy)⟩ (fun k hk => by simp [Value.ownBlock] at hk; omega)).rd
                exact h
              have hz1q : w1.heap.size + 1 ≤ wr.heap.size := hsz
              have hwr : IntKind.i64.wrap (q : Int) = (q : Int) := IntWalk.i64_in _ (by omega)
              have hws : IntKind.i64.wrap (q1 : Int) = (q1 : Int) := IntWalk.i64_in _ (by omega)
              have hq00 : (0 : Int) ≤ (q : Int) := by omega
              have hq01 : (0 : Int) ≤ (q1 : Int) := by omega
              have hq02 : (q : Int) ≤ row.length := by omega
              generalize row.getD q1 0 = x1 at *
              generalize row.getD q 0 = x0 at *
              have HST := Lib.hid (And.intro hst (And.intro hql (And.intro hrt (And.intro hwA hwB)))); clear hst hql hro hq hq1 hcp hrt hwA hwB
              generalize hrw : row.take q = rowq at *
              have HRW := Lib.hid hrw; clear hrw
              go_wp2
              go_region_held3 (fun w' => w'.cell? ⟨g1, q1, none⟩ = some (.int .i64 x1) ∧ w'.cell? ⟨g1, q, none⟩ = some (.int .i64 x0)) (repeat' (first | exact hcA | exact hcB | exact k1 | exact k2 | exact k3 | exact k4 | apply And.intro | rw [World.cell?_drew] | rw [World.cell?_alloc_lt _ _ _ (by first | omega | (simp; done) | (simp; omega))])) (first
                | (refine step_append_W8 rfl _ _ _ rfl Tryz.underlying23 intInfo wr.heap.size w4.heap.size v4 rowq (by kernel_rfl) ?_ ?_ (.slice (some ⟨_, 0, none⟩) 2 2) [x1, x0] rfl ?_ ?_ ?_; (· (refine OwnI.below (OwnI.mk (ho4.own.mono ?_) ho4.lt) ?_; (· first | omega | (simp; done) | (simp; omega)); (· repeat (first | with_reducible exact Below.refl _ _ | with_reducible refine Below.drew ?_ | with_reducible refine Below.alloc ?_ (by first | omega | (simp; done) | (simp; omega)) _)))); (· first | omega | (simp; done) | (simp; omega)); (· (refine rd_blk2 ?_ HST.out.2.2.2.1 HST.out.2.2.2.2; repeat (first | with_reducible refine Blk.drewn ?_ | with_reducible exact Blk.new2 _ _ _ _ (by first | rfl | (simp; done)) | with_reducible refine Blk.keep ?_ | (refine Blk.apart9 ?_ hw4 ?_; rotate_left; (first | (left; omega) | (right; omega) | (left; simp; done) | (right; simp; done) | (left; simp; omega) | (right; simp; omega)))))); (· (rw [HST.out.2.1]; simp; omega)); intro v5 w5 ho5 hw5; have hb5 : Below wr.heap.size wr w5 := (by refine Below.trans ?_ (hw5.below (B := wr.heap.size) ?_ ?_); (· repeat (first | with_reducible exact hb4 | with_reducible refine Below.drew ?_ | with_reducible refine Below.alloc ?_ (by first | omega | (simp; done) | (simp; omega)) _)); (· omega); (· first | omega | (simp; done) | (simp; omega))); have k3 := (hb5.cell (p := ⟨g1, q1, none⟩) hg1).trans hcA; have k4 := (hb5.cell (p := ⟨g1, q, none⟩) hg1).trans hcB; have Z5 := Lib.hid (And.intro ho5 hb5); clear ho5 hw5 hb5 ho4 hw4 hb4 k1 k2)
                | (refine step_append_N rfl _ _ _ rfl Tryz.underlying23 intInfo _ rfl ?_ _ rowq rfl ?_ ?_ ?_; (· repeat (first | with_reducible refine Blk.drewn ?_ | with_reducible exact Blk.new2 _ _ _ _ (by first | rfl | (simp; done)) | with_reducible refine Blk.keep ?_)); (· (refine HST.out.2.2.1.step ?_; repeat (first | with_reducible exact Below.refl _ _ | with_reducible refine Below.drew ?_ | with_reducible refine Below.alloc ?_ (by first | omega | (simp; done) | (simp; omega)) _))); (· (rw [HST.out.2.1]; omega)); intro v4 w4 ho4 hw4; have hs4 := hw4.size; have hb4 : Below wr.heap.size wr w4 := (by refine Below.trans ?_ (hw4.below (B := wr.heap.size) ?_ ?_); (· repeat (first | with_reducible exact Below.refl _ _ | with_reducible refine Below.drew ?_ | with_reducible refine Below.alloc ?_ (by first | omega | (simp; done) | (simp; omega)) _)); (· first | omega | (simp; done) | (simp; omega)); (· first | omega | (simp; done) | (simp; omega))); have hs5 := hb4.size; have k1 := (hb4.cell (p := ⟨g1, q1, none⟩) hg1).trans hcA; have k2 := (hb4.cell (p := ⟨g1, q, none⟩) hg1).trans hcB)
                | fail)
              all_goals (
                have hz5 : w1.heap.size + 1 ≤ w5.heap.size := by have := Z5.out.2.size; omega
                have hrow : (rowq ++ [x1, x0]).length ≤ 120 + 2 * (j + 1) := by rw [List.length_append, HST.out.2.1]; simp; omega
                have Z := Lib.hid (And.intro (R.out.1.trans (Z5.out.2.mono (by omega))) (And.intro (R.out.2.1.below Z5.out.2 (by omega)) (RgS.mk (R.out.2.2.1.step Z5.out.2).blk (R.out.2.2.1.step Z5.out.2).lst (Z5.out.1.own.mono (show w1.heap.size + 1 ≤ wr.heap.size by omega))))); clear Z5 k3 k4
                go_wp2
                go_roundw
                case rel => exact ⟨j + 1, (stepC 1003 (n, m)).1, (stepC 1003 (n, m)).2, ul, ms, rowq ++ [x1, x0], by omega, by go_num, hz5, Z.out.1, Z.out.2.1, Z.out.2.2, by have h := G.out.2.2.2.1; rw [HST.out.1] at h; exact h, hrow, by omega, G.out.1, G.out.2.1, by rw [← G.out.2.2.1, HST.out.1]⟩
                case measure => simp [intOf]; omega)
            · obtain ⟨hz6, hz9⟩ := hz
              have hn9 : ¬ z ≤ 999 := by omega
              have hn1 : ¬ z = 1001 := by omega
              have hn2 : ¬ z = 1002 := by omega
              have hn3 : ¬ z = 1003 := by omega
              have h1 : 2 ≤ row.length := by
                have e : tpR z = (2, 1) := by unfold tpR; rw [if_neg (by omega), if_neg (by omega), if_neg (by omega), if_neg (by omega)]
                rw [e] at htk; exact htk
              obtain ⟨q, hq⟩ : ∃ q, row.length = q + 2 := ⟨row.length - 2, by omega⟩
              obtain ⟨q1, hq1⟩ : ∃ q1, q1 = q + 1 := ⟨_, rfl⟩
              have hqI : (row.length : Int) - 1 = (q1 : Int) := by omega
              have hqJ : (row.length : Int) - 2 = (q : Int) := by omega
              have hqr : (q1 : Int) < row.length := by omega
              have hqs : (q : Int) < row.length := by omega
              have hro := R.out.2.2.1.row.own
              rcases hro.2 with ⟨_, h00⟩ | ⟨g1, cap1, cur1, e, hg0, _, hcp, _⟩
              · exfalso; omega
              cases e
              have hcI : (q : Int) ≤ cr := by omega
              have hg1 : g1 < wr.heap.size := (R.out.2.2.1.row.ge g1 rfl).2
              have hcA : wr.cell? ⟨g1, q1, none⟩ = some (.int .i64 (row.getD q1 0)) := by
                rw [hro.cellAt q1 (by omega), List.getElem?_map, List.getElem?_eq_getElem (by omega)]; simp [List.getD, List.getElem?_eq_getElem (show q1 < row.length by omega)]
              have hcB : wr.cell? ⟨g1, q, none⟩ = some (.int .i64 (row.getD q 0)) := by
                rw [hro.cellAt q (by omega), List.getElem?_map, List.getElem?_eq_getElem (by omega)]; simp [List.getD, List.getElem?_eq_getElem (show q < row.length by omega)]
              have hwA : InK .i64 (row.getD q1 0) := by
                simp only [List.getD, List.getElem?_eq_getElem (show q1 < row.length by omega), Option.getD_some]
                exact R.out.2.2.1.row.wf _ (List.getElem_mem _)
              have hwB : InK .i64 (row.getD q 0) := by
                simp only [List.getD, List.getElem?_eq_getElem (show q < row.length by omega), Option.getD_some]
                exact R.out.2.2.1.row.wf _ (List.getElem_mem _)
              have hst : regStep z (ms, row) = (opPut ms (z, row.getD q 0, row.getD q1 0), row.take q ++ [3000 + (opAt ms (z, row.getD q 0, row.getD q1 0) : Int)]) := by
                unfold regStep; rw [if_neg hn9, if_neg hn1, if_neg hn2, if_neg hn3]; simp [hq, hq1]
              have hql : (row.take q).length = q := by rw [List.length_take]; omega
              have hz1q : w1.heap.size + 1 ≤ wr.heap.size := hsz
              have hwr : IntKind.i64.wrap (q : Int) = (q : Int) := IntWalk.i64_in _ (by omega)
              have hws : IntKind.i64.wrap (q1 : Int) = (q1 : Int) := IntWalk.i64_in _ (by omega)
              have hq00 : (0 : Int) ≤ (q : Int) := by omega
              have hq01 : (0 : Int) ≤ (q1 : Int) := by omega
              have hq02 : (q : Int) ≤ row.length := by omega
              generalize row.getD q1 0 = x1 at *
              generalize row.getD q 0 = x0 at *
              obtain ⟨tt, htt⟩ : ∃ tt, opAt ms (z, x0, x1) = tt := ⟨_, rfl⟩
              rw [htt] at hst
              have htl : tt ≤ ms.length := by rw [← htt]; exact opAt_le _ _
              have HTT := Lib.hid htt; clear htt
              have HT3 : Hid (InK .i64 (3000 + (tt : Int))) := Lib.hid (wf_near _ (by omega))
              have htw : IntKind.i64.wrap (3000 + (tt : Int)) = 3000 + (tt : Int) := IntWalk.i64_in _ (by omega)
              have HST := Lib.hid (And.intro hst (And.intro hql (And.intro hwA hwB))); clear hst hql hro hq hq1 hcp hwA hwB
              generalize hrw : row.take q = rowq at *
              have HRW := Lib.hid hrw; clear hrw
              go_wp2
              go_region_held3 (fun w' => w'.cell? ⟨bb, off + j, none⟩ = some (.int .i64 z) ∧ w'.cell? ⟨g1, q1, none⟩ = some (.int .i64 x1) ∧ w'.cell? ⟨g1, q, none⟩ = some (.int .i64 x0)) (repeat' (first | exact hcell | exact hcA | exact hcB | apply And.intro | rw [World.cell?_drew] | rw [World.cell?_alloc_lt _ _ _ (by first | omega | (simp; omega))])) (fail)
              have hbA : Below wr.heap.size wr (wr.alloc (.cells #[.int .i64 z, .int .i64 x0, .int .i64 x1] 33)).drew := ((Below.refl _ _).alloc (Nat.le_refl _) _).drew
              have hopA : Blk (wr.alloc (.cells #[.int .i64 z, .int .i64 x0, .int .i64 x1] 33)).drew wr.heap.size #[.int .i64 z, .int .i64 x0, .int .i64 x1] 33 := Blk.new _ _ _
              have hzA : wr.heap.size + 1 ≤ (wr.alloc (.cells #[.int .i64 z, .int .i64 x0, .int .i64 x1] 33)).drew.heap.size := by show _ ≤ (wr.alloc _).heap.size; simp
              obtain ⟨W0, hW0⟩ : ∃ W, W = wr := ⟨_, rfl⟩
              subst hW0
              generalize (W0.alloc (.cells #[.int .i64 z, .int .i64 x0, .int .i64 x1] 33)).drew = wa at *
              obtain ⟨Al, cl, rfl, hl3⟩ := R.out.2.2.1.three.rd
              have A1 := Lib.hid (And.intro hbA (And.intro hopA hl3)); clear hbA hopA hl3
              go_wp2
              go_loopw [12] (fun i w2 => ∃ a : Nat, a ≤ tt ∧ i = .int .i64 a ∧ Below wa.heap.size wa w2) (fun i _ => tt - (intOf i).toNat)
              case atStart => exact ⟨0, Nat.zero_le _, by first | rfl | simp, Below.refl _ _⟩
              case round =>
                obtain ⟨a, ha, rfl, hbl⟩ := hrel
                have hzr : wa.heap.size ≤ wr.heap.size := hbl.size
                have hbw : Below W0.heap.size W0 wr := A1.out.1.trans (hbl.mono (by omega))
                obtain ⟨d0, d1, d2, _, _, _⟩ := blkThree (A1.out.2.1.below hbl (by omega))
                have p1 := (hbw.cell (p := ⟨w1.heap.size, 1, none⟩) (by show w1.heap.size < W0.heap.size; omega)).trans o1
                have V := Lib.hid (And.intro hbl hbw); clear hbl hbw
                by_cases hlt2 : a < ms.length
                · have hltJ : (a : Int) < ms.length := by omega
                  have hdt : decide ((a : Int) < (ms.length : Int)) = true := by rw [decide_eq_true_eq]; exact hltJ
                  obtain ⟨b3, of3, rfl, hb3, hc3⟩ := A1.out.2.2.at_ (by omega)
                  obtain ⟨m9, hm9⟩ : ∃ m9, ms[a]? = some m9 := ⟨ms[a], List.getElem?_eq_getElem hlt2⟩
                  obtain ⟨t0, t1, t2⟩ := hc3 a m9 hm9
                  have e0 := (V.out.2.cell (p := ⟨b3, of3 + a * 3, none⟩) hb3).trans t0
                  have e1 := (V.out.2.cell (p := ⟨b3, of3 + a * 3 + 1, none⟩) hb3).trans t1
                  have e2 := (V.out.2.cell (p := ⟨b3, of3 + a * 3 + 2, none⟩) hb3).trans t2
                  clear t0 t1 t2 hc3
                  by_cases hat : a < tt
                  · have hne := opAt_before (by rw [HTT.out]; exact hat) hm9
                    obtain ⟨y0, y1, y2⟩ := m9
                    dsimp only at e0 e1 e2
                    have hcs : ¬ y0 = z ∨ (y0 = z ∧ ¬ y1 = x0) ∨ (y0 = z ∧ y1 = x0 ∧ ¬ y2 = x1) := by
                      by_cases h0 : y0 = z
                      · by_cases h1 : y1 = x0
                        · refine .inr (.inr ⟨h0, h1, fun h2 => hne ?_⟩); rw [h0, h1, h2]
                        · exact .inr (.inl ⟨h0, h1⟩)
                      · exact .inl h0
                    clear hne hm9
                    rcases hcs with h0 | ⟨rfl, h1⟩ | ⟨rfl, rfl, h2⟩
                    all_goals
                      go_wp2
                      go_quiet (fail)
                      go_wp2
                      go_roundw
                      case rel => exact ⟨a + 1, by omega, by go_num, below_drewN V.out.1 _⟩
                      case measure => simp [intOf]; omega
                  · obtain rfl : a = tt := by omega
                    have hmm := opAt_found HTT.out hlt2
                    rw [hm9] at hmm
                    cases hmm
                    dsimp only at e0 e1 e2
                    clear hm9
                    have HP : Hid (opPut ms (z, x0, x1) = ms) := Lib.hid (by unfold opPut; rw [if_neg (by rw [HTT.out]; omega)])
                    have hneI : ¬ (a : Int) = (ms.length : Int) := by omega
                    go_wp2
                    go_quiet (fail)
                    have hbQ := below_drewN V.out.1 nq
                    generalize wr.drewN nq = w8 at *
                    have hz8 := hbQ.size
                    have hbQ2 : Below W0.heap.size W0 w8 := A1.out.1.trans (hbQ.mono (by omega))
                    have XW := Lib.hid (And.intro (R.out.1.trans (hbQ2.mono (by omega))) (And.intro (R.out.2.1.below hbQ2 (by omega)) (R.out.2.2.1.step hbQ2)))
                    have p8 := (hbQ2.cell (p := ⟨w1.heap.size, 1, none⟩) (by show w1.heap.size < W0.heap.size; omega)).trans o1
                    clear hbQ hbQ2 e0 e1 e2 d0 d1 d2 p1
                    have hroW := XW.out.2.2.row.own
                    have htkW := ownsRow_take hroW q (by omega)
                    rw [← List.map_take, HRW.out] at htkW
                    have HRT : Hid (RdI w8 (.slice (some ⟨g1, 0, none⟩) q cr) rowq) := Lib.hid (by
                      have h := (OwnI.mk (lo := w1.heap.size + 1) (hi := w8.heap.size) (v := .slice (some ⟨g1, 0, none⟩) q cr) (zs := rowq) ⟨by rw [HST.out.2.1]; exact htkW, fun y hy => R.out.2.2.1.row.wf y (List.mem_of_mem_take (by rw [HRW.out]; exact hy))⟩ (fun k hk => by have h2 := (XW.out.2.2.row.ge g1 rfl).2; simp [Value.ownBlock] at hk; omega)).rd
                      exact h)
                    clear hroW htkW
                    have L0 := Lib.hid (nilLit w8)
                    have HR2 := Lib.hid (HRT.out.step L0.out.2)
                    go_wp2_with (at_builtin; refine wpList_append_V rfl _ _ _ rfl Tryz.underlying23 intInfo w8.heap.size (w8.alloc (.cells #[] 3)).heap.size _ [] rfl L0.out.1 (by simp) (.slice (some ⟨g1, 0, none⟩) q cr) rowq rfl HR2.out (by rw [HST.out.2.1]; simp; omega) ?_)
                    intro v4 w4 ho4 hb4
                    have hz4 : w8.heap.size ≤ w4.heap.size := by have := (L0.out.2.trans hb4).size; exact this
                    have Y4 := Lib.hid (And.intro (show OwnI w4 w8.heap.size w4.heap.size v4 rowq by simpa using ho4) (L0.out.2.trans hb4)); clear ho4 hb4
                    go_wp2_with (at_builtin; refine wpList_append_z rfl _ _ _ rfl Tryz.underlying23 intInfo (3000 + (a : Int)) rfl HT3.out w8.heap.size w4.heap.size _ rowq rfl Y4.out.1 hz4 rfl (by rw [HST.out.2.1]; omega) ?_)
                    intro v5 w5 ho5 hb5 _
                    have Z5 := Lib.hid (And.intro ho5 (Y4.out.2.trans hb5)); clear ho5 hb5
                    all_goals (
                      have hz5 : w1.heap.size + 1 ≤ w5.heap.size := by have := Z5.out.2.size; omega
                      have hrow : (rowq ++ [3000 + (a : Int)]).length ≤ 120 + 2 * (j + 1) := by rw [List.length_append, HST.out.2.1]; simp; omega
                      have Z := Lib.hid (And.intro (XW.out.1.trans (Z5.out.2.mono (by omega))) (And.intro (XW.out.2.1.below Z5.out.2 (by omega)) (RgS.mk (XW.out.2.2.step Z5.out.2).blk (XW.out.2.2.step Z5.out.2).lst (Z5.out.1.own.mono (show w1.heap.size + 1 ≤ w8.heap.size by omega))))); clear Z5
                      go_wp2
                      go_roundw
                      case rel => exact ⟨j + 1, (stepC z (n, m)).1, (stepC z (n, m)).2, (.slice (some ⟨b3, of3, none⟩) ms.length cl), ms, rowq ++ [3000 + (a : Int)], by omega, by go_num, hz5, Z.out.1, Z.out.2.1, Z.out.2.2, by have h := G.out.2.2.2.1; rw [HST.out.1] at h; exact h, hrow, by first | omega | (simp; omega), G.out.1, G.out.2.1, by rw [← G.out.2.2.1, HST.out.1, HP.out]⟩
                      case measure => simp [intOf]; omega)
                · obtain rfl : a = tt := by omega
                  obtain rfl : a = ms.length := by omega
                  have HP : Hid (opPut ms (z, x0, x1) = ms ++ [(z, x0, x1)]) := Lib.hid (by unfold opPut; rw [if_pos HTT.out])
                  have hdf : decide ((ms.length : Int) < (ms.length : Int)) = false := by rw [decide_eq_false_iff_not]; omega
                  go_wp2
                  go_quiet (fail)
                  have hbQ := below_drewN V.out.1 nq
                  have hop9 := A1.out.2.1.below hbQ (by omega)
                  generalize wr.drewN nq = w8 at *
                  have hz8 := hbQ.size
                  have hbQ2 : Below W0.heap.size W0 w8 := A1.out.1.trans (hbQ.mono (by omega))
                  have XW8 := Lib.hid (And.intro (R.out.1.trans (hbQ2.mono (by omega))) (And.intro (R.out.2.1.below hbQ2 (by omega)) (R.out.2.2.1.step hbQ2)))
                  obtain ⟨_, p8, _, _, q8, _⟩ := blkThree XW8.out.2.2.blk
                  obtain ⟨d0, d1, d2, _, _, _⟩ := blkThree hop9
                  clear hbQ hbQ2 p1
                  have HLB := Lib.hid (show Below w8.heap.size w8 (w8.alloc (.cells #[.int .i64 z, .int .i64 x0, .int .i64 x1] 33)) from (Below.refl _ _).alloc (Nat.le_refl _) _)
                  have HLC := Lib.hid (blkThree (Blk.new w8 #[.int .i64 z, .int .i64 x0, .int .i64 x1] 33))
                  go_wp2_with (at_builtin; refine wpList_append_op rfl _ _ _ rfl 33 Tryz.underlying25 opInfoR (w1.heap.size + 1) w8.heap.size _ ms rfl (XW8.out.2.2.three.below HLB.out) (by simp; omega) w8.heap.size z x0 x1 rfl HLC.out.1 HLC.out.2.1 HLC.out.2.2.1 (by omega) ?_)
                  intro v9 w9 hown9 _ hg9 _
                  obtain ⟨A9, c9, e9, _⟩ := hown9.rd
                  obtain ⟨n9, hn9⟩ : ∃ n, (ms ++ [(z, x0, x1)]).length = n := ⟨_, rfl⟩
                  rw [hn9] at e9
                  subst e9
                  clear hn9
                  have hg8 : w8.grownBy w9 (Value.slice Al ms.length cl).ownBlock := World.grownBy.trans (only_of_below HLB.out _) hg9
                  have L9 := Lib.hid (XW8.out.2.2.listed rfl hg8 hown9)
                  obtain ⟨_, q9, _, _, f9, _⟩ := blkThree (show Blk w9 w1.heap.size _ _ from (hg8.block w1.heap.size (by omega) fun e => ownsRow_blk_ne XW8.out.2.2.lst XW8.out.2.2.blk (by decide) e.symm).trans XW8.out.2.2.blk)
                  clear hown9 hg9 hg8 HLB HLC
                  have hszW : (w9.setCell ⟨w1.heap.size, 1, none⟩ (.slice A9 n9 c9)).heap.size = w9.heap.size := by simp [World.setCell]
                  have hz9 : w8.heap.size ≤ w9.heap.size := by have h := L9.out.2.size; rw [hszW] at h; exact h
                  have XW := Lib.hid (And.intro (XW8.out.1.trans (L9.out.2.mono (by omega))) (And.intro (XW8.out.2.1.below L9.out.2 (by omega)) L9.out.1)); clear L9
                  have hroW := XW.out.2.2.row.own
                  have htkW := ownsRow_take hroW q (by omega)
                  rw [← List.map_take, HRW.out] at htkW
                  have HRT : Hid (RdI (w9.setCell ⟨w1.heap.size, 1, none⟩ (.slice A9 n9 c9)) (.slice (some ⟨g1, 0, none⟩) q cr) rowq) := Lib.hid (by
                    have h := (OwnI.mk (lo := w1.heap.size + 1) (hi := (w9.setCell ⟨w1.heap.size, 1, none⟩ (.slice A9 n9 c9)).heap.size) (v := .slice (some ⟨g1, 0, none⟩) q cr) (zs := rowq) ⟨by rw [HST.out.2.1]; exact htkW, fun y hy => R.out.2.2.1.row.wf y (List.mem_of_mem_take (by rw [HRW.out]; exact hy))⟩ (fun k hk => by have h2 := (XW.out.2.2.row.ge g1 rfl).2; simp [Value.ownBlock] at hk; omega)).rd
                    exact h)
                  clear hroW htkW
                  have l0 := nilLit (w9.setCell ⟨w1.heap.size, 1, none⟩ (.slice A9 n9 c9))
                  have HR2 := Lib.hid (HRT.out.step l0.2)
                  have hl : w9.heap.size ≤ ((w9.setCell ⟨w1.heap.size, 1, none⟩ (.slice A9 n9 c9)).alloc (.cells #[] 3)).heap.size := by rw [World.size_alloc, hszW]; omega
                  rw [hszW] at l0
                  have L0 := Lib.hid (And.intro l0 hl); clear l0 hl
                  have HSZ := Lib.hid hszW; clear hszW
                  go_wp2_with (at_builtin; refine wpList_append_V rfl _ _ _ rfl Tryz.underlying23 intInfo w9.heap.size ((w9.setCell ⟨w1.heap.size, 1, none⟩ (.slice A9 n9 c9)).alloc (.cells #[] 3)).heap.size _ [] rfl L0.out.1.1 L0.out.2 (.slice (some ⟨g1, 0, none⟩) q cr) rowq rfl HR2.out (by rw [HST.out.2.1]; simp; omega) ?_)
                  intro v4 w4 ho4 hb4
                  have hz4 : w9.heap.size ≤ w4.heap.size := by have h := (L0.out.1.2.trans hb4).size; rw [HSZ.out] at h; exact h
                  have Y4 := Lib.hid (And.intro (show OwnI w4 w9.heap.size w4.heap.size v4 rowq by simpa using ho4) (L0.out.1.2.trans hb4)); clear ho4 hb4
                  go_wp2_with (at_builtin; refine wpList_append_z rfl _ _ _ rfl Tryz.underlying23 intInfo (3000 + (ms.length : Int)) rfl HT3.out w9.heap.size w4.heap.size _ rowq rfl Y4.out.1 hz4 rfl (by rw [HST.out.2.1]; omega) ?_)
                  intro v5 w5 ho5 hb5 _
                  have Z5 := Lib.hid (And.intro ho5 (Y4.out.2.trans hb5))
                  have hz5 : w1.heap.size + 1 ≤ w5.heap.size := by have := hb5.size; omega
                  clear ho5 hb5
                  have hrow : (rowq ++ [3000 + (ms.length : Int)]).length ≤ 120 + 2 * (j + 1) := by rw [List.length_append, HST.out.2.1]; simp; omega
                  have Z6 := Lib.hid (show Below (w9.setCell ⟨w1.heap.size, 1, none⟩ (.slice A9 n9 c9)).heap.size (w9.setCell ⟨w1.heap.size, 1, none⟩ (.slice A9 n9 c9)) w5 from by rw [HSZ.out]; exact Z5.out.2)
                  have Z := Lib.hid (And.intro (XW.out.1.trans (Z5.out.2.mono (by omega))) (And.intro (XW.out.2.1.below Z5.out.2 (by omega)) (RgS.mk (XW.out.2.2.step Z6.out).blk (XW.out.2.2.step Z6.out).lst (Z5.out.1.own.mono (show w1.heap.size + 1 ≤ w9.heap.size by omega))))); clear Z5 Z6
                  go_wp2
                  go_roundw
                  case rel => exact ⟨j + 1, (stepC z (n, m)).1, (stepC z (n, m)).2, (.slice A9 n9 c9), (ms ++ [(z, x0, x1)]), rowq ++ [3000 + (ms.length : Int)], by omega, by go_num, hz5, Z.out.1, Z.out.2.1, Z.out.2.2, by have h := G.out.2.2.2.1; rw [HST.out.1] at h; exact h, hrow, by first | omega | (simp; omega), G.out.1, G.out.2.1, by rw [← G.out.2.2.1, HST.out.1, HP.out]⟩
                  case measure => simp [intOf]; omega
          · obtain rfl : j = p.length := by omega
            have hjI : ¬ (p.length : Int) < p.length := by omega
            have hfin : ms = MS ∧ row = ROW := by
              have h := R.out.2.2.2.2.2
              rw [List.drop_length, regRun] at h
              rw [← HW.out.2.2.1, ← HW.out.2.2.2, ← h]; exact ⟨rfl, rfl⟩
            obtain ⟨rfl, rfl⟩ := hfin
            have hgw : w1.heap.size < wr.heap.size := by omega
            obtain ⟨Al, cl, rfl, _⟩ := R.out.2.2.1.three.rd
            have eR := R.out.2.1
            have eO := R.out.2.2.1.blk.set 2 (.slice Ar row.length cr)
            have eR1 := eR.other (g' := w1.heap.size) (by omega) 2 (.slice Ar row.length cr)
            obtain ⟨g0, g1, g2, _, _, _⟩ := blkThree eO
            obtain ⟨k0, k1, k2, l0, l1, l2⟩ := blkThree eR1
            have eF := (((eR1.set 0 (.int .i64 k)).set 1 (.slice Al ms.length cl)).set 2 (.slice Ar row.length cr))
            obtain ⟨m0, m1, m2, _, _, _⟩ := blkThree eF
            have FIN := Lib.hid (show RgPost w (k : Int) ms row true (.returned (.tuple #[.agg #[.int .i64 k, (.slice Al ms.length cl), .slice Ar row.length cr], .bool true])) ((((wr.setCell ⟨w1.heap.size, 2, none⟩ (.slice Ar row.length cr)).setCell ⟨w.heap.size, 0, none⟩ (.int .i64 k)).setCell ⟨w.heap.size, 1, none⟩ (.slice Al ms.length cl)).setCell ⟨w.heap.size, 2, none⟩ (.slice Ar row.length cr)) from by
              have l3 := ((((R.out.2.2.1.three.setO (g := w1.heap.size) (o := 2) (u := .slice Ar row.length cr) (by omega)).setO (g := w.heap.size) (o := 0) (u := .int .i64 k) (by omega)).setO (g := w.heap.size) (o := 1) (u := .slice Al ms.length cl) (by omega)).setO (g := w.heap.size) (o := 2) (u := .slice Ar row.length cr) (by omega)).mono (show w.heap.size ≤ w1.heap.size + 1 by omega) (Nat.le_refl _)
              have r3 := ((((R.out.2.2.1.row.setO (g := w1.heap.size) (o := 2) (u := .slice Ar row.length cr) (by omega)).setO (g := w.heap.size) (o := 0) (u := .int .i64 k) (by omega)).setO (g := w.heap.size) (o := 1) (u := .slice Al ms.length cl) (by omega)).setO (g := w.heap.size) (o := 2) (u := .slice Ar row.length cr) (by omega)).mono (show w.heap.size ≤ w1.heap.size + 1 by omega)
              refine ⟨_, _, rfl, l3.own, r3, fun g hg e => ?_, (((R.out.1.setCell (p := ⟨w1.heap.size, 2, none⟩) (by show w.heap.size ≤ w1.heap.size; omega) _).setCell (p := ⟨w.heap.size, 0, none⟩) (Nat.le_refl _) _).setCell (p := ⟨w.heap.size, 1, none⟩) (Nat.le_refl _) _).setCell (p := ⟨w.heap.size, 2, none⟩) (Nat.le_refl _) _⟩
              rcases ownsRow_ne8 R.out.2.2.1.lst R.out.2.2.1.row.own (by decide) with h1 | h1
              · rw [h1] at hg; cases hg
              · exact h1 (hg.trans e.symm))
            clear R eR eO eR1 eF
            go_wp2
            refine bodyPost_ret (v := .tuple #[.agg #[.int .i64 k, (.slice Al ms.length cl), .slice Ar row.length cr], .bool true]) (by simp [results, Tryz.results7, go_sem, m0, m1, m2]) rfl ?_
            exact FIN.out
end Go.Proofs.YtpdhdiidkjgjmaaGreat
