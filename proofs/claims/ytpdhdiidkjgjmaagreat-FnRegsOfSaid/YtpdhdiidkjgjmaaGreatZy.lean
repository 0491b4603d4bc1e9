/- Chapter 8: RegsOf of the program. -/
import Derived.Test.YtpdhdiidkjgjmaaGreatBg
import Derived.Test.YtpdhdiidkjgjmaaGreatRq
import Derived.Carry
namespace Go.Proofs.YtpdhdiidkjgjmaaGreat
set_option maxRecDepth 100000
open Go.RowKit Go.WideShapes Go.Maps Go.Deep

theorem regStep_lens (z : Int) (st : List (Int × Int × Int) × List Int) : (regStep z st).2.length ≤ st.2.length + 2 ∧ (regStep z st).1.length ≤ st.1.length + 1 := by
  unfold regStep
  split
  · first | (simp; done) | (simp; omega)
  · split
    · first | (simp; done) | (simp; omega)
    · split
      · first | (simp; done) | (simp; omega)
      · split
        · first | (simp; done) | (simp; omega)
        · exact ⟨by first | (simp; done) | (simp; omega), opPut_len _ _⟩
set_option maxHeartbeats 4000000 in
theorem newReckoner_any (T : Nat) (w : World) (hT : T ≤ 1000) :
    Calls Tryz.prog 22 #[.int .i64 T] w fun e w' => ∃ g mb v u, e = .returned (.pointer (some ⟨g, 0, none⟩)) ∧ Rk w' w.heap.size g mb v u (startR T) [] ∧ Below w.heap.size w w' := by
  have hb1 : Below w.heap.size w (w.alloc (.map #[] 0)) := (Below.refl _ _).alloc (Nat.le_refl _) _
  have hb2 : Below (w.heap.size + 1) (w.alloc (.map #[] 0)) ((w.alloc (.map #[] 0)).alloc (.cells #[.slice none 0 0, .slice none 0 0, .map (some w.heap.size)] 58)) := (Below.refl _ _).alloc (by simp) _
  have hB : Blk ((w.alloc (.map #[] 0)).alloc (.cells #[.slice none 0 0, .slice none 0 0, .map (some w.heap.size)] 58)) (w.heap.size + 1) #[.slice none 0 0, .slice none 0 0, .map (some w.heap.size)] 58 := Blk.new2 _ _ _ _ (by simp)
  have K0 : Rk ((w.alloc (.map #[] 0)).alloc (.cells #[.slice none 0 0, .slice none 0 0, .map (some w.heap.size)] 58)) w.heap.size (w.heap.size + 1) w.heap.size (.slice none 0 0) (.slice none 0 0) [] [] :=
    ⟨hB, by omega, Nat.le_refl _, Own.nil _ _, World.ownsRow_nil _ _ _ _, by rw [fO_nil]; exact (MapOp.made w).below (hb2.mono (by simp))⟩
  have X := Lib.hid (And.intro K0 (hb1.trans (hb2.mono (by omega)))); clear hb1 hb2 hB K0
  have hTI : (T : Int) ≤ 1000 := by omega
  have hmm := @run_makeMap Tryz.prog
  go_enter Tryz.func22, Tryz.ntmps22
  go_wp2
  clear hmm
  go_loopw [4, 9] (fun pv kv wr => ∃ (k : Nat) (v u : Value), kv = .int .i64 k ∧ k ≤ T ∧ Rk wr w.heap.size (w.heap.size + 1) w.heap.size v u (startR k) [] ∧ Below w.heap.size w wr) (fun _ kv _ => T - (intOf kv).toNat)
  case atStart => exact ⟨0, _, _, by first | rfl | simp, Nat.zero_le _, by simpa [startR] using X.out.1, X.out.2⟩
  case round =>
    clear X
    obtain ⟨k, v, u, rfl, hk, h1, h2⟩ := hrel
    have hgl := h1.blk.lt
    have R := Lib.hid (And.intro h1 h2); clear h1 h2
    by_cases hlt : k < T
    · have hltI : (k : Int) < (T : Int) := by omega
      have HS := Lib.hid (startR_succ k)
      go_wp2_with fail
      refine (pushK w.heap.size (w.heap.size + 1) w.heap.size v u (startR k) [] (2000 + (k : Int)) _ R.out.1 (wf_near _ (by omega)) (by rw [startR_len]; omega)).mono ?_
      rintro e w1 ⟨rfl, ⟨v1, u1, h1⟩, hb⟩
      have R1 := Lib.hid (And.intro h1 (R.out.2.trans hb)); clear h1 hb R
      go_wp2
      go_roundw
      case rel => exact ⟨k + 1, v1, u1, by go_num, by omega, by rw [HS.out]; exact R1.out.1, R1.out.2⟩
      case measure => simp [intOf]; omega
    · obtain rfl : k = T := by omega
      go_wp2
      go_ret
      exact ⟨_, _, _, _, rfl, R.out.1, R.out.2⟩
theorem RgPost.drewn {w : World} {T : Int} {ms : List (Int × Int × Int)} {row : List Int} {ok : Bool} {e : Ending} {w' : World} (h : RgPost w T ms row ok e w') : RgPost w T ms row ok e w'.drew := by
  obtain ⟨u0, u1, rfl, a, b, c, d⟩ := h
  exact ⟨u0, u1, rfl, a, ⟨b.own, b.wf⟩, c, d.drew⟩
set_option maxHeartbeats 8000000 in
theorem RegsOf_I (v0 : Value) (p : List Int) (w : World) (h0 : RdI w v0 p) (hl0 : p.length ≤ 1048576) (T : Int) (MS : List (Int × Int × Int)) (ROW : List Int) (ok : Bool) (hR : regsOfR p = (T, MS, ROW, ok)) :
    Calls Tryz.prog 6 #[v0] w (RgPost w T MS ROW ok) := by
  have hb0 : Below w.heap.size w (w.alloc (.cells #[.int .i64 0, .slice none 0 0, .slice none 0 0] 27)) := (Below.refl _ _).alloc (Nat.le_refl _) _
  have bR := Blk.new w #[.int .i64 0, .slice none 0 0, .slice none 0 0] 27
  have H := Lib.hid (And.intro (h0.step hb0) (And.intro hb0 bR))
  have HAt := Lib.hid h0.at_
  obtain ⟨A, c, rfl, _⟩ := h0
  clear hb0 bR
  have HR := Lib.hid hR; clear hR
  rcases hc : countR p with ⟨x, y⟩
  have HC := Lib.hid hc
  by_cases hx : x < 0
  · have hneg : (countR p).1 < 0 := by rw [hc]; exact hx
    obtain ⟨rfl, rfl⟩ : -1 = x ∧ -1 = y := by have := countR_neg hneg; rw [hc] at this; cases this; exact ⟨rfl, rfl⟩
    obtain ⟨rfl, rfl, rfl, rfl⟩ : 0 = T ∧ [] = MS ∧ [] = ROW ∧ false = ok := by have := HR.out; rw [regsOfR_no hneg] at this; cases this; exact ⟨rfl, rfl, rfl, rfl⟩
    clear hc hneg
    go_enter Tryz.func6, Tryz.ntmps6
    go_wp2_with fail
    refine (CountOf_I _ p _ H.out.1 hl0 (-1) (-1) HC.out).mono ?_
    rintro e w1 ⟨rfl, hb⟩
    have hz1 : w.heap.size + 1 ≤ w1.heap.size := by have := hb.size; simpa using this
    have b1 := H.out.2.2.below hb (by simp)
    obtain ⟨c0, c1, c2, f0, f1, f2⟩ := blkThree b1
    have e0 := (((b1.set 0 (.int .i64 0)).set 1 (.slice none 0 0)).set 2 (.slice none 0 0))
    obtain ⟨k0, k1, k2, _, _, _⟩ := blkThree e0
    have X := Lib.hid (show Below w.heap.size w (((w1.setCell ⟨w.heap.size, 0, none⟩ (.int .i64 0)).setCell ⟨w.heap.size, 1, none⟩ (.slice none 0 0)).setCell ⟨w.heap.size, 2, none⟩ (.slice none 0 0)) from (((H.out.2.1.trans (hb.mono (by simp))).setCell (Nat.le_refl _) _).setCell (p := ⟨w.heap.size, 1, none⟩) (Nat.le_refl _) _).setCell (p := ⟨w.heap.size, 2, none⟩) (Nat.le_refl _) _); clear hb b1 e0
    go_wp2
    refine bodyPost_ret (v := .tuple #[.agg #[.int .i64 0, .slice none 0 0, .slice none 0 0], .bool false]) (by simp [results, Tryz.results6, go_sem, k0, k1, k2]) rfl ?_
    exact ⟨_, _, rfl, World.ownsRow_nil _ _ _ _, Own.nil _ _, fun g hg => by simp [Value.ownBlock] at hg, X.out⟩
  · have hpos : ¬ (countR p).1 < 0 := by rw [hc]; exact hx
    obtain ⟨hv, hst, hT⟩ := countR_pos hpos
    rw [hc] at hT
    dsimp only at hT
    obtain ⟨n0, hn0⟩ : ∃ n, (countL (0, 0) p).1 = n := ⟨_, rfl⟩
    rw [hn0] at hT
    obtain ⟨rfl, hM2, hW2, rfl⟩ : (n0 : Int) = T ∧ (regRun ([], startR n0) p).1 = MS ∧ (regRun ([], startR n0) p).2 = ROW ∧ true = ok := by
      have := HR.out
      unfold regsOfR at this
      rw [if_neg hpos, hc] at this
      dsimp only at this
      rw [hT, Int.toNat_natCast] at this
      cases this; exact ⟨rfl, rfl, rfl, rfl⟩
    have hl60 := validB_len hv
    have hn120 : n0 ≤ 120 := by have := countL_le p (0, 0); rw [hn0] at this; simp only [] at this; omega
    have HW := Lib.hid (And.intro hst (And.intro hn0 (And.intro hM2 hW2))); clear hst hn0 hM2 hW2 hc hpos hv HR
    subst hT
    go_enter Tryz.func6, Tryz.ntmps6
    go_wp2_with fail
    refine (CountOf_I _ p _ H.out.1 hl0 (n0 : Int) y HC.out).mono ?_
    rintro e w1 ⟨rfl, hb⟩
    have hz1 : w.heap.size + 1 ≤ w1.heap.size := by have := hb.size; simpa using this
    have hxI : ¬ (n0 : Int) < 0 := by omega
    have X := Lib.hid (And.intro (H.out.2.1.trans (hb.mono (by simp))) (H.out.2.2.below hb (by simp))); clear hb H
    go_wp2_with fail
    refine (newReckoner_any n0 _ (by omega)).mono ?_
    rintro e w2 ⟨g, mb, v, u, rfl, hk, hb⟩
    have hz2 : w1.heap.size ≤ w2.heap.size := hb.size
    have Y := Lib.hid (And.intro hk (And.intro (X.out.1.trans (hb.mono (by omega))) (X.out.2.below hb (by omega)))); clear hk hb X
    go_wp2
    go_loopw [8, 21] (fun _ kv wr => ∃ (j n m : Nat) (v u : Value) (ms : List (Int × Int × Int)) (row : List Int), j ≤ p.length ∧ kv = .int .i64 j ∧ w1.heap.size ≤ wr.heap.size ∧ Below w.heap.size w wr ∧ Blk wr w.heap.size #[.int .i64 0, .slice none 0 0, .slice none 0 0] 27 ∧ Rk wr w1.heap.size g mb v u row ms ∧ row.length + n = m + n0 ∧ row.length ≤ 120 + 2 * j ∧ ms.length ≤ j ∧ (p.drop j).all straightB = true ∧ (countL (n, m) (p.drop j)).1 = n0 ∧ regRun (ms, row) (p.drop j) = regRun ([], startR n0) p) (fun _ kv _ => p.length - (intOf kv).toNat)
    case atStart => exact ⟨0, 0, 0, v, u, [], startR n0, Nat.zero_le _, by first | rfl | simp, hz2, Y.out.2.1, Y.out.2.2, Y.out.1, by rw [startR_len]; omega, by rw [startR_len]; omega, by simp, by simpa using HW.out.1, by simpa using HW.out.2.1, by simp⟩
    case round =>
      clear Y
      obtain ⟨j, n, m, v, u, ms, row, hj, rfl, hsz, r1, r2, r3, q1, q2, q3, q4, q5, q6⟩ := hrel
      have R := Lib.hid (And.intro r1 (And.intro r2 (And.intro r3 (And.intro q4 (And.intro q5 q6))))); clear r1 r2 r3 q4 q5 q6
      by_cases hlt : j < p.length
      · have hjI : (j : Int) < p.length := by omega
        obtain ⟨_, _, ei, hi, _⟩ := HAt.out
        cases ei
        obtain ⟨bb, off, rfl, hbb, hcc⟩ := hi.at_ (by omega)
        have hcell := (R.out.1.cell (p := ⟨bb, off + j, none⟩) hbb).trans (hcc j hlt)
        have g4 := R.out.2.2.2.1
        have g5 := R.out.2.2.2.2.1
        have g6 := R.out.2.2.2.2.2
        rw [all_drop hlt, Bool.and_eq_true] at g4
        rw [countL_drop hlt] at g5
        rw [regRun_drop hlt] at g6
        clear hcc hi
        generalize p.getD j 0 = z at *
        obtain ⟨gs, g4⟩ := g4
        have htk := row_takes (st := (ms, row)) g5 (by simpa using q1)
        have hnx := row_next (st := (ms, row)) gs g5 (by simpa using q1)
        have hln := regStep_lens z (ms, row)
        have G := Lib.hid (And.intro g4 (And.intro g5 (And.intro g6 (And.intro hnx (And.intro htk gs))))); clear g4 g5 g6 hnx gs htk
        go_wp2_with fail
        refine (doK w1.heap.size g mb v u row ms z _ R.out.2.2.1 G.out.2.2.2.2.2 G.out.2.2.2.2.1 (by omega) (by omega)).mono ?_
        rintro e w3 ⟨rfl, ⟨v3, u3, h3⟩, hb⟩
        have hz3 := hb.size
        have Z := Lib.hid (And.intro (R.out.1.trans (hb.mono (by omega))) (And.intro (R.out.2.1.below hb (by omega)) h3)); clear h3 hb
        go_wp2
        go_roundw
        case rel => exact ⟨j + 1, (stepC z (n, m)).1, (stepC z (n, m)).2, v3, u3, (regStep z (ms, row)).1, (regStep z (ms, row)).2, by omega, by go_num, by omega, Z.out.1, Z.out.2.1, Z.out.2.2, G.out.2.2.2.1, by have := hln.1; omega, by have := hln.2; omega, G.out.1, G.out.2.1, by rw [← G.out.2.2.1]⟩
        case measure => simp [intOf]; omega
      · obtain rfl : j = p.length := by omega
        have hjI : ¬ (p.length : Int) < p.length := by omega
        have hfin : ms = MS ∧ row = ROW := by
          have h := R.out.2.2.2.2.2
          rw [List.drop_length, regRun] at h
          rw [← HW.out.2.2.1, ← HW.out.2.2.2, ← h]; exact ⟨rfl, rfl⟩
        obtain ⟨rfl, rfl⟩ := hfin
        obtain ⟨Al, cl, rfl, _⟩ := (Own3.mk (T := 33) (hi := wr.heap.size) R.out.2.2.1.lst (fun k hk => (R.out.2.2.1.lst.lt k hk).2)).rd
        obtain ⟨Ar, cr, rfl, _⟩ := R.out.2.2.1.row.ints
        obtain ⟨s0, s1, _, _, _, _⟩ := blkThree R.out.2.2.1.blk
        obtain ⟨k0, k1, k2, l0, l1, l2⟩ := blkThree R.out.2.1
        have eF := (((R.out.2.1.set 0 (.int .i64 n0)).set 1 (.slice Al ms.length cl)).set 2 (.slice Ar row.length cr))
        obtain ⟨m0, m1, m2, _, _, _⟩ := blkThree eF
        have FIN := Lib.hid (show RgPost w (n0 : Int) ms row true (.returned (.tuple #[.agg #[.int .i64 n0, .slice Al ms.length cl, .slice Ar row.length cr], .bool true])) (((wr.setCell ⟨w.heap.size, 0, none⟩ (.int .i64 n0)).setCell ⟨w.heap.size, 1, none⟩ (.slice Al ms.length cl)).setCell ⟨w.heap.size, 2, none⟩ (.slice Ar row.length cr)) from by
          have l3 := ((((Own3.mk (T := 33) (hi := wr.heap.size) R.out.2.2.1.lst (fun k hk => (R.out.2.2.1.lst.lt k hk).2)).setO (g := w.heap.size) (o := 0) (u := .int .i64 n0) (by omega)).setO (g := w.heap.size) (o := 1) (u := .slice Al ms.length cl) (by omega)).setO (g := w.heap.size) (o := 2) (u := .slice Ar row.length cr) (by omega)).mono (show w.heap.size ≤ w1.heap.size by omega) (Nat.le_refl _)
          have r3 := (((R.out.2.2.1.row.setO (g := w.heap.size) (o := 0) (u := .int .i64 n0) (by omega)).setO (g := w.heap.size) (o := 1) (u := .slice Al ms.length cl) (by omega)).setO (g := w.heap.size) (o := 2) (u := .slice Ar row.length cr) (by omega)).mono (show w.heap.size ≤ w1.heap.size by omega)
          refine ⟨_, _, rfl, l3.own, r3, fun k hk e => ?_, ((R.out.1.setCell (p := ⟨w.heap.size, 0, none⟩) (Nat.le_refl _) _).setCell (p := ⟨w.heap.size, 1, none⟩) (Nat.le_refl _) _).setCell (p := ⟨w.heap.size, 2, none⟩) (Nat.le_refl _) _⟩
          rcases ownsRow_ne8 R.out.2.2.1.lst R.out.2.2.1.row.own (by decide) with h1 | h1
          · rw [h1] at hk; cases hk
          · exact h1 (hk.trans e.symm))
        clear R eF
        go_wp2
        go_region_law (first | fail)
        all_goals
          go_wp2
          refine bodyPost_ret (v := .tuple #[.agg #[.int .i64 n0, .slice Al ms.length cl, .slice Ar row.length cr], .bool true]) (by simp [results, Tryz.results6, go_sem, m0, m1, m2]) rfl ?_
          exact FIN.out.drewn
end Go.Proofs.YtpdhdiidkjgjmaaGreat
