/- RegsRun of the model, at registers by value. -/
import Derived.Test.YtaehaalaeikloaaOh
import Derived.Test.YtaehaalaeikloaaOf
namespace Go.Proofs.Ytaehaalaeikloaa
set_option maxRecDepth 100000
open Go.RowKit Go.WideShapes Go.Deep

theorem lit8 {w w1 : World} (h : Below w.heap.size w w1) : OwnI (w1.alloc (.cells #[] 3)) w.heap.size (w1.alloc (.cells #[] 3)).heap.size (.slice (some ⟨w1.heap.size, 0, none⟩) 0 0) [] ∧ Below w.heap.size w (w1.alloc (.cells #[] 3)) :=
  ⟨OwnI.mk ((nilLit w1).1.own.mono h.size) (nilLit w1).1.lt, h.trans ((nilLit w1).2.mono h.size)⟩
set_option maxHeartbeats 4000000 in
theorem RegsRun_S (t : Int) (A0 : Option Addr) (c0 : Nat) (ms : List (Int × Int × Int)) (A1 : Option Addr) (c1 : Nat) (os : List Int) (v2 : Value) (zs : List Int) (w : World) (h0 : Rd3 w (.slice A0 ms.length c0) ms) (hl0 : ms.length ≤ 1048576) (h1 : RdI w (.slice A1 os.length c1) os) (hl1 : os.length ≤ 1048576) (h2 : RdI w v2 zs) (hl2 : zs.length ≤ 1048576) (y0 : List Int) (y1 : Bool) (hR : regsRunR t ms os zs = (y0, y1)) :
    Calls Try.prog 37 #[.agg #[.int .i64 t, .slice A0 ms.length c0, .slice A1 os.length c1], v2] w (RunG w y0 y1) := by
  have hb : Below w.heap.size w (w.alloc (.cells #[.int .i64 t, .slice A0 ms.length c0, .slice A1 os.length c1] 43)) := (Below.refl _ _).alloc (Nat.le_refl _) _
  have hbk := Blk.new w #[.int .i64 t, .slice A0 ms.length c0, .slice A1 os.length c1] 43
  have H := Lib.hid (And.intro (h0.step hb) (And.intro (h1.step hb) (And.intro hb hbk)))
  have HAt := Lib.hid (And.intro h0 (And.intro h1.at_ h2.at_))
  obtain ⟨A2, c2, rfl, _⟩ := h2
  clear h0 h1 hb hbk
  have HR := Lib.hid hR; clear hR
  rcases hv : regsB t ms os with _ | _ <;> have Hv := Lib.hid hv <;> clear hv
  · obtain ⟨rfl, rfl⟩ : [] = y0 ∧ false = y1 := by have := HR.out; rw [regsRunR_no (by rw [Hv.out]; simp)] at this; cases this; exact ⟨rfl, rfl⟩
    go_enter Try.func37, Try.ntmps37
    go_wp2_with fail
    refine (RegsValid_S t _ _ ms _ _ os _ H.out.1 hl0 H.out.2.1 hl1 false Hv.out).mono ?_
    rintro e w1 ⟨rfl, hb1⟩
    have X := Lib.hid (lit8 (H.out.2.2.1.trans (hb1.mono (by simp)))); clear hb1
    go_wp2
    go_ret2
    exact ⟨_, rfl, X.out⟩
  obtain ⟨⟨ht0, ht20, hm60, ho20⟩, _⟩ := regsB_ok Hv.out
  by_cases hlen : (zs.length : Int) = t
  case neg =>
    obtain ⟨rfl, rfl⟩ : [] = y0 ∧ false = y1 := by have := HR.out; rw [regsRunR_no (fun h => hlen h.2.1)] at this; cases this; exact ⟨rfl, rfl⟩
    have hne : ((zs.length : Int) != t) = true := by simpa using hlen
    clear hlen
    go_enter Try.func37, Try.ntmps37
    go_wp2_with fail
    refine (RegsValid_S t _ _ ms _ _ os _ H.out.1 hl0 H.out.2.1 hl1 true Hv.out).mono ?_
    rintro e w1 ⟨rfl, hb1⟩
    obtain ⟨p0, _, _, _, _, _⟩ := blkThree (H.out.2.2.2.below hb1 (by simp))
    have X := Lib.hid (lit8 (H.out.2.2.1.trans (hb1.mono (by simp)))); clear hb1
    go_wp2
    go_ret2
    exact ⟨_, rfl, X.out⟩
  have hne : ((zs.length : Int) != t) = false := by simpa using hlen
  have HLN := Lib.hid hlen; clear hlen
  go_enter Try.func37, Try.ntmps37
  go_wp2_with fail
  refine (RegsValid_S t _ _ ms _ _ os _ H.out.1 hl0 H.out.2.1 hl1 true Hv.out).mono ?_
  rintro e w1 ⟨rfl, hb1⟩
  have hs1 : w.heap.size + 1 ≤ w1.heap.size := by have := hb1.size; simpa using this
  have hbk1 := H.out.2.2.2.below hb1 (by simp)
  obtain ⟨p0, p1, p2, _, _, _⟩ := blkThree hbk1
  have hb2 := H.out.2.2.1.trans (hb1.mono (by simp))
  have X := Lib.hid (And.intro hb2 hbk1); clear hb1 hb2 hbk1
  go_wp2
  go_loopw [6] (fun i wr => ∃ k : Nat, k ≤ zs.length ∧ i = .int .i64 k ∧ wr = w1 ∧ numsB (zs.take k) = true) (fun i _ => zs.length - (intOf i).toNat)
  case atStart => exact ⟨0, Nat.zero_le _, rfl, rfl, by simp [numsB]⟩
  case round =>
    obtain ⟨k, hk, rfl, rfl, hnk⟩ := hrel
    have HNK := Lib.hid hnk; clear hnk
    by_cases hlt : k < zs.length
    · have hltI : (k : Int) < zs.length := by omega
      obtain ⟨_, _, ei, hi, _⟩ := HAt.out.2.2
      cases ei
      obtain ⟨bb, of2, rfl, hbb, hcc⟩ := hi.at_ (by omega)
      have hcell := (X.out.1.cell (p := ⟨bb, of2 + k, none⟩) hbb).trans (hcc k hlt)
      have hgd : zs.getD k 0 = zs[k] := by simp [List.getD, List.getElem?_eq_getElem hlt]
      rcases hq : (decide ((0 : Int) ≤ zs.getD k 0) && decide (zs.getD k 0 ≤ 999)) with _ | _ <;> have Hq := Lib.hid hq <;> clear hq
      · obtain ⟨rfl, rfl⟩ : [] = y0 ∧ false = y1 := by
          have hnn : ¬ numsB zs = true := by
            intro h
            have h3 := numsB_getD h k
            have h4 := Hq.out
            simp only [Bool.and_eq_false_iff, decide_eq_false_iff_not] at h4
            omega
          have := HR.out; rw [regsRunR_no (fun h => hnn h.2.2)] at this; cases this; exact ⟨rfl, rfl⟩
        have Y := Lib.hid (lit8 X.out.1)
        clear hcc hi hgd
        generalize zs.getD k 0 = x at *
        go_wp2_with (go_at_call 87; refine (l1InB x 0 999 _ false Hq.out).mono ?_; rintro e w' ⟨rfl, rfl⟩)
        go_ret2
        exact ⟨_, rfl, Y.out⟩
      · have hnk : numsB (zs.take (k + 1)) = true := by
          unfold numsB
          have h4 := Hq.out
          rw [hgd] at h4
          simp only [Bool.and_eq_true, decide_eq_true_eq] at h4
          rw [List.take_add_one, List.getElem?_eq_getElem hlt, List.all_append]
          rw [show ((zs.take k).all fun z => decide (0 ≤ z) && decide (z < 1000)) = true from HNK.out]
          simp; omega
        have HNL := Lib.hid hnk; clear hnk hcc hi hgd
        generalize zs.getD k 0 = x at *
        go_wp2_with (go_at_call 87; refine (l1InB x 0 999 _ true Hq.out).mono ?_; rintro e w' ⟨rfl, rfl⟩)
        go_roundw
        case rel => exact ⟨k + 1, by omega, by go_num, by first | rfl | trivial, HNL.out⟩
        case measure => simp [intOf]; omega
    · obtain rfl : k = zs.length := by omega
      have hq : numsB zs = true := by have := HNK.out; rwa [List.take_length] at this
      have Hq := Lib.hid hq; clear hq HNK
      obtain ⟨hy0, rfl⟩ : os.map (valR t (runOps t zs ms)) = y0 ∧ true = y1 := by have := HR.out; rw [regsRunR, if_pos ⟨Hv.out, HLN.out, Hq.out⟩] at this; cases this; exact ⟨rfl, rfl⟩
      have HY0 := Lib.hid hy0; clear hy0 HR
      have hlit : Below (w.heap.size + 1) wr (wr.alloc (.cells #[] 3)) := (Below.refl _ _).alloc (by omega) _
      have L0 := nilLit wr
      have Y := Lib.hid (And.intro (X.out.1.trans (hlit.mono (by omega))) (And.intro (X.out.2.below hlit (by omega)) (OwnI.mk (L0.1.own.mono (show w.heap.size + 1 ≤ wr.heap.size by omega)) L0.1.lt))); clear hlit L0 X
      obtain ⟨q0, q1, q2, _, _, _⟩ := blkThree Y.out.2.1
      go_wp2
      go_loopw [7, 8] (fun v i wr => ∃ (k : Nat) (vs : List Int), k ≤ ms.length ∧ i = .int .i64 k ∧ w.heap.size + 1 ≤ wr.heap.size ∧ Below w.heap.size w wr ∧ Blk wr w.heap.size #[.int .i64 t, .slice A0 ms.length c0, .slice A1 os.length c1] 43 ∧ OwnI wr (w.heap.size + 1) wr.heap.size v vs ∧ numsB (zs ++ vs) = true ∧ vs.length = k ∧ runOps t (zs ++ vs) (ms.drop k) = runOps t zs ms) (fun _ i _ => ms.length - (intOf i).toNat)
      case atStart => exact ⟨0, [], Nat.zero_le _, by simp, by simp; omega, Y.out.1, Y.out.2.1, by simpa using Y.out.2.2, by simpa using Hq.out, by simp, by simp⟩
      case round =>
        clear Y q0 q1 q2 p0 p1 p2
        obtain ⟨k, vs, hk, rfl, hsz, r1, r2, r3, r4, r5, r6⟩ := hrel
        obtain ⟨p0, p1, p2, _, _, _⟩ := blkThree r2
        obtain ⟨Aq, cq, rfl, _⟩ := r3.rd
        have R := Lib.hid (And.intro r1 (And.intro r2 (And.intro r3 (And.intro r4 (And.intro r5 r6))))); clear r1 r2 r3 r4 r5 r6
        by_cases hlt : k < ms.length
        · have hltI : (k : Int) < ms.length := by omega
          obtain ⟨_, _, e2, _, hr⟩ := HAt.out.1
          cases e2
          obtain ⟨b, off, rfl, hbb, hcc⟩ := hr (by omega)
          obtain ⟨m, hm⟩ : ∃ m, ms[k]? = some m := ⟨_, List.getElem?_eq_getElem hlt⟩
          obtain ⟨d0, d1, d2⟩ := hcc k m hm
          have hop := opsFromB_at (regsB_ok Hv.out).2.1 hm
          have HO := Lib.hid (runOps_drop (t := t) (row := zs ++ vs) hm)
          clear hcc hr hm
          rw [Nat.zero_add, opOkB, Bool.and_eq_true, Bool.and_eq_true] at hop
          obtain ⟨z, a, a'⟩ := m
          dsimp only at d0 d1 d2 hop
          obtain ⟨hz0, ha, ha'⟩ := hop
          rw [decide_eq_true_eq] at hz0
          have E := Lib.hid (And.intro ha ha'); clear ha ha'
          have e0 := (R.out.1.cell (p := ⟨b, off + k * 3, none⟩) hbb).trans d0
          have e1 := (R.out.1.cell (p := ⟨b, off + k * 3 + 1, none⟩) hbb).trans d1
          have e2 := (R.out.1.cell (p := ⟨b, off + k * 3 + 2, none⟩) hbb).trans d2
          clear d0 d1 d2
          obtain ⟨xa, hxa⟩ : ∃ x, valR t (zs ++ vs) a = x := ⟨_, rfl⟩
          obtain ⟨xb, hxb⟩ : ∃ x, valR t (zs ++ vs) a' = x := ⟨_, rfl⟩
          have hxar := numsB_val R.out.2.2.2.1 E.out.1
          have hxbr := numsB_val R.out.2.2.2.1 E.out.2
          rw [hxa] at hxar
          rw [hxb] at hxbr
          have XA := Lib.hid hxa; clear hxa
          have XB := Lib.hid hxb; clear hxb
          obtain ⟨xr, hxr⟩ : ∃ x, reck z xa xb = x := ⟨_, rfl⟩
          have hxrr := @reck_num z xa xb
          rw [hxr] at hxrr
          have XR := Lib.hid hxr; clear hxr
          have hql : vs.length ≤ 200 := by have := R.out.2.2.2.2.1; omega
          have hd : Below wr.heap.size wr wr.drew := (Below.refl _ _).drew
          have Rw := Lib.hid ((R.out.2.2.1.rd).step hd)
          have Rz := Lib.hid ((((HAt.out.2.2.below R.out.1).rd (show w.heap.size ≤ wr.heap.size by omega))).step hd)
          have Ro := Lib.hid ((R.out.2.2.1).below hd)
          have hbw : b < w.heap.size := hbb
          go_wp2
          go_region_held3 (fun w' => w'.cell? ⟨b, off + k * 3, none⟩ = some (.int .i64 z) ∧ w'.cell? ⟨b, off + k * 3 + 1, none⟩ = some (.int .i64 a) ∧ w'.cell? ⟨b, off + k * 3 + 2, none⟩ = some (.int .i64 a') ∧ w'.cell? ⟨w.heap.size, 1, none⟩ = some (.slice (some ⟨b, off, none⟩) ms.length c0)) (repeat' (first | exact e0 | exact e1 | exact e2 | exact p1 | exact m0 | exact m1 | exact m2 | exact m3 | apply And.intro | rw [World.cell?_drew] | rw [World.cell?_alloc_lt _ _ _ (by first | omega | (simp; omega))])) (first
            | (go_at_call 95; refine (l8Value_any t _ k _ _ zs vs _ Rz.out Rw.out ⟨ht0, ht20⟩ (by omega) HLN.out R.out.2.2.2.2.1 (by first | exact E.out.1 | exact E.out.2) _ (by first | exact XA.out | exact XB.out)).mono ?_; rintro e w' ⟨rfl, rfl⟩)
            | (go_at_call 94; refine (l2Reckon_any z xa xb _ hz0 hxar hxbr).mono ?_; rw [XR.out]; rintro e w' ⟨rfl, rfl⟩)
            | (refine step_append_z rfl _ _ _ rfl Try.underlying23 intInfo xr rfl (wf_near _ (by omega)) (w.heap.size + 1) wr.heap.size _ vs rfl Ro.out (by show w.heap.size + 1 ≤ wr.heap.size; omega) rfl (by omega) ?_; intro v4 w4 ho4 hb4; have hbl : Below w.heap.size wr.drew w4 := hb4.below (by omega) (by show w.heap.size ≤ wr.heap.size; omega); have m0 := (hbl.cell (p := ⟨b, off + k * 3, none⟩) hbw).trans e0; have m1 := (hbl.cell (p := ⟨b, off + k * 3 + 1, none⟩) hbw).trans e1; have m2 := (hbl.cell (p := ⟨b, off + k * 3 + 2, none⟩) hbw).trans e2; obtain ⟨_, m3, _, _, _, _⟩ := blkThree (show Blk w4 w.heap.size _ 43 from (hb4.block w.heap.size (by show w.heap.size < wr.heap.size; omega) (by omega)).trans R.out.2.1)))
          have hz4 : wr.heap.size ≤ w4.heap.size := by have h := hb4.size; have h2 : wr.drew.heap.size = wr.heap.size := rfl; omega
          have Z := Lib.hid (And.intro ((R.out.1.trans (hd.mono (by omega))).trans hbl) (And.intro ((hb4.block w.heap.size (by show w.heap.size < wr.heap.size; omega) (by omega)).trans R.out.2.1) ho4)); clear hb4 hbl ho4 m0 m1 m2 m3
          have hst : opR8 t (zs ++ vs) (z, a, a') = zs ++ (vs ++ [xr]) := by unfold opR8; simp only []; rw [XA.out, XB.out, XR.out, List.append_assoc]
          have HST := Lib.hid hst; clear hst
          go_wp2
          go_roundw
          case rel => exact ⟨k + 1, vs ++ [xr], by omega, by go_num, by omega, Z.out.1, Z.out.2.1, Z.out.2.2, by rw [← HST.out]; exact numsB_step R.out.2.2.2.1, by have h := R.out.2.2.2.2.1; simp; omega, by rw [← HST.out, ← HO.out]; exact R.out.2.2.2.2.2⟩
          case measure => simp [intOf]; omega
        · obtain rfl : k = ms.length := by omega
          have hfin : runOps t zs ms = zs ++ vs := by have := R.out.2.2.2.2.2; rw [List.drop_length, runOps] at this; exact this.symm
          have hyq : os.map (valR t (zs ++ vs)) = y0 := by rw [← HY0.out, hfin]
          have hyt : ∀ k, k < os.length → y0.take (k + 1) = y0.take k ++ [valR t (zs ++ vs) (os.getD k 0)] := by
            intro k hk
            rw [← hyq, List.take_add_one, List.getElem?_map, List.getElem?_eq_getElem hk]
            simp [List.getD, List.getElem?_eq_getElem hk]
          have hyl : y0.length = os.length := by rw [← hyq]; simp
          have hko : ∀ k, k < os.length → knownB t ms.length (os.getD k 0) = true := by
            intro k hk
            have := List.all_eq_true.1 (regsB_ok Hv.out).2.2 os[k] (List.getElem_mem hk)
            simpa [List.getD, List.getElem?_eq_getElem hk] using this
          have HF := Lib.hid (And.intro hyl (And.intro hyt (And.intro hko R.out.2.2.2.1))); clear hyl hyt hko hfin hyq
          obtain ⟨g, hG⟩ : ∃ g, wr.heap.size = g := ⟨_, rfl⟩
          have hgG : w.heap.size + 1 ≤ g := by omega
          have hlit : Below g wr (wr.alloc (.cells #[] 3)) := (Below.refl _ _).alloc (by omega) _
          have L0 := nilLit wr
          have hvl := R.out.2.2.2.2.1
          have hv3 := R.out.2.2.1
          rw [hG] at hv3
          have Y := Lib.hid (And.intro (R.out.1.trans (hlit.mono (by omega))) (And.intro (R.out.2.1.below hlit (by omega)) (And.intro (hv3.belowB hlit (Nat.le_refl _)) (OwnI.mk (L0.1.own.mono (show g ≤ wr.heap.size by omega)) L0.1.lt)))); clear hlit L0 hv3 R
          have HVL := Lib.hid hvl; clear hvl
          obtain ⟨q0, q1, q2, _, _, _⟩ := blkThree Y.out.2.1
          have hGI := Nat.le_of_eq hG
          have hGJ := Nat.le_of_eq hG.symm
          clear hG
          go_wp2
          go_loopw [9, 10] (fun v i wr => ∃ k : Nat, k ≤ os.length ∧ i = .int .i64 k ∧ g ≤ wr.heap.size ∧ Below w.heap.size w wr ∧ Blk wr w.heap.size #[.int .i64 t, .slice A0 ms.length c0, .slice A1 os.length c1] 43 ∧ OwnI wr (w.heap.size + 1) g (.slice Aq vs.length cq) vs ∧ OwnI wr g wr.heap.size v (y0.take k)) (fun _ i _ => os.length - (intOf i).toNat)
          case atStart => exact ⟨0, Nat.zero_le _, rfl, by simp; omega, Y.out.1, Y.out.2.1, Y.out.2.2.1, by simpa using Y.out.2.2.2⟩
          case round =>
            clear Y q0 q1 q2 p0 p1 p2
            obtain ⟨k, hk, rfl, hsz2, r1, r2, r3, r4⟩ := hrel
            obtain ⟨p0, p1, p2, _, _, _⟩ := blkThree r2
            by_cases hlt2 : k < os.length
            · have hltI : (k : Int) < os.length := by omega
              obtain ⟨_, _, ei, hi, _⟩ := HAt.out.2.1
              cases ei
              obtain ⟨bb, of2, rfl, hbb, hcc⟩ := hi.at_ (by omega)
              have hcell := (r1.cell (p := ⟨bb, of2 + k, none⟩) hbb).trans (hcc k hlt2)
              have HY := Lib.hid (And.intro (HF.out.2.1 k hlt2) (HF.out.2.2.1 k hlt2))
              have hyk : (y0.take k).length ≤ 100 := by rw [List.length_take]; omega
              have hxv := numsB_val HF.out.2.2.2 HY.out.2
              have RZ := Lib.hid ((HAt.out.2.2.below r1).rd (show w.heap.size ≤ wr.heap.size by omega))
              have RV := Lib.hid (And.intro r3.rd (And.intro r1 (And.intro r2 (And.intro r3 r4)))); clear r1 r2 r3 r4 hcc hi
              generalize os.getD k 0 = x at *
              obtain ⟨xv, hxv2⟩ : ∃ y, valR t (zs ++ vs) x = y := ⟨_, rfl⟩
              rw [hxv2] at hxv
              have XV := Lib.hid hxv2; clear hxv2
              go_wp2_with (first
                | (go_at_call 95; refine (l8Value_any t x ms.length _ _ zs vs _ RZ.out RV.out.1 ⟨ht0, ht20⟩ hm60 HLN.out HVL.out HY.out.2 xv XV.out).mono ?_; rintro e w' ⟨rfl, rfl⟩)
                | (at_builtin; refine wpList_append_z rfl _ _ _ rfl Try.underlying23 intInfo xv rfl (wf_near _ (by omega)) g wr.heap.size _ (y0.take k) rfl RV.out.2.2.2.2 (by omega) rfl (by omega) ?_))
              intro v5 w5 ho5 hb5 hw5
              have hz5 := hb5.size
              have Z := Lib.hid (And.intro (RV.out.2.1.trans (hb5.mono (by omega))) (And.intro (RV.out.2.2.1.below hb5 (by omega)) (And.intro (RV.out.2.2.2.1.belowB hb5 (Nat.le_refl _)) ho5))); clear hb5 hw5 ho5
              have HT := Lib.hid HY.out.1
              go_wp2
              go_roundw
              case rel => exact ⟨k + 1, by omega, by go_num, by omega, Z.out.1, Z.out.2.1, Z.out.2.2.1, by rw [HT.out, XV.out]; exact Z.out.2.2.2⟩
              case measure => simp [intOf]; omega
            · obtain rfl : k = os.length := by omega
              have hy : y0.take os.length = y0 := List.take_of_length_le (by rw [HF.out.1]; omega)
              rw [hy] at r4
              have Z := Lib.hid (And.intro r4 r1); clear r1 r2 r3 r4 hy
              go_wp2
              go_ret2
              exact ⟨_, rfl, ⟨Z.out.1.own.mono (show w.heap.size ≤ g by omega), Z.out.1.lt⟩, Z.out.2⟩
end Go.Proofs.Ytaehaalaeikloaa
