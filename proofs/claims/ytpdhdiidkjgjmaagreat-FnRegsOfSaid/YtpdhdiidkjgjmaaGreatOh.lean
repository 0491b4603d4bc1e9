/- RegsRun of the program, at registers by value. -/
import Derived.Test.YtpdhdiidkjgjmaaGreatOg
import Derived.Deep.RegionHeld3
namespace Go.Proofs.YtpdhdiidkjgjmaaGreat
set_option maxRecDepth 100000
open Go.RowKit Go.WideShapes Go.Deep

theorem numsB_snoc (t : Int) {zs : List Int} {m : Int × Int × Int} (h : numsB zs = true) : numsB (opR8 t zs m) = true := numsB_step h
theorem wf_nums {zs : List Int} (h : numsB zs = true) : ∀ z ∈ zs, InK .i64 z := by
  intro z hz
  have := List.all_eq_true.1 h z hz
  rw [Bool.and_eq_true, decide_eq_true_eq, decide_eq_true_eq] at this
  exact wf_near _ (by omega)
set_option maxHeartbeats 4000000 in
theorem RegsRun_I (t : Int) (A0 : Option Addr) (c0 : Nat) (ms : List (Int × Int × Int)) (A1 : Option Addr) (c1 : Nat) (os : List Int) (v2 : Value) (zs : List Int) (w : World) (h0 : Rd3 w (.slice A0 ms.length c0) ms) (h1 : RdI w (.slice A1 os.length c1) os) (h2 : RdI w v2 zs) (hl2 : zs.length ≤ 1048576) (y0 : List Int) (y1 : Bool) (hR : regsRunR t ms os zs = (y0, y1)) :
    Calls Tryz.prog 12 #[.agg #[.int .i64 t, .slice A0 ms.length c0, .slice A1 os.length c1], v2] w (RunG w y0 y1) := by
  have hb : Below w.heap.size w (w.alloc (.cells #[.int .i64 t, .slice A0 ms.length c0, .slice A1 os.length c1] 27)) := (Below.refl _ _).alloc (Nat.le_refl _) _
  have hbk := Blk.new w #[.int .i64 t, .slice A0 ms.length c0, .slice A1 os.length c1] 27
  have hi2 := RdI.step h2 hb
  have H := Lib.hid (And.intro (h0.step hb) (And.intro (h1.step hb) (And.intro hb (And.intro hbk hi2))))
  have HAt := Lib.hid (And.intro h0 (And.intro h1.at_ h2.at_))
  have hml := h0.len_le
  have hfl := h1.len_le
  obtain ⟨A2, c2, rfl, _⟩ := h2
  clear h0 h1 hb hbk hi2
  have HR := Lib.hid hR; clear hR
  rcases hv : regsB t ms os with _ | _ <;> have Hv := Lib.hid hv <;> clear hv
  · obtain ⟨rfl, rfl⟩ : [] = y0 ∧ false = y1 := by have := HR.out; rw [regsRunR_no (by rw [Hv.out]; simp)] at this; cases this; exact ⟨rfl, rfl⟩
    go_enter Tryz.func12, Tryz.ntmps12
    go_wp2_with fail
    refine (RegsValid_I t _ _ ms _ _ os _ H.out.1 H.out.2.1 false Hv.out).mono ?_
    rintro e w1 ⟨rfl, hb1⟩
    have X := Lib.hid (And.intro (nilOwn w1 w.heap.size w1.heap.size) (H.out.2.2.1.trans (hb1.mono (by simp)))); clear hb1
    go_wp2
    go_ret2
    exact ⟨_, rfl, X.out⟩
  obtain ⟨⟨ht0, ht20, hm60, ho20⟩, _⟩ := regsB_ok Hv.out
  by_cases hlen : (zs.length : Int) = t
  case neg =>
    obtain ⟨rfl, rfl⟩ : [] = y0 ∧ false = y1 := by have := HR.out; rw [regsRunR_no (fun h => hlen h.2.1)] at this; cases this; exact ⟨rfl, rfl⟩
    have hne : ((zs.length : Int) != t) = true := by simpa using hlen
    clear hlen
    go_enter Tryz.func12, Tryz.ntmps12
    go_wp2_with fail
    refine (RegsValid_I t _ _ ms _ _ os _ H.out.1 H.out.2.1 true Hv.out).mono ?_
    rintro e w1 ⟨rfl, hb1⟩
    obtain ⟨p0, _, _, _, _, _⟩ := blkThree (H.out.2.2.2.1.below hb1 (by simp))
    have X := Lib.hid (And.intro (nilOwn w1 w.heap.size w1.heap.size) (H.out.2.2.1.trans (hb1.mono (by simp)))); clear hb1
    go_wp2
    go_ret2
    exact ⟨_, rfl, X.out⟩
  have hne : ((zs.length : Int) != t) = false := by simpa using hlen
  have HLN := Lib.hid hlen; clear hlen
  rcases hq : numsB zs with _ | _ <;> have Hq := Lib.hid hq <;> clear hq
  · obtain ⟨rfl, rfl⟩ : [] = y0 ∧ false = y1 := by have := HR.out; rw [regsRunR_no (by rw [Hq.out]; simp)] at this; cases this; exact ⟨rfl, rfl⟩
    go_enter Tryz.func12, Tryz.ntmps12
    go_wp2_with fail
    refine (RegsValid_I t _ _ ms _ _ os _ H.out.1 H.out.2.1 true Hv.out).mono ?_
    rintro e w1 ⟨rfl, hb1⟩
    obtain ⟨p0, _, _, _, _, _⟩ := blkThree (H.out.2.2.2.1.below hb1 (by simp))
    obtain ⟨_, _, ei, hi, _⟩ := H.out.2.2.2.2.step hb1
    cases ei
    have HI := Lib.hid hi; clear hi
    have X := Lib.hid (And.intro (nilOwn w1 w.heap.size w1.heap.size) (H.out.2.2.1.trans (hb1.mono (by simp)))); clear hb1
    go_wp2_with fail
    refine (allBelow_any 1000 _ _ zs _ HI.out).mono ?_
    rw [show allB 1000 zs = false from Hq.out]
    rintro e w' ⟨rfl, rfl⟩
    go_wp2
    go_ret2
    exact ⟨_, rfl, X.out⟩
  obtain ⟨hy0, rfl⟩ : os.map (valR t (runOps t zs ms)) = y0 ∧ true = y1 := by have := HR.out; rw [regsRunR, if_pos ⟨Hv.out, HLN.out, Hq.out⟩] at this; cases this; exact ⟨rfl, rfl⟩
  have HY0 := Lib.hid hy0; clear hy0
  clear HR
  go_enter Tryz.func12, Tryz.ntmps12
  go_wp2_with fail
  refine (RegsValid_I t _ _ ms _ _ os _ H.out.1 H.out.2.1 true Hv.out).mono ?_
  rintro e w1 ⟨rfl, hb1⟩
  have hs1 : w.heap.size + 1 ≤ w1.heap.size := by have := hb1.size; simpa using this
  have hbk1 := H.out.2.2.2.1.below hb1 (by simp)
  obtain ⟨p0, p1, p2, _, _, _⟩ := blkThree hbk1
  have hb2 := H.out.2.2.1.trans (hb1.mono (by simp))
  obtain ⟨_, _, ei, hi, _⟩ := (HAt.out.2.2.below hb2).rd (by omega)
  cases ei
  have HI := Lib.hid hi; clear hi
  have X := Lib.hid (And.intro hb2 (And.intro hbk1 ((HAt.out.2.2.below hb2).rd (show w.heap.size ≤ w1.heap.size by omega)))); clear hb1 hb2 hbk1
  go_wp2_with fail
  refine (allBelow_any 1000 _ _ zs _ HI.out).mono ?_
  rw [show allB 1000 zs = true from Hq.out]
  rintro e w' ⟨rfl, rfl⟩
  go_wp2_with fail
  refine (clone8 _ zs _ X.out.2.2 (by omega)).mono ?_
  rintro e w2 ⟨u, rfl, ho, hb⟩
  have hs2 : w.heap.size + 1 ≤ w2.heap.size := by have := hb.size; omega
  have hbk2 := X.out.2.1.below hb (by omega)
  obtain ⟨q0, q1, q2, _, _, _⟩ := blkThree hbk2
  have Y := Lib.hid (And.intro (X.out.1.trans (hb.mono (by omega))) (And.intro hbk2 (OwnI.mk (ho.own.mono (show w.heap.size + 1 ≤ w1.heap.size by omega)) ho.lt))); clear hb hbk2 ho X HI p0 p1 p2
  go_wp2
  go_loopw [6, 32] (fun v i wr => ∃ (k : Nat) (qs : List Int), k ≤ ms.length ∧ i = .int .i64 k ∧ w.heap.size + 1 ≤ wr.heap.size ∧ Below w.heap.size w wr ∧ Blk wr w.heap.size #[.int .i64 t, .slice A0 ms.length c0, .slice A1 os.length c1] 27 ∧ OwnI wr (w.heap.size + 1) wr.heap.size v qs ∧ numsB qs = true ∧ (qs.length : Int) = t + (k : Int) ∧ runOps t qs (ms.drop k) = runOps t zs ms) (fun _ i _ => ms.length - (intOf i).toNat)
  case atStart => exact ⟨0, zs, Nat.zero_le _, rfl, hs2, Y.out.1, Y.out.2.1, Y.out.2.2, Hq.out, by rw [HLN.out]; omega, by simp⟩
  case round =>
    clear Y q0 q1 q2
    obtain ⟨k, qs, hk, rfl, hsz, r1, r2, r3, r4, r5, r6⟩ := hrel
    obtain ⟨p0, p1, p2, _, _, _⟩ := blkThree r2
    obtain ⟨Aq, cq, rfl, _⟩ := r3.rd
    have R := Lib.hid (And.intro r1 (And.intro r2 (And.intro r3 (And.intro r4 (And.intro r5 r6))))); clear r1 r2 r3 r4 r5 r6
    by_cases hlt : k < ms.length
    · have hltI : (k : Int) < ms.length := by omega
      obtain ⟨_, _, e2, _, hr⟩ := HAt.out.1
      cases e2
      obtain ⟨b, off, rfl, hbb, hcc⟩ := hr (by omega)
      obtain ⟨m, hm⟩ : ∃ m, ms[k]? = some m := ⟨_, List.getElem?_eq_getElem hlt⟩
      obtain ⟨d0, d1, d2⟩ := hcc k m hm
      have hop := opsFromB_at (regsB_ok Hv.out).2.1 hm
      have HO := Lib.hid (runOps_drop (t := t) (row := qs) hm)
      clear hcc hr hm
      rw [Nat.zero_add, opOkB, Bool.and_eq_true, Bool.and_eq_true] at hop
      obtain ⟨z, a, a'⟩ := m
      dsimp only at d0 d1 d2 hop
      obtain ⟨hz0, ha, ha'⟩ := hop
      rw [decide_eq_true_eq] at hz0
      have E := Lib.hid (And.intro ha ha'); clear ha ha'
      have e0 := (R.out.1.cell (p := ⟨b, off + k * 3, none⟩) hbb).trans d0
      have e1 := (R.out.1.cell (p := ⟨b, off + k * 3 + 1, none⟩) hbb).trans d1
      have e2 := (R.out.1.cell (p := ⟨b, off + k * 3 + 2, none⟩) hbb).trans d2
      clear d0 d1 d2
      have hba : Below wr.heap.size wr (wr.alloc (.cells #[.int .i64 z, .int .i64 a, .int .i64 a'] 33)) := (Below.refl _ _).alloc (Nat.le_refl _) _
      have hob := Blk.new wr #[.int .i64 z, .int .i64 a, .int .i64 a'] 33
      have V := Lib.hid (And.intro (R.out.1.trans (hba.mono (by omega))) (And.intro (R.out.2.1.below hba (by omega)) (And.intro (R.out.2.2.1.below hba) hob))); clear hba hob
      obtain ⟨xa, hxa⟩ : ∃ x, valR t qs a = x := ⟨_, rfl⟩
      obtain ⟨xb, hxb⟩ : ∃ x, valR t qs a' = x := ⟨_, rfl⟩
      have hxar := numsB_val R.out.2.2.2.1 E.out.1
      have hxbr := numsB_val R.out.2.2.2.1 E.out.2
      rw [hxa] at hxar
      rw [hxb] at hxbr
      have XA := Lib.hid hxa; clear hxa
      have XB := Lib.hid hxb; clear hxb
      obtain ⟨xr, hxr⟩ : ∃ x, reck z xa xb = x := ⟨_, rfl⟩
      have hxrr := @reck_num z xa xb
      rw [hxr] at hxrr
      have XR := Lib.hid hxr; clear hxr
      have hql : qs.length ≤ 200 := by have := R.out.2.2.2.2.1; omega
      go_wp2
      generalize hW : wr.alloc (.cells #[.int .i64 z, .int .i64 a, .int .i64 a'] 33) = W at *
      have hWs : wr.heap.size + 1 ≤ W.heap.size := by rw [← hW]; simp
      clear hW
      obtain ⟨n0, n1, n2, _, _, _⟩ := blkThree V.out.2.2.2
      obtain ⟨p0, p1, p2, _, _, _⟩ := blkThree V.out.2.1
      have hd : Below W.heap.size W W.drew := (Below.refl _ _).drew
      have Rw := Lib.hid ((V.out.2.2.1.rd).step hd)
      have Ro := Lib.hid ((V.out.2.2.1).below hd)
      go_region_held3 (fun w' => w'.cell? ⟨wr.heap.size, 0, none⟩ = some (.int .i64 z) ∧ w'.cell? ⟨wr.heap.size, 1, none⟩ = some (.int .i64 a) ∧ w'.cell? ⟨wr.heap.size, 2, none⟩ = some (.int .i64 a') ∧ w'.cell? ⟨w.heap.size, 0, none⟩ = some (.int .i64 t)) (repeat' (first | exact n0 | exact n1 | exact n2 | exact p0 | exact m0 | exact m1 | exact m2 | exact m3 | apply And.intro | rw [World.cell?_drew] | rw [World.cell?_alloc_lt _ _ _ (by first | omega | (simp; omega))])) (first
        | (go_at_call 33; refine (numIn_any t _ k _ qs _ Rw.out ⟨ht0, ht20⟩ (by omega) R.out.2.2.2.2.1 (by first | exact E.out.1 | exact E.out.2) _ (by first | exact XA.out | exact XB.out)).mono ?_; rintro e w' ⟨rfl, rfl⟩)
        | (go_at_call 32; refine (reckoned8 z xa xb _ hxar hxbr).mono ?_; rw [XR.out]; rintro e w' ⟨rfl, rfl⟩)
        | (refine step_append_z rfl _ _ _ rfl Tryz.underlying23 intInfo xr rfl (wf_near _ (by omega)) (w.heap.size + 1) wr.heap.size _ qs rfl Ro.out (by show w.heap.size + 1 ≤ W.heap.size; omega) rfl (by omega) ?_; intro v4 w4 ho4 hb4; obtain ⟨m0, m1, m2, _, _, _⟩ := blkThree (show Blk w4 wr.heap.size #[.int .i64 z, .int .i64 a, .int .i64 a'] 33 from (hb4.block wr.heap.size (by show wr.heap.size < W.heap.size; omega) (by omega)).trans V.out.2.2.2); obtain ⟨m3, _, _, _, _, _⟩ := blkThree (show Blk w4 w.heap.size _ 27 from (hb4.block w.heap.size (by show w.heap.size < W.heap.size; omega) (by omega)).trans V.out.2.1)))
      have hz4 : wr.heap.size + 1 ≤ w4.heap.size := by have h := hb4.size; have h2 : W.drew.heap.size = W.heap.size := rfl; omega
      have Z := Lib.hid (And.intro ((V.out.1.trans (hd.mono (by omega))).trans (hb4.below (B := w.heap.size) (by omega) (by show w.heap.size ≤ W.heap.size; omega))) (And.intro ((hb4.block w.heap.size (by show w.heap.size < W.heap.size; omega) (by omega)).trans V.out.2.1) ho4)); clear hb4 ho4 m0 m1 m2 m3
      have hst : opR8 t qs (z, a, a') = qs ++ [xr] := by unfold opR8; simp only []; rw [XA.out, XB.out, XR.out]
      have HST := Lib.hid hst; clear hst
      go_wp2
      go_roundw
      case rel => exact ⟨k + 1, qs ++ [xr], by omega, by go_num, by omega, Z.out.1, Z.out.2.1, Z.out.2.2, by rw [← HST.out]; exact numsB_step R.out.2.2.2.1, by have h := R.out.2.2.2.2.1; simp; omega, by rw [← HST.out, ← HO.out]; exact R.out.2.2.2.2.2⟩
      case measure => simp [intOf]; omega
    · obtain rfl : k = ms.length := by omega
      have hfin : runOps t zs ms = qs := by have := R.out.2.2.2.2.2; rw [List.drop_length, runOps] at this; exact this.symm
      have hyq : os.map (valR t qs) = y0 := by rw [← HY0.out, hfin]
      have hyl : y0.length = os.length := by rw [← hyq]; simp
      have hyg : ∀ k, k < os.length → y0.getD k 0 = valR t qs (os.getD k 0) := by
        intro k hk; rw [← hyq]; simp [List.getD, List.getElem?_eq_getElem hk]
      have hko : ∀ k, k < os.length → knownB t ms.length (os.getD k 0) = true := by
        intro k hk
        have := List.all_eq_true.1 (regsB_ok Hv.out).2.2 os[k] (List.getElem_mem hk)
        simpa [List.getD, List.getElem?_eq_getElem hk] using this
      have hyw : ∀ z ∈ y0, InK .i64 z := by
        intro z hz
        rw [← hyq] at hz
        obtain ⟨y, hy, rfl⟩ := List.mem_map.1 hz
        have h3 := numsB_val R.out.2.2.2.1 (List.all_eq_true.1 (regsB_ok Hv.out).2.2 y hy)
        exact wf_near _ (by omega)
      have HF := Lib.hid (And.intro hyl (And.intro hyg (And.intro hko hyw))); clear hyl hyg hko hyw hfin hyq
      obtain ⟨i0, hi0, hz0, hz1, hz2⟩ := info_parts intInfo
      generalize hG : wr.heap.size = g at *
      have hgG : w.heap.size + 1 ≤ g := hsz
      go_wp2_with (at_make; refine wpList_make_full _ rfl _ _ _ rfl g 3 i0 (.int .i64 0) 1 Tryz.underlying23 hi0 hz0 hz1 _ _ _ _ os.length rfl rfl rfl rfl (by rw [hz2]; omega) (by unfold maxLen; omega) (by omega) ?_)
      intro w3 hown3 hg3
      rw [toList_madeCells_one] at hown3
      have hb3 : Below g wr w3 := below_of_only hg3 (by omega) (by simp)
      have hstart : w3.ownsRow g 3 1 (.slice (some ⟨g, 0, none⟩) os.length os.length) os.length ((y0.take 0 ++ List.replicate (os.length - 0) 0).map (Value.int .i64)) := by simpa using hown3
      have hlt3 : g < w3.heap.size := (hown3.lt g rfl).2
      have hblk3 := R.out.2.1.below hb3 (by omega)
      obtain ⟨o0, o1, o2, _, _, _⟩ := blkThree hblk3
      have T := Lib.hid (And.intro (R.out.1.trans (hb3.mono (by omega))) (And.intro hblk3 (And.intro (R.out.2.2.1.belowB hb3 (by omega)) hstart)))
      have HQL := Lib.hid R.out.2.2.2.2.1
      clear hb3 hstart hown3 hg3 hblk3 R p0 p1 p2
      go_wp2
      go_loopw [62] (fun i wr2 => ∃ k : Nat, k ≤ os.length ∧ i = .int .i64 k ∧ g < wr2.heap.size ∧ Below w.heap.size w wr2 ∧ Blk wr2 w.heap.size #[.int .i64 t, .slice A0 ms.length c0, .slice A1 os.length c1] 27 ∧ OwnI wr2 (w.heap.size + 1) g (.slice Aq qs.length cq) qs ∧ wr2.ownsRow g 3 1 (.slice (some ⟨g, 0, none⟩) os.length os.length) os.length ((y0.take k ++ List.replicate (os.length - k) 0).map (Value.int .i64))) (fun i _ => os.length - (intOf i).toNat)
      case atStart => exact ⟨0, Nat.zero_le _, rfl, hlt3, T.out⟩
      case round =>
        clear T o0 o1 o2 hlt3
        obtain ⟨k, hk, rfl, hsz2, r1, r2, r3, r4⟩ := hrel
        obtain ⟨p0, p1, p2, _, _, _⟩ := blkThree r2
        by_cases hlt2 : k < os.length
        · have hltI : (k : Int) < os.length := by omega
          obtain ⟨_, _, ei, hi, _⟩ := HAt.out.2.1
          cases ei
          obtain ⟨bb, of2, rfl, hbb, hcc⟩ := hi.at_ (by omega)
          have hcell := (r1.cell (p := ⟨bb, of2 + k, none⟩) hbb).trans (hcc k hlt2)
          have hold := (r4.cellAt k (by omega)).trans (fillGet y0 os.length k HF.out.1 hlt2)
          have hfr := r4.frozenAt k
          have hst := (r4.stored k (.int .i64 (y0.getD k 0))).1
          rw [fillSet y0 os.length k HF.out.1 hlt2] at hst
          have HY := Lib.hid (And.intro (HF.out.2.1 k hlt2).symm (HF.out.2.2.1 k hlt2))
          generalize os.getD k 0 = x at *
          generalize y0.getD k 0 = yv at *
          have HRD := Lib.hid r3.rd
          have Z := Lib.hid (And.intro (show Below w.heap.size w (wr.setCell ⟨g, k, none⟩ (.int .i64 yv)) from r1.setCell (by simp; omega) _) (And.intro (r2.other (g' := g) (by omega) k (.int .i64 yv)) (And.intro (r3.apart (within_setCell wr g k (.int .i64 yv)) (.inl (Nat.le_refl _))) hst))); clear r1 r2 r3 r4 hst hi hcc
          go_wp2_with (go_at_call 33; refine (numIn_any t x ms.length _ qs _ HRD.out ⟨ht0, ht20⟩ hm60 HQL.out HY.out.2 yv HY.out.1).mono ?_; rintro e w' ⟨rfl, rfl⟩)
          go_roundw
          case rel => exact ⟨k + 1, by omega, by go_num, by simpa using hsz2, Z.out⟩
          case measure => simp [intOf]; omega
        · obtain rfl : k = os.length := by omega
          have hf : wr.ownsRow g 3 1 (.slice (some ⟨g, 0, none⟩) os.length os.length) y0.length (y0.map (Value.int .i64)) := by
            have h := r4
            rw [List.take_of_length_le (by rw [HF.out.1]; omega)] at h
            rw [HF.out.1]
            simpa using h
          have Z := Lib.hid (And.intro hf r1); clear hf r1 r2 r3 r4
          go_wp2
          go_ret2
          exact ⟨_, rfl, ⟨Own.mono (show Own wr g _ y0 from ⟨Z.out.1, HF.out.2.2.2⟩) (show w.heap.size ≤ g by omega), fun q hq => by simp [Value.ownBlock] at hq; omega⟩, Z.out.2⟩
end Go.Proofs.YtpdhdiidkjgjmaaGreat
