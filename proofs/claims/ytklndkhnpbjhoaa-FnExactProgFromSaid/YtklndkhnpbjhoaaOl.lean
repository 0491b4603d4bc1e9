/- ProgFrom of the model, at registers by value. -/
import Derived.Test.YtklndkhnpbjhoaaOp
namespace Go.Proofs.Ytklndkhnpbjhoaa
set_option maxRecDepth 100000
open Go.RowKit Go.WideShapes Go.Deep

set_option maxHeartbeats 8000000 in
theorem ProgFrom_S (t : Int) (A0 : Option Addr) (c0 : Nat) (ms : List (Int × Int × Int)) (A1 : Option Addr) (c1 : Nat) (os : List Int) (w : World) (h0 : Rd3 w (.slice A0 ms.length c0) ms) (hl0 : ms.length ≤ 1048576) (h1 : RdI w (.slice A1 os.length c1) os) (hl1 : os.length ≤ 1048576) (y0 : List Int) (y1 : Bool) (hR : progFromR t ms os = (y0, y1)) :
    Calls Try.prog 31 #[.agg #[.int .i64 t, .slice A0 ms.length c0, .slice A1 os.length c1]] w (RunG w y0 y1) := by
  have hb : Below w.heap.size w (w.alloc (.cells #[.int .i64 t, .slice A0 ms.length c0, .slice A1 os.length c1] 26)) := (Below.refl _ _).alloc (Nat.le_refl _) _
  have hbk := Blk.new w #[.int .i64 t, .slice A0 ms.length c0, .slice A1 os.length c1] 26
  have H := Lib.hid (And.intro (h0.step hb) (And.intro (h1.step hb) (And.intro hb hbk)))
  have HAt := Lib.hid (And.intro h0 h1.at_)
  clear h0 h1 hb hbk
  have HR := Lib.hid hR; clear hR
  rcases hv : regsB t ms os with _ | _ <;> have Hv := Lib.hid hv <;> clear hv
  · obtain ⟨rfl, rfl⟩ : [] = y0 ∧ false = y1 := by have := HR.out; rw [progFromR_no (by rw [Hv.out]; simp)] at this; cases this; exact ⟨rfl, rfl⟩
    go_enter Try.func31, Try.ntmps31
    go_wp2_with fail
    refine (RegsValid_S t _ _ ms _ _ os _ H.out.1 hl0 H.out.2.1 hl1 false Hv.out).mono ?_
    rintro e w1 ⟨rfl, hb1⟩
    have X := Lib.hid (lit8 (H.out.2.2.1.trans (hb1.mono (by simp)))); clear hb1
    go_wp2
    go_ret2
    exact ⟨_, rfl, X.out⟩
  obtain ⟨⟨ht0, ht20, hm60, ho20⟩, _⟩ := regsB_ok Hv.out
  have hzT : (t.toNat : Int) = t := by omega
  have HZT := Lib.hid hzT; clear hzT
  go_enter Try.func31, Try.ntmps31
  go_wp2_with fail
  refine (RegsValid_S t _ _ ms _ _ os _ H.out.1 hl0 H.out.2.1 hl1 true Hv.out).mono ?_
  rintro e w1 ⟨rfl, hb1⟩
  have hs1 : w.heap.size + 1 ≤ w1.heap.size := by have := hb1.size; simpa using this
  have hbk1 := H.out.2.2.2.below hb1 (by simp)
  have hb2 := H.out.2.2.1.trans (hb1.mono (by simp))
  have hba : Below (w.heap.size + 1) w1 (w1.alloc (.cells #[] 3)) := (Below.refl _ _).alloc hs1 _
  have L0 := nilLit w1
  have X := Lib.hid (And.intro (hb2.trans (hba.mono (by omega))) (And.intro (hbk1.below hba (by omega)) (OwnI.mk (L0.1.own.mono (show w.heap.size + 1 ≤ w1.heap.size by omega)) L0.1.lt))); clear hb1 hb2 hbk1 hba L0
  obtain ⟨q0, q1, q2, _, _, _⟩ := blkThree X.out.2.1
  go_wp2
  go_loopw [4, 5, 6] (fun v mv i wr => ∃ (k : Nat) (zs : List Int), k ≤ ms.length ∧ i = .int .i64 k ∧ mv = .int .i64 (t + (k : Int)) ∧ w.heap.size + 1 ≤ wr.heap.size ∧ Below w.heap.size w wr ∧ Blk wr w.heap.size #[.int .i64 t, .slice A0 ms.length c0, .slice A1 os.length c1] 26 ∧ OwnI wr (w.heap.size + 1) wr.heap.size v zs ∧ opsWords t t.toNat (ms.take k) = zs) (fun _ _ i _ => ms.length - (intOf i).toNat)
  case atStart => exact ⟨0, [], Nat.zero_le _, rfl, by simp, by simp; omega, X.out.1, X.out.2.1, by simpa using X.out.2.2, by simp [opsWords]⟩
  case round =>
    clear X q0 q1 q2
    obtain ⟨k, zs, hk, rfl, rfl, hsz, r1, r2, r3, r4⟩ := hrel
    have hzl : zs.length ≤ 4000000 := by
      rw [← r4]
      have h := opsWords_len t (ms.take k) t.toNat (by rw [List.length_take]; have := HZT.out; omega)
      rw [List.length_take, Nat.min_eq_left hk] at h
      omega
    obtain ⟨Aq, cq, rfl, _⟩ := r3.rd
    have R := Lib.hid (And.intro r1 (And.intro r2 r3)); have R4 := Lib.hid r4; clear r1 r2 r3 r4
    obtain ⟨p0, p1, p2, _, _, _⟩ := blkThree R.out.2.1
    by_cases hlt : k < ms.length
    · have hltI : (k : Int) < ms.length := by omega
      obtain ⟨_, _, e2, _, hr⟩ := HAt.out.1
      cases e2
      obtain ⟨b, off, rfl, hbb, hcc⟩ := hr (by omega)
      have hbw : b < w.heap.size := hbb
      obtain ⟨m, hm⟩ : ∃ m, ms[k]? = some m := ⟨_, List.getElem?_eq_getElem hlt⟩
      obtain ⟨d0, d1, d2⟩ := hcc k m hm
      have hop := opsFromB_at (regsB_ok Hv.out).2.1 hm
      rw [Nat.zero_add] at hop
      have hsn : opsWords t t.toNat (ms.take (k + 1)) = opsWords t t.toNat (ms.take k) ++ opWords t (t.toNat + k) m := by
        rw [List.take_add_one, hm, Option.toList_some, opsWords_snoc, List.length_take, Nat.min_eq_left (by omega)]
      obtain ⟨z, a, a'⟩ := m
      rw [opOkB, Bool.and_eq_true, Bool.and_eq_true, decide_eq_true_eq] at hop
      obtain ⟨hz0, ha, ha'⟩ := hop
      have HO := Lib.hid (And.intro ha (And.intro ha' hsn))
      clear hcc hr hm hsn ha ha'
      dsimp only at d0 d1 d2 hz0
      have e0 := (R.out.1.cell (p := ⟨b, off + k * 3, none⟩) hbb).trans d0
      have e1 := (R.out.1.cell (p := ⟨b, off + k * 3 + 1, none⟩) hbb).trans d1
      clear d1
      have D2 := Lib.hid (And.intro d2 d0); clear d2 d0
      obtain ⟨pa, hpa⟩ : ∃ p, putG t a (t.toNat + k) = p := ⟨_, rfl⟩
      have hlpa : pa.length ≤ 31000 := by rw [← hpa]; exact putG_len (by omega)
      have Hpa := Lib.hid hpa; clear hpa
      have hdpa : Below wr.heap.size wr wr.drew := (Below.refl _ _).drew
      have Dpa := Lib.hid (And.intro hdpa (R.out.2.2.below hdpa)); clear hdpa
      obtain ⟨rpa0, rpa1, rpa2, _, _, _⟩ := blkThree R.out.2.1
      go_wp2
      go_region_held3 (fun w' => w'.cell? ⟨w.heap.size, 0, none⟩ = some (.int .i64 t) ∧ w'.cell? ⟨w.heap.size, 1, none⟩ = some (.slice (some ⟨b, off, none⟩) ms.length c0) ∧ w'.cell? ⟨w.heap.size, 2, none⟩ = some (.slice A1 os.length c1) ∧ w'.cell? ⟨b, off + k * 3 + 1, none⟩ = some (.int .i64 a)) (repeat' (first | assumption | apply And.intro | rw [World.cell?_drew])) (first
        | (go_at_call 61; refine (l8Put_any t a _ (t + (k : Int)) (t.toNat + k) k _ _ _ ⟨ht0, ht20⟩ (by omega) HO.out.1 (by omega) (by have := HZT.out; push_cast; omega) (by first | rfl | exact IntWalk.i64_in _ (by omega) | omega) (by omega)).mono ?_; rw [Hpa.out]; rintro e wApa ⟨uA, rfl, huA, hbA⟩; have hsApa : wr.heap.size ≤ wApa.heap.size := hbA.size; obtain ⟨mA0, mA1, mA2, _, _, _⟩ := blkThree (show Blk wApa w.heap.size _ 26 from (hbA.block w.heap.size (by show w.heap.size < wr.heap.size; omega)).trans R.out.2.1); have mA3 := (hbA.cell (p := ⟨b, off + k * 3 + 1, none⟩) (by show b < wr.heap.size; omega)).trans e1; have Apa := Lib.hid (And.intro (show Below wr.heap.size wr.drew wApa from hbA) huA.rd); clear hbA huA)
        | (refine step_append_W8 rfl _ _ _ rfl Try.underlying24 intInfo (w.heap.size + 1) wr.heap.size _ zs rfl (Dpa.out.2.belowB Apa.out.1 (Nat.le_refl _)) (by omega) _ pa rfl Apa.out.2 (by omega) ?_; intro vpa wpa hopa hwpa; have hspa := hwpa.size; obtain ⟨nA0, nA1, nA2, _, _, _⟩ := blkThree (show Blk wpa w.heap.size _ 26 from (hwpa.block w.heap.size (by omega) (by omega)).trans ((Apa.out.1.block w.heap.size (by omega)).trans R.out.2.1)); have nA3 := ((hwpa.below (B := w.heap.size) (by omega) (by omega)).cell (p := ⟨b, off + k * 3 + 1, none⟩) (by show b < w.heap.size; omega)).trans mA3))
      have hzpa : wr.heap.size ≤ wpa.heap.size := by omega
      have T := Lib.hid (And.intro (R.out.1.trans (((Dpa.out.1.trans Apa.out.1).mono (by omega)).trans (hwpa.below (B := w.heap.size) (by omega) (by omega)))) (And.intro (show Blk wpa w.heap.size _ 26 from (hwpa.block w.heap.size (by omega) (by omega)).trans ((Apa.out.1.block w.heap.size (by omega)).trans R.out.2.1)) hopa))
      have Epa := nA3
      clear hwpa hopa mA0 mA1 mA2 mA3 nA0 nA1 nA2 nA3 rpa0 rpa1 rpa2
      have e2 := (T.out.1.cell (p := ⟨b, off + k * 3 + 2, none⟩) hbb).trans D2.out.1
      clear e0 e1 Epa p0 p1 p2
      obtain ⟨z1, hz1⟩ : ∃ l, zs ++ pa = l := ⟨_, rfl⟩
      have hz1l : z1.length ≤ 4031000 := by rw [← hz1, List.length_append]; omega
      rw [hz1] at T
      have HZ1 := Lib.hid hz1
      clear hz1
      obtain ⟨Ap, cp, rfl, _⟩ := T.out.2.2.rd
      obtain ⟨pb, hpb⟩ : ∃ p, putG t a' (t.toNat + (k + 1)) = p := ⟨_, rfl⟩
      have hlpb : pb.length ≤ 31000 := by rw [← hpb]; exact putG_len (by omega)
      have Hpb := Lib.hid hpb; clear hpb
      have hdpb : Below wpa.heap.size wpa wpa.drew := (Below.refl _ _).drew
      have Dpb := Lib.hid (And.intro hdpb (T.out.2.2.below hdpb)); clear hdpb
      obtain ⟨rpb0, rpb1, rpb2, _, _, _⟩ := blkThree T.out.2.1
      go_wp2
      go_region_held3 (fun w' => w'.cell? ⟨w.heap.size, 0, none⟩ = some (.int .i64 t) ∧ w'.cell? ⟨w.heap.size, 1, none⟩ = some (.slice (some ⟨b, off, none⟩) ms.length c0) ∧ w'.cell? ⟨w.heap.size, 2, none⟩ = some (.slice A1 os.length c1) ∧ w'.cell? ⟨b, off + k * 3 + 2, none⟩ = some (.int .i64 a')) (repeat' (first | assumption | apply And.intro | rw [World.cell?_drew])) (first
        | (go_at_call 61; refine (l8Put_any t a' _ (t + (k : Int) + 1) (t.toNat + (k + 1)) k _ _ _ ⟨ht0, ht20⟩ (by omega) HO.out.2.1 (by omega) (by have := HZT.out; push_cast; omega) (by first | rfl | exact IntWalk.i64_in _ (by omega) | omega) (by omega)).mono ?_; rw [Hpb.out]; rintro e wApb ⟨uA, rfl, huA, hbA⟩; have hsApb : wpa.heap.size ≤ wApb.heap.size := hbA.size; obtain ⟨mA0, mA1, mA2, _, _, _⟩ := blkThree (show Blk wApb w.heap.size _ 26 from (hbA.block w.heap.size (by show w.heap.size < wpa.heap.size; omega)).trans T.out.2.1); have mA3 := (hbA.cell (p := ⟨b, off + k * 3 + 2, none⟩) (by show b < wpa.heap.size; omega)).trans e2; have Apb := Lib.hid (And.intro (show Below wpa.heap.size wpa.drew wApb from hbA) huA.rd); clear hbA huA)
        | (refine step_append_W8 rfl _ _ _ rfl Try.underlying24 intInfo (w.heap.size + 1) wpa.heap.size _ z1 rfl (Dpb.out.2.belowB Apb.out.1 (Nat.le_refl _)) (by omega) _ pb rfl Apb.out.2 (by omega) ?_; intro vpb wpb hopb hwpb; have hspb := hwpb.size; obtain ⟨nA0, nA1, nA2, _, _, _⟩ := blkThree (show Blk wpb w.heap.size _ 26 from (hwpb.block w.heap.size (by omega) (by omega)).trans ((Apb.out.1.block w.heap.size (by omega)).trans T.out.2.1)); have nA3 := ((hwpb.below (B := w.heap.size) (by omega) (by omega)).cell (p := ⟨b, off + k * 3 + 2, none⟩) (by show b < w.heap.size; omega)).trans mA3))
      have hzpb : wpa.heap.size ≤ wpb.heap.size := by omega
      have U := Lib.hid (And.intro (T.out.1.trans (((Dpb.out.1.trans Apb.out.1).mono (by omega)).trans (hwpb.below (B := w.heap.size) (by omega) (by omega)))) (And.intro (show Blk wpb w.heap.size _ 26 from (hwpb.block w.heap.size (by omega) (by omega)).trans ((Apb.out.1.block w.heap.size (by omega)).trans T.out.2.1)) hopb))
      have Epb := nA3
      clear hwpb hopb mA0 mA1 mA2 mA3 nA0 nA1 nA2 nA3 rpb0 rpb1 rpb2
      have e0 := (U.out.1.cell (p := ⟨b, off + k * 3, none⟩) hbb).trans D2.out.2
      clear e2 Epb
      obtain ⟨z2, hz2⟩ : ∃ l, z1 ++ pb = l := ⟨_, rfl⟩
      have hz2l : z2.length ≤ 4062000 := by rw [← hz2, List.length_append]; omega
      rw [hz2] at U
      have HZ2 := Lib.hid hz2
      clear hz2
      obtain ⟨Ar, cr, rfl, _⟩ := U.out.2.2.rd
      obtain ⟨u0, u1, u2, _, _, _⟩ := blkThree U.out.2.1
      go_wp2_with (at_builtin; refine wpList_append_z rfl _ _ _ rfl Try.underlying24 intInfo z rfl (wf_near _ (by omega)) (w.heap.size + 1) wpb.heap.size _ z2 rfl U.out.2.2 (by omega) rfl (by omega) ?_)
      intro v5 w5 ho5 hb5 hw5
      have hz5 := hb5.size
      have Z := Lib.hid (And.intro (U.out.1.trans (hb5.mono (by omega))) (And.intro (U.out.2.1.below hb5 (by omega)) ho5)); clear hb5 hw5 ho5
      have hfin : opsWords t t.toNat (ms.take (k + 1)) = z2 ++ [z] := by
        rw [HO.out.2.2, R4.out, ← HZ2.out, ← HZ1.out, opWords, ← Hpa.out, ← Hpb.out]
        simp [List.append_assoc, Nat.add_assoc]
      have HFIN := Lib.hid hfin; clear hfin
      go_wp2
      go_roundw
      case rel => exact ⟨k + 1, z2 ++ [z], by omega, by go_num, by first | (congr 1; push_cast; omega) | (simp; omega) | simp [Int.add_assoc], by omega, Z.out.1, Z.out.2.1, Z.out.2.2, HFIN.out⟩
      case measure => simp [intOf]; omega
    · obtain rfl : k = ms.length := by omega
      have hops : opsWords t t.toNat ms = zs := by have := R4.out; rwa [List.take_length] at this
      have HOPS := Lib.hid hops; clear hops R4
      go_wp2
      go_loopw [4, 7] (fun v i wr => ∃ (k : Nat) (zs2 : List Int), k ≤ os.length ∧ i = .int .i64 k ∧ w.heap.size + 1 ≤ wr.heap.size ∧ Below w.heap.size w wr ∧ Blk wr w.heap.size #[.int .i64 t, .slice A0 ms.length c0, .slice A1 os.length c1] 26 ∧ OwnI wr (w.heap.size + 1) wr.heap.size v zs2 ∧ zs ++ outsWords t (t.toNat + ms.length) (os.take k) = zs2) (fun _ i _ => os.length - (intOf i).toNat)
      case atStart => exact ⟨0, zs, Nat.zero_le _, by first | rfl | simp, hsz, R.out.1, R.out.2.1, R.out.2.2, by simp [outsWords]⟩
      case round =>
        clear R p0 p1 p2
        obtain ⟨k, zs2, hk, rfl, hsz, r1, r2, r3, r4⟩ := hrel
        have hzl2 : zs2.length ≤ 5000000 := by
          rw [← r4]
          have h := outsWords_len t (os.take k) (t.toNat + ms.length) (by rw [List.length_take]; have := HZT.out; omega)
          rw [List.length_take, Nat.min_eq_left hk] at h
          rw [List.length_append]; omega
        obtain ⟨Aq, cq, rfl, _⟩ := r3.rd
        have R := Lib.hid (And.intro r1 (And.intro r2 r3)); have R4 := Lib.hid r4; clear r1 r2 r3 r4
        obtain ⟨p0, p1, p2, _, _, _⟩ := blkThree R.out.2.1
        by_cases hlt2 : k < os.length
        · have hltI : (k : Int) < os.length := by omega
          obtain ⟨_, _, ei, hi, _⟩ := HAt.out.2
          cases ei
          obtain ⟨bb, of2, rfl, hbb, hcc⟩ := hi.at_ (by omega)
          have hcell := (R.out.1.cell (p := ⟨bb, of2 + k, none⟩) hbb).trans (hcc k hlt2)
          have hkn : knownB t ms.length (os.getD k 0) = true := by
            have := List.all_eq_true.1 (regsB_ok Hv.out).2.2 os[k] (List.getElem_mem hlt2)
            simpa [List.getD, List.getElem?_eq_getElem hlt2] using this
          have hsn : outsWords t (t.toNat + ms.length) (os.take (k + 1)) = outsWords t (t.toNat + ms.length) (os.take k) ++ putG t (os.getD k 0) (t.toNat + ms.length + k) := by
            rw [List.take_add_one, List.getElem?_eq_getElem hlt2, Option.toList_some, outsWords_snoc, List.length_take, Nat.min_eq_left (by omega)]
            simp [List.getD, List.getElem?_eq_getElem hlt2]
          have HO := Lib.hid (And.intro hkn hsn); clear hkn hsn hcc hi
          generalize os.getD k 0 = x at *
          obtain ⟨pc, hpc⟩ : ∃ p, putG t x (t.toNat + ms.length + k) = p := ⟨_, rfl⟩
          have hlpc : pc.length ≤ 31000 := by rw [← hpc]; exact putG_len (by omega)
          have Hpc := Lib.hid hpc; clear hpc
          have hdpc : Below wr.heap.size wr wr.drew := (Below.refl _ _).drew
          have Dpc := Lib.hid (And.intro hdpc (R.out.2.2.below hdpc)); clear hdpc
          obtain ⟨rpc0, rpc1, rpc2, _, _, _⟩ := blkThree R.out.2.1
          go_wp2
          go_region_held3 (fun w' => w'.cell? ⟨w.heap.size, 0, none⟩ = some (.int .i64 t) ∧ w'.cell? ⟨w.heap.size, 1, none⟩ = some (.slice A0 ms.length c0) ∧ w'.cell? ⟨w.heap.size, 2, none⟩ = some (.slice (some ⟨bb, of2, none⟩) os.length c1) ∧ w'.cell? ⟨bb, of2 + k, none⟩ = some (.int .i64 x)) (repeat' (first | assumption | apply And.intro | rw [World.cell?_drew])) (first
            | (go_at_call 61; refine (l8Put_any t x _ (t + (ms.length : Int) + (k : Int)) (t.toNat + ms.length + k) ms.length _ _ _ ⟨ht0, ht20⟩ (by omega) HO.out.1 (by omega) (by have := HZT.out; push_cast; omega) (by first | rfl | exact IntWalk.i64_in _ (by omega) | omega) (by omega)).mono ?_; rw [Hpc.out]; rintro e wApc ⟨uA, rfl, huA, hbA⟩; have hsApc : wr.heap.size ≤ wApc.heap.size := hbA.size; obtain ⟨mA0, mA1, mA2, _, _, _⟩ := blkThree (show Blk wApc w.heap.size _ 26 from (hbA.block w.heap.size (by show w.heap.size < wr.heap.size; omega)).trans R.out.2.1); have mA3 := (hbA.cell (p := ⟨bb, of2 + k, none⟩) (by show bb < wr.heap.size; omega)).trans hcell; have Apc := Lib.hid (And.intro (show Below wr.heap.size wr.drew wApc from hbA) huA.rd); clear hbA huA)
            | (refine step_append_W8 rfl _ _ _ rfl Try.underlying24 intInfo (w.heap.size + 1) wr.heap.size _ zs2 rfl (Dpc.out.2.belowB Apc.out.1 (Nat.le_refl _)) (by omega) _ pc rfl Apc.out.2 (by omega) ?_; intro vpc wpc hopc hwpc; have hspc := hwpc.size; obtain ⟨nA0, nA1, nA2, _, _, _⟩ := blkThree (show Blk wpc w.heap.size _ 26 from (hwpc.block w.heap.size (by omega) (by omega)).trans ((Apc.out.1.block w.heap.size (by omega)).trans R.out.2.1)); have nA3 := ((hwpc.below (B := w.heap.size) (by omega) (by omega)).cell (p := ⟨bb, of2 + k, none⟩) (by show bb < w.heap.size; omega)).trans mA3))
          have hzpc : wr.heap.size ≤ wpc.heap.size := by omega
          have T := Lib.hid (And.intro (R.out.1.trans (((Dpc.out.1.trans Apc.out.1).mono (by omega)).trans (hwpc.below (B := w.heap.size) (by omega) (by omega)))) (And.intro (show Blk wpc w.heap.size _ 26 from (hwpc.block w.heap.size (by omega) (by omega)).trans ((Apc.out.1.block w.heap.size (by omega)).trans R.out.2.1)) hopc))
          have Epc := nA3
          clear hwpc hopc mA0 mA1 mA2 mA3 nA0 nA1 nA2 nA3 rpc0 rpc1 rpc2
          have hfin : zs ++ outsWords t (t.toNat + ms.length) (os.take (k + 1)) = zs2 ++ pc := by
            rw [HO.out.2, ← List.append_assoc, R4.out, Hpc.out]
          have HFIN := Lib.hid hfin; clear hfin
          clear Epc hcell
          go_wp2
          go_roundw
          case rel => exact ⟨k + 1, zs2 ++ pc, by omega, by go_num, by omega, T.out.1, T.out.2.1, T.out.2.2, HFIN.out⟩
          case measure => simp [intOf]; omega
        · obtain rfl : k = os.length := by omega
          have hops : opsWords t t.toNat ms ++ outsWords t (t.toNat + ms.length) os = zs2 := by have := R4.out; rwa [List.take_length, ← HOPS.out] at this
          have HOPS2 := Lib.hid hops; clear hops R4
          obtain ⟨M, hM⟩ : ∃ M : Nat, t + (ms.length : Int) = M := ⟨t.toNat + ms.length, by have := HZT.out; push_cast; omega⟩
          have hM2 : t.toNat + ms.length = M := by have := HZT.out; omega
          have HMM := Lib.hid (And.intro hM hM2)
          have hMb : M ≤ 80 := by omega
          clear hM hM2
          go_wp2
          go_loopw [4, 8] (fun v i wr => ∃ (k : Nat) (zs3 : List Int), k ≤ M ∧ i = .int .i64 k ∧ w.heap.size + 1 ≤ wr.heap.size ∧ Below w.heap.size w wr ∧ Blk wr w.heap.size #[.int .i64 t, .slice A0 ms.length c0, .slice A1 os.length c1] 26 ∧ OwnI wr (w.heap.size + 1) wr.heap.size v zs3 ∧ zs2 ++ dropsR os.length k = zs3) (fun _ i _ => M - (intOf i).toNat)
          case atStart => exact ⟨0, zs2, Nat.zero_le _, by first | rfl | simp, hsz, R.out.1, R.out.2.1, R.out.2.2, by simp [dropsR]⟩
          case round =>
            clear R p0 p1 p2
            obtain ⟨k, zs3, hk, rfl, hsz, r1, r2, r3, r4⟩ := hrel
            have hzl3 : zs3.length ≤ 6000000 := by
              rw [← r4, List.length_append, dropsR_len]
              have : (3 * os.length + 1) * k ≤ 61 * 80 := Nat.mul_le_mul (by omega) (by omega)
              omega
            obtain ⟨Aq, cq, rfl, hiq, _⟩ := r3.rd
            have R := Lib.hid (And.intro r1 (And.intro r2 (And.intro r3 hiq))); have R4 := Lib.hid r4; clear r1 r2 r3 r4 hiq
            obtain ⟨p0, p1, p2, _, _, _⟩ := blkThree R.out.2.1
            by_cases hlt3 : k < M
            · have hltI : (k : Int) < t + (ms.length : Int) := by have := HMM.out.1; omega
              have hl0 := lits_own wr [1002] (by simp) (by intro z hz; simp only [List.mem_cons, List.not_mem_nil, or_false] at hz; subst hz; exact wf_near _ (by omega))
              have hb0 : Below wr.heap.size wr (wr.alloc (.cells #[.int .i64 1002] 3)) := (Below.refl _ _).alloc (Nat.le_refl _) _
              have V := Lib.hid (And.intro (show RdI (wr.alloc (.cells #[.int .i64 1002] 3)) (.slice (some ⟨wr.heap.size, 0, none⟩) 1 1) [1002] by simpa using hl0.rd) (And.intro (R.out.2.2.1.below hb0) (And.intro (R.out.1.trans (hb0.mono (by omega))) (R.out.2.1.below hb0 (by omega))))); clear hl0 hb0
              obtain ⟨_, _, vc2, _, _, _⟩ := blkThree V.out.2.2.2
              obtain ⟨us, hus⟩ : ∃ us, underR os.length 1002 = us := ⟨_, rfl⟩
              have hul : us.length ≤ 61 := by rw [← hus, underR_len]; omega
              have HU := Lib.hid hus; clear hus
              go_wp2_with fail
              refine (l7Dips_any os.length 1002 _ _ V.out.1 (by omega)).mono ?_
              rw [HU.out]
              rintro e w2 ⟨u2, rfl, ho, hb⟩
              have hz2 : wr.heap.size + 1 ≤ w2.heap.size := by have := hb.size; simpa using this
              have Y := Lib.hid (And.intro (V.out.2.1.below hb) (And.intro ho.rd (And.intro (V.out.2.2.1.trans (hb.mono (by simp; omega))) (V.out.2.2.2.below hb (by simp; omega))))); clear ho hb V
              go_wp2_with (at_builtin; refine wpList_append_V rfl _ _ _ rfl Try.underlying24 intInfo (w.heap.size + 1) wr.heap.size _ zs3 rfl Y.out.1 (by omega) _ us rfl Y.out.2.1 (by omega) ?_)
              intro v3 w3 ho3 hb3
              have hz3 : w.heap.size + 1 ≤ w3.heap.size := by have := hb3.size; omega
              have Z := Lib.hid (And.intro (Y.out.2.2.1.trans (hb3.mono (by omega))) (And.intro (Y.out.2.2.2.below hb3 (by omega)) ho3)); clear ho3 hb3 Y
              go_wp2
              go_roundw
              case rel => exact ⟨k + 1, zs3 ++ us, by omega, by go_num, hz3, Z.out.1, Z.out.2.1, Z.out.2.2, by rw [dropsR_succ, ← List.append_assoc, R4.out, HU.out]⟩
              case measure => simp [intOf]; omega
            · obtain rfl : k = M := by omega
              have hgeI : ¬ (k : Int) < t + (ms.length : Int) := by have := HMM.out.1; omega
              have hfin : fromR t ms os = zs3 := by
                have := R4.out
                rw [← HOPS2.out, ← HMM.out.2, List.append_assoc] at this
                exact this
              have hval : validB zs3 = decide (zs3.length ≤ 60) := by rw [← hfin]; exact fromR_valid Hv.out
              have HF := Lib.hid hfin; clear hfin
              by_cases hz60 : zs3.length ≤ 60
              · rw [decide_eq_true hz60] at hval
                have HV := Lib.hid hval; clear hval
                obtain ⟨rfl, rfl⟩ : zs3 = y0 ∧ true = y1 := by have := HR.out; rw [progFromR_yes Hv.out (by rw [HF.out]; exact hz60), HF.out] at this; cases this; exact ⟨rfl, rfl⟩
                go_wp2_with (go_at_call 63; refine (specValid_any _ _ zs3 _ R.out.2.2.2).mono ?_; rw [HV.out]; rintro e w' ⟨rfl, rfl⟩)
                go_ret2
                exact ⟨_, rfl, ⟨R.out.2.2.1.own.mono (show w.heap.size ≤ w.heap.size + 1 by omega), R.out.2.2.1.lt⟩, R.out.1⟩
              · rw [decide_eq_false hz60] at hval
                have HV := Lib.hid hval; clear hval
                obtain ⟨rfl, rfl⟩ : [] = y0 ∧ false = y1 := by
                  have := HR.out
                  rw [progFromR_no (fun h => by rw [HF.out] at h; omega)] at this; cases this; exact ⟨rfl, rfl⟩
                have Z := Lib.hid (lit8 R.out.1)
                go_wp2_with (go_at_call 63; refine (specValid_any _ _ zs3 _ R.out.2.2.2).mono ?_; rw [HV.out]; rintro e w' ⟨rfl, rfl⟩)
                go_ret2
                exact ⟨_, rfl, Z.out⟩
end Go.Proofs.Ytklndkhnpbjhoaa
