/- ProgFrom of the program, at registers by value. -/
import Derived.Test.YtklndkhnpbjhoaaOk
import Derived.Test.YtklndkhnpbjhoaaOm
namespace Go.Proofs.Ytklndkhnpbjhoaa
set_option maxRecDepth 100000
open Go.RowKit Go.WideShapes Go.Deep

theorem Own.nil8 (w : World) (lo : Nat) : Own w lo (.slice none 0 0) [] := Own.nil w lo
set_option maxHeartbeats 4000000 in
theorem ProgFrom_I (t : Int) (A0 : Option Addr) (c0 : Nat) (ms : List (Int × Int × Int)) (A1 : Option Addr) (c1 : Nat) (os : List Int) (w : World) (h0 : Rd3 w (.slice A0 ms.length c0) ms) (h1 : RdI w (.slice A1 os.length c1) os) (y0 : List Int) (y1 : Bool) (hR : progFromR t ms os = (y0, y1)) :
    Calls Try.prog 32 #[.agg #[.int .i64 t, .slice A0 ms.length c0, .slice A1 os.length c1]] w (RunG w y0 y1) := by
  have hb : Below w.heap.size w (w.alloc (.cells #[.int .i64 t, .slice A0 ms.length c0, .slice A1 os.length c1] 26)) := (Below.refl _ _).alloc (Nat.le_refl _) _
  have hbk := Blk.new w #[.int .i64 t, .slice A0 ms.length c0, .slice A1 os.length c1] 26
  have H := Lib.hid (And.intro (h0.step hb) (And.intro (h1.step hb) (And.intro hb hbk)))
  have HAt := Lib.hid (And.intro h0 h1.at_)
  have hml := h0.len_le
  have hfl := h1.len_le
  clear h0 h1 hb hbk
  have HR := Lib.hid hR; clear hR
  rcases hv : regsB t ms os with _ | _ <;> have Hv := Lib.hid hv <;> clear hv
  · obtain ⟨rfl, rfl⟩ : [] = y0 ∧ false = y1 := by have := HR.out; rw [progFromR_no (by rw [Hv.out]; simp)] at this; cases this; exact ⟨rfl, rfl⟩
    go_enter Try.func32, Try.ntmps32
    go_wp2_with fail
    refine (RegsValid_I t _ _ ms _ _ os _ H.out.1 H.out.2.1 false Hv.out).mono ?_
    rintro e w1 ⟨rfl, hb1⟩
    have X := Lib.hid (And.intro (nilOwn w1 w.heap.size w1.heap.size) (H.out.2.2.1.trans (hb1.mono (by simp)))); clear hb1
    go_wp2
    go_ret2
    exact ⟨_, rfl, X.out⟩
  obtain ⟨⟨ht0, ht20, hm60, ho20⟩, _⟩ := regsB_ok Hv.out
  go_enter Try.func32, Try.ntmps32
  go_wp2_with fail
  refine (RegsValid_I t _ _ ms _ _ os _ H.out.1 H.out.2.1 true Hv.out).mono ?_
  rintro e w1 ⟨rfl, hb1⟩
  have hs1 : w.heap.size + 1 ≤ w1.heap.size := by have := hb1.size; simpa using this
  have hbk1 := H.out.2.2.2.below hb1 (by simp)
  obtain ⟨p0, p1, p2, _, _, _⟩ := blkThree hbk1
  have hb2 := H.out.2.2.1.trans (hb1.mono (by simp))
  obtain ⟨g, hG⟩ : ∃ g, w1.heap.size = g := ⟨_, rfl⟩
  have hba : Below g w1 (w1.alloc (.cells #[.slice none 0 0, .int .i64 t, .int .i64 t] 81)) := (Below.refl _ _).alloc (by omega) _
  have hmk := Blk.new w1 #[.slice none 0 0, .int .i64 t, .int .i64 t] 81
  rw [hG] at hmk
  have X := Lib.hid (And.intro (hb2.trans (hba.mono (by omega))) (And.intro (hbk1.below hba (by omega)) (MkV.mk hmk (show w.heap.size + 1 ≤ g by omega) (Own.nil8 _ (w.heap.size + 1))))); clear hb1 hb2 hbk1 hba hmk
  obtain ⟨q0, q1, q2, _, _, _⟩ := blkThree X.out.2.1
  have hgG : w.heap.size + 1 ≤ g := by omega
  have hzT : (t.toNat : Int) = t := by omega
  have HZT := Lib.hid hzT; clear hzT
  subst hG
  go_wp2
  go_loopw [22] (fun i wr => ∃ (k : Nat) (zs : List Int) (v : Value), k ≤ ms.length ∧ i = .int .i64 k ∧ Below w.heap.size w wr ∧ Blk wr w.heap.size #[.int .i64 t, .slice A0 ms.length c0, .slice A1 os.length c1] 26 ∧ MkV wr (w.heap.size + 1) w1.heap.size t (t + (k : Int)) v zs ∧ Same60 zs (opsWords t t.toNat (ms.take k)) ∧ zs.length ≤ 1000) (fun i _ => ms.length - (intOf i).toNat)
  case atStart => exact ⟨0, [], _, Nat.zero_le _, rfl, X.out.1, X.out.2.1, by simpa using X.out.2.2, .inl (by simp [opsWords]), by simp⟩
  case round =>
    clear X q0 q1 q2 p0 p1 p2
    obtain ⟨k, zs, v, hk, rfl, r1, r2, r3, r4, r5⟩ := hrel
    obtain ⟨p0, p1, p2, _, _, _⟩ := blkThree r2
    have hgl := r3.blk.lt
    have R := Lib.hid (And.intro r1 (And.intro r2 (And.intro r3 (And.intro r4 r5)))); clear r1 r2 r3 r4
    by_cases hlt : k < ms.length
    · have hltI : (k : Int) < ms.length := by omega
      obtain ⟨_, _, e2, _, hr⟩ := HAt.out.1
      cases e2
      obtain ⟨b, off, rfl, hbb, hcc⟩ := hr (by omega)
      obtain ⟨m, hm⟩ : ∃ m, ms[k]? = some m := ⟨_, List.getElem?_eq_getElem hlt⟩
      obtain ⟨d0, d1, d2⟩ := hcc k m hm
      have hop := opsFromB_at (regsB_ok Hv.out).2.1 hm
      rw [Nat.zero_add] at hop
      have hsn : opsWords t t.toNat (ms.take (k + 1)) = opsWords t t.toNat (ms.take k) ++ opWords t (t.toNat + k) m := by
        rw [List.take_add_one, hm, Option.toList_some, opsWords_snoc, List.length_take, Nat.min_eq_left (by omega)]
      have HO := Lib.hid (And.intro hop hsn)
      clear hcc hr hm hop hsn
      obtain ⟨z, a, a'⟩ := m
      dsimp only at d0 d1 d2
      have e0 := (R.out.1.cell (p := ⟨b, off + k * 3, none⟩) hbb).trans d0
      have e1 := (R.out.1.cell (p := ⟨b, off + k * 3 + 1, none⟩) hbb).trans d1
      have e2 := (R.out.1.cell (p := ⟨b, off + k * 3 + 2, none⟩) hbb).trans d2
      clear d0 d1 d2
      have hba : Below wr.heap.size wr (wr.alloc (.cells #[.int .i64 z, .int .i64 a, .int .i64 a'] 55)) := (Below.refl _ _).alloc (Nat.le_refl _) _
      have V := Lib.hid (And.intro (R.out.1.trans (hba.mono (by omega))) (And.intro (R.out.2.1.below hba (by omega)) (R.out.2.2.1.step hba))); clear hba
      obtain ⟨m1, hm1⟩ : ∃ m1, t + (k : Int) + 1 = m1 := ⟨_, rfl⟩
      have HM1 := Lib.hid hm1
      go_wp2_with fail
      refine (do_any (w.heap.size + 1) w1.heap.size t (t + (k : Int)) m1 (m1 + 1) z a a' (t.toNat + k) k v zs _ V.out.2.2 ⟨ht0, ht20⟩ (by omega) HO.out.1 (by have := HZT.out; push_cast; omega) hm1 rfl (by omega) (by omega) r5).mono ?_
      rintro e w2 ⟨rfl, v2, h2, k2⟩
      have hkb := k2.below V.out.2.2
      have Z := Lib.hid (And.intro (V.out.1.trans (hkb.mono (by omega))) (And.intro (V.out.2.1.below hkb (by omega)) (And.intro h2 (R.out.2.2.2.1.op t (t.toNat + k) (z, a, a'))))); clear h2 k2 hkb
      have hl2 := doW_len (t := t) (many := t.toNat + k) (m := (z, a, a')) r5 (by omega)
      clear hm1
      go_wp2
      go_roundw
      case rel => exact ⟨k + 1, _, v2, by omega, by go_num, Z.out.1, Z.out.2.1, by rw [show t + ((k + 1 : Nat) : Int) = m1 by rw [← HM1.out]; push_cast; omega]; exact Z.out.2.2.1, by rw [HO.out.2]; exact Z.out.2.2.2, hl2⟩
      case measure => simp [intOf]; omega
    · obtain rfl : k = ms.length := by omega
      have hb0 := R.out.2.2.1.blk
      obtain ⟨_, _, g2, _, _, _⟩ := blkThree hb0
      have hj := R.out.2.2.2.1
      rw [List.take_length] at hj
      have HJ := Lib.hid hj; clear hj hb0
      go_wp2
      go_loopw [37] (fun i wr => ∃ (k : Nat) (zs : List Int) (v : Value), k ≤ os.length ∧ i = .int .i64 k ∧ Below w.heap.size w wr ∧ Blk wr w.heap.size #[.int .i64 t, .slice A0 ms.length c0, .slice A1 os.length c1] 26 ∧ MkV wr (w.heap.size + 1) w1.heap.size t (t + (ms.length : Int) + (k : Int)) v zs ∧ Same60 zs (opsWords t t.toNat ms ++ outsWords t (t.toNat + ms.length) (os.take k)) ∧ zs.length ≤ 1000) (fun i _ => os.length - (intOf i).toNat)
      case atStart => exact ⟨0, zs, v, Nat.zero_le _, rfl, R.out.1, R.out.2.1, by simpa using R.out.2.2.1, by simpa [outsWords] using HJ.out, r5⟩
      case round =>
        clear R HJ p0 p1 p2 g2
        obtain ⟨k, zs, v, hk, rfl, r1, r2, r3, r4, r5⟩ := hrel
        obtain ⟨p0, p1, p2, _, _, _⟩ := blkThree r2
        have hgl := r3.blk.lt
        have R := Lib.hid (And.intro r1 (And.intro r2 (And.intro r3 (And.intro r4 r5)))); clear r1 r2 r3 r4
        by_cases hlt2 : k < os.length
        · have hltI : (k : Int) < os.length := by omega
          obtain ⟨_, _, ei, hi, _⟩ := HAt.out.2
          cases ei
          obtain ⟨bb, of2, rfl, hbb, hcc⟩ := hi.at_ (by omega)
          have hcell := (R.out.1.cell (p := ⟨bb, of2 + k, none⟩) hbb).trans (hcc k hlt2)
          have hkn : knownB t ms.length (os.getD k 0) = true := by
            have := List.all_eq_true.1 (regsB_ok Hv.out).2.2 os[k] (List.getElem_mem hlt2)
            simpa [List.getD, List.getElem?_eq_getElem hlt2] using this
          have hsn : outsWords t (t.toNat + ms.length) (os.take (k + 1)) = outsWords t (t.toNat + ms.length) (os.take k) ++ putG t (os.getD k 0) (t.toNat + ms.length + k) := by
            rw [List.take_add_one, List.getElem?_eq_getElem hlt2, Option.toList_some, outsWords_snoc, List.length_take, Nat.min_eq_left (by omega)]
            simp [List.getD, List.getElem?_eq_getElem hlt2]
          have HO := Lib.hid (And.intro hkn hsn); clear hkn hsn hcc hi
          generalize os.getD k 0 = x at *
          obtain ⟨m1, hm1⟩ : ∃ m1, t + (ms.length : Int) + (k : Int) + 1 = m1 := ⟨_, rfl⟩
          have HM1 := Lib.hid hm1
          go_wp2_with fail
          refine (put_any (w.heap.size + 1) w1.heap.size t (t + (ms.length : Int) + (k : Int)) m1 x (t.toNat + ms.length + k) ms.length v zs _ R.out.2.2.1 ⟨ht0, ht20⟩ hm60 HO.out.1 (by have := HZT.out; push_cast; omega) hm1 (by omega) (by omega) r5).mono ?_
          rintro e w2 ⟨rfl, v2, h2, k2⟩
          have hkb := k2.below R.out.2.2.1
          have Z := Lib.hid (And.intro (R.out.1.trans (hkb.mono (by omega))) (And.intro (R.out.2.1.below hkb (by omega)) (And.intro h2 (R.out.2.2.2.1.put t x (t.toNat + ms.length + k))))); clear h2 k2 hkb
          have hl2 := putW_len (t := t) (a := x) (many := t.toNat + ms.length + k) r5 (by omega)
          clear hm1
          go_wp2
          go_roundw
          case rel => exact ⟨k + 1, _, v2, by omega, by go_num, Z.out.1, Z.out.2.1, by rw [show t + (ms.length : Int) + ((k + 1 : Nat) : Int) = m1 by rw [← HM1.out]; push_cast; omega]; exact Z.out.2.2.1, by rw [HO.out.2, ← List.append_assoc]; exact Z.out.2.2.2, hl2⟩
          case measure => simp [intOf]; omega
        · obtain rfl : k = os.length := by omega
          have hj := R.out.2.2.2.1
          rw [List.take_length] at hj
          have HJ := Lib.hid hj; clear hj
          obtain ⟨M, hM⟩ : ∃ M : Nat, t + (ms.length : Int) = M := ⟨t.toNat + ms.length, by have := HZT.out; push_cast; omega⟩
          have hM2 : t.toNat + ms.length = M := by have := HZT.out; omega
          have HMM := Lib.hid (And.intro hM hM2)
          have hMb : M ≤ 80 := by omega
          clear hM
          obtain ⟨N, hN⟩ : ∃ N, t + (ms.length : Int) + (os.length : Int) = N := ⟨_, rfl⟩
          rw [hN] at R
          have HNN := Lib.hid hN
          clear hM2 hN
          go_wp2
          go_loopw [46] (fun i wr => ∃ (k : Nat) (zs : List Int) (v : Value), k ≤ M ∧ i = .int .i64 k ∧ Below w.heap.size w wr ∧ Blk wr w.heap.size #[.int .i64 t, .slice A0 ms.length c0, .slice A1 os.length c1] 26 ∧ MkV wr (w.heap.size + 1) w1.heap.size t N v zs ∧ Same60 zs (opsWords t t.toNat ms ++ outsWords t (t.toNat + ms.length) os ++ dropsR os.length k) ∧ zs.length ≤ 1000) (fun i _ => M - (intOf i).toNat)
          case atStart => exact ⟨0, zs, v, Nat.zero_le _, rfl, R.out.1, R.out.2.1, R.out.2.2.1, by simpa [dropsR] using HJ.out, r5⟩
          case round =>
            clear R HJ p0 p1 p2
            obtain ⟨k, zs, v, hk, rfl, r1, r2, r3, r4, r5⟩ := hrel
            obtain ⟨p0, p1, p2, _, _, _⟩ := blkThree r2
            obtain ⟨Av, cv, rfl, _⟩ := r3.row.ints
            obtain ⟨g0, g1, g2, _, _, _⟩ := blkThree r3.blk
            have hgl := r3.blk.lt
            have R := Lib.hid (And.intro r1 (And.intro r2 (And.intro r3 (And.intro r4 r5)))); clear r1 r2 r3 r4
            by_cases hlt3 : k < M
            · have hltI : (k : Int) < t + (ms.length : Int) := by have := HMM.out.1; omega
              have hw2 : InK .i64 1002 := wf_small _ (by omega)
              have HW2 := Lib.hid hw2; clear hw2
              go_wp2_with fail
              refine (add_any (w.heap.size + 1) w1.heap.size t N _ zs os.length 1002 _ R.out.2.2.1 HW2.out (by omega) r5).mono ?_
              rintro e w2 ⟨rfl, v2, h2, k2⟩
              have hkb := k2.below R.out.2.2.1
              have Z := Lib.hid (And.intro (R.out.1.trans (hkb.mono (by omega))) (And.intro (R.out.2.1.below hkb (by omega)) (And.intro h2 (R.out.2.2.2.1.add os.length 1002)))); clear h2 k2 hkb
              have hl2 := addR_len (n := os.length) (z := 1002) r5 (by omega)
              go_wp2
              go_roundw
              case rel => exact ⟨k + 1, _, v2, by omega, by go_num, Z.out.1, Z.out.2.1, Z.out.2.2.1, by rw [dropsR_succ, ← List.append_assoc]; exact Z.out.2.2.2, hl2⟩
              case measure => simp [intOf]; omega
            · obtain rfl : k = M := by omega
              have hgeI : ¬ (k : Int) < t + (ms.length : Int) := by have := HMM.out.1; omega
              have hfin : Same60 zs (fromR t ms os) := by
                have := R.out.2.2.2.1
                rw [← HMM.out.2, List.append_assoc] at this
                exact this
              have HF := Lib.hid hfin; clear hfin
              by_cases hz60 : zs.length ≤ 60
              · have hI : ¬ (60 : Int) < zs.length := by omega
                have he : zs = fromR t ms os := by
                  rcases HF.out with h | h
                  · exact h
                  · omega
                obtain ⟨rfl, rfl⟩ : zs = y0 ∧ true = y1 := by have := HR.out; rw [progFromR_yes Hv.out (by rw [← he]; exact hz60), ← he] at this; cases this; exact ⟨rfl, rfl⟩
                have Z := Lib.hid (And.intro R.out.2.2.1.row R.out.1); clear he
                go_wp2
                go_ret2
                exact ⟨_, rfl, ⟨Z.out.1.mono (show w.heap.size ≤ w.heap.size + 1 by omega), fun q hq => (Z.out.1.ge q hq).2⟩, Z.out.2⟩
              · have hI : (60 : Int) < zs.length := by omega
                obtain ⟨rfl, rfl⟩ : [] = y0 ∧ false = y1 := by
                  have := HR.out
                  rw [progFromR_no (fun h => by rcases HF.out with h1 | h1; (rw [← h1] at h; omega); omega)] at this; cases this; exact ⟨rfl, rfl⟩
                have Z := Lib.hid (And.intro (nilOwn wr w.heap.size wr.heap.size) R.out.1)
                go_wp2
                go_ret2
                exact ⟨_, rfl, Z.out⟩
end Go.Proofs.Ytklndkhnpbjhoaa
