/- Benches: whether they are valid, by the program and by the model. -/
import Derived.Test.YtdabbjlefpgkmaaDoorAc
import Derived.Test.YtdabbjlefpgkmaaDoorAw
namespace Go.Proofs.YtdabbjlefpgkmaaDoor
set_option maxRecDepth 100000
open Go.RowKit Go.WideShapes

theorem isStackProg_any (v : Value) (p : List Int) (w : World) (h : RdI w v p) (hl : p.length ≤ 1048576) :
    Calls Tryd.prog 43 #[v] w fun e w' => e = .returned (.bool (bsB p)) ∧ Below w.heap.size w w' := by
  have H := Lib.hid h; clear h
  rcases hR : progStackR p with ⟨y, b⟩
  have HB := Lib.hid (show bsB p = b by unfold bsB; rw [hR])
  have HR := Lib.hid hR; clear hR
  go_enter Tryd.func43, Tryd.ntmps43
  go_wp2_with fail
  refine (ProgStack_I v p _ H.out hl y b HR.out).mono ?_
  rintro e w1 ⟨u, rfl, ho, hb⟩
  have B := Lib.hid hb; clear hb ho
  go_wp2
  go_ret
  rw [HB.out]
  exact ⟨rfl, B.out⟩

theorem isStackText_any (S : ByteArray) (w : World) (h0 : S.size ≤ 100000000) (ht : StrTab w 0 opNames) :
    Calls Tryd.prog 44 #[.string S] w fun e w' => e = .returned (.bool (tsB (bytesOf S))) ∧ Below w.heap.size w w' := by
  have HT := Lib.hid ht; clear ht
  rcases hr : readProgR (bytesOf S) with _ | p
  · have HR := Lib.hid (show readProgP (bytesOf S) = ([], false) by unfold readProgP; rw [hr])
    have HB := Lib.hid (show tsB (bytesOf S) = false by unfold tsB; rw [hr]); clear hr
    go_enter Tryd.func44, Tryd.ntmps44
    go_wp2_with fail
    refine (ReadProg_I S _ h0 _ _ HR.out HT.out).mono ?_
    rintro e w1 ⟨u, rfl, ho, hb⟩
    have B := Lib.hid hb; clear hb ho
    go_wp2
    go_ret
    rw [HB.out]
    exact ⟨rfl, B.out⟩
  · have HR := Lib.hid (show readProgP (bytesOf S) = (p, true) by unfold readProgP; rw [hr])
    have HB := Lib.hid (show tsB (bytesOf S) = bsB p by unfold tsB; rw [hr])
    have hl := validB_len (prog_read hr).1
    clear hr
    go_enter Tryd.func44, Tryd.ntmps44
    go_wp2_with fail
    refine (ReadProg_I S _ h0 _ _ HR.out HT.out).mono ?_
    rintro e w1 ⟨u, rfl, ho, hb⟩
    have B := Lib.hid (And.intro hb ho); clear hb ho
    go_wp2_with fail
    refine (isStackProg_any u p _ B.out.2.rd (by omega)).mono ?_
    rintro e w2 ⟨rfl, hb⟩
    have B2 := Lib.hid (B.out.1.trans (hb.mono B.out.1.size)); clear hb B
    go_wp2
    go_ret
    rw [HB.out]
    exact ⟨rfl, B2.out⟩

theorem ts_take_succ {ps : List (List UInt8)} {k : Nat} {s : List UInt8} (h : ps[k]? = some s) : (ps.take (k + 1)).all tsB = ((ps.take k).all tsB && tsB s) := by
  rw [List.take_add_one, h, List.all_append]; simp
theorem ts_no {ps : List (List UInt8)} {k : Nat} {s : List UInt8} (h : ps[k]? = some s) (hs : tsB s = false) : ps.all tsB = false := by
  rw [List.all_eq_false]; exact ⟨s, List.mem_of_getElem? h, by simp [hs]⟩

theorem benchB_all {n : List Int} {ps : List (List UInt8)} (h : bsB n = true) (hl : ps.length ≤ 20) : benchB n ps = ps.all tsB := by
  simp [benchB, h, hl]
theorem BenchValid_I (vn vp : Value) (n : List Int) (ps : List (List UInt8)) (w : World) (h0 : RdI w vn n) (h1 : RdT w vp ps) (hl0 : n.length ≤ 1048576) (hl1 : ps.length ≤ 1048576) (hl2 : ∀ t ∈ ps, t.length ≤ 100000000) (ht : StrTab w 0 opNames) :
    Calls Tryd.prog 14 #[.agg #[vn, vp]] w fun e w' => e = .returned (.bool (benchB n ps)) ∧ Below w.heap.size w w' := by
  have hal : Below w.heap.size w (w.alloc (.cells #[vn, vp] 28)) := (Below.refl _ _).alloc (Nat.le_refl _) _
  have hbk := Blk.new w #[vn, vp] 28
  have hgl := ht.lt
  have S0 := Lib.hid (And.intro (h0.step hal) (And.intro (RdT.step h1 hal) (And.intro hal (And.intro hbk (ht.below hal hgl))))); clear hal ht
  have HL := Lib.hid hl2; clear hl2
  obtain ⟨A0, c0, rfl, _⟩ := h0
  obtain ⟨A1, c1, rfl, _, _, hr⟩ := h1
  obtain ⟨b00, b01, _, _⟩ := blk_pair hbk
  clear hbk
  rcases hb0 : bsB n with _ | _
  · have HB : Hid (benchB n ps = false) := Lib.hid (by simp [benchB, hb0])
    have H0 := Lib.hid hb0; clear hb0
    go_enter Tryd.func14, Tryd.ntmps14
    go_wp2_with fail
    refine (isStackProg_any _ n _ S0.out.1 hl0).mono ?_
    rw [H0.out]
    rintro e w1 ⟨rfl, hb⟩
    have B := Lib.hid (S0.out.2.2.1.trans (hb.mono (by simp))); clear hb S0
    go_wp2
    go_ret
    rw [HB.out]
    exact ⟨rfl, B.out⟩
  · have H0 := Lib.hid hb0
    by_cases h20 : (20 : Int) < ps.length
    · have HB : Hid (benchB n ps = false) := Lib.hid (by simp [benchB, hb0]; intro _; omega)
      clear hb0
      go_enter Tryd.func14, Tryd.ntmps14
      go_wp2_with fail
      refine (isStackProg_any _ n _ S0.out.1 hl0).mono ?_
      rw [H0.out]
      rintro e w1 ⟨rfl, hb⟩
      have hB := S0.out.2.2.2.1.below hb (by simp)
      obtain ⟨b10, b11, _, _⟩ := blk_pair hB
      have B := Lib.hid (S0.out.2.2.1.trans (hb.mono (by simp))); clear hb S0 hB
      go_wp2
      go_ret
      rw [HB.out]
      exact ⟨rfl, B.out⟩
    · have HB : Hid (benchB n ps = ps.all tsB) := Lib.hid (benchB_all hb0 (by omega))
      clear hb0
      go_enter Tryd.func14, Tryd.ntmps14
      go_wp2_with fail
      refine (isStackProg_any _ n _ S0.out.1 hl0).mono ?_
      rw [H0.out]
      rintro e w1 ⟨rfl, hb⟩
      have hz1 := hb.size
      have hz2 : w.heap.size + 1 ≤ w1.heap.size := by simpa using hz1
      have hB := S0.out.2.2.2.1.below hb (by simp)
      obtain ⟨b10, b11, _, _⟩ := blk_pair hB
      have B := Lib.hid (And.intro (RdT.step S0.out.2.1 hb) (And.intro (S0.out.2.2.1.trans (hb.mono (by simp))) (S0.out.2.2.2.2.below hb (by rw [World.size_alloc]; omega)))); clear hb hB b00 b01 S0
      go_wp2
      clear b10 b11
      go_loopw [18] (fun i wr => ∃ k : Nat, k ≤ ps.length ∧ i = .int .i64 k ∧ (ps.take k).all tsB = true ∧ Below w1.heap.size w1 wr) (fun i _ => ps.length - (intOf i).toNat)
      case atStart => exact ⟨0, Nat.zero_le _, rfl, rfl, Below.refl _ _⟩
      case round =>
        obtain ⟨k, hk, rfl, hall, hbk⟩ := hrel
        have hzk := hbk.size
        by_cases hlt : k < ps.length
        · obtain ⟨s, hs⟩ : ∃ s, ps[k]? = some s := ⟨_, List.getElem?_eq_getElem hlt⟩
          obtain ⟨A', c', he, _, _, hr1⟩ := B.out.1
          cases he
          obtain ⟨b, off, rfl, hbb, hc⟩ := hr1 (by omega)
          have hcell := (hbk.cell (p := ⟨b, off + k, none⟩) hbb).trans (hc k s hs)
          have hsl := HL.out s (List.mem_of_getElem? hs)
          obtain ⟨S, hS⟩ : ∃ S : ByteArray, (⟨s.toArray⟩ : ByteArray) = S := ⟨_, rfl⟩
          have hSz : S.size ≤ 100000000 := by rw [← hS]; simp [ByteArray.size]; omega
          have HSb : Hid (bytesOf S = s) := Lib.hid (by rw [← hS, bytes_mk])
          rw [hS] at hcell
          have hsucc := Lib.hid (ts_take_succ hs)
          have hno := Lib.hid (ts_no hs)
          have X := Lib.hid (And.intro hall (And.intro hbk (B.out.2.2.below hbk (by have := B.out.2.1.size; omega))))
          have hltI : (k : Int) < ps.length := by omega
          clear hc hr1 hs hS hall hbk
          rcases htb : tsB s with _ | _
          · have HN := Lib.hid htb; clear htb
            go_wp2_with fail
            refine (isStackText_any S _ hSz X.out.2.2).mono ?_
            rw [HSb.out, HN.out]
            rintro e w2 ⟨rfl, hb⟩
            have B2 := Lib.hid (B.out.2.1.trans ((X.out.2.1.trans (hb.mono hzk)).mono (by have := B.out.2.1.size; omega))); clear hb
            go_wp2
            go_ret
            rw [HB.out, hno.out HN.out]
            exact ⟨rfl, B2.out⟩
          · have HN := Lib.hid htb; clear htb
            go_wp2_with fail
            refine (isStackText_any S _ hSz X.out.2.2).mono ?_
            rw [HSb.out, HN.out]
            rintro e w2 ⟨rfl, hb⟩
            have B2 := Lib.hid (And.intro (show (ps.take (k + 1)).all tsB = true by rw [hsucc.out, X.out.1, HN.out]; rfl) (X.out.2.1.trans (hb.mono hzk))); clear hb
            go_wp2
            go_roundw
            case rel => exact ⟨k + 1, by omega, by go_num, B2.out⟩
            case measure => simp [intOf]; omega
        · obtain rfl : k = ps.length := by omega
          rw [List.take_of_length_le (Nat.le_refl _)] at hall
          have X := Lib.hid (And.intro hall (B.out.2.1.trans (hbk.mono (by have := B.out.2.1.size; omega))))
          clear hall hbk
          go_wp2
          go_ret
          rw [HB.out, X.out.1]
          exact ⟨rfl, X.out.2⟩

theorem l10Stack_any (S : ByteArray) (w : World) (h0 : S.size ≤ 100000000) :
    Calls Tryd.prog 39 #[.string S] w fun e w' => e = .returned (.bool (tsB (bytesOf S))) ∧ Below w.heap.size w w' := by
  rcases hR : readProgP (bytesOf S) with ⟨p, b⟩
  have hl := readProgP_valid (bytesOf S)
  rw [hR] at hl
  have hl2 := validB_len hl
  rcases hP : progStackR p with ⟨q, c⟩
  have HB := Lib.hid (show tsB (bytesOf S) = (b && c) by
    unfold tsB
    unfold readProgP at hR
    rcases hr : readProgR (bytesOf S) with _ | p'
    · rw [hr] at hR; cases hR; rfl
    · rw [hr] at hR; cases hR
      show bsB p = _
      unfold bsB; rw [hP]; rfl)
  have HR := Lib.hid hR
  have HP := Lib.hid hP
  clear hR hP hl
  rcases b with _ | _
  all_goals
    go_enter Tryd.func39, Tryd.ntmps39
    go_wp2_with fail
    refine (ReadProg_S S _ h0 _ _ HR.out).mono ?_
    rintro e w1 ⟨u, rfl, ho, hb⟩
    have B := Lib.hid (And.intro hb ho); clear hb ho
    go_wp2_with fail
    refine (ProgStack_S u p _ B.out.2.rd (by omega) q c HP.out).mono ?_
    rintro e w2 ⟨u2, rfl, _, hb⟩
    have B2 := Lib.hid (B.out.1.trans (hb.mono B.out.1.size)); clear hb B
    go_wp2
    go_ret
    rw [HB.out]
    exact ⟨rfl, B2.out⟩

theorem BenchValid_S (vn vp : Value) (n : List Int) (ps : List (List UInt8)) (w : World) (h0 : RdI w vn n) (h1 : RdT w vp ps) (hl0 : n.length ≤ 1048576) (hl1 : ps.length ≤ 1048576) (hl2 : ∀ t ∈ ps, t.length ≤ 100000000) :
    Calls Tryd.prog 12 #[.agg #[vn, vp]] w fun e w' => e = .returned (.bool (benchB n ps)) ∧ Below w.heap.size w w' := by
  have hal : Below w.heap.size w (w.alloc (.cells #[vn, vp] 28)) := (Below.refl _ _).alloc (Nat.le_refl _) _
  have hbk := Blk.new w #[vn, vp] 28
  have S0 := Lib.hid (And.intro (h0.step hal) (And.intro (RdT.step h1 hal) (And.intro hal hbk))); clear hal hbk
  have HL := Lib.hid hl2; clear hl2
  obtain ⟨A0, c0, rfl, _⟩ := h0
  obtain ⟨A1, c1, rfl, _, _, _⟩ := h1
  rcases hP : progStackR n with ⟨q, c⟩
  have HP := Lib.hid hP
  have HBs := Lib.hid (show bsB n = c by unfold bsB; rw [hP]); clear hP
  obtain ⟨b00, b01, _, _⟩ := blk_pair S0.out.2.2.2
  go_enter Tryd.func12, Tryd.ntmps12
  go_wp2
  clear b00 b01
  go_loopw [3] (fun i wr => ∃ k : Nat, k ≤ ps.length ∧ i = .int .i64 k ∧ (ps.take k).all tsB = true ∧ Below (w.heap.size + 1) (w.alloc (.cells #[.slice A0 n.length c0, .slice A1 ps.length c1] 28)) wr) (fun i _ => ps.length - (intOf i).toNat)
  case atStart => exact ⟨0, Nat.zero_le _, rfl, rfl, Below.refl _ _⟩
  case round =>
    obtain ⟨k, hk, rfl, hall, hbk⟩ := hrel
    have hzk : w.heap.size + 1 ≤ wr.heap.size := by have := hbk.size; simpa using this
    have hB := Blk.below (B := w.heap.size + 1) S0.out.2.2.2 hbk (by omega)
    obtain ⟨b10, b11, _, _⟩ := blk_pair hB
    clear hB
    by_cases hlt : k < ps.length
    · obtain ⟨s, hs⟩ : ∃ s, ps[k]? = some s := ⟨_, List.getElem?_eq_getElem hlt⟩
      obtain ⟨A', c', he, _, _, hr1⟩ := S0.out.2.1
      cases he
      obtain ⟨b, off, rfl, hbb, hc⟩ := hr1 (by omega)
      rw [World.size_alloc] at hbb
      have hcell := (hbk.cell (p := ⟨b, off + k, none⟩) hbb).trans (hc k s hs)
      have hsl := HL.out s (List.mem_of_getElem? hs)
      obtain ⟨S, hS⟩ : ∃ S : ByteArray, (⟨s.toArray⟩ : ByteArray) = S := ⟨_, rfl⟩
      have hSz : S.size ≤ 100000000 := by rw [← hS]; simp [ByteArray.size]; omega
      have HSb : Hid (bytesOf S = s) := Lib.hid (by rw [← hS, bytes_mk])
      rw [hS] at hcell
      have hsucc := Lib.hid (ts_take_succ hs)
      have hno := Lib.hid (ts_no hs)
      have X := Lib.hid (And.intro hall hbk)
      have hltI : (k : Int) < ps.length := by omega
      clear hc hr1 hs hS hall hbk
      rcases htb : tsB s with _ | _
      · have HN := Lib.hid htb; clear htb
        go_wp2_with fail
        refine (l10Stack_any S _ hSz).mono ?_
        rw [HSb.out, HN.out]
        rintro e w2 ⟨rfl, hb⟩
        have B2 := Lib.hid (S0.out.2.2.1.trans ((X.out.2.trans (hb.mono hzk)).mono (by omega))); clear hb
        have HB := Lib.hid (show benchB n ps = false by simp [benchB, hno.out HN.out])
        go_wp2
        go_ret
        rw [HB.out]
        exact ⟨rfl, B2.out⟩
      · have HN := Lib.hid htb; clear htb
        go_wp2_with fail
        refine (l10Stack_any S _ hSz).mono ?_
        rw [HSb.out, HN.out]
        rintro e w2 ⟨rfl, hb⟩
        have B2 := Lib.hid (And.intro (show (ps.take (k + 1)).all tsB = true by rw [hsucc.out, X.out.1, HN.out]; rfl) (X.out.2.trans (hb.mono hzk))); clear hb
        go_wp2
        go_roundw
        case rel => exact ⟨k + 1, by omega, by go_num, B2.out⟩
        case measure => simp [intOf]; omega
    · obtain rfl : k = ps.length := by omega
      rw [List.take_of_length_le (Nat.le_refl _)] at hall
      have X := Lib.hid (And.intro hall hbk)
      clear hall
      have HI := Lib.hid (RdBI.rd (RdBI.below (RdI.at_ S0.out.1) (by rw [World.size_alloc]; exact hbk)) (by rw [World.size_alloc]; omega))
      clear hbk
      go_wp2_with fail
      refine (ProgStack_S _ n _ HI.out (by omega) q c HP.out).mono ?_
      rintro e w2 ⟨u2, rfl, _, hb⟩
      have hz2 := hb.size
      have hB := (Blk.below (B := w.heap.size + 1) S0.out.2.2.2 X.out.2 (by omega)).below hb (by omega)
      obtain ⟨b20, b21, _, _⟩ := blk_pair hB
      have B2 := Lib.hid (S0.out.2.2.1.trans ((X.out.2.trans (hb.mono hzk)).mono (by omega))); clear hb hB
      rcases c with _ | _
      · have HB := Lib.hid (show benchB n ps = false by simp [benchB, HBs.out])
        go_wp2
        go_ret
        rw [HB.out]
        exact ⟨rfl, B2.out⟩
      · by_cases h20 : ps.length ≤ 20
        · have HB := Lib.hid (show benchB n ps = true by rw [benchB_all HBs.out h20]; exact X.out.1)
          have h20b : (decide ((ps.length : Int) ≤ 20)) = true := by simp; omega
          go_wp2
          go_ret
          rw [HB.out]
          exact ⟨by first | rfl | (simp; omega), B2.out⟩
        · have HB := Lib.hid (show benchB n ps = false by simp [benchB]; intro _ h; omega)
          have h20b : (decide ((ps.length : Int) ≤ 20)) = false := by simp; omega
          go_wp2
          go_ret
          rw [HB.out]
          exact ⟨by first | rfl | (simp; omega), B2.out⟩
end Go.Proofs.YtdabbjlefpgkmaaDoor
