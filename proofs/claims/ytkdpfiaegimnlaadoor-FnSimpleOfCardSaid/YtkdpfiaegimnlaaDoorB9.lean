/- Several texts in one. -/
import Derived.Test.YtkdpfiaegimnlaaDoorVp
import Derived.Test.YtkdpfiaegimnlaaDoorBa
import Derived.Test.YtkdpfiaegimnlaaDoorSl
import Derived.Test.YtkdpfiaegimnlaaDoorMo
import Derived.Deep.RegionWith
import Derived.Test.YtkdpfiaegimnlaaDoorB5
/- Rows of moves: slices of structs of two integers, that are read. -/
namespace Go.Proofs.YtkdpfiaegimnlaaDoor
set_option maxRecDepth 100000
open Go.RowKit Go.WideShapes

theorem movedR_drop {q : List Int} {ms : List (Int × Int)} {k : Nat} {m : Int × Int} (h : ms[k]? = some m) : movedR q (ms.drop k) = if (moveDoR q m.1 m.2).2 = true then movedR (moveDoR q m.1 m.2).1 (ms.drop (k + 1)) else none := by
  have hk : k < ms.length := by
    rcases Nat.lt_or_ge k ms.length with h1 | h1
    · exact h1
    · rw [List.getElem?_eq_none h1] at h; cases h
  rw [List.drop_eq_getElem_cons hk, movedR]
  rw [List.getElem?_eq_getElem hk] at h
  injection h with h
  rw [h]
theorem proofRunR_bad {p : List Int} {ms : List (Int × Int)} (h : ¬ (validB p = true ∧ ms.length ≤ 100)) : proofRunR p ms = ([], false) := by
  unfold proofRunR; rw [if_neg h]

set_option maxHeartbeats 2000000 in
theorem ProofRun_S (v0 : Value) (x0 : List Int) (v1 : Value) (ms : List (Int × Int)) (w : World) (h0 : RdI w v0 x0) (hl0 : x0.length ≤ 1048576) (h1 : RdM w v1 ms) (y0 : List Int) (y1 : Bool) (hR : proofRunR x0 ms = (y0, y1)) :
    Calls Tryd.prog 21 #[v0, v1] w (AhPost w y0 y1) := by
  have H := Lib.hid (And.intro h0 h1)
  have HR := Lib.hid hR; clear hR
  obtain ⟨A, c, rfl, hi, hc⟩ := h0
  have HI := Lib.hid hi; clear hi
  obtain ⟨A1, c1, rfl, hm, _⟩ := h1
  have L0 := Lib.hid (lit_nil w)
  rcases hv : validB x0 with _ | _ <;> have Hv := Lib.hid hv <;> clear hv
  · obtain ⟨rfl, rfl⟩ : [] = y0 ∧ false = y1 := by have := HR.out; rw [proofRunR_bad (by rw [Hv.out]; simp)] at this; cases this; exact ⟨rfl, rfl⟩
    go_enter Tryd.func21, Tryd.ntmps21
    go_wp2_with (go_at_call 15; refine (specValid_any A c x0 _ HI.out).mono ?_; rw [Hv.out]; rintro e w' ⟨rfl, rfl⟩)
    go_ret2
    exact ⟨_, rfl, L0.out.1, L0.out.2⟩
  by_cases hl : 100 < ms.length
  · obtain ⟨rfl, rfl⟩ : [] = y0 ∧ false = y1 := by have := HR.out; rw [proofRunR_bad (by omega)] at this; cases this; exact ⟨rfl, rfl⟩
    have hlI : (100 : Int) < ms.length := by omega
    go_enter Tryd.func21, Tryd.ntmps21
    go_wp2_with (go_at_call 15; refine (specValid_any A c x0 _ HI.out).mono ?_; rw [Hv.out]; rintro e w' ⟨rfl, rfl⟩)
    go_ret2
    exact ⟨_, rfl, L0.out.1, L0.out.2⟩
  have hlI : ¬ ((100 : Int) < ms.length) := by omega
  have HS := Lib.hid (H.out.1.step L0.out.2)
  go_enter Tryd.func21, Tryd.ntmps21
  go_wp2_with fail
  refine (specValid_any A c x0 _ HI.out).mono ?_
  rw [Hv.out]
  rintro e w' ⟨rfl, rfl⟩
  have hok : (if True then match movedR x0 ms with
    | none => ([], false)
    | some q => (q, true) else ([], false)) = (y0, y1) := by
    have := HR.out
    unfold proofRunR at this
    rw [if_pos ⟨Hv.out, by omega⟩] at this
    rw [if_pos trivial]; exact this
  rw [if_pos trivial] at hok
  have HO := Lib.hid hok; clear hok HR
  go_wp2_with (at_builtin; refine wpList_append_V rfl _ _ _ rfl Tryd.underlying23 intInfo w.heap.size (w.alloc (.cells #[] 3)).heap.size _ [] rfl L0.out.1 (by simp) _ x0 rfl HS.out (by simp; omega) ?_)
  intro v1 w1 hown hb1
  have hs1 : w.heap.size + 1 ≤ w1.heap.size := by have := hb1.size; simpa using this
  have S1 := Lib.hid (And.intro (L0.out.2.trans hb1) hown)
  clear hown hb1 L0 HS
  go_wp2
  go_loopw [6, 7] (fun q i wr => ∃ (k : Nat) (zs : List Int), k ≤ ms.length ∧ i = .int .i64 k ∧ w.heap.size ≤ wr.heap.size ∧ Below w.heap.size w wr ∧ OwnI wr w.heap.size wr.heap.size q zs ∧ validB zs = true ∧ movedR zs (ms.drop k) = movedR x0 ms) (fun _ i _ => ms.length - (intOf i).toNat)
  case atStart => exact ⟨0, x0, Nat.zero_le _, rfl, by omega, S1.out.1, S1.out.2, Hv.out, by simp⟩
  case round =>
    clear S1
    obtain ⟨k, zs, hk, rfl, hsz, hbk, hown, hvz, hmv⟩ := hrel
    obtain ⟨Aq, cq, rfl, _⟩ := hown.rd
    have hvl := validB_len hvz
    have X := Lib.hid (And.intro hbk (And.intro hown (And.intro hvz hmv))); clear hbk hown hvz hmv
    by_cases hlt : k < ms.length
    · obtain ⟨A2, c2, e2, _, hr⟩ := H.out.2
      cases e2
      obtain ⟨b, off, rfl, hbb, hcc⟩ := hr (by omega)
      have hz : ms[k]? = some ms[k] := List.getElem?_eq_getElem hlt
      obtain ⟨d0, d1⟩ := hcc k _ hz
      have hmd := movedR_drop (q := zs) hz
      generalize ms[k] = m at *
      obtain ⟨z, a⟩ := m
      have e0 := (X.out.1.cell (p := ⟨b, off + k * 2, none⟩) hbb).trans d0
      have e1 := (X.out.1.cell (p := ⟨b, off + k * 2 + 1, none⟩) hbb).trans d1
      dsimp only at e0 e1 hmd
      have HMD := Lib.hid hmd; clear hmd d0 d1 hcc hz
      have hltI : (k : Int) < ms.length := by omega
      rcases hm : moveDoR zs z a with ⟨r, bb⟩
      have Hm := Lib.hid hm
      rw [hm] at HMD
      dsimp only at HMD
      clear hm
      go_wp2_with fail
      refine (MoveDo_S _ zs z a _ X.out.2.1.rd (by omega) r bb Hm.out).mono ?_
      rintro e w2 ⟨u, rfl, ho, hb2⟩
      have hz2 := hb2.size
      have hbw := X.out.1.trans (hb2.mono hsz)
      rcases bb with _ | _
      · have hn := HMD.out
        rw [if_neg (by simp)] at hn
        obtain ⟨rfl, rfl⟩ : [] = y0 ∧ false = y1 := by have := HO.out; rw [← X.out.2.2.2, hn] at this; cases this; exact ⟨rfl, rfl⟩
        have L := Lib.hid (lit_out hbw); clear hbw hb2 ho X
        go_wp2
        go_ret2
        exact ⟨_, rfl, L.out.1, L.out.2⟩
      · have hn := HMD.out
        rw [if_pos rfl] at hn
        have Z := Lib.hid (And.intro hbw (And.intro (OwnI.mk (ho.own.mono hsz) ho.lt) (And.intro (moveDoR_ok Hm.out).2 (hn.symm.trans X.out.2.2.2)))); clear hbw hb2 ho X hn
        go_wp2
        go_roundw
        case rel => exact ⟨k + 1, r, by omega, by go_num, by omega, Z.out⟩
        case measure => simp [intOf]; omega
    · obtain rfl : k = ms.length := by omega
      have hmz := X.out.2.2.2
      rw [List.drop_length] at hmz
      obtain ⟨rfl, rfl⟩ : zs = y0 ∧ true = y1 := by have := HO.out; rw [← hmz] at this; cases this; exact ⟨rfl, rfl⟩
      clear hmz
      go_wp2
      go_ret2
      exact ⟨_, rfl, X.out.2.1, X.out.1⟩

set_option maxHeartbeats 2000000 in
theorem ProofRun_I (v0 : Value) (x0 : List Int) (v1 : Value) (ms : List (Int × Int)) (w : World) (h0 : RdI w v0 x0) (hl0 : x0.length ≤ 1048576) (h1 : RdM w v1 ms) (y0 : List Int) (y1 : Bool) (hR : proofRunR x0 ms = (y0, y1)) (ht : IntTab w 0 takesL) :
    Calls Tryd.prog 24 #[v0, v1] w (AhPost w y0 y1) := by
  have hgl := ht.lt
  have HT := Lib.hid ht; clear ht
  have H := Lib.hid (And.intro h0 h1)
  have HR := Lib.hid hR; clear hR
  obtain ⟨A, c, rfl, hi, hc⟩ := h0
  have HI := Lib.hid hi; clear hi
  obtain ⟨A1, c1, rfl, hm, _⟩ := h1
  rcases hv : validB x0 with _ | _ <;> have Hv := Lib.hid hv <;> clear hv
  · obtain ⟨rfl, rfl⟩ : [] = y0 ∧ false = y1 := by have := HR.out; rw [proofRunR_bad (by rw [Hv.out]; simp)] at this; cases this; exact ⟨rfl, rfl⟩
    go_enter Tryd.func24, Tryd.ntmps24
    go_wp2_with (go_at_call 17; refine (ProgValid_any A c x0 _ HI.out).mono ?_; rw [Hv.out]; rintro e w' ⟨rfl, rfl⟩)
    go_ret2
    exact ⟨_, rfl, OwnI.nil _ _ _, Below.refl _ _⟩
  by_cases hl : 100 < ms.length
  · obtain ⟨rfl, rfl⟩ : [] = y0 ∧ false = y1 := by have := HR.out; rw [proofRunR_bad (by omega)] at this; cases this; exact ⟨rfl, rfl⟩
    have hlI : (100 : Int) < ms.length := by omega
    go_enter Tryd.func24, Tryd.ntmps24
    go_wp2_with (go_at_call 17; refine (ProgValid_any A c x0 _ HI.out).mono ?_; rw [Hv.out]; rintro e w' ⟨rfl, rfl⟩)
    go_ret2
    exact ⟨_, rfl, OwnI.nil _ _ _, Below.refl _ _⟩
  have hlI : ¬ ((100 : Int) < ms.length) := by omega
  go_enter Tryd.func24, Tryd.ntmps24
  go_wp2_with fail
  refine (ProgValid_any A c x0 _ HI.out).mono ?_
  rw [Hv.out]
  rintro e w' ⟨rfl, rfl⟩
  have hok : (match movedR x0 ms with
    | none => (([] : List Int), false)
    | some q => (q, true)) = (y0, y1) := by
    have := HR.out
    unfold proofRunR at this
    rw [if_pos ⟨Hv.out, by omega⟩] at this
    exact this
  have HO := Lib.hid hok; clear hok HR
  go_wp2_with fail
  refine (Clone_rd _ x0 _ H.out.1 (by omega)).mono ?_
  rintro e w1 ⟨v1, rfl, hown, hb1⟩
  have hs1 : w.heap.size ≤ w1.heap.size := hb1.size
  have S1 := Lib.hid (And.intro hb1 hown)
  clear hown hb1
  go_wp2
  go_loopw [6, 22] (fun q i wr => ∃ (k : Nat) (zs : List Int), k ≤ ms.length ∧ i = .int .i64 k ∧ w.heap.size ≤ wr.heap.size ∧ Below w.heap.size w wr ∧ OwnI wr w.heap.size wr.heap.size q zs ∧ validB zs = true ∧ movedR zs (ms.drop k) = movedR x0 ms) (fun _ i _ => ms.length - (intOf i).toNat)
  case atStart => exact ⟨0, x0, Nat.zero_le _, rfl, hs1, S1.out.1, S1.out.2, Hv.out, by simp⟩
  case round =>
    clear S1
    obtain ⟨k, zs, hk, rfl, hsz, hbk, hown, hvz, hmv⟩ := hrel
    obtain ⟨Aq, cq, rfl, _⟩ := hown.rd
    have hvl := validB_len hvz
    have X := Lib.hid (And.intro hbk (And.intro hown (And.intro hvz hmv))); clear hbk hown hvz hmv
    by_cases hlt : k < ms.length
    · obtain ⟨A2, c2, e2, _, hr⟩ := H.out.2
      cases e2
      obtain ⟨b, off, rfl, hbb, hcc⟩ := hr (by omega)
      have hz : ms[k]? = some ms[k] := List.getElem?_eq_getElem hlt
      obtain ⟨d0, d1⟩ := hcc k _ hz
      have hmd := movedR_drop (q := zs) hz
      generalize ms[k] = m at *
      obtain ⟨z, a⟩ := m
      have e0 := (X.out.1.cell (p := ⟨b, off + k * 2, none⟩) hbb).trans d0
      have e1 := (X.out.1.cell (p := ⟨b, off + k * 2 + 1, none⟩) hbb).trans d1
      dsimp only at e0 e1 hmd
      have HMD := Lib.hid hmd; clear hmd d0 d1 hcc hz
      have hltI : (k : Int) < ms.length := by omega
      rcases hm : moveDoR zs z a with ⟨r, bb⟩
      have Hm := Lib.hid hm
      rw [hm] at HMD
      dsimp only at HMD
      clear hm
      have hba : Below wr.heap.size wr (wr.alloc (.cells #[.int .i64 z, .int .i64 a] 62)) := (Below.refl _ _).alloc (Nat.le_refl _) _
      have XA := Lib.hid (And.intro (X.out.2.1.rd.step hba) (X.out.1.trans (hba.mono hsz))); clear hba
      go_wp2_with fail
      refine (MoveDo_I _ zs z a _ XA.out.1 (by omega) r bb Hm.out (HT.out.below XA.out.2 hgl)).mono ?_
      rintro e w2 ⟨u, rfl, ho, hb2⟩
      have hz2 : wr.heap.size + 1 ≤ w2.heap.size := by have := hb2.size; simpa using this
      have hbw : Below w.heap.size w w2 := XA.out.2.trans (hb2.mono (by simp; omega))
      rcases bb with _ | _
      · have hn := HMD.out
        rw [if_neg (by simp)] at hn
        obtain ⟨rfl, rfl⟩ : [] = y0 ∧ false = y1 := by have := HO.out; rw [← X.out.2.2.2, hn] at this; cases this; exact ⟨rfl, rfl⟩
        have L := Lib.hid hbw; clear hbw hb2 ho X XA
        go_wp2
        go_ret2
        exact ⟨_, rfl, OwnI.nil _ _ _, L.out⟩
      · have hn := HMD.out
        rw [if_pos rfl] at hn
        have Z := Lib.hid (And.intro hbw (And.intro (OwnI.mk (ho.own.mono (show w.heap.size ≤ (wr.alloc (.cells #[.int .i64 z, .int .i64 a] 62)).heap.size by simp; omega)) ho.lt) (And.intro (moveDoR_ok Hm.out).2 (hn.symm.trans X.out.2.2.2)))); clear hbw hb2 ho X XA hn
        go_wp2
        go_roundw
        case rel => exact ⟨k + 1, r, by omega, by go_num, by omega, Z.out⟩
        case measure => simp [intOf]; omega
    · obtain rfl : k = ms.length := by omega
      have hmz := X.out.2.2.2
      rw [List.drop_length] at hmz
      obtain ⟨rfl, rfl⟩ : zs = y0 ∧ true = y1 := by have := HO.out; rw [← hmz] at this; cases this; exact ⟨rfl, rfl⟩
      clear hmz
      go_wp2
      go_ret2
      exact ⟨_, rfl, X.out.2.1, X.out.1⟩

def proofOkR (p q : List Int) (ms : List (Int × Int)) : Bool := (proofRunR p ms).2 && decide ((proofRunR p ms).1 = q)

theorem ProofOk_I (v0 : Value) (x0 : List Int) (v1 : Value) (x1 : List Int) (v2 : Value) (ms : List (Int × Int)) (w : World) (h0 : RdI w v0 x0) (hl0 : x0.length ≤ 1048576) (h1 : RdI w v1 x1) (_hl1 : x1.length ≤ 1048576) (h2 : RdM w v2 ms) (y0 : Bool) (hR : proofOkR x0 x1 ms = y0) (ht : IntTab w 0 takesL) :
    Calls Tryd.prog 6 #[v0, v1, v2] w fun e w' => e = .returned (.bool y0) ∧ Below w.heap.size w w' := by
  have H := Lib.hid (And.intro h0 (And.intro h1 h2))
  have HT := Lib.hid ht; clear ht
  rcases hr : proofRunR x0 ms with ⟨r, b⟩
  have HR := Lib.hid hr
  unfold proofOkR at hR
  rw [hr] at hR
  dsimp only at hR
  clear hr
  obtain ⟨A0, c0, rfl, _⟩ := h0
  obtain ⟨A1, c1, rfl, _⟩ := h1
  obtain ⟨A2, c2, rfl, _⟩ := h2
  rcases b with _ | _
  · obtain rfl : false = y0 := by simpa using hR
    clear hR
    go_enter Tryd.func6, Tryd.ntmps6
    go_wp2_with fail
    refine (ProofRun_I _ x0 _ ms _ H.out.1 hl0 H.out.2.2 r false HR.out HT.out).mono ?_
    rintro e w1 ⟨u, rfl, ho, hb⟩
    have X := Lib.hid hb; clear hb ho
    go_wp2
    go_ret
    exact ⟨rfl, X.out⟩
  · generalize hb0 : decide (r = x1) = b0
    have HB := Lib.hid hb0
    obtain rfl : b0 = y0 := by rw [← hb0]; simpa using hR
    clear hR hb0
    go_enter Tryd.func6, Tryd.ntmps6
    go_wp2_with fail
    refine (ProofRun_I _ x0 _ ms _ H.out.1 hl0 H.out.2.2 r true HR.out HT.out).mono ?_
    rintro e w1 ⟨u, rfl, ho, hb⟩
    have X := Lib.hid (And.intro ho hb); clear hb ho
    obtain ⟨Ar, cr, rfl, _⟩ := X.out.1.rd
    go_wp2_with fail
    refine (slEqQ _ _ r x1 _ X.out.1.rd (H.out.2.1.step X.out.2) b0 HB.out).mono ?_
    rintro e w2 ⟨rfl, n, rfl⟩
    have Y := Lib.hid (below_drewN X.out.2 n)
    go_wp2
    go_ret
    exact ⟨rfl, Y.out⟩

theorem ProofOk_S (v0 : Value) (x0 : List Int) (v1 : Value) (x1 : List Int) (v2 : Value) (ms : List (Int × Int)) (w : World) (h0 : RdI w v0 x0) (hl0 : x0.length ≤ 1048576) (h1 : RdI w v1 x1) (_hl1 : x1.length ≤ 1048576) (h2 : RdM w v2 ms) (y0 : Bool) (hR : proofOkR x0 x1 ms = y0) :
    Calls Tryd.prog 7 #[v0, v1, v2] w fun e w' => e = .returned (.bool y0) ∧ Below w.heap.size w w' := by
  have H := Lib.hid (And.intro h0 (And.intro h1 h2))
  rcases hr : proofRunR x0 ms with ⟨r, b⟩
  have HR := Lib.hid hr
  unfold proofOkR at hR
  rw [hr] at hR
  dsimp only at hR
  clear hr
  obtain ⟨A0, c0, rfl, _⟩ := h0
  obtain ⟨A1, c1, rfl, _⟩ := h1
  obtain ⟨A2, c2, rfl, _⟩ := h2
  rcases b with _ | _
  · obtain rfl : false = y0 := by simpa using hR
    clear hR
    go_enter Tryd.func7, Tryd.ntmps7
    go_wp2_with fail
    refine (ProofRun_S _ x0 _ ms _ H.out.1 hl0 H.out.2.2 r false HR.out).mono ?_
    rintro e w1 ⟨u, rfl, ho, hb⟩
    have X := Lib.hid hb; clear hb ho
    go_wp2
    go_ret
    exact ⟨rfl, X.out⟩
  · generalize hb0 : decide (r = x1) = b0
    have HB := Lib.hid hb0
    obtain rfl : b0 = y0 := by rw [← hb0]; simpa using hR
    clear hR hb0
    go_enter Tryd.func7, Tryd.ntmps7
    go_wp2_with fail
    refine (ProofRun_S _ x0 _ ms _ H.out.1 hl0 H.out.2.2 r true HR.out).mono ?_
    rintro e w1 ⟨u, rfl, ho, hb⟩
    have X := Lib.hid (And.intro ho hb); clear hb ho
    obtain ⟨Ar0, cr0, rfl, _⟩ := X.out.1.rd
    go_wp2_with fail
    obtain ⟨Ar, cr, hA1, hi1, _⟩ := X.out.1.rd
    obtain ⟨Aq, cq, hA2, hi2, _⟩ := H.out.2.1.step X.out.2
    cases hA1
    cases hA2
    refine (l1Same_any _ _ _ _ r x1 _ hi1 hi2).mono ?_
    rw [HB.out]
    rintro e w2 ⟨rfl, n, rfl⟩
    have Y := Lib.hid (below_drewN X.out.2 n)
    go_wp2
    go_ret
    exact ⟨rfl, Y.out⟩
end Go.Proofs.YtkdpfiaegimnlaaDoor

/- Rows of moves: the laws' helpers that read them: szMoveS, eqMoveS. -/
namespace Go.Proofs.YtkdpfiaegimnlaaDoor
set_option maxRecDepth 100000
open Go.RowKit Go.WideShapes

end Go.Proofs.YtkdpfiaegimnlaaDoor

/- Rows of moves: the laws' helpers that copy, mark and find the marks again. -/
namespace Go.Proofs.YtkdpfiaegimnlaaDoor
set_option maxRecDepth 100000
open Go.RowKit Go.WideShapes Go.ChangeShapes Go.Deep

abbrev OwnM (w : World) (lo hi : Nat) (v : Value) (ms : List (Int × Int)) : Prop := OwnP 62 w lo hi v ms
theorem moveInfo : (Tryd.prog.info? 62).map (fun i => (i.zero, i.size, i.bytes)) = some (some (.agg #[.int .i64 0, .int .i64 0]), 2, 16) := by kernel_rfl
end Go.Proofs.YtkdpfiaegimnlaaDoor
