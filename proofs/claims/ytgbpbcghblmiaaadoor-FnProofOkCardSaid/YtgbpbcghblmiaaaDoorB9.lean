/- Several texts in one. -/
import Derived.Test.YtgbpbcghblmiaaaDoorVp
import Derived.Test.YtgbpbcghblmiaaaDoorBa
import Derived.Test.YtgbpbcghblmiaaaDoorSl
import Derived.Test.YtgbpbcghblmiaaaDoorMo
import Derived.Deep.RegionWith
import Derived.Test.YtgbpbcghblmiaaaDoorB5
/- Rows of moves: slices of structs of two integers, that are read. -/
namespace Go.Proofs.YtgbpbcghblmiaaaDoor
set_option maxRecDepth 100000
open Go.RowKit Go.WideShapes

theorem movedR_drop {q : List Int} {ms : List (Int × Int)} {k : Nat} {m : Int × Int} (h : ms[k]? = some m) : movedR q (ms.drop k) = if (moveDoR q m.1 m.2).2 = true then movedR (moveDoR q m.1 m.2).1 (ms.drop (k + 1)) else none := by
  have hk : k < ms.length := by
    rcases Nat.lt_or_ge k ms.length with h1 | h1
    · exact h1
    · rw [List.getElem?_eq_none h1] at h; cases h
  rw [List.drop_eq_getElem_cons hk, movedR]
  rw [List.getElem?_eq_getElem hk] at h
  injection h with h
  rw [h]
theorem proofRunR_bad {p : List Int} {ms : List (Int × Int)} (h : ¬ (validB p = true ∧ ms.length ≤ 100)) : proofRunR p ms = ([], false) := by
  unfold proofRunR; rw [if_neg h]

set_option maxHeartbeats 2000000 in
theorem ProofRun_S (v0 : Value) (x0 : List Int) (v1 : Value) (ms : List (Int × Int)) (w : World) (h0 : RdI w v0 x0) (hl0 : x0.length ≤ 1048576) (h1 : RdM w v1 ms) (y0 : List Int) (y1 : Bool) (hR : proofRunR x0 ms = (y0, y1)) :
    Calls Tryd.prog 13 #[v0, v1] w (AhPost w y0 y1) := by
  have H := Lib.hid (And.intro h0 h1)
  have HR := Lib.hid hR; clear hR
  obtain ⟨A, c, rfl, hi, hc⟩ := h0
  have HI := Lib.hid hi; clear hi
  obtain ⟨A1, c1, rfl, hm, _⟩ := h1
  have L0 := Lib.hid (lit_nil w)
  rcases hv : validB x0 with _ | _ <;> have Hv := Lib.hid hv <;> clear hv
  · obtain ⟨rfl, rfl⟩ : [] = y0 ∧ false = y1 := by have := HR.out; rw [proofRunR_bad (by rw [Hv.out]; simp)] at this; cases this; exact ⟨rfl, rfl⟩
    go_enter Tryd.func13, Tryd.ntmps13
    go_wp2_with (go_at_call 25; refine (specValid_any A c x0 _ HI.out).mono ?_; rw [Hv.out]; rintro e w' ⟨rfl, rfl⟩)
    go_ret2
    exact ⟨_, rfl, L0.out.1, L0.out.2⟩
  by_cases hl : 100 < ms.length
  · obtain ⟨rfl, rfl⟩ : [] = y0 ∧ false = y1 := by have := HR.out; rw [proofRunR_bad (by omega)] at this; cases this; exact ⟨rfl, rfl⟩
    have hlI : (100 : Int) < ms.length := by omega
    go_enter Tryd.func13, Tryd.ntmps13
    go_wp2_with (go_at_call 25; refine (specValid_any A c x0 _ HI.out).mono ?_; rw [Hv.out]; rintro e w' ⟨rfl, rfl⟩)
    go_ret2
    exact ⟨_, rfl, L0.out.1, L0.out.2⟩
  have hlI : ¬ ((100 : Int) < ms.length) := by omega
  have HS := Lib.hid (H.out.1.step L0.out.2)
  go_enter Tryd.func13, Tryd.ntmps13
  go_wp2_with fail
  refine (specValid_any A c x0 _ HI.out).mono ?_
  rw [Hv.out]
  rintro e w' ⟨rfl, rfl⟩
  have hok : (if True then match movedR x0 ms with
    | none => ([], false)
    | some q => (q, true) else ([], false)) = (y0, y1) := by
    have := HR.out
    unfold proofRunR at this
    rw [if_pos ⟨Hv.out, by omega⟩] at this
    rw [if_pos trivial]; exact this
  rw [if_pos trivial] at hok
  have HO := Lib.hid hok; clear hok HR
  go_wp2_with (at_builtin; refine wpList_append_V rfl _ _ _ rfl Tryd.underlying23 intInfo w.heap.size (w.alloc (.cells #[] 3)).heap.size _ [] rfl L0.out.1 (by simp) _ x0 rfl HS.out (by simp; omega) ?_)
  intro v1 w1 hown hb1
  have hs1 : w.heap.size + 1 ≤ w1.heap.size := by have := hb1.size; simpa using this
  have S1 := Lib.hid (And.intro (L0.out.2.trans hb1) hown)
  clear hown hb1 L0 HS
  go_wp2
  go_loopw [6, 7] (fun q i wr => ∃ (k : Nat) (zs : List Int), k ≤ ms.length ∧ i = .int .i64 k ∧ w.heap.size ≤ wr.heap.size ∧ Below w.heap.size w wr ∧ OwnI wr w.heap.size wr.heap.size q zs ∧ validB zs = true ∧ movedR zs (ms.drop k) = movedR x0 ms) (fun _ i _ => ms.length - (intOf i).toNat)
  case atStart => exact ⟨0, x0, Nat.zero_le _, rfl, by omega, S1.out.1, S1.out.2, Hv.out, by simp⟩
  case round =>
    clear S1
    obtain ⟨k, zs, hk, rfl, hsz, hbk, hown, hvz, hmv⟩ := hrel
    obtain ⟨Aq, cq, rfl, _⟩ := hown.rd
    have hvl := validB_len hvz
    have X := Lib.hid (And.intro hbk (And.intro hown (And.intro hvz hmv))); clear hbk hown hvz hmv
    by_cases hlt : k < ms.length
    · obtain ⟨A2, c2, e2, _, hr⟩ := H.out.2
      cases e2
      obtain ⟨b, off, rfl, hbb, hcc⟩ := hr (by omega)
      have hz : ms[k]? = some ms[k] := List.getElem?_eq_getElem hlt
      obtain ⟨d0, d1⟩ := hcc k _ hz
      have hmd := movedR_drop (q := zs) hz
      generalize ms[k] = m at *
      obtain ⟨z, a⟩ := m
      have e0 := (X.out.1.cell (p := ⟨b, off + k * 2, none⟩) hbb).trans d0
      have e1 := (X.out.1.cell (p := ⟨b, off + k * 2 + 1, none⟩) hbb).trans d1
      dsimp only at e0 e1 hmd
      have HMD := Lib.hid hmd; clear hmd d0 d1 hcc hz
      have hltI : (k : Int) < ms.length := by omega
      rcases hm : moveDoR zs z a with ⟨r, bb⟩
      have Hm := Lib.hid hm
      rw [hm] at HMD
      dsimp only at HMD
      clear hm
      go_wp2_with fail
      refine (MoveDo_S _ zs z a _ X.out.2.1.rd (by omega) r bb Hm.out).mono ?_
      rintro e w2 ⟨u, rfl, ho, hb2⟩
      have hz2 := hb2.size
      have hbw := X.out.1.trans (hb2.mono hsz)
      rcases bb with _ | _
      · have hn := HMD.out
        rw [if_neg (by simp)] at hn
        obtain ⟨rfl, rfl⟩ : [] = y0 ∧ false = y1 := by have := HO.out; rw [← X.out.2.2.2, hn] at this; cases this; exact ⟨rfl, rfl⟩
        have L := Lib.hid (lit_out hbw); clear hbw hb2 ho X
        go_wp2
        go_ret2
        exact ⟨_, rfl, L.out.1, L.out.2⟩
      · have hn := HMD.out
        rw [if_pos rfl] at hn
        have Z := Lib.hid (And.intro hbw (And.intro (OwnI.mk (ho.own.mono hsz) ho.lt) (And.intro (moveDoR_ok Hm.out).2 (hn.symm.trans X.out.2.2.2)))); clear hbw hb2 ho X hn
        go_wp2
        go_roundw
        case rel => exact ⟨k + 1, r, by omega, by go_num, by omega, Z.out⟩
        case measure => simp [intOf]; omega
    · obtain rfl : k = ms.length := by omega
      have hmz := X.out.2.2.2
      rw [List.drop_length] at hmz
      obtain ⟨rfl, rfl⟩ : zs = y0 ∧ true = y1 := by have := HO.out; rw [← hmz] at this; cases this; exact ⟨rfl, rfl⟩
      clear hmz
      go_wp2
      go_ret2
      exact ⟨_, rfl, X.out.2.1, X.out.1⟩

set_option maxHeartbeats 2000000 in
theorem ProofRun_I (v0 : Value) (x0 : List Int) (v1 : Value) (ms : List (Int × Int)) (w : World) (h0 : RdI w v0 x0) (hl0 : x0.length ≤ 1048576) (h1 : RdM w v1 ms) (y0 : List Int) (y1 : Bool) (hR : proofRunR x0 ms = (y0, y1)) (ht : IntTab w 0 takesL) :
    Calls Tryd.prog 12 #[v0, v1] w (AhPost w y0 y1) := by
  have hgl := ht.lt
  have HT := Lib.hid ht; clear ht
  have H := Lib.hid (And.intro h0 h1)
  have HR := Lib.hid hR; clear hR
  obtain ⟨A, c, rfl, hi, hc⟩ := h0
  have HI := Lib.hid hi; clear hi
  obtain ⟨A1, c1, rfl, hm, _⟩ := h1
  rcases hv : validB x0 with _ | _ <;> have Hv := Lib.hid hv <;> clear hv
  · obtain ⟨rfl, rfl⟩ : [] = y0 ∧ false = y1 := by have := HR.out; rw [proofRunR_bad (by rw [Hv.out]; simp)] at this; cases this; exact ⟨rfl, rfl⟩
    go_enter Tryd.func12, Tryd.ntmps12
    go_wp2_with (go_at_call 32; refine (ProgValid_any A c x0 _ HI.out).mono ?_; rw [Hv.out]; rintro e w' ⟨rfl, rfl⟩)
    go_ret2
    exact ⟨_, rfl, OwnI.nil _ _ _, Below.refl _ _⟩
  by_cases hl : 100 < ms.length
  · obtain ⟨rfl, rfl⟩ : [] = y0 ∧ false = y1 := by have := HR.out; rw [proofRunR_bad (by omega)] at this; cases this; exact ⟨rfl, rfl⟩
    have hlI : (100 : Int) < ms.length := by omega
    go_enter Tryd.func12, Tryd.ntmps12
    go_wp2_with (go_at_call 32; refine (ProgValid_any A c x0 _ HI.out).mono ?_; rw [Hv.out]; rintro e w' ⟨rfl, rfl⟩)
    go_ret2
    exact ⟨_, rfl, OwnI.nil _ _ _, Below.refl _ _⟩
  have hlI : ¬ ((100 : Int) < ms.length) := by omega
  go_enter Tryd.func12, Tryd.ntmps12
  go_wp2_with fail
  refine (ProgValid_any A c x0 _ HI.out).mono ?_
  rw [Hv.out]
  rintro e w' ⟨rfl, rfl⟩
  have hok : (match movedR x0 ms with
    | none => (([] : List Int), false)
    | some q => (q, true)) = (y0, y1) := by
    have := HR.out
    unfold proofRunR at this
    rw [if_pos ⟨Hv.out, by omega⟩] at this
    exact this
  have HO := Lib.hid hok; clear hok HR
  go_wp2_with fail
  refine (Clone_rd _ x0 _ H.out.1 (by omega)).mono ?_
  rintro e w1 ⟨v1, rfl, hown, hb1⟩
  have hs1 : w.heap.size ≤ w1.heap.size := hb1.size
  have S1 := Lib.hid (And.intro hb1 hown)
  clear hown hb1
  go_wp2
  go_loopw [6, 22] (fun q i wr => ∃ (k : Nat) (zs : List Int), k ≤ ms.length ∧ i = .int .i64 k ∧ w.heap.size ≤ wr.heap.size ∧ Below w.heap.size w wr ∧ OwnI wr w.heap.size wr.heap.size q zs ∧ validB zs = true ∧ movedR zs (ms.drop k) = movedR x0 ms) (fun _ i _ => ms.length - (intOf i).toNat)
  case atStart => exact ⟨0, x0, Nat.zero_le _, rfl, hs1, S1.out.1, S1.out.2, Hv.out, by simp⟩
  case round =>
    clear S1
    obtain ⟨k, zs, hk, rfl, hsz, hbk, hown, hvz, hmv⟩ := hrel
    obtain ⟨Aq, cq, rfl, _⟩ := hown.rd
    have hvl := validB_len hvz
    have X := Lib.hid (And.intro hbk (And.intro hown (And.intro hvz hmv))); clear hbk hown hvz hmv
    by_cases hlt : k < ms.length
    · obtain ⟨A2, c2, e2, _, hr⟩ := H.out.2
      cases e2
      obtain ⟨b, off, rfl, hbb, hcc⟩ := hr (by omega)
      have hz : ms[k]? = some ms[k] := List.getElem?_eq_getElem hlt
      obtain ⟨d0, d1⟩ := hcc k _ hz
      have hmd := movedR_drop (q := zs) hz
      generalize ms[k] = m at *
      obtain ⟨z, a⟩ := m
      have e0 := (X.out.1.cell (p := ⟨b, off + k * 2, none⟩) hbb).trans d0
      have e1 := (X.out.1.cell (p := ⟨b, off + k * 2 + 1, none⟩) hbb).trans d1
      dsimp only at e0 e1 hmd
      have HMD := Lib.hid hmd; clear hmd d0 d1 hcc hz
      have hltI : (k : Int) < ms.length := by omega
      rcases hm : moveDoR zs z a with ⟨r, bb⟩
      have Hm := Lib.hid hm
      rw [hm] at HMD
      dsimp only at HMD
      clear hm
      have hba : Below wr.heap.size wr (wr.alloc (.cells #[.int .i64 z, .int .i64 a] 61)) := (Below.refl _ _).alloc (Nat.le_refl _) _
      have XA := Lib.hid (And.intro (X.out.2.1.rd.step hba) (X.out.1.trans (hba.mono hsz))); clear hba
      go_wp2_with fail
      refine (MoveDo_I _ zs z a _ XA.out.1 (by omega) r bb Hm.out (HT.out.below XA.out.2 hgl)).mono ?_
      rintro e w2 ⟨u, rfl, ho, hb2⟩
      have hz2 : wr.heap.size + 1 ≤ w2.heap.size := by have := hb2.size; simpa using this
      have hbw : Below w.heap.size w w2 := XA.out.2.trans (hb2.mono (by simp; omega))
      rcases bb with _ | _
      · have hn := HMD.out
        rw [if_neg (by simp)] at hn
        obtain ⟨rfl, rfl⟩ : [] = y0 ∧ false = y1 := by have := HO.out; rw [← X.out.2.2.2, hn] at this; cases this; exact ⟨rfl, rfl⟩
        have L := Lib.hid hbw; clear hbw hb2 ho X XA
        go_wp2
        go_ret2
        exact ⟨_, rfl, OwnI.nil _ _ _, L.out⟩
      · have hn := HMD.out
        rw [if_pos rfl] at hn
        have Z := Lib.hid (And.intro hbw (And.intro (OwnI.mk (ho.own.mono (show w.heap.size ≤ (wr.alloc (.cells #[.int .i64 z, .int .i64 a] 61)).heap.size by simp; omega)) ho.lt) (And.intro (moveDoR_ok Hm.out).2 (hn.symm.trans X.out.2.2.2)))); clear hbw hb2 ho X XA hn
        go_wp2
        go_roundw
        case rel => exact ⟨k + 1, r, by omega, by go_num, by omega, Z.out⟩
        case measure => simp [intOf]; omega
    · obtain rfl : k = ms.length := by omega
      have hmz := X.out.2.2.2
      rw [List.drop_length] at hmz
      obtain ⟨rfl, rfl⟩ : zs = y0 ∧ true = y1 := by have := HO.out; rw [← hmz] at this; cases this; exact ⟨rfl, rfl⟩
      clear hmz
      go_wp2
      go_ret2
      exact ⟨_, rfl, X.out.2.1, X.out.1⟩

def proofOkR (p q : List Int) (ms : List (Int × Int)) : Bool := (proofRunR p ms).2 && decide ((proofRunR p ms).1 = q)

theorem ProofOk_I (v0 : Value) (x0 : List Int) (v1 : Value) (x1 : List Int) (v2 : Value) (ms : List (Int × Int)) (w : World) (h0 : RdI w v0 x0) (hl0 : x0.length ≤ 1048576) (h1 : RdI w v1 x1) (_hl1 : x1.length ≤ 1048576) (h2 : RdM w v2 ms) (y0 : Bool) (hR : proofOkR x0 x1 ms = y0) (ht : IntTab w 0 takesL) :
    Calls Tryd.prog 17 #[v0, v1, v2] w fun e w' => e = .returned (.bool y0) ∧ Below w.heap.size w w' := by
  have H := Lib.hid (And.intro h0 (And.intro h1 h2))
  have HT := Lib.hid ht; clear ht
  rcases hr : proofRunR x0 ms with ⟨r, b⟩
  have HR := Lib.hid hr
  unfold proofOkR at hR
  rw [hr] at hR
  dsimp only at hR
  clear hr
  obtain ⟨A0, c0, rfl, _⟩ := h0
  obtain ⟨A1, c1, rfl, _⟩ := h1
  obtain ⟨A2, c2, rfl, _⟩ := h2
  rcases b with _ | _
  · obtain rfl : false = y0 := by simpa using hR
    clear hR
    go_enter Tryd.func17, Tryd.ntmps17
    go_wp2_with fail
    refine (ProofRun_I _ x0 _ ms _ H.out.1 hl0 H.out.2.2 r false HR.out HT.out).mono ?_
    rintro e w1 ⟨u, rfl, ho, hb⟩
    have X := Lib.hid hb; clear hb ho
    go_wp2
    go_ret
    exact ⟨rfl, X.out⟩
  · generalize hb0 : decide (r = x1) = b0
    have HB := Lib.hid hb0
    obtain rfl : b0 = y0 := by rw [← hb0]; simpa using hR
    clear hR hb0
    go_enter Tryd.func17, Tryd.ntmps17
    go_wp2_with fail
    refine (ProofRun_I _ x0 _ ms _ H.out.1 hl0 H.out.2.2 r true HR.out HT.out).mono ?_
    rintro e w1 ⟨u, rfl, ho, hb⟩
    have X := Lib.hid (And.intro ho hb); clear hb ho
    obtain ⟨Ar, cr, rfl, _⟩ := X.out.1.rd
    go_wp2_with fail
    refine (slEqQ _ _ r x1 _ X.out.1.rd (H.out.2.1.step X.out.2) b0 HB.out).mono ?_
    rintro e w2 ⟨rfl, n, rfl⟩
    have Y := Lib.hid (below_drewN X.out.2 n)
    go_wp2
    go_ret
    exact ⟨rfl, Y.out⟩

theorem ProofOk_S (v0 : Value) (x0 : List Int) (v1 : Value) (x1 : List Int) (v2 : Value) (ms : List (Int × Int)) (w : World) (h0 : RdI w v0 x0) (hl0 : x0.length ≤ 1048576) (h1 : RdI w v1 x1) (_hl1 : x1.length ≤ 1048576) (h2 : RdM w v2 ms) (y0 : Bool) (hR : proofOkR x0 x1 ms = y0) :
    Calls Tryd.prog 18 #[v0, v1, v2] w fun e w' => e = .returned (.bool y0) ∧ Below w.heap.size w w' := by
  have H := Lib.hid (And.intro h0 (And.intro h1 h2))
  rcases hr : proofRunR x0 ms with ⟨r, b⟩
  have HR := Lib.hid hr
  unfold proofOkR at hR
  rw [hr] at hR
  dsimp only at hR
  clear hr
  obtain ⟨A0, c0, rfl, _⟩ := h0
  obtain ⟨A1, c1, rfl, _⟩ := h1
  obtain ⟨A2, c2, rfl, _⟩ := h2
  rcases b with _ | _
  · obtain rfl : false = y0 := by simpa using hR
    clear hR
    go_enter Tryd.func18, Tryd.ntmps18
    go_wp2_with fail
    refine (ProofRun_S _ x0 _ ms _ H.out.1 hl0 H.out.2.2 r false HR.out).mono ?_
    rintro e w1 ⟨u, rfl, ho, hb⟩
    have X := Lib.hid hb; clear hb ho
    go_wp2
    go_ret
    exact ⟨rfl, X.out⟩
  · generalize hb0 : decide (r = x1) = b0
    have HB := Lib.hid hb0
    obtain rfl : b0 = y0 := by rw [← hb0]; simpa using hR
    clear hR hb0
    go_enter Tryd.func18, Tryd.ntmps18
    go_wp2_with fail
    refine (ProofRun_S _ x0 _ ms _ H.out.1 hl0 H.out.2.2 r true HR.out).mono ?_
    rintro e w1 ⟨u, rfl, ho, hb⟩
    have X := Lib.hid (And.intro ho hb); clear hb ho
    obtain ⟨Ar0, cr0, rfl, _⟩ := X.out.1.rd
    go_wp2_with fail
    obtain ⟨Ar, cr, hA1, hi1, _⟩ := X.out.1.rd
    obtain ⟨Aq, cq, hA2, hi2, _⟩ := H.out.2.1.step X.out.2
    cases hA1
    cases hA2
    refine (l1Same_any _ _ _ _ r x1 _ hi1 hi2).mono ?_
    rw [HB.out]
    rintro e w2 ⟨rfl, n, rfl⟩
    have Y := Lib.hid (below_drewN X.out.2 n)
    go_wp2
    go_ret
    exact ⟨rfl, Y.out⟩
end Go.Proofs.YtgbpbcghblmiaaaDoor

/- Rows of moves: the laws' helpers that read them: szMoveS, eqMoveS. -/
namespace Go.Proofs.YtgbpbcghblmiaaaDoor
set_option maxRecDepth 100000
open Go.RowKit Go.WideShapes

theorem szMoveS_any (A : Option Addr) (c n : Nat) (left : Int) (w : World) (hn : n ≤ 9223372036854775807) (hl : 0 ≤ left ∧ left ≤ 1048576) :
    Calls Tryd.prog 34 #[.slice A n c, .int .i64 left] w fun e w' => e = .returned (.int .i64 (if left < (n : Int) then -1 else left - n)) ∧ w = w' := by
  have m1 : IntKind.i64.wrap (left - (n : Int)) = left - (n : Int) := IntWalk.i64_in _ (by omega)
  by_cases h : left < (n : Int)
  · have hI : left - (n : Int) < 0 := by omega
    rw [if_pos h]
    go_enter Tryd.func34, Tryd.ntmps34
    go_wp2
    go_ret
    exact ⟨rfl, rfl⟩
  · have hI : ¬ (left - (n : Int) < 0) := by omega
    rw [if_neg h]
    go_enter Tryd.func34, Tryd.ntmps34
    go_wp2
    go_ret
    exact ⟨rfl, rfl⟩
theorem eqMove_any (a b c d : Int) (w : World) :
    Calls Tryd.prog 65 #[.agg #[.int .i64 a, .int .i64 b], .agg #[.int .i64 c, .int .i64 d]] w fun e w' => e = .returned (.bool (decide ((a, b) = (c, d)))) ∧ Below w.heap.size w w' := by
  have hb : Below w.heap.size w ((w.alloc (.cells #[.int .i64 a, .int .i64 b] 61)).alloc (.cells #[.int .i64 c, .int .i64 d] 61)) := ((Below.refl _ _).alloc (Nat.le_refl _) _).alloc (by simp) _
  have H := Lib.hid hb; clear hb
  by_cases h1 : a = c
  · have hI : (a != c) = false := by simp [h1]
    have E := Lib.hid h1; clear h1
    by_cases h2 : b = d
    · have hJ : (b != d) = false := by simp [h2]
      have F := Lib.hid h2; clear h2
      go_enter Tryd.func65, Tryd.ntmps65
      go_wp2
      go_ret
      exact ⟨ret_bool (by simp [E.out, F.out]), H.out⟩
    · have hJ : (b != d) = true := by simp [h2]
      have F := Lib.hid h2; clear h2
      go_enter Tryd.func65, Tryd.ntmps65
      go_wp2
      go_ret
      exact ⟨ret_bool (by simp [F.out]), H.out⟩
  · have hI : (a != c) = true := by simp [h1]
    have E := Lib.hid h1; clear h1
    go_enter Tryd.func65, Tryd.ntmps65
    go_wp2
    go_ret
    exact ⟨ret_bool (by simp [E.out]), H.out⟩
set_option maxHeartbeats 1000000 in
theorem eqM (v u : Value) (xs ys : List (Int × Int)) (w : World) (hx : RdM w v xs) (hy : RdM w u ys) (b : Bool) (hb : decide (xs = ys) = b) :
    Calls Tryd.prog 38 #[v, u] w fun e w' => e = .returned (.bool b) ∧ Below w.heap.size w w' := by
  have H := Lib.hid (And.intro hx hy)
  have HB := Lib.hid hb; clear hb
  obtain ⟨A, c, rfl, hm, _⟩ := hx
  obtain ⟨A', c', rfl, hm', _⟩ := hy
  by_cases hl : xs.length = ys.length
  case neg =>
    have hI : ((xs.length : Int) != ys.length) = true := by simp; omega
    obtain rfl : false = b := by rw [← HB.out]; symm; rw [decide_eq_false_iff_not]; intro e; exact hl (by rw [e])
    go_enter Tryd.func38, Tryd.ntmps38
    go_wp2
    go_ret
    exact ⟨rfl, Below.refl _ _⟩
  have hI : ((xs.length : Int) != ys.length) = false := by simp; omega
  have HL := Lib.hid hl; clear hl
  go_enter Tryd.func38, Tryd.ntmps38
  go_wp2
  go_loopw [5] (fun i wr => ∃ k : Nat, k ≤ xs.length ∧ i = .int .i64 k ∧ w.heap.size ≤ wr.heap.size ∧ Below w.heap.size w wr ∧ xs.take k = ys.take k) (fun i _ => xs.length - (intOf i).toNat)
  case atStart => exact ⟨0, Nat.zero_le _, rfl, Nat.le_refl _, Below.refl _ _, by simp⟩
  case round =>
    obtain ⟨k, hk, rfl, hsz, hbk, htk⟩ := hrel
    have X := Lib.hid (And.intro hbk htk); clear hbk htk
    by_cases hlt : k < xs.length
    · obtain ⟨A2, c2, e2, _, hr⟩ := H.out.1
      cases e2
      obtain ⟨p, po, rfl, hp, hpc⟩ := hr (by omega)
      obtain ⟨A3, c3, e3, _, hr'⟩ := H.out.2
      cases e3
      obtain ⟨q, qo, rfl, hq, hqc⟩ := hr' (by have := HL.out; omega)
      have hk2 : k < ys.length := by have := HL.out; omega
      have hz : xs[k]? = some xs[k] := List.getElem?_eq_getElem hlt
      have hz2 : ys[k]? = some ys[k] := List.getElem?_eq_getElem hk2
      obtain ⟨d0, d1⟩ := hpc k _ hz
      obtain ⟨f0, f1⟩ := hqc k _ hz2
      have HZ := Lib.hid (And.intro hz hz2)
      clear hz hz2 hpc hqc
      generalize xs[k] = x at *
      generalize ys[k] = y at *
      obtain ⟨x1, x2⟩ := x
      obtain ⟨y1, y2⟩ := y
      have hd : Below wr.heap.size wr wr.drew := (Below.refl _ _).drew
      have HD := Lib.hid hd
      have e0 := (X.out.1.cell (p := ⟨p, po + k * 2, none⟩) hp).trans d0
      have e1 := (X.out.1.cell (p := ⟨p, po + k * 2 + 1, none⟩) hp).trans d1
      have g0 := (X.out.1.cell (p := ⟨q, qo + k * 2, none⟩) hq).trans f0
      have g1 := (X.out.1.cell (p := ⟨q, qo + k * 2 + 1, none⟩) hq).trans f1
      dsimp only at e0 e1 g0 g1
      clear d0 d1 f0 f1
      have hltI : (k : Int) < xs.length := by omega
      have hltJ : (k : Int) < ys.length := by omega
      rcases hxy : decide ((x1, x2) = (y1, y2)) with _ | _ <;> have HXY := Lib.hid hxy <;> clear hxy
      · have hne : ¬ xs = ys := fun e => by
          have h1 := HZ.out.1; rw [e, HZ.out.2] at h1
          have h2 := HXY.out
          rw [decide_eq_false_iff_not] at h2
          exact h2 (Option.some.inj h1).symm
        obtain rfl : false = b := by rw [← HB.out]; symm; rw [decide_eq_false_iff_not]; exact hne
        clear hne
        go_wp2_with fail
        go_region_with (go_at_call 65; refine (eqMove_any x1 x2 y1 y2 _).mono ?_; rw [HXY.out]; rintro e w2 ⟨rfl, hb2⟩)
        all_goals
          have hz2 := hb2.size
          have Z := Lib.hid (X.out.1.trans ((HD.out.trans hb2).mono (by omega))); clear hb2 X hd
          go_wp2
          go_ret
          exact ⟨rfl, Z.out⟩
      · go_wp2_with fail
        go_region_with (go_at_call 65; refine (eqMove_any x1 x2 y1 y2 _).mono ?_; rw [HXY.out]; rintro e w2 ⟨rfl, hb2⟩)
        all_goals
          have hz2 : wr.heap.size ≤ w2.heap.size := hb2.size
          have Z := Lib.hid (And.intro (X.out.1.trans ((HD.out.trans hb2).mono (by omega))) (take_succ_eqM HZ.out.1 HZ.out.2 X.out.2 (of_decide_eq_true HXY.out))); clear hb2 X hd
          go_wp2
          go_roundw
          case rel => exact ⟨k + 1, by omega, by go_num, by omega, Z.out⟩
          case measure => simp [intOf]; omega
    · have hall : xs = ys := by
        have := X.out.2
        rwa [List.take_of_length_le (by omega), List.take_of_length_le (by have := HL.out; omega)] at this
      obtain rfl : true = b := by rw [← HB.out]; symm; exact decide_eq_true hall
      clear hall
      go_wp2
      go_ret
      exact ⟨rfl, X.out.1⟩
end Go.Proofs.YtgbpbcghblmiaaaDoor

/- Rows of moves: the laws' helpers that copy, mark and find the marks again. -/
namespace Go.Proofs.YtgbpbcghblmiaaaDoor
set_option maxRecDepth 100000
open Go.RowKit Go.WideShapes Go.ChangeShapes Go.Deep

abbrev OwnM (w : World) (lo hi : Nat) (v : Value) (ms : List (Int × Int)) : Prop := OwnP 61 w lo hi v ms
theorem moveInfo : (Tryd.prog.info? 61).map (fun i => (i.zero, i.size, i.bytes)) = some (some (.agg #[.int .i64 0, .int .i64 0]), 2, 16) := by kernel_rfl
theorem toMove_any (x1 x2 : Int) (w : World) :
    Calls Tryd.prog 64 #[.agg #[.int .i64 x1, .int .i64 x2]] w fun e w' => e = .returned (.agg #[.int .i64 x1, .int .i64 x2]) ∧ Below w.heap.size w w' := by
  have hb : Below w.heap.size w (((w.alloc (.cells #[.int .i64 x1, .int .i64 x2] 76)).alloc (.cells #[.int .i64 x1, .int .i64 x2] 61)).alloc (.cells #[.int .i64 x1, .int .i64 x2] 61)) := (((Below.refl _ _).alloc (Nat.le_refl _) _).alloc (by simp) _).alloc (by simp; omega) _
  have hk := (Blk.new (w.alloc (.cells #[.int .i64 x1, .int .i64 x2] 76)) #[.int .i64 x1, .int .i64 x2] 61).below ((Below.refl _ _).alloc (Nat.le_refl _) (.cells #[.int .i64 x1, .int .i64 x2] 61)) (by simp)
  rw [World.size_alloc] at hk
  obtain ⟨c0, c1, _, _⟩ := Blk.two (show Blk _ (w.heap.size + 1) #[.int .i64 x1, .int .i64 x2] 61 from hk)
  have H := Lib.hid (And.intro hb (And.intro c0 c1)); clear hb hk c0 c1
  go_enter Tryd.func64, Tryd.ntmps64
  go_wp2
  obtain ⟨hb, c0, c1⟩ := H.out
  refine bodyPost_ret (v := .agg #[.int .i64 x1, .int .i64 x2]) (by simp [results, Tryd.results64, go_sem, c0, c1]) rfl ?_
  exact ⟨rfl, hb⟩

theorem toM (v : Value) (ms : List (Int × Int)) (w : World) (h : RdM w v ms) (hl : ms.length ≤ 1048576) :
    Calls Tryd.prog 36 #[v] w fun e w' => ∃ u, e = .returned u ∧ OwnM w' w.heap.size w'.heap.size u ms ∧ Below w.heap.size w w' := by
  obtain ⟨i0, hi0, hz0, hz1, hz2⟩ := info_parts moveInfo
  have H := Lib.hid h
  obtain ⟨A, c, rfl, hm, _⟩ := h
  go_enter Tryd.func36, Tryd.ntmps36
  go_wp2_with (at_make; refine wpList_make_full _ rfl _ _ _ rfl w.heap.size 61 i0 (.agg #[.int .i64 0, .int .i64 0]) 2 Tryd.underlying24 hi0 hz0 hz1 _ _ _ _ ms.length rfl rfl rfl rfl ?c1 ?c2 ?c3 ?_)
  case c1 => rw [hz2]; omega
  case c2 => unfold maxLen; omega
  case c3 => simp
  intro w1 hown1 hg1
  rw [zeros_flatP] at hown1
  have hb1 : Below w.heap.size w w1 := below_of_only hg1 (Nat.le_refl _) (by simp)
  have hlt1 : w.heap.size < w1.heap.size := (hown1.lt w.heap.size rfl).2
  have hstart : w1.ownsRow w.heap.size 61 2 (.slice (some ⟨w.heap.size, 0, none⟩) ms.length ms.length) ms.length ((flatP (ms.take 0 ++ List.replicate (ms.length - 0) ((0 : Int), (0 : Int)))).map (Value.int .i64)) := by simpa using hown1
  clear hown1 hg1
  generalize hG : w.heap.size = g at *
  have HG := Lib.hid hG; clear hG
  go_wp2
  go_loopw [4] (fun i wr => ∃ k : Nat, k ≤ ms.length ∧ i = .int .i64 k ∧ g < wr.heap.size ∧ Below g w wr ∧ wr.ownsRow g 61 2 (.slice (some ⟨g, 0, none⟩) ms.length ms.length) ms.length ((flatP (ms.take k ++ List.replicate (ms.length - k) ((0 : Int), (0 : Int)))).map (Value.int .i64))) (fun i _ => ms.length - (intOf i).toNat)
  case atStart => exact ⟨0, Nat.zero_le _, rfl, hlt1, hb1, hstart⟩
  case round =>
    clear hb1 hstart hlt1
    obtain ⟨k, hk, rfl, hsz, hbk, hownk⟩ := hrel
    by_cases hlt : k < ms.length
    · obtain ⟨A2, c2, e2, _, hr⟩ := H.out
      cases e2
      obtain ⟨b, off, rfl, hbb, hcc⟩ := hr (by omega)
      rw [HG.out] at hbb
      have hz : ms[k]? = some ms[k] := List.getElem?_eq_getElem hlt
      obtain ⟨d0, d1⟩ := hcc k _ hz
      have hfn := fill_next hz
      have hfl := fill_len ms k hk
      generalize ms[k] = m at *
      obtain ⟨z1, z2⟩ := m
      have e0 := (hbk.cell (p := ⟨b, off + k * 2, none⟩) hbb).trans d0
      have e1 := (hbk.cell (p := ⟨b, off + k * 2 + 1, none⟩) hbb).trans d1
      dsimp only at e0 e1
      have X := Lib.hid (And.intro hbk (And.intro hownk hfn)); clear hbk hownk hfn d0 d1 hcc hz H
      have hltI : (k : Int) < ms.length := by omega
      go_wp2_with fail
      refine (toMove_any z1 z2 _).mono ?_
      rintro e w2 ⟨rfl, hb2⟩
      have hz2 := hb2.size
      have hown2 := X.out.2.1.kept (row := none) (only_of_below hb2 none) (.inr (by simp [Value.ownBlock]))
      obtain ⟨y0, c0⟩ : ∃ y, w2.cell? ⟨g, k * 2, none⟩ = some y := ⟨_, (hown2.cellAt (k * 2) (by omega)).trans (List.getElem?_eq_getElem (by rw [List.length_map, flatP_length, hfl]; omega))⟩
      obtain ⟨y1, c1⟩ : ∃ y, w2.cell? ⟨g, k * 2 + 1, none⟩ = some y := ⟨_, (hown2.cellAt (k * 2 + 1) (by omega)).trans (List.getElem?_eq_getElem (by rw [List.length_map, flatP_length, hfl]; omega))⟩
      have f0 := hown2.frozenAt (k * 2)
      have f1 := hown2.frozenAt (k * 2 + 1)
      have hst := ((hown2.stored (k * 2) (.int .i64 z1)).1.stored (k * 2 + 1) (.int .i64 z2)).1
      rw [flatP_set (by rw [hfl]; omega), X.out.2.2] at hst
      have Y := Lib.hid (And.intro (show Below g w ((w2.setCell ⟨g, k * 2, none⟩ (.int .i64 z1)).setCell ⟨g, k * 2 + 1, none⟩ (.int .i64 z2)) from ((X.out.1.trans (hb2.mono (by omega))).setCell (Nat.le_refl g) _).setCell (Nat.le_refl g) _) hst)
      clear hst hown2 hb2 X
      go_wp2
      go_roundw
      case rel => exact ⟨k + 1, by omega, by go_num, by simp; omega, Y.out⟩
      case measure => simp [intOf]; omega
    · have hke : k = ms.length := by omega
      go_wp2
      go_ret
      refine ⟨_, rfl, ?_, by rw [HG.out]; exact hbk⟩
      rw [HG.out]
      subst hke
      refine ⟨by simpa using hownk, fun q hq => ?_⟩
      simp [Value.ownBlock] at hq; omega

/-- markMoveS writes the marks over a row of the call's own. -/
theorem markMoveS_any (base g cap : Nat) (ms : List (Int × Int)) (a : Int) (w : World) (ha : 0 ≤ a ∧ a ≤ 1000000000) (hl : ms.length * 2 ≤ 1000000000)
    (h : w.ownsRow base 61 2 (.slice (some ⟨g, 0, none⟩) ms.length cap) ms.length ((flatP ms).map (Value.int .i64))) :
    Calls Tryd.prog 40 #[.slice (some ⟨g, 0, none⟩) ms.length cap, .int .i64 a] w fun e w' => e = .returned (.int .i64 (a + (ms.length : Int) * 2)) ∧
      w'.ownsRow base 61 2 (.slice (some ⟨g, 0, none⟩) ms.length cap) ms.length ((marks a (ms.length * 2)).map (Value.int .i64)) ∧ w.grownBy w' (some g) := by
  have hstart : w.ownsRow base 61 2 (.slice (some ⟨g, 0, none⟩) ms.length cap) ms.length ((marks a (0 * 2) ++ (flatP ms).drop (0 * 2)).map (Value.int .i64)) := by simpa [marks] using h
  have hg := (h.lt g rfl).2
  have hfl := flatP_length ms
  clear h
  go_enter Tryd.func40, Tryd.ntmps40
  go_wp2
  go_loopw [1, 5] (fun a' i wr => ∃ k : Nat, k ≤ ms.length ∧ i = .int .i64 k ∧ a' = .int .i64 (a + (k : Int) * 2) ∧ w.grownBy wr (some g) ∧ wr.ownsRow base 61 2 (.slice (some ⟨g, 0, none⟩) ms.length cap) ms.length ((marks a (k * 2) ++ (flatP ms).drop (k * 2)).map (Value.int .i64))) (fun _ i _ => ms.length - (intOf i).toNat)
  case atStart => exact ⟨0, Nat.zero_le _, rfl, by simp, World.grownBy.refl _ _, hstart⟩
  case round =>
    clear hstart
    obtain ⟨k, hk, rfl, rfl, hbk, hownk⟩ := hrel
    by_cases hlt : k < ms.length
    · have hlt' : (k : Int) < ms.length := by omega
      have m1 : IntKind.i64.wrap (a + (k : Int) * 2 + 1) = a + (k : Int) * 2 + 1 := IntWalk.i64_in _ (by omega)
      have m2 : IntKind.i64.wrap (a + (k : Int) * 2 + 1 + 1) = a + (k : Int) * 2 + 1 + 1 := IntWalk.i64_in _ (by omega)
      have hst := hownk.stored (k * 2) (.int .i64 (a + (k : Int) * 2))
      rw [marks_setz (flatP ms) a _ (k * 2) (by omega) (by omega)] at hst
      have hst2 := hst.1.stored (k * 2 + 1) (.int .i64 (a + (k : Int) * 2 + 1))
      rw [marks_setz (flatP ms) a _ (k * 2 + 1) (by omega) (by omega)] at hst2
      have hfr := hownk.frozenAt (k * 2)
      have hfr2 := hst.1.frozenAt (k * 2 + 1)
      obtain ⟨u, hold⟩ : ∃ u, wr.cell? ⟨g, k * 2, none⟩ = some u := by
        rw [hownk.cellAt (k * 2) (by omega)]
        exact ⟨_, List.getElem?_eq_getElem (by simp [marks_length]; omega)⟩
      obtain ⟨u2, hold2⟩ : ∃ u, (wr.setCell ⟨g, k * 2, none⟩ (.int .i64 (a + (k : Int) * 2))).cell? ⟨g, k * 2 + 1, none⟩ = some u := by
        rw [hst.1.cellAt (k * 2 + 1) (by omega)]
        exact ⟨_, List.getElem?_eq_getElem (by simp [marks_length]; omega)⟩
      have Hst := Lib.hid (And.intro (World.grownBy.trans hbk (World.grownBy.trans hst.2 hst2.2)) hst2.1); clear hownk hst hst2 hbk
      go_wp2
      go_roundw
      case rel => exact ⟨k + 1, by omega, by go_num, by go_num, Hst.out.1, by rw [show (k + 1) * 2 = k * 2 + 1 + 1 from by omega]; exact Hst.out.2⟩
      case measure => simp [intOf]; omega
    · have hke : k = ms.length := by omega
      have hfin := hownk
      rw [hke, List.drop_eq_nil_of_le (by omega), List.append_nil] at hfin
      have Hke := Lib.hid hke; clear hke
      go_wp2
      go_ret
      exact ⟨ret_i64 (by rw [Hke.out]), hfin, hbk⟩
theorem markM (v : Value) (ms : List (Int × Int)) (a : Int) (lo hi : Nat) (w : World) (ha : 0 ≤ a ∧ a ≤ 1000000000) (hl : szM ms ≤ 1000000000) (h : OwnM w lo hi v ms) :
    Calls Tryd.prog 40 #[v, .int .i64 a] w fun e w' => e = .returned (.int .i64 (a + (szM ms : Int))) ∧ OwnM w' lo hi v (mkM a ms) ∧ Within lo hi w w' := by
  have hlt := h.lt
  rcases h.own.2 with ⟨rfl, h0⟩ | ⟨g, cap, cur, rfl, hb, hh, h1, h2, _⟩
  · have hz : ms = [] := List.eq_nil_of_length_eq_zero h0
    subst hz
    go_enter Tryd.func40, Tryd.ntmps40
    go_wp2
    go_loop [1, 5] (fun a' i => i = .int .i64 0 ∧ a' = .int .i64 a) (fun _ _ => 0)
    case atStart => exact ⟨rfl, rfl⟩
    case round =>
      obtain ⟨rfl, rfl⟩ := hrel
      go_wp2
      go_ret
      exact ⟨ret_i64 (by simp [szM]), OwnP.nil _ _ _ _, Within.of_below (Below.refl _ _)⟩
  · have hgb := h.own.lt g rfl
    refine (markMoveS_any lo g cap ms a w ha hl h.own).mono ?_
    rintro e w' ⟨rfl, hown, hg⟩
    refine ⟨ret_i64 (by unfold szM; omega), ⟨?_, hlt⟩, Within.of_only hg fun g' e => by cases e; exact ⟨hgb.1, hlt g rfl⟩⟩
    unfold mkM
    rw [pairsFrom_length, flatP_pairsFrom]
    exact hown

/-- heldMoveS finds the marks again. -/
theorem heldM (v : Value) (ms : List (Int × Int)) (a : Int) (w : World) (ha : 0 ≤ a ∧ a ≤ 1000000000) (hl : szM ms ≤ 1000000000) (h : RdM w v (mkM a ms)) :
    Calls Tryd.prog 42 #[v, .int .i64 a] w fun e w' => e = .returned (.int .i64 (a + (szM ms : Int))) ∧ Below w.heap.size w w' := by
  unfold szM at hl
  unfold mkM at h
  obtain ⟨A, c, rfl, _, hr⟩ := h
  rw [pairsFrom_length] at hr ⊢
  generalize hn : ms.length = n at *
  have Hr := Lib.hid hr; clear hr
  go_enter Tryd.func42, Tryd.ntmps42
  go_wp2
  go_loop [1, 5] (fun a' i => ∃ k : Nat, k ≤ n ∧ i = .int .i64 k ∧ a' = .int .i64 (a + (k : Int) * 2)) (fun _ i => n - (intOf i).toNat)
  case atStart => exact ⟨0, Nat.zero_le _, rfl, by simp⟩
  case round =>
    obtain ⟨k, hk, rfl, rfl⟩ := hrel
    by_cases hlt : k < n
    · obtain ⟨b, off, rfl, hb, hc⟩ := Hr.out (by omega)
      obtain ⟨d0, d1⟩ := hc k _ (pairsFrom_get a n k hlt)
      have m1 : IntKind.i64.wrap (a + (k : Int) * 2 + 1) = a + (k : Int) * 2 + 1 := IntWalk.i64_in _ (by omega)
      have m2 : IntKind.i64.wrap (a + (k : Int) * 2 + 1 + 1) = a + (k : Int) * 2 + 1 + 1 := IntWalk.i64_in _ (by omega)
      dsimp only at d0 d1
      rw [show a + 2 * (k : Int) = a + (k : Int) * 2 from by omega] at d0 d1
      clear hc
      have hne : ((a + (k : Int) * 2) != (a + (k : Int) * 2)) = false := by simp
      have hne2 : ((a + (k : Int) * 2 + 1) != (a + (k : Int) * 2 + 1)) = false := by simp
      go_wp2
      go_round
      case rel => exact ⟨k + 1, by omega, by go_num, by go_num⟩
      case measure => simp [intOf]; omega
    · have hke : k = n := by omega
      have Hke := Lib.hid (And.intro hke hn); clear hke
      go_wp2
      go_ret
      exact ⟨ret_i64 (by unfold szM; rw [Hke.out.1, Hke.out.2]; omega), Below.refl _ _⟩
end Go.Proofs.YtgbpbcghblmiaaaDoor
