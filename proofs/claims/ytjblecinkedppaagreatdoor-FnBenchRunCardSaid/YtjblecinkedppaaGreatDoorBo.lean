/- Several texts in one. -/
import Derived.Test.YtjblecinkedppaaGreatDoorBp
import Derived.Test.YtjblecinkedppaaGreatDoorNd
import Derived.Test.YtjblecinkedppaaGreatDoorI
import Derived.Test.YtjblecinkedppaaGreatDoorKa
import Derived.Test.YtjblecinkedppaaGreatDoorJh
import Derived.Lib.OthersKept
import Derived.Test.YtjblecinkedppaaGreatDoorB2
/- A text cut at its spaces (l1Cut), and read as a program, by the model. -/
namespace Go.Proofs.YtjblecinkedppaaGreatDoor
set_option maxRecDepth 100000
open Go.RowKit Go.WideShapes

theorem ba_eta (X : ByteArray) : (⟨(bytesOf X).toArray⟩ : ByteArray) = X := by cases X; simp [bytesOf]
theorem bytes_extract (s : ByteArray) (i j : Nat) : bytesOf (s.extract i j) = ((bytesOf s).drop i).take (j - i) := Lib.extract_data s i j
theorem bytes_len (s : ByteArray) : (bytesOf s).length = s.size := by simp
theorem take_drop_snoc {l : List UInt8} {i j : Nat} {c : UInt8} (hij : i ≤ j) (h : l[j]? = some c) : (l.drop i).take (j + 1 - i) = (l.drop i).take (j - i) ++ [c] := by
  rw [show j + 1 - i = (j - i) + 1 by omega, List.take_add_one, List.getElem?_drop, show i + (j - i) = j by omega, h]; rfl
theorem dropT_split {l : List UInt8} {i j : Nat} {c : UInt8} (hij : i ≤ j) (h : l[j]? = some c) : l.drop i = (l.drop i).take (j - i) ++ c :: l.drop (j + 1) := by
  have h1 : (l.drop i).drop (j - i) = c :: l.drop (j + 1) := by
    rw [List.drop_drop, show i + (j - i) = j by omega]
    have hj : j < l.length := by
      rcases Nat.lt_or_ge j l.length with h1 | h1
      · exact h1
      · rw [List.getElem?_eq_none h1] at h; cases h
    rw [List.drop_eq_getElem_cons hj]
    rw [List.getElem?_eq_getElem hj] at h; injection h with h; rw [h]
  rw [← h1, List.take_append_drop]

/-- What l1Cut has done so far. -/
structure CutSt (l : List UInt8) (i j : Nat) (out : List (List UInt8)) : Prop where
  le : i ≤ j
  len : out.length ≤ i
  eq : cutL 32 l = out ++ cutL 32 (l.drop i)
  no : 32 ∉ (l.drop i).take (j - i)
theorem CutSt.start (l : List UInt8) : CutSt l 0 0 [] := ⟨Nat.le_refl _, by simp, by simp, by simp⟩
theorem CutSt.other {l : List UInt8} {i j : Nat} {out : List (List UInt8)} {c : UInt8} (h : CutSt l i j out) (hc : l[j]? = some c) (hne : c ≠ 32) : CutSt l i (j + 1) out :=
  ⟨by have := h.le; omega, h.len, h.eq, by rw [take_drop_snoc h.le hc, List.mem_append, not_or]; exact ⟨h.no, by simpa using fun e => hne e.symm⟩⟩
theorem CutSt.space {l : List UInt8} {i j : Nat} {out : List (List UInt8)} (h : CutSt l i j out) (hc : l[j]? = some 32) : CutSt l (j + 1) (j + 1) (out ++ [(l.drop i).take (j - i)]) :=
  ⟨Nat.le_refl _, by have := h.len; have := h.le; simp; omega, by
    have e := cutL_step (b := l.drop (j + 1)) h.no
    rw [← dropT_split h.le hc] at e
    rw [h.eq, e]; simp, by simp⟩
theorem CutSt.fin {l : List UInt8} {i : Nat} {out : List (List UInt8)} (h : CutSt l i l.length out) : out ++ [l.drop i] = cutL 32 l := by
  have hn := h.no
  rw [List.take_of_length_le (by simp)] at hn
  rw [h.eq, cut_last hn]

set_option maxHeartbeats 1000000 in
theorem l1Cut_any (s : ByteArray) (w : World) (hm : s.size ≤ 100000000) :
    Calls Tryz.prog 58 #[.string s, .int .u8 32] w fun e w' => ∃ u, e = .returned u ∧ OwnT w' w.heap.size w'.heap.size u (cutL 32 (bytesOf s)) ∧ Below w.heap.size w w' := by
  have hb0 : Below w.heap.size w (w.alloc (.cells #[] 9)) := (Below.refl _ _).alloc (Nat.le_refl _) _
  have ho0 := (OwnT.lits w [] (by simp))
  have ho1 : OwnT (w.alloc (.cells #[] 9)) w.heap.size (w.alloc (.cells #[] 9)).heap.size (.slice (some ⟨w.heap.size, 0, none⟩) 0 0) [] := by simpa [strVals] using ho0
  have Z := Lib.hid (And.intro ho1 hb0); clear ho0 ho1 hb0
  go_enter Tryz.func58, Tryz.ntmps58
  go_wp2
  go_loopw [5, 6, 7] (fun v f k wr => ∃ (i j : Nat) (out : List (List UInt8)), j ≤ s.size ∧ f = .int .i64 i ∧ k = .int .i64 j ∧ CutSt (bytesOf s) i j out ∧ w.heap.size + 1 ≤ wr.heap.size ∧ OwnT wr w.heap.size wr.heap.size v out ∧ Below w.heap.size w wr) (fun _ _ k _ => s.size - (intOf k).toNat)
  case atStart => exact ⟨0, 0, [], Nat.zero_le _, rfl, rfl, CutSt.start _, by simp, Z.out.1, Z.out.2⟩
  case round =>
    clear Z
    obtain ⟨i, j, out, hj, rfl, rfl, hst, hsz, ho, hb⟩ := hrel
    have hij := hst.le
    have hol := hst.len
    have X := Lib.hid (And.intro ho (And.intro hb hst)); clear ho hb hst
    by_cases hlt : j < s.size
    · have hjI : (j : Int) < s.size := by omega
      have hc := bytes_get s j hlt
      by_cases h32 : s[j]'hlt = 32
      · have hx : (((s[j]'hlt).toNat : Int) == 32) = true := by rw [h32]; rfl
        rw [h32] at hc
        have hst2 := X.out.2.2.space hc
        rw [← bytes_extract] at hst2
        obtain ⟨T, hT⟩ : ∃ T : ByteArray, s.extract i j = T := ⟨_, rfl⟩
        rw [hT] at hst2
        have hsl : ∀ W, (Instr.slice 9 (.string s) (some (.int .i64 i)) (some (.int .i64 j)) none).run Tryz.prog W = .ok (.string T) W := fun W => by
          rw [run_slice_string W 9 s .i64 .i64 i j Tryz.underlying9 (by omega) (by omega) (by omega), Int.toNat_natCast, Int.toNat_natCast, hT]
        have hbl : Below wr.heap.size wr (wr.alloc (.cells #[.string T] 9)) := (Below.refl _ _).alloc (Nat.le_refl _) _
        have V := Lib.hid (And.intro (X.out.1.below hbl) (And.intro (X.out.2.1.trans (hbl.mono (by omega))) hst2)); clear hst2 hT hbl X hc
        go_wp2_with (at_builtin; refine wpList_append_str rfl _ _ _ rfl Tryz.underlying24 strInfo w.heap.size wr.heap.size _ out rfl V.out.1 (by simp; omega) wr.heap.size (.string T) (bytesOf T) rfl (by simp) (by rw [ba_eta]) (by omega) ?_)
        intro v4 w4 ho4 hb4 _ _
        have hs4 := hb4.size
        have hz4 : w.heap.size + 1 ≤ w4.heap.size := by simp at hs4; omega
        have Y := Lib.hid (And.intro V.out.2.2 (And.intro hz4 (And.intro ho4 (V.out.2.1.trans hb4)))); clear ho4 hb4 V hs4 hz4
        go_wp2
        go_roundw
        case rel => exact ⟨j + 1, j + 1, _, by omega, by go_num, by go_num, Y.out⟩
        case measure => simp [intOf]; omega
      · have hx : (((s[j]'hlt).toNat : Int) == 32) = false := by
          rw [beq_eq_false_iff_ne]; intro e; exact h32 (UInt8.toNat_inj.1 (by exact_mod_cast e))
        have Y := Lib.hid (And.intro (X.out.2.2.other hc h32) (And.intro hsz (And.intro X.out.1 X.out.2.1))); clear X hc
        go_wp2
        go_roundw
        case rel => exact ⟨i, j + 1, out, by omega, rfl, by go_num, Y.out⟩
        case measure => simp [intOf]; omega
    · obtain rfl : j = s.size := by omega
      have hfin := X.out.2.2
      rw [← bytes_len s] at hfin
      have hf := hfin.fin
      have he : bytesOf (s.extract i s.size) = (bytesOf s).drop i := by rw [bytes_extract, List.take_of_length_le (by simp)]
      obtain ⟨T, hT⟩ : ∃ T : ByteArray, s.extract i s.size = T := ⟨_, rfl⟩
      rw [hT] at he
      rw [← he] at hf
      have hsl : ∀ W, (Instr.slice 9 (.string s) (some (.int .i64 i)) none none).run Tryz.prog W = .ok (.string T) W := fun W => by
        rw [run_slice_string_from_if W 9 s .i64 i Tryz.underlying9, if_pos ⟨by omega, by omega⟩, Int.toNat_natCast, hT]
      have hbl : Below wr.heap.size wr (wr.alloc (.cells #[.string T] 9)) := (Below.refl _ _).alloc (Nat.le_refl _) _
      have V := Lib.hid (And.intro (X.out.1.below hbl) (And.intro (X.out.2.1.trans (hbl.mono (by omega))) hf)); clear hf hT hbl X hfin he
      go_wp2_with (at_builtin; refine wpList_append_str rfl _ _ _ rfl Tryz.underlying24 strInfo w.heap.size wr.heap.size _ out rfl V.out.1 (by simp; omega) wr.heap.size (.string T) (bytesOf T) rfl (by simp) (by rw [ba_eta]) (by omega) ?_)
      intro v4 w4 ho4 hb4 _ _
      rw [V.out.2.2] at ho4
      have Y := Lib.hid (And.intro ho4 (V.out.2.1.trans hb4)); clear ho4 hb4 V
      go_wp2
      go_ret
      exact ⟨_, rfl, Y.out⟩
end Go.Proofs.YtjblecinkedppaaGreatDoor

/- Programs read from texts, by the model. -/
namespace Go.Proofs.YtjblecinkedppaaGreatDoor
set_option maxRecDepth 100000
open Go.RowKit Go.WideShapes

def readProgP (l : List UInt8) : List Int × Bool := match readProgR l with
  | some p => (p, true)
  | none => ([], false)
theorem readAll_take {ws : List (List UInt8)} {k : Nat} {s : List UInt8} {p : List Int} (h : readAll (ws.take k) = some p) (hk : ws[k]? = some s) : readAll (ws.take (k + 1)) = (match readWordR s with | some z => some (p ++ [z]) | none => none) ∧ (readWordR s = none → readAll ws = none) := by
  have hkl : k < ws.length := by
    rcases Nat.lt_or_ge k ws.length with h1 | h1
    · exact h1
    · rw [List.getElem?_eq_none h1] at hk; cases hk
  refine ⟨?_, fun hn => ?_⟩
  · rw [List.take_add_one, hk, readAll_app, h]
    show ((some p).bind fun p => (readAll [s]).map (p ++ ·)) = _
    simp only [Option.bind_some, readAll]
    rcases readWordR s with _ | z <;> rfl
  · have : ws = ws.take k ++ s :: ws.drop (k + 1) := by
      rw [List.getElem?_eq_getElem hkl] at hk
      injection hk with hk
      rw [← hk, ← List.drop_eq_getElem_cons hkl, List.take_append_drop]
    rw [this, readAll_app, h]
    simp only [Option.bind_some, readAll, hn]
    rfl
theorem cutL_len (c : UInt8) (l : List UInt8) : (cutL c l).length ≤ l.length + 1 := by
  induction l with
  | nil => simp [cutL]
  | cons x r ih =>
    rw [cutL]
    split
    · simp; omega
    · split
      · simp
      · rename_i e; rw [e] at ih; simp at ih ⊢; omega
theorem cutL_mem (c : UInt8) (l : List UInt8) : ∀ w ∈ cutL c l, w.length ≤ l.length := by
  induction l with
  | nil => simp [cutL]
  | cons x r ih =>
    rw [cutL]
    split
    · intro w hw
      rcases List.mem_cons.1 hw with rfl | hw
      · simp
      · have := ih w hw; simp; omega
    · split
      · intro w hw; simp at hw; subst hw; simp
      · rename_i a b e
        rw [e] at ih
        intro w hw
        rcases List.mem_cons.1 hw with rfl | hw
        · have := ih a (by simp); simp; omega
        · have := ih w (by simp [hw]); simp; omega
theorem bytes_mk (l : List UInt8) : bytesOf ⟨l.toArray⟩ = l := by simp [bytesOf]
def RpPost (w : World) (y0 : List Int) (y1 : Bool) (e : Ending) (w' : World) : Prop := ∃ u, e = .returned (.tuple #[u, .bool y1]) ∧ OwnI w' w.heap.size w'.heap.size u y0 ∧ Below w.heap.size w w'
theorem read_wf {l : List UInt8} {z : Int} (h : readWordR l = some z) : InK .i64 z := by
  have := isWordB_iff.1 (word_read h).1
  exact WalkArith.wf_i64 (by omega)
theorem own_ints {w : World} {lo : Nat} {v : Value} {zs : List Int} (h : Own w lo v zs) : OwnI w lo w.heap.size v zs := h.within

set_option maxHeartbeats 1000000 in
theorem ReadProg_S (x0 : ByteArray) (w : World) (h0 : x0.size ≤ 100000000) (y0 : List Int) (y1 : Bool) (hR : readProgP (bytesOf x0) = (y0, y1)) :
    Calls Tryz.prog 26 #[.string x0] w (RpPost w y0 y1) := by
  have hse := str_eq x0 [45, 45]
  by_cases h2 : bytesOf x0 = [45, 45]
  · rw [decide_eq_true h2] at hse
    have hy : readProgP (bytesOf x0) = ([], true) := by rw [h2]; rfl
    rw [hy] at hR
    cases hR
    have L := Lib.hid (nilLit w)
    clear h2 hy
    go_enter Tryz.func26, Tryz.ntmps26
    go_wp2
    go_ret2
    exact ⟨_, rfl, L.out.1, L.out.2⟩
  · rw [decide_eq_false h2] at hse
    have hy : readProgP (bytesOf x0) = match readAll (cutL 32 (bytesOf x0)) with
        | none => ([], false)
        | some p => if validB p = true then (p, true) else ([], false) := by
      unfold readProgP readProgR
      rw [if_neg h2]
      rcases readAll (cutL 32 (bytesOf x0)) with _ | p
      · rfl
      · show (match (if validB p = true then some p else none) with | some p => (p, true) | none => ([], false)) = _
        by_cases hv : validB p = true <;> simp [hv]
    rw [hR] at hy
    have HY := Lib.hid hy
    have L := nilLit w
    have L1 := Lib.hid L
    clear h2 hy hR L
    have hcl := cutL_len 32 (bytesOf x0)
    have hcm := cutL_mem 32 (bytesOf x0)
    rw [bytes_len x0] at hcl hcm
    generalize hws : cutL 32 (bytesOf x0) = ws at *
    have HW := Lib.hid hws; have HM := Lib.hid hcm; clear hws hcm
    go_enter Tryz.func26, Tryz.ntmps26
    go_wp2_with fail
    refine (l1Cut_any x0 _ h0).mono ?_
    rw [HW.out]
    rintro e w1 ⟨u, rfl, ho, hb⟩
    have hz1 := hb.size
    have hz2 : w.heap.size + 1 ≤ w1.heap.size := by simpa using hz1
    have X := Lib.hid (And.intro ho (And.intro (L1.out.1.below hb).own (L1.out.2.trans (hb.mono (by simp))))); clear ho hb L1 hz1
    obtain ⟨A, c, rfl, _⟩ := X.out.1.rd
    go_wp2
    go_loopw [4, 6] (fun v i wr => ∃ (k : Nat) (p : List Int), i = .int .i64 k ∧ k ≤ ws.length ∧ p.length ≤ k ∧ w.heap.size + 1 ≤ wr.heap.size ∧ readAll (ws.take k) = some p ∧ OwnT wr (w.alloc (.cells #[] 3)).heap.size w1.heap.size (.slice A ws.length c) ws ∧ Own wr w.heap.size v p ∧ Below w.heap.size w wr) (fun _ i _ => ws.length - (intOf i).toNat)
    case atStart => exact ⟨0, [], rfl, Nat.zero_le _, by simp, hz2, rfl, X.out.1, X.out.2.1, X.out.2.2⟩
    case round =>
      clear X
      obtain ⟨k, p, rfl, hk, hpl, hsz, hp, q1, q2, q3⟩ := hrel
      have hpl2 : p.length ≤ 200000000 := by omega
      by_cases hlt : k < ws.length
      · obtain ⟨s, hs⟩ : ∃ s, ws[k]? = some s := ⟨_, List.getElem?_eq_getElem hlt⟩
        obtain ⟨A', c', he, _, _, hr⟩ := q1.rd
        cases he
        obtain ⟨b, off, rfl, hbl, hc⟩ := hr (by omega)
        have hcell := hc k s hs
        obtain ⟨t1, t2⟩ := readAll_take hp hs
        have hltI : (k : Int) < ws.length := by omega
        have X := Lib.hid (And.intro q1 (And.intro q2 (And.intro q3 (And.intro t1 t2)))); clear q1 q2 q3 hr hc hp t1 t2
        rcases hrw : readWordR s with _ | z
        · have HN := Lib.hid hrw; clear hrw
          go_wp2_with fail
          refine (specReadWord_any ⟨s.toArray⟩ _ (by have := HM.out s (List.mem_of_getElem? hs); simp [ByteArray.size]; omega)).mono ?_
          rw [bytes_mk, HN.out]
          rintro e w2 ⟨rfl, hb⟩
          have hz := hb.size
          have N := Lib.hid (nilOut (X.out.2.2.1.trans (hb.mono (by omega)) : Below w.heap.size w w2)); clear hb
          go_wp2
          go_ret2
          have hy := HY.out
          rw [X.out.2.2.2.2 HN.out] at hy
          cases hy
          exact ⟨_, rfl, N.out⟩
        · have HN := Lib.hid hrw
          have hwf := read_wf hrw
          clear hrw
          go_wp2_with fail
          refine (specReadWord_any ⟨s.toArray⟩ _ (by have := HM.out s (List.mem_of_getElem? hs); simp [ByteArray.size]; omega)).mono ?_
          rw [bytes_mk, HN.out]
          rintro e w2 ⟨rfl, hb⟩
          have hz := hb.size
          have Y := Lib.hid (And.intro (X.out.1.below hb) (And.intro (X.out.2.1.below hb) (X.out.2.2.1.trans (hb.mono (by omega))))); clear hb
          have hne := Lib.hid (ownsRow_ne8 Y.out.1.own Y.out.2.1.own (by decide))
          go_wp2_with (at_builtin; refine wpList_append_Kz rfl _ _ _ rfl Tryz.underlying23 intInfo z rfl hwf w.heap.size _ p rfl Y.out.2.1 (by omega) rfl (by omega) ?_)
          intro v3 w3 ho3 hg3
          have hb3 := below_of_only hg3 (by omega : w.heap.size ≤ w2.heap.size) fun k hk => (Y.out.2.1.ge k hk).1
          have hz3 : w2.heap.size ≤ w3.heap.size := hg3.size
          have T := Lib.hid (And.intro (by have := X.out.2.2.2.1; rw [HN.out] at this; exact this : readAll (ws.take (k + 1)) = some (p ++ [z])) (And.intro (⟨Y.out.1.own.kept hg3 hne.out, Y.out.1.lt⟩ : OwnT w3 _ w1.heap.size _ ws) (And.intro ho3 (Y.out.2.2.trans hb3)))); clear ho3 hg3 hb3
          go_wp2
          go_roundw
          case rel => exact ⟨k + 1, p ++ [z], by go_num, by omega, by simp; omega, by omega, T.out⟩
          case measure => simp [intOf]; omega
      · obtain rfl : k = ws.length := by omega
        rw [List.take_of_length_le (Nat.le_refl _)] at hp
        have hy := HY.out
        rw [hp] at hy
        have HY2 := Lib.hid hy
        obtain ⟨Ap, cp, rfl, hi, hcp⟩ := q2.ints
        have X := Lib.hid (And.intro (own_ints q2) (And.intro q3 hi)); clear q1 q2 q3 hi hp hy
        rcases hv : validB p with _ | _
        · have HV := Lib.hid hv; clear hv
          have N := Lib.hid (nilOut X.out.2.1)
          go_wp2_with fail
          refine (specValid_any Ap cp p _ X.out.2.2).mono ?_
          rw [HV.out]
          rintro e w' ⟨rfl, rfl⟩
          go_wp2
          go_ret2
          have hy := HY2.out
          rw [HV.out] at hy
          cases hy
          exact ⟨_, rfl, N.out⟩
        · have HV := Lib.hid hv; clear hv
          go_wp2_with fail
          refine (specValid_any Ap cp p _ X.out.2.2).mono ?_
          rw [HV.out]
          rintro e w' ⟨rfl, rfl⟩
          go_wp2
          go_ret2
          have hy := HY2.out
          rw [HV.out] at hy
          cases hy
          exact ⟨_, rfl, X.out.1, X.out.2.1⟩
end Go.Proofs.YtjblecinkedppaaGreatDoor

/- Programs read from texts, by the program: a range over the text with a space behind it. -/
namespace Go.Proofs.YtjblecinkedppaaGreatDoor
set_option maxRecDepth 100000
open Go.RowKit Go.WideShapes

theorem get_byte (s : ByteArray) (k : Nat) (h : k < s.size) : s.get! k = s[k]'h := by
  simp [ByteArray.get!, getElem!_pos, h]
  rfl
/-- What a range finds at a place: one byte below 128, or several of 128 and more. -/
theorem decode_facts (s : ByteArray) (pos : Nat) (h : pos < s.size) : ∃ r wd, Utf8.decode s pos = (r, wd) ∧ 1 ≤ wd ∧ pos + wd ≤ s.size ∧ r ≤ 2147483647 ∧ (((bytesOf s)[pos]? = some 32 ∧ r = 32 ∧ wd = 1) ∨ (r ≠ 32 ∧ ∀ j, pos ≤ j → j < pos + wd → ∃ c, (bytesOf s)[j]? = some c ∧ c ≠ 32)) := by
  have hle := decode_le s pos
  by_cases ha : (s[pos]'h).toNat < 128
  · have hd := decode_ascii s pos h ha
    refine ⟨_, _, hd, Nat.le_refl _, by omega, by omega, ?_⟩
    by_cases h32 : s[pos]'h = 32
    · exact .inl ⟨by rw [bytes_get s pos h, h32], by rw [h32]; rfl, rfl⟩
    · refine .inr ⟨fun e => h32 (UInt8.toNat_inj.1 (by simpa using e)), fun j h1 h2 => ?_⟩
      obtain rfl : j = pos := by omega
      exact ⟨_, bytes_get s _ h, h32⟩
  · have hk : ∀ k, pos + k < s.size → 128 ≤ (s.get! (pos + k)).toNat → ∃ c, (bytesOf s)[pos + k]? = some c ∧ c ≠ 32 := fun k hk hc => by
      rw [get_byte s _ hk] at hc
      refine ⟨_, bytes_get s _ hk, fun e => ?_⟩
      rw [e] at hc; simp at hc
    have h0 : 128 ≤ (s.get! (pos + 0)).toNat := by rw [get_byte s (pos + 0) (by omega)]; simpa using Nat.le_of_not_lt ha
    have hh := decode_high s pos h (by omega)
    have hone : ∀ j, pos ≤ j → j < pos + 1 → ∃ c, (bytesOf s)[j]? = some c ∧ c ≠ 32 := fun j h1 h2 => by
      obtain rfl : j = pos + 0 := by omega
      exact hk 0 (by omega) h0
    have hc : ∀ k, decide (pos + k < s.size) = true ∧ ((s.get! (pos + k)).toNat / 64 == 2) = true → pos + k < s.size ∧ 128 ≤ (s.get! (pos + k)).toNat := fun k ⟨h1, h2⟩ => ⟨by simpa using h1, by have := beq_iff_eq.1 h2; omega⟩
    generalize hD : Utf8.decode s pos = D at *
    obtain ⟨r, wd⟩ := D
    refine ⟨r, wd, rfl, hh.2, ?_⟩
    dsimp only at hh hle
    have hn : ¬ (s.get! (pos + 0)).toNat < 0x80 := by omega
    simp only [Utf8.decode, hn, if_false] at hD
    have fin : ∀ n, wd = n → (∀ k, k < n → pos + k < s.size ∧ 128 ≤ (s.get! (pos + k)).toNat) → 1 ≤ n → pos + wd ≤ s.size ∧ r ≤ 2147483647 ∧ (((bytesOf s)[pos]? = some 32 ∧ r = 32 ∧ wd = 1) ∨ (r ≠ 32 ∧ ∀ j, pos ≤ j → j < pos + wd → ∃ c, (bytesOf s)[j]? = some c ∧ c ≠ 32)) := by
      rintro n rfl hall h1
      refine ⟨by have := (hall (wd - 1) (by omega)).1; omega, hle, .inr ⟨by omega, fun j h1 h2 => ?_⟩⟩
      obtain ⟨k, rfl⟩ : ∃ k, j = pos + k := ⟨j - pos, by omega⟩
      exact hk k (hall k (by omega)).1 (hall k (by omega)).2
    have b0 : pos + 0 < s.size ∧ 128 ≤ (s.get! (pos + 0)).toNat := ⟨by omega, h0⟩
    have f1 : ∀ e : wd = 1, _ := fun e => fin 1 e (fun k hk => (show k = 0 by omega) ▸ b0) (Nat.le_refl _)
    split at hD
    · rename_i hx
      simp only [Bool.and_eq_true] at hx
      split at hD
      · cases hD
        refine fin 2 rfl (fun k hk => ?_) (by omega)
        rcases (show k = 0 ∨ k = 1 by omega) with rfl | rfl
        · exact b0
        · exact hc 1 hx.2
      · cases hD; exact f1 rfl
    · split at hD
      · rename_i hx
        simp only [Bool.and_eq_true] at hx
        split at hD
        · cases hD
          refine fin 3 rfl (fun k hk => ?_) (by omega)
          rcases (show k = 0 ∨ k = 1 ∨ k = 2 by omega) with rfl | rfl | rfl
          · exact b0
          · exact hc 1 hx.1.2
          · exact hc 2 hx.2
        · cases hD; exact f1 rfl
      · split at hD
        · rename_i hx
          simp only [Bool.and_eq_true] at hx
          split at hD
          · cases hD
            refine fin 4 rfl (fun k hk => ?_) (by omega)
            rcases (show k = 0 ∨ k = 1 ∨ k = 2 ∨ k = 3 by omega) with rfl | rfl | rfl | rfl
            · exact b0
            · exact hc 1 hx.1.1.2
            · exact hc 2 hx.1.2
            · exact hc 3 hx.2
          · cases hD; exact f1 rfl
        · cases hD; exact f1 rfl
theorem CutSt.many {l : List UInt8} {i j : Nat} {out : List (List UInt8)} (n : Nat) (h : CutSt l i j out) (hc : ∀ k, j ≤ k → k < j + n → ∃ c, l[k]? = some c ∧ c ≠ 32) : CutSt l i (j + n) out := by
  induction n with
  | zero => exact h
  | succ n ih =>
    obtain ⟨c, h1, h2⟩ := hc (j + n) (by omega) (by omega)
    exact (ih fun k hk hk2 => hc k hk (by omega)).other h1 h2
/-- With a space behind it every word ends at one. -/
theorem CutSt.words {l : List UInt8} {i j : Nat} {out : List (List UInt8)} (h : CutSt (l ++ [32]) i j out) : ∃ r, cutL 32 l = out ++ r := by
  have e := h.eq
  rw [cutL_snoc] at e
  have hne := cut_ne 32 ((l ++ [32]).drop i)
  generalize cutL 32 ((l ++ [32]).drop i) = X at *
  rcases List.eq_nil_or_concat X with rfl | ⟨r, y, rfl⟩
  · exact absurd rfl hne
  · rw [List.concat_eq_append, ← List.append_assoc] at e
    exact ⟨r, (List.append_inj' e rfl).1⟩
theorem CutSt.ended {l : List UInt8} {i : Nat} {out : List (List UInt8)} (h : CutSt (l ++ [32]) i (l.length + 1) out) : cutL 32 l = out := by
  have hi : i = l.length + 1 := by
    rcases Nat.lt_or_ge i (l.length + 1) with h1 | h1
    · exfalso
      refine h.no ?_
      rw [List.take_of_length_le (by simp), List.drop_append_of_le_length (by omega)]
      simp
    · have := h.le; omega
  have e := h.eq
  rw [cutL_snoc, hi, List.drop_of_length_le (by simp)] at e
  exact (List.append_inj' e rfl).1
theorem CutSt.piece {l : List UInt8} {i j : Nat} (hj : j ≤ l.length) : ((l ++ [32]).drop i).take (j - i) = (l.drop i).take (j - i) := by
  rcases Nat.lt_or_ge j i with h | h
  · rw [show j - i = 0 by omega]; simp
  · rw [List.drop_append_of_le_length (by omega), List.take_append_of_le_length (by simp; omega)]
theorem readProgP_cut {l : List UInt8} (h2 : ¬ l = [45, 45]) : readProgP l = match readAll (cutL 32 l) with
        | none => ([], false)
        | some p => if validB p = true then (p, true) else ([], false) := by
  unfold readProgP readProgR
  rw [if_neg h2]
  rcases readAll (cutL 32 l) with _ | p
  · rfl
  · show (match (if validB p = true then some p else none) with | some p => (p, true) | none => ([], false)) = _
    by_cases hv : validB p = true <;> simp [hv]
theorem read_bad {l : List UInt8} {out r : List (List UInt8)} {s : List UInt8} {p : List Int} (h2 : ¬ l = [45, 45]) (he : cutL 32 l = out ++ [s] ++ r) (hp : readAll out = some p) (hb : readWordR s = none ∨ p.length = 60) : readProgP l = ([], false) := by
  rw [readProgP_cut h2, he, readAll_app, readAll_app, hp]
  simp only [Option.bind_some, readAll]
  rcases hb with hb | hb
  · rw [hb]; rfl
  · rcases readWordR s with _ | z
    · rfl
    · rcases readAll r with _ | q
      · rfl
      · show (if validB (p ++ [z] ++ q) = true then _ else _) = _
        rw [if_neg]
        simp [validB]; intro _; omega
theorem read_good {l : List UInt8} {p : List Int} (h2 : ¬ l = [45, 45]) (hp : readAll (cutL 32 l) = some p) (hl : p.length ≤ 60) : readProgP l = if fitsFrom 0 p = true then (p, true) else ([], false) := by
  rw [readProgP_cut h2, hp]
  have := (readAll_len hp).2.1
  have e : validB p = fitsFrom 0 p := by simp [validB, this, hl]
  simp only [e]
theorem iterAt_grown (w : World) (G : Nat) (s : ByteArray) (pos : Nat) : w.grownBy (w.iterAt G s pos) (some G) :=
  ⟨rfl, rfl, rfl, by rw [Lib.iterAt_size]; exact Nat.le_refl _, fun i _ hne => Lib.iterAt_other w G i s pos fun e => hne (by rw [e])⟩
end Go.Proofs.YtjblecinkedppaaGreatDoor

/- ReadProg of the program. -/
namespace Go.Proofs.YtjblecinkedppaaGreatDoor
set_option maxRecDepth 100000
open Go.RowKit Go.WideShapes

theorem sum_bytes (x : ByteArray) (l : List UInt8) : (x ++ ⟨l.toArray⟩ : ByteArray) = ⟨(bytesOf x ++ l).toArray⟩ := by
  apply ByteArray.ext
  simp [ByteArray.data_append, bytesOf]
set_option maxHeartbeats 2000000 in
theorem ReadProg_I (x0 : ByteArray) (w : World) (h0 : x0.size ≤ 100000000) (y0 : List Int) (y1 : Bool) (hR : readProgP (bytesOf x0) = (y0, y1)) (ht : StrTab w 0 opNames) :
    Calls Tryz.prog 11 #[.string x0] w (RpPost w y0 y1) := by
  have hse := str_eq x0 [45, 45]
  by_cases h2 : bytesOf x0 = [45, 45]
  · rw [decide_eq_true h2] at hse
    have hy : readProgP (bytesOf x0) = ([], true) := by rw [h2]; rfl
    rw [hy] at hR
    cases hR
    clear h2 hy
    go_enter Tryz.func11, Tryz.ntmps11
    go_wp2
    go_ret2
    exact ⟨_, rfl, nilOwn _ _ _, Below.refl _ _⟩
  · rw [decide_eq_false h2] at hse
    have hgl := ht.lt
    have HT := Lib.hid ht; clear ht
    obtain ⟨S, hS⟩ : ∃ S : ByteArray, (⟨(bytesOf x0 ++ [32]).toArray⟩ : ByteArray) = S := ⟨_, rfl⟩
    have hSb : bytesOf S = bytesOf x0 ++ [32] := by rw [← hS, bytes_mk]
    have hSz : S.size = x0.size + 1 := by rw [← bytes_len S, hSb]; simp
    have hadd : ∀ W, (Op.stringOp .add x0 ⟨#[32]⟩).run Tryz.prog W = .ok (.string S) W := fun W => by
      have hsz : (⟨#[32]⟩ : ByteArray).size = 1 := rfl
      rw [run_string_add_sum W _ _ (by rw [hsz]; omega), sum_bytes x0 [32], hS]
    have HS := Lib.hid (And.intro hSb hSz)
    have H2 := Lib.hid h2
    have HR := Lib.hid hR
    have hb0 : Below w.heap.size w (w.iter S 0) := below_iter w S 0
    have B0 := Lib.hid hb0
    clear hS hSb hSz h2 hR hb0
    go_enter Tryz.func11, Tryz.ntmps11
    go_wp2
    generalize hG : w.heap.size = G at *
    have HG := Lib.hid hG; clear hG
    go_loopw [4, 5] (fun v f wr => ∃ (i j : Nat) (out : List (List UInt8)) (p : List Int), f = .int .i64 i ∧ j ≤ S.size ∧ p.length ≤ 60 ∧ G + 1 ≤ wr.heap.size ∧ CutSt (bytesOf S) i j out ∧ readAll out = some p ∧ wr.heap[G]? = some (.stringIter S j) ∧ Own wr (G + 1) v p ∧ Below G w wr) (fun _ _ wr => S.size - wr.iterPos G)
    case atStart => exact ⟨0, 0, [], [], rfl, Nat.zero_le _, by simp, by simp [← HG.out, World.iter], CutSt.start _, rfl, by simp [← HG.out, World.iter_heap], Own.nil _ _, B0.out⟩
    case round =>
      clear B0
      obtain ⟨i, j, out, p, rfl, hj, hpl, hsz, hst, hp, hit, ho, hb⟩ := hrel
      obtain ⟨A, c, rfl, hin, hcp⟩ := ho.ints
      have hij := hst.le
      by_cases hlt : j < S.size
      · obtain ⟨r, wd, hd, h1, h3, hr, hcase⟩ := decode_facts S j hlt
        have hnx : ∀ ty, (Instr.next (.pointer (some ⟨G, 0, none⟩)) true ty).run Tryz.prog wr = .ok (.tuple #[.bool true, .int .i64 j, .int .i32 r]) (wr.iterAt G S (j + wd)) := fun ty => by rw [Lib.run_next_any_at wr G S j ty hit hlt, hd]
        have hgr := iterAt_grown wr G S (j + wd)
        have ho2 := ho.only hgr (.inr fun e => by have := (ho.ge G e).1; omega)
        have hit2 := Lib.iterAt_heap wr G S j (j + wd) hit
        have hb2 := Lib.below_iterAt hb (Nat.le_refl G) S (j + wd)
        have hs2 : G + 1 ≤ (wr.iterAt G S (j + wd)).heap.size := by rw [Lib.iterAt_size]; exact hsz
        rcases hcase with ⟨hc, rfl, rfl⟩ | ⟨hne, hall⟩
        · have hjx : j ≤ x0.size := by have := HS.out.2; omega
          have hst2 := hst.space hc
          have he : bytesOf (x0.extract i j) = ((bytesOf S).drop i).take (j - i) := by rw [bytes_extract, HS.out.1, CutSt.piece (by rw [bytes_len]; exact hjx)]
          have hsp := hst2
          rw [HS.out.1] at hsp
          obtain ⟨rr, hrr⟩ := hsp.words
          rw [← HS.out.1, ← he] at hrr
          rw [← he] at hst2
          have hTz : (x0.extract i j).size ≤ x0.size := by rw [ByteArray.size_extract]; omega
          obtain ⟨T, hT⟩ : ∃ T : ByteArray, x0.extract i j = T := ⟨_, rfl⟩
          rw [hT] at hst2 hrr hTz
          have hsl : ∀ W, (Instr.slice 9 (.string x0) (some (.int .i64 i)) (some (.int .i64 j)) none).run Tryz.prog W = .ok (.string T) W := fun W => by
            rw [run_slice_string W 9 x0 .i64 .i64 i j Tryz.underlying9 (by omega) (by omega) (by omega), Int.toNat_natCast, Int.toNat_natCast, hT]
          have HI00 := Lib.hid (show wr.iterPos G = j by simp [World.iterPos, hit])
          have X := Lib.hid (And.intro ho2 (And.intro hit2 (And.intro hb2 (And.intro hst2 (And.intro hp hrr)))))
          have hs2' := Lib.hid hs2
          clear ho2 hit2 hb2 hst2 hp hrr hsp he hT hgr hit ho hb hst hd hc hin hs2
          rcases hrw : readWordR (bytesOf T) with _ | z
          · have HN := Lib.hid hrw; clear hrw
            go_wp2_with fail
            refine (ReadWord_any T _ (by omega) (HT.out.below X.out.2.2.1 (by have := HG.out; omega))).mono ?_
            rw [HN.out]
            rintro e w3 ⟨rfl, hb3⟩
            have B := Lib.hid (X.out.2.2.1.trans (hb3.mono (by have := hs2'.out; omega))); clear hb3
            go_wp2
            go_ret2
            have hy := HR.out
            rw [read_bad H2.out X.out.2.2.2.2.2 X.out.2.2.2.2.1 (.inl HN.out)] at hy
            cases hy
            exact ⟨_, rfl, nilOwn _ _ _, by rw [HG.out]; exact B.out⟩
          · have HN := Lib.hid hrw
            have hwf := read_wf hrw
            clear hrw
            by_cases h60 : p.length = 60
            · have hx : ((p.length : Int) == 60) = true := by rw [beq_iff_eq]; omega
              have H60 := Lib.hid h60; clear h60
              go_wp2_with fail
              refine (ReadWord_any T _ (by omega) (HT.out.below X.out.2.2.1 (by have := HG.out; omega))).mono ?_
              rw [HN.out]
              rintro e w3 ⟨rfl, hb3⟩
              have B := Lib.hid (X.out.2.2.1.trans (hb3.mono (by have := hs2'.out; omega))); clear hb3
              go_wp2
              go_ret2
              have hy := HR.out
              rw [read_bad H2.out X.out.2.2.2.2.2 X.out.2.2.2.2.1 (.inr H60.out)] at hy
              cases hy
              exact ⟨_, rfl, nilOwn _ _ _, by rw [HG.out]; exact B.out⟩
            · have hx : ((p.length : Int) == 60) = false := by rw [beq_eq_false_iff_ne]; omega
              have hpl2 : p.length + 1 ≤ 60 := by omega
              clear h60
              go_wp2_with fail
              refine (ReadWord_any T _ (by omega) (HT.out.below X.out.2.2.1 (by have := HG.out; omega))).mono ?_
              rw [HN.out]
              rintro e w3 ⟨rfl, hb3⟩
              have hz3 := hb3.size
              have hz4 : G + 1 ≤ w3.heap.size := Nat.le_trans hs2'.out hz3
              have Y := Lib.hid (And.intro (X.out.1.below hb3) (And.intro ((hb3.block G (by have := hs2'.out; omega)).trans X.out.2.1) (X.out.2.2.1.trans (hb3.mono (by have := hs2'.out; omega))))); clear hb3
              go_wp2_with (at_builtin; refine wpList_append_Kz rfl _ _ _ rfl Tryz.underlying23 intInfo z rfl hwf (G + 1) _ p rfl Y.out.1 hz4 rfl (by omega) ?_)
              intro v5 w5 ho5 hg5
              have hb5 := below_of_only hg5 (by omega : G ≤ w3.heap.size) fun k hk => Nat.le_trans (Nat.le_succ G) (Y.out.1.ge k hk).1
              have hz5 : w3.heap.size ≤ w5.heap.size := hg5.size
              have hra : readAll (out ++ [bytesOf T]) = some (p ++ [z]) := by
                rw [readAll_app, X.out.2.2.2.2.1]
                simp only [Option.bind_some, readAll, HN.out]
                rfl
              have hit5 : w5.heap[G]? = some (.stringIter S (j + 1)) := (hg5.block G (by omega) (fun e => by have := (Y.out.1.ge G e.symm).1; omega)).trans Y.out.2.1
              have T5 := Lib.hid (And.intro X.out.2.2.2.1 (And.intro hra (And.intro hit5 (And.intro ho5 (Y.out.2.2.trans hb5)))))
              have HI := Lib.hid (show w5.iterPos G = j + 1 by simp [World.iterPos, hit5])
              have HI0 := Lib.hid HI00.out
              clear ho5 hg5 hb5 hra hit5
              go_wp2
              go_roundw
              case rel => exact ⟨j + 1, j + 1, _, p ++ [z], by go_num, by omega, by simp; omega, by omega, T5.out⟩
              case measure => rw [HI.out, HI0.out]; omega
        · have hx : ((r : Int) != 32) = true := by rw [bne_iff_ne]; omega
          have T5 := Lib.hid (And.intro (hst.many wd hall) (And.intro hp (And.intro hit2 (And.intro ho2 hb2))))
          have HI := Lib.hid (show (wr.iterAt G S (j + wd)).iterPos G = j + wd by simp [World.iterPos, hit2])
          have HI0 := Lib.hid (show wr.iterPos G = j by simp [World.iterPos, hit])
          have hs2' := Lib.hid hs2
          clear ho2 hit2 hb2 hp hgr hit ho hb hst hd hin hs2
          go_wp2
          go_roundw
          case rel => exact ⟨i, j + wd, out, p, rfl, by omega, hpl, hs2'.out, T5.out⟩
          case measure => rw [HI.out, HI0.out]; omega
      · obtain rfl : j = S.size := by omega
        have hnx : ∀ ty, (Instr.next (.pointer (some ⟨G, 0, none⟩)) true ty).run Tryz.prog wr = .ok (.tuple #[.bool false]) wr := fun ty => Lib.run_next_end_at wr G S S.size ty hit hlt
        have hcut : cutL 32 (bytesOf x0) = out := by
          have h3 := hst
          rw [HS.out.1, HS.out.2, ← bytes_len x0] at h3
          exact h3.ended
        rw [← hcut] at hp
        have hy := HR.out
        rw [read_good H2.out hp hpl] at hy
        have X := Lib.hid (And.intro (⟨ho.mono (by omega : G ≤ G + 1), fun g hg => (ho.ge g hg).2⟩ : OwnI wr G wr.heap.size (.slice A p.length c) p) (And.intro hb (And.intro hin hy)))
        clear ho hb hin hy hp hcut hst hit
        rcases hv : fitsFrom 0 p with _ | _
        · have HV := Lib.hid hv; clear hv
          go_wp2_with fail
          refine (bracketsFit_any A c p _ X.out.2.2.1).mono ?_
          rw [HV.out]
          rintro e w' ⟨rfl, rfl⟩
          go_wp2
          go_ret2
          have hy := X.out.2.2.2
          rw [HV.out] at hy
          cases hy
          exact ⟨_, rfl, nilOwn _ _ _, by rw [HG.out]; exact X.out.2.1⟩
        · have HV := Lib.hid hv; clear hv
          go_wp2_with fail
          refine (bracketsFit_any A c p _ X.out.2.2.1).mono ?_
          rw [HV.out]
          rintro e w' ⟨rfl, rfl⟩
          go_wp2
          go_ret2
          have hy := X.out.2.2.2
          rw [HV.out] at hy
          cases hy
          exact ⟨_, rfl, by rw [HG.out]; exact X.out.1, by rw [HG.out]; exact X.out.2.1⟩
end Go.Proofs.YtjblecinkedppaaGreatDoor

/- ProgText of the program and of the model. -/
namespace Go.Proofs.YtjblecinkedppaaGreatDoor
set_option maxRecDepth 100000
open Go.RowKit Go.WideShapes

/-- The texts of a program's words, one after another, and what is still empty. -/
def wordsT (p : List Int) (k : Nat) : List (List UInt8) := (p.take k).map wordT ++ List.replicate (p.length - k) []
theorem wordsT_len (p : List Int) (k : Nat) (hk : k ≤ p.length) : (wordsT p k).length = p.length := by simp [wordsT]; omega
theorem wordsT_set (p : List Int) (k : Nat) (h : k < p.length) : (wordsT p k).set k (wordT (p.getD k 0)) = wordsT p (k + 1) := by
  have hl : ((p.take k).map wordT).length = k := by simp; omega
  have hrep : List.replicate (p.length - k) ([] : List UInt8) = [] :: List.replicate (p.length - (k + 1)) [] := by
    rw [show p.length - k = (p.length - (k + 1)) + 1 from by omega, List.replicate_succ]
  rw [wordsT, hrep, List.set_append_right _ _ (by omega), hl, Nat.sub_self, List.set_cons_zero, wordsT, List.take_add_one, List.getElem?_eq_getElem h, List.map_append]
  simp only [Option.toList_some, List.map_cons, List.map_nil, List.append_assoc, List.cons_append, List.nil_append, List.getD, List.getElem?_eq_getElem h, Option.getD_some]
theorem wordsT_all (p : List Int) : wordsT p p.length = p.map wordT := by simp [wordsT]
theorem join_le (ws : List (List UInt8)) (h : ∀ w ∈ ws, w.length ≤ 5) : (Lib.join ws [32]).length ≤ 6 * ws.length := by
  induction ws with
  | nil => simp [Lib.join_nil]
  | cons w r ih =>
    rw [Lib.join_cons, List.length_append, Lib.joinTail_length]
    have h1 := h w (by simp)
    have h2 : Lib.lens r ≤ 5 * r.length := by
      have : ∀ x ∈ r, x.length ≤ 5 := fun x hx => h x (by simp [hx])
      clear ih h h1
      induction r with
      | nil => simp [Lib.lens]
      | cons y r ih =>
        have := ih fun x hx => this x (by simp [hx])
        have h3 := ‹∀ x ∈ y :: r, x.length ≤ 5› y (by simp)
        simp only [Lib.lens, List.map_cons, List.sum_cons, List.length_cons] at this ⊢
        omega
    simp; omega
theorem wordT_len {p : List Int} (h : p.all isWordB = true) : ∀ w ∈ p.map wordT, w.length ≤ 5 := by
  intro w hw
  obtain ⟨z, hz, rfl⟩ := List.mem_map.1 hw
  exact (wordT_facts (List.all_eq_true.1 h z hz)).2.2.2
theorem progT_len (p : List Int) : (progT p).length ≤ 400 := by
  unfold progT
  by_cases h : validB p = true
  · rw [if_pos h]
    by_cases hp : p = []
    · rw [if_pos hp]; simp
    · rw [if_neg hp]
      have := join_le _ (wordT_len (validB_words h))
      have hl := validB_len h
      rw [List.length_map] at this; omega
  · rw [if_neg h]; simp
theorem strVals_set (ss : List (List UInt8)) (k : Nat) (z : List UInt8) : (strVals ss).set k (.string ⟨z.toArray⟩) = strVals (ss.set k z) := by simp [strVals, List.map_set]

set_option maxHeartbeats 2000000 in
theorem ProgText_I (v0 : Value) (x0 : List Int) (w : World) (h0 : RdI w v0 x0) (ht : StrTab w 0 opNames) (hp : Pow w) :
    Calls Tryz.prog 81 #[v0] w fun e w' => e = .returned (.string ⟨(progT x0).toArray⟩) ∧ Below w.heap.size w w' := by
  obtain ⟨A, c, rfl, hi, hc⟩ := h0
  have H := Lib.hid hi
  have HT := Lib.hid (And.intro ht hp); clear hp
  have hgl := ht.lt
  clear ht
  rcases hv : validB x0 with _ | _
  · have HR := Lib.hid (progT_no hv)
    have HV := Lib.hid hv
    clear hv hi
    go_enter Tryz.func81, Tryz.ntmps81
    go_wp2_with fail
    refine (ProgValid_any A c x0 _ H.out).mono ?_
    rw [HV.out]
    rintro e w' ⟨rfl, rfl⟩
    go_wp2
    go_ret
    rw [HR.out]
    exact ⟨rfl, Below.refl _ _⟩
  · have HV := Lib.hid hv
    have hl := validB_len hv
    have hw := validB_words hv
    by_cases hnil : x0 = []
    · subst hnil
      have HR : Hid (progT [] = [45, 45]) := Lib.hid (by decide)
      clear hv hi hw
      simp only [List.length_nil] at *
      go_enter Tryz.func81, Tryz.ntmps81
      go_wp2_with fail
      refine (ProgValid_any A c [] _ H.out).mono ?_
      rw [HV.out]
      rintro e w' ⟨rfl, rfl⟩
      go_wp2
      go_ret
      rw [HR.out]
      exact ⟨rfl, Below.refl _ _⟩
    · have hpos : 0 < x0.length := List.length_pos_iff.2 hnil
      have hx : ((x0.length : Int) == 0) = false := by rw [beq_eq_false_iff_ne]; omega
      have HR : Hid (progT x0 = Lib.join (x0.map wordT) [32]) := Lib.hid (by rw [progT, if_pos hv, if_neg hnil])
      have HW := Lib.hid (wordT_len hw)
      obtain ⟨b, off, rfl, hb, hcx⟩ := hi.at_ hpos
      have HC := Lib.hid hcx
      obtain ⟨i0, hi0, hz0, hz1, hz2⟩ := info_parts strInfo
      clear hv hw hnil hcx hi
      go_enter Tryz.func81, Tryz.ntmps81
      go_wp2_with fail
      refine (ProgValid_any (some ⟨b, off, none⟩) c x0 _ H.out).mono ?_
      rw [HV.out]
      rintro e w' ⟨rfl, rfl⟩
      go_wp2_with (at_make; refine wpList_make_full _ rfl _ _ _ rfl w.heap.size 9 i0 (.string ⟨#[]⟩) 1 Tryz.underlying24 hi0 hz0 hz1 _ _ _ _ x0.length rfl rfl rfl rfl ?c1 ?c2 ?c3 ?_)
      case c1 => rw [hz2]; omega
      case c2 => unfold maxLen; omega
      case c3 => simp
      intro w1 hown1 hg1
      rw [toList_madeCells_one] at hown1
      have hb1 : Below w.heap.size w w1 := below_of_only hg1 (Nat.le_refl _) (by simp)
      have hlt1 : w.heap.size < w1.heap.size := (hown1.lt w.heap.size rfl).2
      have hs1 : w1.ownsRow w.heap.size 9 1 (.slice (some ⟨w.heap.size, 0, none⟩) x0.length x0.length) x0.length (strVals (wordsT x0 0)) := by
        have e : strVals (wordsT x0 0) = List.replicate x0.length (.string ⟨#[]⟩) := by simp [strVals, wordsT]
        rw [e]; exact hown1
      have Z := Lib.hid (And.intro hs1 hb1)
      clear hown1 hg1 hs1 hb1
      generalize hG : w.heap.size = G at *
      have HG := Lib.hid hG; clear hG
      go_wp2
      go_loopw [17] (fun i wr => ∃ k : Nat, k ≤ x0.length ∧ i = .int .i64 k ∧ G < wr.heap.size ∧ wr.ownsRow G 9 1 (.slice (some ⟨G, 0, none⟩) x0.length x0.length) x0.length (strVals (wordsT x0 k)) ∧ Below G w wr) (fun i _ => x0.length - (intOf i).toNat)
      case atStart => exact ⟨0, Nat.zero_le _, rfl, hlt1, Z.out.1, Z.out.2⟩
      case round =>
        clear Z hlt1
        obtain ⟨k, hk, rfl, hgk, hown, hbk⟩ := hrel
        by_cases hlt : k < x0.length
        · have hcell := (hbk.cell (p := ⟨b, off + k, none⟩) hb).trans (HC.out k hlt)
          have hltI : (k : Int) < x0.length := by omega
          have hset := Lib.hid (wordsT_set x0 k hlt)
          have HO := Lib.hid (And.intro hown hbk); clear hown hbk
          generalize x0.getD k 0 = z at *
          go_wp2_with fail
          refine (WordText_I z _ (HT.out.1.below HO.out.2 (by omega)) (HT.out.2.below (by rw [HG.out]; exact HO.out.2))).mono ?_
          rintro e w2 ⟨rfl, hb2⟩
          have hs2 := hb2.size
          have hrow := HO.out.1.kept (row := none) (only_of_below hb2 none) (.inr (by simp [Value.ownBlock]))
          have hst := hrow.stored k (.string ⟨(wordT z).toArray⟩)
          rw [strVals_set, hset.out] at hst
          have hfr := hrow.frozenAt k
          obtain ⟨u, hold⟩ : ∃ u, w2.cell? ⟨G, k, none⟩ = some u := by
            rw [hrow.cellAt k (by omega)]
            exact ⟨_, List.getElem?_eq_getElem (by simp [strVals, wordsT_len x0 k hk]; omega)⟩
          have hb3 := (HO.out.2.trans (hb2.mono (by omega))).grown hst.2 (by omega) (fun q hq => by injection hq with hq; omega)
          have hs3 : G < (w2.setCell ⟨G, k, none⟩ (.string ⟨(wordT z).toArray⟩)).heap.size := Nat.lt_of_lt_of_le (by omega) hst.2.size
          have X := Lib.hid (And.intro hs3 (And.intro hst.1 hb3))
          clear hst hrow hb3 hs3 hb2
          go_wp2
          go_roundw
          case rel => exact ⟨k + 1, by omega, by go_num, X.out⟩
          case measure => simp [intOf]; omega
        · obtain rfl : k = x0.length := by omega
          have hj := Tryz.strings_Join G 0 x0.length ((x0.map wordT).map fun l => (⟨l.toArray⟩ : ByteArray)) ⟨#[32]⟩ wr (fun j x hx => by
            rw [List.getElem?_map, List.getElem?_map] at hx
            obtain ⟨y, hy, rfl⟩ := Option.map_eq_some_iff.1 hx
            obtain ⟨z, hz, rfl⟩ := Option.map_eq_some_iff.1 hy
            have hjl : j < x0.length := (List.getElem?_eq_some_iff.1 hz).1
            rw [Nat.zero_add, hown.cellAt j (by omega), wordsT_all, strVals_get (s := wordT z) (by rw [List.getElem?_map, hz]; rfl)]) hgk (by simp; omega) (by simp) (by
              have e : (((x0.map wordT).map fun l => (⟨l.toArray⟩ : ByteArray)).map (·.data.toList)) = x0.map wordT := by simp
              rw [e]
              have := join_le _ HW.out
              rw [List.length_map] at this
              show (Lib.join (x0.map wordT) [32]).length ≤ _
              omega)
          have e : (((x0.map wordT).map fun l => (⟨l.toArray⟩ : ByteArray)).map (·.data.toList)) = x0.map wordT := by simp
          rw [e] at hj
          have e2 : ((x0.map wordT).map fun l => (⟨l.toArray⟩ : ByteArray)).length = x0.length := by simp
          rw [e2] at hj
          have HJ := Lib.hid hj
          have B := Lib.hid hbk
          clear hj e e2 hown hbk
          go_wp2_with fail
          refine HJ.out.mono ?_
          rintro e w3 ⟨rfl, hb3⟩
          have B3 := Lib.hid (B.out.trans (hb3.mono (by omega))); clear hb3
          go_wp2
          go_ret
          refine ⟨?_, by rw [HG.out]; exact B3.out⟩
          rw [HR.out]
          rfl
theorem join_snoc (ws : List (List UInt8)) (w : List UInt8) (h : ws ≠ []) : Lib.join (ws ++ [w]) [32] = Lib.join ws [32] ++ [32] ++ w := by
  obtain ⟨x, r, rfl⟩ := List.exists_cons_of_ne_nil h
  rw [List.cons_append, Lib.join_cons, Lib.join_cons]
  simp [Lib.joinTail]
def joinK (p : List Int) (k : Nat) : List UInt8 := Lib.join ((p.take k).map wordT) [32]
theorem joinK_len {p : List Int} (h : p.all isWordB = true) (k : Nat) : (joinK p k).length ≤ 6 * p.length := by
  have := join_le ((p.take k).map wordT) fun w hw => wordT_len h w (by
    obtain ⟨z, hz, rfl⟩ := List.mem_map.1 hw
    exact List.mem_map.2 ⟨z, List.mem_of_mem_take hz, rfl⟩)
  rw [List.length_map, List.length_take] at this
  unfold joinK; omega
theorem joinK_succ {p : List Int} {k : Nat} (h1 : 1 ≤ k) (h : k < p.length) : joinK p (k + 1) = joinK p k ++ [32] ++ wordT (p.getD k 0) := by
  unfold joinK
  rw [List.take_add_one, List.getElem?_eq_getElem h, List.map_append]
  simp only [Option.toList_some, List.map_cons, List.map_nil]
  rw [join_snoc _ _ (fun e => by
    have e2 : ((p.take k).map wordT).length = 0 := by rw [e]; rfl
    rw [List.length_map, List.length_take] at e2; omega)]
  simp [List.getD, List.getElem?_eq_getElem h]
theorem add_strs (x : ByteArray) (l : List UInt8) (h : x.size + l.length ≤ 100000) : ∃ y : ByteArray, bytesOf y = bytesOf x ++ l ∧ ∀ W, (Op.stringOp .add x ⟨l.toArray⟩).run Tryz.prog W = .ok (.string y) W := by
  refine ⟨⟨(bytesOf x ++ l).toArray⟩, bytes_mk _, fun W => ?_⟩
  have hsz : (⟨l.toArray⟩ : ByteArray).size = l.length := by simp [ByteArray.size]
  rw [run_string_add_sum W _ _ (by rw [hsz]; omega), sum_bytes x l]

set_option maxHeartbeats 2000000 in
theorem ProgText_S (v0 : Value) (x0 : List Int) (w : World) (h0 : RdI w v0 x0) :
    Calls Tryz.prog 31 #[v0] w fun e w' => e = .returned (.string ⟨(progT x0).toArray⟩) ∧ Below w.heap.size w w' := by
  obtain ⟨A, c, rfl, hi, hc⟩ := h0
  have H := Lib.hid hi
  rcases hv : validB x0 with _ | _
  · have HR := Lib.hid (progT_no hv)
    have HV := Lib.hid hv
    clear hv hi
    go_enter Tryz.func31, Tryz.ntmps31
    go_wp2_with fail
    refine (specValid_any A c x0 _ H.out).mono ?_
    rw [HV.out]
    rintro e w' ⟨rfl, rfl⟩
    go_wp2
    go_ret
    rw [HR.out]
    exact ⟨rfl, Below.refl _ _⟩
  · have HV := Lib.hid hv
    have hl := validB_len hv
    have hw := validB_words hv
    by_cases hnil : x0 = []
    · subst hnil
      have HR : Hid (progT [] = [45, 45]) := Lib.hid (by decide)
      clear hv hi hw
      simp only [List.length_nil] at *
      go_enter Tryz.func31, Tryz.ntmps31
      go_wp2_with fail
      refine (specValid_any A c [] _ H.out).mono ?_
      rw [HV.out]
      rintro e w' ⟨rfl, rfl⟩
      go_wp2
      go_ret
      rw [HR.out]
      exact ⟨rfl, Below.refl _ _⟩
    · have hpos : 0 < x0.length := List.length_pos_iff.2 hnil
      have hx : ((x0.length : Int) == 0) = false := by rw [beq_eq_false_iff_ne]; omega
      have HR : Hid (progT x0 = joinK x0 x0.length) := Lib.hid (by rw [progT, if_pos hv, if_neg hnil, joinK, List.take_of_length_le (Nat.le_refl _)])
      have HL := Lib.hid (fun k => joinK_len hw k)
      obtain ⟨b, off, rfl, hb, hcx⟩ := hi.at_ hpos
      have HC := Lib.hid hcx
      have hcell := hcx 0 hpos
      rw [Nat.add_zero] at hcell
      have hposI : (0 : Int) < x0.length := by omega
      have H1 : Hid (joinK x0 1 = wordT (x0.getD 0 0)) := Lib.hid (by
        unfold joinK
        obtain ⟨z, r, rfl⟩ := List.exists_cons_of_ne_nil hnil
        simp [Lib.join_one])
      clear hv hw hnil hcx hi
      generalize x0.getD 0 0 = z0 at *
      go_enter Tryz.func31, Tryz.ntmps31
      go_wp2_with fail
      refine (specValid_any (some ⟨b, off, none⟩) c x0 _ H.out).mono ?_
      rw [HV.out]
      rintro e w' ⟨rfl, rfl⟩
      go_wp2_with fail
      refine (WordText_S z0 _).mono ?_
      rintro e w1 ⟨rfl, hb1⟩
      have B1 := Lib.hid hb1; clear hb1
      clear hcell
      go_wp2
      go_loopw [3, 4] (fun o i wr => ∃ (k : Nat) (X : ByteArray), k ≤ x0.length ∧ 1 ≤ k ∧ i = .int .i64 k ∧ o = .string X ∧ bytesOf X = joinK x0 k ∧ Below w.heap.size w wr) (fun _ i _ => x0.length - (intOf i).toNat)
      case atStart => exact ⟨1, _, hpos, Nat.le_refl _, rfl, rfl, by rw [bytes_mk, H1.out], B1.out⟩
      case round =>
        clear B1
        obtain ⟨k, X, hk, hk1, rfl, rfl, hX, hbk⟩ := hrel
        have HX := Lib.hid hX; clear hX
        have HB := Lib.hid hbk
        by_cases hlt : k < x0.length
        · have hcell := (hbk.cell (p := ⟨b, off + k, none⟩) hb).trans (HC.out k hlt)
          have hltI : (k : Int) < x0.length := by omega
          have hnext := joinK_succ hk1 hlt
          have hXl : X.size ≤ 360 := by have := HL.out k; rw [← HX.out, bytes_len] at this; omega
          clear hbk
          generalize x0.getD k 0 = z at *
          have hlen2 := HL.out (k + 1)
          obtain ⟨Y, hY, hadd1⟩ := add_strs X [32] (by simp; omega)
          have hYl : Y.size + (wordT z).length ≤ 100000 := by
            rw [← bytes_len Y, hY]
            rw [hnext, ← HX.out, ← hY, List.length_append] at hlen2
            rw [hY] at hlen2
            omega
          obtain ⟨T, hT, hadd2⟩ := add_strs Y (wordT z) hYl
          rw [hY, HX.out, ← hnext] at hT
          have HT := Lib.hid hT
          clear hY hT hnext hlen2 hYl hXl
          go_wp2_with fail
          refine (WordText_S z _).mono ?_
          rintro e w2 ⟨rfl, hb2⟩
          have B2 := Lib.hid (HB.out.trans (hb2.mono HB.out.size)); clear hb2
          go_wp2
          go_roundw
          case rel => exact ⟨k + 1, T, by omega, by omega, by go_num, rfl, HT.out, B2.out⟩
          case measure => simp [intOf]; omega
        · obtain rfl : k = x0.length := by omega
          clear hbk
          go_wp2
          go_ret
          refine ⟨?_, HB.out⟩
          rw [HR.out, ← HX.out, ba_eta]
          rfl
end Go.Proofs.YtjblecinkedppaaGreatDoor

/- The contracts of texts in the words of the exact laws. -/
namespace Go.Proofs.YtjblecinkedppaaGreatDoor
set_option maxRecDepth 100000
open Go.RowKit Go.WideShapes

def rpR (x : ByteArray) : List Int × Bool := readProgP (bytesOf x)
def ptR (p : List Int) : ByteArray := ⟨(progT p).toArray⟩
def wtR (z : Int) : ByteArray := ⟨(wordT z).toArray⟩
theorem readProgP_valid (l : List UInt8) : validB (readProgP l).1 = true := by
  unfold readProgP
  rcases h : readProgR l with _ | p
  · decide
  · exact (prog_read h).1
theorem rp_len (x : ByteArray) : szI (rpR x).1 ≤ 1000000 := by
  have := validB_len (readProgP_valid (bytesOf x))
  unfold szI rpR; omega
theorem ProgText_XS (v0 : Value) (x0 : List Int) (w : World) (h0 : RdI w v0 x0) (_hl : x0.length ≤ 1048576) (y0 : ByteArray) (hR : ptR x0 = y0) :
    Calls Tryz.prog 31 #[v0] w fun e w' => e = .returned (.string y0) ∧ Below w.heap.size w w' := by
  subst hR; exact ProgText_S v0 x0 w h0
theorem ProgText_XI (v0 : Value) (x0 : List Int) (w : World) (h0 : RdI w v0 x0) (_hl : x0.length ≤ 1048576) (y0 : ByteArray) (hR : ptR x0 = y0) (ht : StrTab w 0 opNames) (hp : Pow w) :
    Calls Tryz.prog 81 #[v0] w fun e w' => e = .returned (.string y0) ∧ Below w.heap.size w w' := by
  subst hR; exact ProgText_I v0 x0 w h0 ht hp
theorem WordText_XS (x0 : Int) (w : World) (_h : InK .i64 x0) (y0 : ByteArray) (hR : wtR x0 = y0) :
    Calls Tryz.prog 65 #[.int .i64 x0] w fun e w' => e = .returned (.string y0) ∧ Below w.heap.size w w' := by
  subst hR; exact WordText_S x0 w
theorem WordText_XI (x0 : Int) (w : World) (_h : InK .i64 x0) (y0 : ByteArray) (hR : wtR x0 = y0) (ht : StrTab w 0 opNames) (hp : Pow w) :
    Calls Tryz.prog 110 #[.int .i64 x0] w fun e w' => e = .returned (.string y0) ∧ Below w.heap.size w w' := by
  subst hR; exact WordText_I x0 w ht hp
end Go.Proofs.YtjblecinkedppaaGreatDoor
