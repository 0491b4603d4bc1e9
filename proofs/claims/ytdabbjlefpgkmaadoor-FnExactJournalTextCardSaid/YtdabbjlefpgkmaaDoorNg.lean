/- Programs read from texts, by the model. -/
import Derived.Test.YtdabbjlefpgkmaaDoorNf
import Derived.Test.YtdabbjlefpgkmaaDoorKa
import Derived.Test.YtdabbjlefpgkmaaDoorJh
namespace Go.Proofs.YtdabbjlefpgkmaaDoor
set_option maxRecDepth 100000
open Go.RowKit Go.WideShapes

def readProgP (l : List UInt8) : List Int × Bool := match readProgR l with
  | some p => (p, true)
  | none => ([], false)
theorem readAll_take {ws : List (List UInt8)} {k : Nat} {s : List UInt8} {p : List Int} (h : readAll (ws.take k) = some p) (hk : ws[k]? = some s) : readAll (ws.take (k + 1)) = (match readWordR s with | some z => some (p ++ [z]) | none => none) ∧ (readWordR s = none → readAll ws = none) := by
  have hkl : k < ws.length := by
    rcases Nat.lt_or_ge k ws.length with h1 | h1
    · exact h1
    · rw [List.getElem?_eq_none h1] at hk; cases hk
  refine ⟨?_, fun hn => ?_⟩
  · rw [List.take_add_one, hk, readAll_app, h]
    show ((some p).bind fun p => (readAll [s]).map (p ++ ·)) = _
    simp only [Option.bind_some, readAll]
    rcases readWordR s with _ | z <;> rfl
  · have : ws = ws.take k ++ s :: ws.drop (k + 1) := by
      rw [List.getElem?_eq_getElem hkl] at hk
      injection hk with hk
      rw [← hk, ← List.drop_eq_getElem_cons hkl, List.take_append_drop]
    rw [this, readAll_app, h]
    simp only [Option.bind_some, readAll, hn]
    rfl
theorem cutL_len (c : UInt8) (l : List UInt8) : (cutL c l).length ≤ l.length + 1 := by
  induction l with
  | nil => simp [cutL]
  | cons x r ih =>
    rw [cutL]
    split
    · simp; omega
    · split
      · simp
      · rename_i e; rw [e] at ih; simp at ih ⊢; omega
theorem cutL_mem (c : UInt8) (l : List UInt8) : ∀ w ∈ cutL c l, w.length ≤ l.length := by
  induction l with
  | nil => simp [cutL]
  | cons x r ih =>
    rw [cutL]
    split
    · intro w hw
      rcases List.mem_cons.1 hw with rfl | hw
      · simp
      · have := ih w hw; simp; omega
    · split
      · intro w hw; simp at hw; subst hw; simp
      · rename_i a b e
        rw [e] at ih
        intro w hw
        rcases List.mem_cons.1 hw with rfl | hw
        · have := ih a (by simp); simp; omega
        · have := ih w (by simp [hw]); simp; omega
theorem bytes_mk (l : List UInt8) : bytesOf ⟨l.toArray⟩ = l := by simp [bytesOf]
def RpPost (w : World) (y0 : List Int) (y1 : Bool) (e : Ending) (w' : World) : Prop := ∃ u, e = .returned (.tuple #[u, .bool y1]) ∧ OwnI w' w.heap.size w'.heap.size u y0 ∧ Below w.heap.size w w'
theorem read_wf {l : List UInt8} {z : Int} (h : readWordR l = some z) : InK .i64 z := by
  have := isWordB_iff.1 (word_read h).1
  exact WalkArith.wf_i64 (by omega)
theorem own_ints {w : World} {lo : Nat} {v : Value} {zs : List Int} (h : Own w lo v zs) : OwnI w lo w.heap.size v zs := h.within

set_option maxHeartbeats 1000000 in
theorem ReadProg_S (x0 : ByteArray) (w : World) (h0 : x0.size ≤ 100000000) (y0 : List Int) (y1 : Bool) (hR : readProgP (bytesOf x0) = (y0, y1)) :
    Calls Tryd.prog 47 #[.string x0] w (RpPost w y0 y1) := by
  have hse := str_eq x0 [45, 45]
  by_cases h2 : bytesOf x0 = [45, 45]
  · rw [decide_eq_true h2] at hse
    have hy : readProgP (bytesOf x0) = ([], true) := by rw [h2]; rfl
    rw [hy] at hR
    cases hR
    have L := Lib.hid (nilLit w)
    clear h2 hy
    go_enter Tryd.func47, Tryd.ntmps47
    go_wp2
    go_ret2
    exact ⟨_, rfl, L.out.1, L.out.2⟩
  · rw [decide_eq_false h2] at hse
    have hy : readProgP (bytesOf x0) = match readAll (cutL 32 (bytesOf x0)) with
        | none => ([], false)
        | some p => if validB p = true then (p, true) else ([], false) := by
      unfold readProgP readProgR
      rw [if_neg h2]
      rcases readAll (cutL 32 (bytesOf x0)) with _ | p
      · rfl
      · show (match (if validB p = true then some p else none) with | some p => (p, true) | none => ([], false)) = _
        by_cases hv : validB p = true <;> simp [hv]
    rw [hR] at hy
    have HY := Lib.hid hy
    have L := nilLit w
    have L1 := Lib.hid L
    clear h2 hy hR L
    have hcl := cutL_len 32 (bytesOf x0)
    have hcm := cutL_mem 32 (bytesOf x0)
    rw [bytes_len x0] at hcl hcm
    generalize hws : cutL 32 (bytesOf x0) = ws at *
    have HW := Lib.hid hws; have HM := Lib.hid hcm; clear hws hcm
    go_enter Tryd.func47, Tryd.ntmps47
    go_wp2_with fail
    refine (l1Cut_any x0 _ h0).mono ?_
    rw [HW.out]
    rintro e w1 ⟨u, rfl, ho, hb⟩
    have hz1 := hb.size
    have hz2 : w.heap.size + 1 ≤ w1.heap.size := by simpa using hz1
    have X := Lib.hid (And.intro ho (And.intro (L1.out.1.below hb).own (L1.out.2.trans (hb.mono (by simp))))); clear ho hb L1 hz1
    obtain ⟨A, c, rfl, _⟩ := X.out.1.rd
    go_wp2
    go_loopw [4, 6] (fun v i wr => ∃ (k : Nat) (p : List Int), i = .int .i64 k ∧ k ≤ ws.length ∧ p.length ≤ k ∧ w.heap.size + 1 ≤ wr.heap.size ∧ readAll (ws.take k) = some p ∧ OwnT wr (w.alloc (.cells #[] 3)).heap.size w1.heap.size (.slice A ws.length c) ws ∧ Own wr w.heap.size v p ∧ Below w.heap.size w wr) (fun _ i _ => ws.length - (intOf i).toNat)
    case atStart => exact ⟨0, [], rfl, Nat.zero_le _, by simp, hz2, rfl, X.out.1, X.out.2.1, X.out.2.2⟩
    case round =>
      clear X
      obtain ⟨k, p, rfl, hk, hpl, hsz, hp, q1, q2, q3⟩ := hrel
      have hpl2 : p.length ≤ 200000000 := by omega
      by_cases hlt : k < ws.length
      · obtain ⟨s, hs⟩ : ∃ s, ws[k]? = some s := ⟨_, List.getElem?_eq_getElem hlt⟩
        obtain ⟨A', c', he, _, _, hr⟩ := q1.rd
        cases he
        obtain ⟨b, off, rfl, hbl, hc⟩ := hr (by omega)
        have hcell := hc k s hs
        obtain ⟨t1, t2⟩ := readAll_take hp hs
        have hltI : (k : Int) < ws.length := by omega
        have X := Lib.hid (And.intro q1 (And.intro q2 (And.intro q3 (And.intro t1 t2)))); clear q1 q2 q3 hr hc hp t1 t2
        rcases hrw : readWordR s with _ | z
        · have HN := Lib.hid hrw; clear hrw
          go_wp2_with fail
          refine (specReadWord_any ⟨s.toArray⟩ _ (by have := HM.out s (List.mem_of_getElem? hs); simp [ByteArray.size]; omega)).mono ?_
          rw [bytes_mk, HN.out]
          rintro e w2 ⟨rfl, hb⟩
          have hz := hb.size
          have N := Lib.hid (nilOut (X.out.2.2.1.trans (hb.mono (by omega)) : Below w.heap.size w w2)); clear hb
          go_wp2
          go_ret2
          have hy := HY.out
          rw [X.out.2.2.2.2 HN.out] at hy
          cases hy
          exact ⟨_, rfl, N.out⟩
        · have HN := Lib.hid hrw
          have hwf := read_wf hrw
          clear hrw
          go_wp2_with fail
          refine (specReadWord_any ⟨s.toArray⟩ _ (by have := HM.out s (List.mem_of_getElem? hs); simp [ByteArray.size]; omega)).mono ?_
          rw [bytes_mk, HN.out]
          rintro e w2 ⟨rfl, hb⟩
          have hz := hb.size
          have Y := Lib.hid (And.intro (X.out.1.below hb) (And.intro (X.out.2.1.below hb) (X.out.2.2.1.trans (hb.mono (by omega))))); clear hb
          have hne := Lib.hid (ownsRow_ne8 Y.out.1.own Y.out.2.1.own (by decide))
          go_wp2_with (at_builtin; refine wpList_append_Kz rfl _ _ _ rfl Tryd.underlying22 intInfo z rfl hwf w.heap.size _ p rfl Y.out.2.1 (by omega) rfl (by omega) ?_)
          intro v3 w3 ho3 hg3
          have hb3 := below_of_only hg3 (by omega : w.heap.size ≤ w2.heap.size) fun k hk => (Y.out.2.1.ge k hk).1
          have hz3 : w2.heap.size ≤ w3.heap.size := hg3.size
          have T := Lib.hid (And.intro (by have := X.out.2.2.2.1; rw [HN.out] at this; exact this : readAll (ws.take (k + 1)) = some (p ++ [z])) (And.intro (⟨Y.out.1.own.kept hg3 hne.out, Y.out.1.lt⟩ : OwnT w3 _ w1.heap.size _ ws) (And.intro ho3 (Y.out.2.2.trans hb3)))); clear ho3 hg3 hb3
          go_wp2
          go_roundw
          case rel => exact ⟨k + 1, p ++ [z], by go_num, by omega, by simp; omega, by omega, T.out⟩
          case measure => simp [intOf]; omega
      · obtain rfl : k = ws.length := by omega
        rw [List.take_of_length_le (Nat.le_refl _)] at hp
        have hy := HY.out
        rw [hp] at hy
        have HY2 := Lib.hid hy
        obtain ⟨Ap, cp, rfl, hi, hcp⟩ := q2.ints
        have X := Lib.hid (And.intro (own_ints q2) (And.intro q3 hi)); clear q1 q2 q3 hi hp hy
        rcases hv : validB p with _ | _
        · have HV := Lib.hid hv; clear hv
          have N := Lib.hid (nilOut X.out.2.1)
          go_wp2_with fail
          refine (specValid_any Ap cp p _ X.out.2.2).mono ?_
          rw [HV.out]
          rintro e w' ⟨rfl, rfl⟩
          go_wp2
          go_ret2
          have hy := HY2.out
          rw [HV.out] at hy
          cases hy
          exact ⟨_, rfl, N.out⟩
        · have HV := Lib.hid hv; clear hv
          go_wp2_with fail
          refine (specValid_any Ap cp p _ X.out.2.2).mono ?_
          rw [HV.out]
          rintro e w' ⟨rfl, rfl⟩
          go_wp2
          go_ret2
          have hy := HY2.out
          rw [HV.out] at hy
          cases hy
          exact ⟨_, rfl, X.out.1, X.out.2.1⟩
end Go.Proofs.YtdabbjlefpgkmaaDoor
