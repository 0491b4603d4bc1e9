/- A text cut at its spaces (l1Cut), and read as a program, by the model. -/
import Derived.Test.YtdabbjlefpgkmaaDoorNb
import Derived.Test.YtdabbjlefpgkmaaDoorNd
import Derived.Test.YtdabbjlefpgkmaaDoorI
namespace Go.Proofs.YtdabbjlefpgkmaaDoor
set_option maxRecDepth 100000
open Go.RowKit Go.WideShapes

theorem ba_eta (X : ByteArray) : (⟨(bytesOf X).toArray⟩ : ByteArray) = X := by cases X; simp [bytesOf]
theorem bytes_extract (s : ByteArray) (i j : Nat) : bytesOf (s.extract i j) = ((bytesOf s).drop i).take (j - i) := Lib.extract_data s i j
theorem bytes_len (s : ByteArray) : (bytesOf s).length = s.size := by simp
theorem take_drop_snoc {l : List UInt8} {i j : Nat} {c : UInt8} (hij : i ≤ j) (h : l[j]? = some c) : (l.drop i).take (j + 1 - i) = (l.drop i).take (j - i) ++ [c] := by
  rw [show j + 1 - i = (j - i) + 1 by omega, List.take_add_one, List.getElem?_drop, show i + (j - i) = j by omega, h]; rfl
theorem dropT_split {l : List UInt8} {i j : Nat} {c : UInt8} (hij : i ≤ j) (h : l[j]? = some c) : l.drop i = (l.drop i).take (j - i) ++ c :: l.drop (j + 1) := by
  have h1 : (l.drop i).drop (j - i) = c :: l.drop (j + 1) := by
    rw [List.drop_drop, show i + (j - i) = j by omega]
    have hj : j < l.length := by
      rcases Nat.lt_or_ge j l.length with h1 | h1
      · exact h1
      · rw [List.getElem?_eq_none h1] at h; cases h
    rw [List.drop_eq_getElem_cons hj]
    rw [List.getElem?_eq_getElem hj] at h; injection h with h; rw [h]
  rw [← h1, List.take_append_drop]

/-- What l1Cut has done so far. -/
structure CutSt (l : List UInt8) (i j : Nat) (out : List (List UInt8)) : Prop where
  le : i ≤ j
  len : out.length ≤ i
  eq : cutL 32 l = out ++ cutL 32 (l.drop i)
  no : 32 ∉ (l.drop i).take (j - i)
theorem CutSt.start (l : List UInt8) : CutSt l 0 0 [] := ⟨Nat.le_refl _, by simp, by simp, by simp⟩
theorem CutSt.other {l : List UInt8} {i j : Nat} {out : List (List UInt8)} {c : UInt8} (h : CutSt l i j out) (hc : l[j]? = some c) (hne : c ≠ 32) : CutSt l i (j + 1) out :=
  ⟨by have := h.le; omega, h.len, h.eq, by rw [take_drop_snoc h.le hc, List.mem_append, not_or]; exact ⟨h.no, by simpa using fun e => hne e.symm⟩⟩
theorem CutSt.space {l : List UInt8} {i j : Nat} {out : List (List UInt8)} (h : CutSt l i j out) (hc : l[j]? = some 32) : CutSt l (j + 1) (j + 1) (out ++ [(l.drop i).take (j - i)]) :=
  ⟨Nat.le_refl _, by have := h.len; have := h.le; simp; omega, by
    have e := cutL_step (b := l.drop (j + 1)) h.no
    rw [← dropT_split h.le hc] at e
    rw [h.eq, e]; simp, by simp⟩
theorem CutSt.fin {l : List UInt8} {i : Nat} {out : List (List UInt8)} (h : CutSt l i l.length out) : out ++ [l.drop i] = cutL 32 l := by
  have hn := h.no
  rw [List.take_of_length_le (by simp)] at hn
  rw [h.eq, cut_last hn]

set_option maxHeartbeats 1000000 in
theorem l1Cut_any (s : ByteArray) (w : World) (hm : s.size ≤ 100000000) :
    Calls Tryd.prog 67 #[.string s, .int .u8 32] w fun e w' => ∃ u, e = .returned u ∧ OwnT w' w.heap.size w'.heap.size u (cutL 32 (bytesOf s)) ∧ Below w.heap.size w w' := by
  have hb0 : Below w.heap.size w (w.alloc (.cells #[] 9)) := (Below.refl _ _).alloc (Nat.le_refl _) _
  have ho0 := (OwnT.lits w [] (by simp))
  have ho1 : OwnT (w.alloc (.cells #[] 9)) w.heap.size (w.alloc (.cells #[] 9)).heap.size (.slice (some ⟨w.heap.size, 0, none⟩) 0 0) [] := by simpa [strVals] using ho0
  have Z := Lib.hid (And.intro ho1 hb0); clear ho0 ho1 hb0
  go_enter Tryd.func67, Tryd.ntmps67
  go_wp2
  go_loopw [5, 6, 7] (fun v f k wr => ∃ (i j : Nat) (out : List (List UInt8)), j ≤ s.size ∧ f = .int .i64 i ∧ k = .int .i64 j ∧ CutSt (bytesOf s) i j out ∧ w.heap.size + 1 ≤ wr.heap.size ∧ OwnT wr w.heap.size wr.heap.size v out ∧ Below w.heap.size w wr) (fun _ _ k _ => s.size - (intOf k).toNat)
  case atStart => exact ⟨0, 0, [], Nat.zero_le _, rfl, rfl, CutSt.start _, by simp, Z.out.1, Z.out.2⟩
  case round =>
    clear Z
    obtain ⟨i, j, out, hj, rfl, rfl, hst, hsz, ho, hb⟩ := hrel
    have hij := hst.le
    have hol := hst.len
    have X := Lib.hid (And.intro ho (And.intro hb hst)); clear ho hb hst
    by_cases hlt : j < s.size
    · have hjI : (j : Int) < s.size := by omega
      have hc := bytes_get s j hlt
      by_cases h32 : s[j]'hlt = 32
      · have hx : (((s[j]'hlt).toNat : Int) == 32) = true := by rw [h32]; rfl
        rw [h32] at hc
        have hst2 := X.out.2.2.space hc
        rw [← bytes_extract] at hst2
        obtain ⟨T, hT⟩ : ∃ T : ByteArray, s.extract i j = T := ⟨_, rfl⟩
        rw [hT] at hst2
        have hsl : ∀ W, (Instr.slice 9 (.string s) (some (.int .i64 i)) (some (.int .i64 j)) none).run Tryd.prog W = .ok (.string T) W := fun W => by
          rw [run_slice_string W 9 s .i64 .i64 i j Tryd.underlying9 (by omega) (by omega) (by omega), Int.toNat_natCast, Int.toNat_natCast, hT]
        have hbl : Below wr.heap.size wr (wr.alloc (.cells #[.string T] 9)) := (Below.refl _ _).alloc (Nat.le_refl _) _
        have V := Lib.hid (And.intro (X.out.1.below hbl) (And.intro (X.out.2.1.trans (hbl.mono (by omega))) hst2)); clear hst2 hT hbl X hc
        go_wp2_with (at_builtin; refine wpList_append_str rfl _ _ _ rfl Tryd.underlying23 strInfo w.heap.size wr.heap.size _ out rfl V.out.1 (by simp; omega) wr.heap.size (.string T) (bytesOf T) rfl (by simp) (by rw [ba_eta]) (by omega) ?_)
        intro v4 w4 ho4 hb4 _ _
        have hs4 := hb4.size
        have hz4 : w.heap.size + 1 ≤ w4.heap.size := by simp at hs4; omega
        have Y := Lib.hid (And.intro V.out.2.2 (And.intro hz4 (And.intro ho4 (V.out.2.1.trans hb4)))); clear ho4 hb4 V hs4 hz4
        go_wp2
        go_roundw
        case rel => exact ⟨j + 1, j + 1, _, by omega, by go_num, by go_num, Y.out⟩
        case measure => simp [intOf]; omega
      · have hx : (((s[j]'hlt).toNat : Int) == 32) = false := by
          rw [beq_eq_false_iff_ne]; intro e; exact h32 (UInt8.toNat_inj.1 (by exact_mod_cast e))
        have Y := Lib.hid (And.intro (X.out.2.2.other hc h32) (And.intro hsz (And.intro X.out.1 X.out.2.1))); clear X hc
        go_wp2
        go_roundw
        case rel => exact ⟨i, j + 1, out, by omega, rfl, by go_num, Y.out⟩
        case measure => simp [intOf]; omega
    · obtain rfl : j = s.size := by omega
      have hfin := X.out.2.2
      rw [← bytes_len s] at hfin
      have hf := hfin.fin
      have he : bytesOf (s.extract i s.size) = (bytesOf s).drop i := by rw [bytes_extract, List.take_of_length_le (by simp)]
      obtain ⟨T, hT⟩ : ∃ T : ByteArray, s.extract i s.size = T := ⟨_, rfl⟩
      rw [hT] at he
      rw [← he] at hf
      have hsl : ∀ W, (Instr.slice 9 (.string s) (some (.int .i64 i)) none none).run Tryd.prog W = .ok (.string T) W := fun W => by
        rw [run_slice_string_from_if W 9 s .i64 i Tryd.underlying9, if_pos ⟨by omega, by omega⟩, Int.toNat_natCast, hT]
      have hbl : Below wr.heap.size wr (wr.alloc (.cells #[.string T] 9)) := (Below.refl _ _).alloc (Nat.le_refl _) _
      have V := Lib.hid (And.intro (X.out.1.below hbl) (And.intro (X.out.2.1.trans (hbl.mono (by omega))) hf)); clear hf hT hbl X hfin he
      go_wp2_with (at_builtin; refine wpList_append_str rfl _ _ _ rfl Tryd.underlying23 strInfo w.heap.size wr.heap.size _ out rfl V.out.1 (by simp; omega) wr.heap.size (.string T) (bytesOf T) rfl (by simp) (by rw [ba_eta]) (by omega) ?_)
      intro v4 w4 ho4 hb4 _ _
      rw [V.out.2.2] at ho4
      have Y := Lib.hid (And.intro ho4 (V.out.2.1.trans hb4)); clear ho4 hb4 V
      go_wp2
      go_ret
      exact ⟨_, rfl, Y.out⟩
end Go.Proofs.YtdabbjlefpgkmaaDoor
