/- Several texts in one. -/
import Derived.Test.YtceekfoacgoalaaDoorBp
import Derived.Test.YtceekfoacgoalaaDoorNd
import Derived.Test.YtceekfoacgoalaaDoorI
import Derived.Test.YtceekfoacgoalaaDoorKa
import Derived.Test.YtceekfoacgoalaaDoorJh
import Derived.Lib.OthersKept
import Derived.Test.YtceekfoacgoalaaDoorB2
/- A text cut at its spaces (l1Cut), and read as a program, by the model. -/
namespace Go.Proofs.YtceekfoacgoalaaDoor
set_option maxRecDepth 100000
open Go.RowKit Go.WideShapes

theorem ba_eta (X : ByteArray) : (⟨(bytesOf X).toArray⟩ : ByteArray) = X := by cases X; simp [bytesOf]
theorem bytes_extract (s : ByteArray) (i j : Nat) : bytesOf (s.extract i j) = ((bytesOf s).drop i).take (j - i) := Lib.extract_data s i j
theorem bytes_len (s : ByteArray) : (bytesOf s).length = s.size := by simp
theorem take_drop_snoc {l : List UInt8} {i j : Nat} {c : UInt8} (hij : i ≤ j) (h : l[j]? = some c) : (l.drop i).take (j + 1 - i) = (l.drop i).take (j - i) ++ [c] := by
  rw [show j + 1 - i = (j - i) + 1 by omega, List.take_add_one, List.getElem?_drop, show i + (j - i) = j by omega, h]; rfl
theorem dropT_split {l : List UInt8} {i j : Nat} {c : UInt8} (hij : i ≤ j) (h : l[j]? = some c) : l.drop i = (l.drop i).take (j - i) ++ c :: l.drop (j + 1) := by
  have h1 : (l.drop i).drop (j - i) = c :: l.drop (j + 1) := by
    rw [List.drop_drop, show i + (j - i) = j by omega]
    have hj : j < l.length := by
      rcases Nat.lt_or_ge j l.length with h1 | h1
      · exact h1
      · rw [List.getElem?_eq_none h1] at h; cases h
    rw [List.drop_eq_getElem_cons hj]
    rw [List.getElem?_eq_getElem hj] at h; injection h with h; rw [h]
  rw [← h1, List.take_append_drop]

/-- What l1Cut has done so far. -/
structure CutSt (l : List UInt8) (i j : Nat) (out : List (List UInt8)) : Prop where
  le : i ≤ j
  len : out.length ≤ i
  eq : cutL 32 l = out ++ cutL 32 (l.drop i)
  no : 32 ∉ (l.drop i).take (j - i)
theorem CutSt.start (l : List UInt8) : CutSt l 0 0 [] := ⟨Nat.le_refl _, by simp, by simp, by simp⟩
theorem CutSt.other {l : List UInt8} {i j : Nat} {out : List (List UInt8)} {c : UInt8} (h : CutSt l i j out) (hc : l[j]? = some c) (hne : c ≠ 32) : CutSt l i (j + 1) out :=
  ⟨by have := h.le; omega, h.len, h.eq, by rw [take_drop_snoc h.le hc, List.mem_append, not_or]; exact ⟨h.no, by simpa using fun e => hne e.symm⟩⟩
theorem CutSt.space {l : List UInt8} {i j : Nat} {out : List (List UInt8)} (h : CutSt l i j out) (hc : l[j]? = some 32) : CutSt l (j + 1) (j + 1) (out ++ [(l.drop i).take (j - i)]) :=
  ⟨Nat.le_refl _, by have := h.len; have := h.le; simp; omega, by
    have e := cutL_step (b := l.drop (j + 1)) h.no
    rw [← dropT_split h.le hc] at e
    rw [h.eq, e]; simp, by simp⟩
theorem CutSt.fin {l : List UInt8} {i : Nat} {out : List (List UInt8)} (h : CutSt l i l.length out) : out ++ [l.drop i] = cutL 32 l := by
  have hn := h.no
  rw [List.take_of_length_le (by simp)] at hn
  rw [h.eq, cut_last hn]

end Go.Proofs.YtceekfoacgoalaaDoor

/- Programs read from texts, by the model. -/
namespace Go.Proofs.YtceekfoacgoalaaDoor
set_option maxRecDepth 100000
open Go.RowKit Go.WideShapes

def readProgP (l : List UInt8) : List Int × Bool := match readProgR l with
  | some p => (p, true)
  | none => ([], false)
theorem readAll_take {ws : List (List UInt8)} {k : Nat} {s : List UInt8} {p : List Int} (h : readAll (ws.take k) = some p) (hk : ws[k]? = some s) : readAll (ws.take (k + 1)) = (match readWordR s with | some z => some (p ++ [z]) | none => none) ∧ (readWordR s = none → readAll ws = none) := by
  have hkl : k < ws.length := by
    rcases Nat.lt_or_ge k ws.length with h1 | h1
    · exact h1
    · rw [List.getElem?_eq_none h1] at hk; cases hk
  refine ⟨?_, fun hn => ?_⟩
  · rw [List.take_add_one, hk, readAll_app, h]
    show ((some p).bind fun p => (readAll [s]).map (p ++ ·)) = _
    simp only [Option.bind_some, readAll]
    rcases readWordR s with _ | z <;> rfl
  · have : ws = ws.take k ++ s :: ws.drop (k + 1) := by
      rw [List.getElem?_eq_getElem hkl] at hk
      injection hk with hk
      rw [← hk, ← List.drop_eq_getElem_cons hkl, List.take_append_drop]
    rw [this, readAll_app, h]
    simp only [Option.bind_some, readAll, hn]
    rfl
theorem cutL_len (c : UInt8) (l : List UInt8) : (cutL c l).length ≤ l.length + 1 := by
  induction l with
  | nil => simp [cutL]
  | cons x r ih =>
    rw [cutL]
    split
    · simp; omega
    · split
      · simp
      · rename_i e; rw [e] at ih; simp at ih ⊢; omega
theorem cutL_mem (c : UInt8) (l : List UInt8) : ∀ w ∈ cutL c l, w.length ≤ l.length := by
  induction l with
  | nil => simp [cutL]
  | cons x r ih =>
    rw [cutL]
    split
    · intro w hw
      rcases List.mem_cons.1 hw with rfl | hw
      · simp
      · have := ih w hw; simp; omega
    · split
      · intro w hw; simp at hw; subst hw; simp
      · rename_i a b e
        rw [e] at ih
        intro w hw
        rcases List.mem_cons.1 hw with rfl | hw
        · have := ih a (by simp); simp; omega
        · have := ih w (by simp [hw]); simp; omega
theorem bytes_mk (l : List UInt8) : bytesOf ⟨l.toArray⟩ = l := by simp [bytesOf]
def RpPost (w : World) (y0 : List Int) (y1 : Bool) (e : Ending) (w' : World) : Prop := ∃ u, e = .returned (.tuple #[u, .bool y1]) ∧ OwnI w' w.heap.size w'.heap.size u y0 ∧ Below w.heap.size w w'
theorem read_wf {l : List UInt8} {z : Int} (h : readWordR l = some z) : InK .i64 z := by
  have := isWordB_iff.1 (word_read h).1
  exact WalkArith.wf_i64 (by omega)
theorem own_ints {w : World} {lo : Nat} {v : Value} {zs : List Int} (h : Own w lo v zs) : OwnI w lo w.heap.size v zs := h.within

end Go.Proofs.YtceekfoacgoalaaDoor

/- Programs read from texts, by the program: a range over the text with a space behind it. -/
namespace Go.Proofs.YtceekfoacgoalaaDoor
set_option maxRecDepth 100000
open Go.RowKit Go.WideShapes

theorem get_byte (s : ByteArray) (k : Nat) (h : k < s.size) : s.get! k = s[k]'h := by
  simp [ByteArray.get!, getElem!_pos, h]
  rfl
/-- What a range finds at a place: one byte below 128, or several of 128 and more. -/
theorem decode_facts (s : ByteArray) (pos : Nat) (h : pos < s.size) : ∃ r wd, Utf8.decode s pos = (r, wd) ∧ 1 ≤ wd ∧ pos + wd ≤ s.size ∧ r ≤ 2147483647 ∧ (((bytesOf s)[pos]? = some 32 ∧ r = 32 ∧ wd = 1) ∨ (r ≠ 32 ∧ ∀ j, pos ≤ j → j < pos + wd → ∃ c, (bytesOf s)[j]? = some c ∧ c ≠ 32)) := by
  have hle := decode_le s pos
  by_cases ha : (s[pos]'h).toNat < 128
  · have hd := decode_ascii s pos h ha
    refine ⟨_, _, hd, Nat.le_refl _, by omega, by omega, ?_⟩
    by_cases h32 : s[pos]'h = 32
    · exact .inl ⟨by rw [bytes_get s pos h, h32], by rw [h32]; rfl, rfl⟩
    · refine .inr ⟨fun e => h32 (UInt8.toNat_inj.1 (by simpa using e)), fun j h1 h2 => ?_⟩
      obtain rfl : j = pos := by omega
      exact ⟨_, bytes_get s _ h, h32⟩
  · have hk : ∀ k, pos + k < s.size → 128 ≤ (s.get! (pos + k)).toNat → ∃ c, (bytesOf s)[pos + k]? = some c ∧ c ≠ 32 := fun k hk hc => by
      rw [get_byte s _ hk] at hc
      refine ⟨_, bytes_get s _ hk, fun e => ?_⟩
      rw [e] at hc; simp at hc
    have h0 : 128 ≤ (s.get! (pos + 0)).toNat := by rw [get_byte s (pos + 0) (by omega)]; simpa using Nat.le_of_not_lt ha
    have hh := decode_high s pos h (by omega)
    have hone : ∀ j, pos ≤ j → j < pos + 1 → ∃ c, (bytesOf s)[j]? = some c ∧ c ≠ 32 := fun j h1 h2 => by
      obtain rfl : j = pos + 0 := by omega
      exact hk 0 (by omega) h0
    have hc : ∀ k, decide (pos + k < s.size) = true ∧ ((s.get! (pos + k)).toNat / 64 == 2) = true → pos + k < s.size ∧ 128 ≤ (s.get! (pos + k)).toNat := fun k ⟨h1, h2⟩ => ⟨by simpa using h1, by have := beq_iff_eq.1 h2; omega⟩
    generalize hD : Utf8.decode s pos = D at *
    obtain ⟨r, wd⟩ := D
    refine ⟨r, wd, rfl, hh.2, ?_⟩
    dsimp only at hh hle
    have hn : ¬ (s.get! (pos + 0)).toNat < 0x80 := by omega
    simp only [Utf8.decode, hn, if_false] at hD
    have fin : ∀ n, wd = n → (∀ k, k < n → pos + k < s.size ∧ 128 ≤ (s.get! (pos + k)).toNat) → 1 ≤ n → pos + wd ≤ s.size ∧ r ≤ 2147483647 ∧ (((bytesOf s)[pos]? = some 32 ∧ r = 32 ∧ wd = 1) ∨ (r ≠ 32 ∧ ∀ j, pos ≤ j → j < pos + wd → ∃ c, (bytesOf s)[j]? = some c ∧ c ≠ 32)) := by
      rintro n rfl hall h1
      refine ⟨by have := (hall (wd - 1) (by omega)).1; omega, hle, .inr ⟨by omega, fun j h1 h2 => ?_⟩⟩
      obtain ⟨k, rfl⟩ : ∃ k, j = pos + k := ⟨j - pos, by omega⟩
      exact hk k (hall k (by omega)).1 (hall k (by omega)).2
    have b0 : pos + 0 < s.size ∧ 128 ≤ (s.get! (pos + 0)).toNat := ⟨by omega, h0⟩
    have f1 : ∀ e : wd = 1, _ := fun e => fin 1 e (fun k hk => (show k = 0 by omega) ▸ b0) (Nat.le_refl _)
    split at hD
    · rename_i hx
      simp only [Bool.and_eq_true] at hx
      split at hD
      · cases hD
        refine fin 2 rfl (fun k hk => ?_) (by omega)
        rcases (show k = 0 ∨ k = 1 by omega) with rfl | rfl
        · exact b0
        · exact hc 1 hx.2
      · cases hD; exact f1 rfl
    · split at hD
      · rename_i hx
        simp only [Bool.and_eq_true] at hx
        split at hD
        · cases hD
          refine fin 3 rfl (fun k hk => ?_) (by omega)
          rcases (show k = 0 ∨ k = 1 ∨ k = 2 by omega) with rfl | rfl | rfl
          · exact b0
          · exact hc 1 hx.1.2
          · exact hc 2 hx.2
        · cases hD; exact f1 rfl
      · split at hD
        · rename_i hx
          simp only [Bool.and_eq_true] at hx
          split at hD
          · cases hD
            refine fin 4 rfl (fun k hk => ?_) (by omega)
            rcases (show k = 0 ∨ k = 1 ∨ k = 2 ∨ k = 3 by omega) with rfl | rfl | rfl | rfl
            · exact b0
            · exact hc 1 hx.1.1.2
            · exact hc 2 hx.1.2
            · exact hc 3 hx.2
          · cases hD; exact f1 rfl
        · cases hD; exact f1 rfl
theorem CutSt.many {l : List UInt8} {i j : Nat} {out : List (List UInt8)} (n : Nat) (h : CutSt l i j out) (hc : ∀ k, j ≤ k → k < j + n → ∃ c, l[k]? = some c ∧ c ≠ 32) : CutSt l i (j + n) out := by
  induction n with
  | zero => exact h
  | succ n ih =>
    obtain ⟨c, h1, h2⟩ := hc (j + n) (by omega) (by omega)
    exact (ih fun k hk hk2 => hc k hk (by omega)).other h1 h2
/-- With a space behind it every word ends at one. -/
theorem CutSt.words {l : List UInt8} {i j : Nat} {out : List (List UInt8)} (h : CutSt (l ++ [32]) i j out) : ∃ r, cutL 32 l = out ++ r := by
  have e := h.eq
  rw [cutL_snoc] at e
  have hne := cut_ne 32 ((l ++ [32]).drop i)
  generalize cutL 32 ((l ++ [32]).drop i) = X at *
  rcases List.eq_nil_or_concat X with rfl | ⟨r, y, rfl⟩
  · exact absurd rfl hne
  · rw [List.concat_eq_append, ← List.append_assoc] at e
    exact ⟨r, (List.append_inj' e rfl).1⟩
theorem CutSt.ended {l : List UInt8} {i : Nat} {out : List (List UInt8)} (h : CutSt (l ++ [32]) i (l.length + 1) out) : cutL 32 l = out := by
  have hi : i = l.length + 1 := by
    rcases Nat.lt_or_ge i (l.length + 1) with h1 | h1
    · exfalso
      refine h.no ?_
      rw [List.take_of_length_le (by simp), List.drop_append_of_le_length (by omega)]
      simp
    · have := h.le; omega
  have e := h.eq
  rw [cutL_snoc, hi, List.drop_of_length_le (by simp)] at e
  exact (List.append_inj' e rfl).1
theorem CutSt.piece {l : List UInt8} {i j : Nat} (hj : j ≤ l.length) : ((l ++ [32]).drop i).take (j - i) = (l.drop i).take (j - i) := by
  rcases Nat.lt_or_ge j i with h | h
  · rw [show j - i = 0 by omega]; simp
  · rw [List.drop_append_of_le_length (by omega), List.take_append_of_le_length (by simp; omega)]
theorem readProgP_cut {l : List UInt8} (h2 : ¬ l = [45, 45]) : readProgP l = match readAll (cutL 32 l) with
        | none => ([], false)
        | some p => if validB p = true then (p, true) else ([], false) := by
  unfold readProgP readProgR
  rw [if_neg h2]
  rcases readAll (cutL 32 l) with _ | p
  · rfl
  · show (match (if validB p = true then some p else none) with | some p => (p, true) | none => ([], false)) = _
    by_cases hv : validB p = true <;> simp [hv]
theorem read_bad {l : List UInt8} {out r : List (List UInt8)} {s : List UInt8} {p : List Int} (h2 : ¬ l = [45, 45]) (he : cutL 32 l = out ++ [s] ++ r) (hp : readAll out = some p) (hb : readWordR s = none ∨ p.length = 60) : readProgP l = ([], false) := by
  rw [readProgP_cut h2, he, readAll_app, readAll_app, hp]
  simp only [Option.bind_some, readAll]
  rcases hb with hb | hb
  · rw [hb]; rfl
  · rcases readWordR s with _ | z
    · rfl
    · rcases readAll r with _ | q
      · rfl
      · show (if validB (p ++ [z] ++ q) = true then _ else _) = _
        rw [if_neg]
        simp [validB]; intro _; omega
theorem read_good {l : List UInt8} {p : List Int} (h2 : ¬ l = [45, 45]) (hp : readAll (cutL 32 l) = some p) (hl : p.length ≤ 60) : readProgP l = if fitsFrom 0 p = true then (p, true) else ([], false) := by
  rw [readProgP_cut h2, hp]
  have := (readAll_len hp).2.1
  have e : validB p = fitsFrom 0 p := by simp [validB, this, hl]
  simp only [e]
theorem iterAt_grown (w : World) (G : Nat) (s : ByteArray) (pos : Nat) : w.grownBy (w.iterAt G s pos) (some G) :=
  ⟨rfl, rfl, rfl, by rw [Lib.iterAt_size]; exact Nat.le_refl _, fun i _ hne => Lib.iterAt_other w G i s pos fun e => hne (by rw [e])⟩
end Go.Proofs.YtceekfoacgoalaaDoor

/- ReadProg of the program. -/
namespace Go.Proofs.YtceekfoacgoalaaDoor
set_option maxRecDepth 100000
open Go.RowKit Go.WideShapes

theorem sum_bytes (x : ByteArray) (l : List UInt8) : (x ++ ⟨l.toArray⟩ : ByteArray) = ⟨(bytesOf x ++ l).toArray⟩ := by
  apply ByteArray.ext
  simp [ByteArray.data_append, bytesOf]
end Go.Proofs.YtceekfoacgoalaaDoor

/- ProgText of the program and of the model. -/
namespace Go.Proofs.YtceekfoacgoalaaDoor
set_option maxRecDepth 100000
open Go.RowKit Go.WideShapes

/-- The texts of a program's words, one after another, and what is still empty. -/
def wordsT (p : List Int) (k : Nat) : List (List UInt8) := (p.take k).map wordT ++ List.replicate (p.length - k) []
theorem wordsT_len (p : List Int) (k : Nat) (hk : k ≤ p.length) : (wordsT p k).length = p.length := by simp [wordsT]; omega
theorem wordsT_set (p : List Int) (k : Nat) (h : k < p.length) : (wordsT p k).set k (wordT (p.getD k 0)) = wordsT p (k + 1) := by
  have hl : ((p.take k).map wordT).length = k := by simp; omega
  have hrep : List.replicate (p.length - k) ([] : List UInt8) = [] :: List.replicate (p.length - (k + 1)) [] := by
    rw [show p.length - k = (p.length - (k + 1)) + 1 from by omega, List.replicate_succ]
  rw [wordsT, hrep, List.set_append_right _ _ (by omega), hl, Nat.sub_self, List.set_cons_zero, wordsT, List.take_add_one, List.getElem?_eq_getElem h, List.map_append]
  simp only [Option.toList_some, List.map_cons, List.map_nil, List.append_assoc, List.cons_append, List.nil_append, List.getD, List.getElem?_eq_getElem h, Option.getD_some]
theorem wordsT_all (p : List Int) : wordsT p p.length = p.map wordT := by simp [wordsT]
theorem join_le (ws : List (List UInt8)) (h : ∀ w ∈ ws, w.length ≤ 5) : (Lib.join ws [32]).length ≤ 6 * ws.length := by
  induction ws with
  | nil => simp [Lib.join_nil]
  | cons w r ih =>
    rw [Lib.join_cons, List.length_append, Lib.joinTail_length]
    have h1 := h w (by simp)
    have h2 : Lib.lens r ≤ 5 * r.length := by
      have : ∀ x ∈ r, x.length ≤ 5 := fun x hx => h x (by simp [hx])
      clear ih h h1
      induction r with
      | nil => simp [Lib.lens]
      | cons y r ih =>
        have := ih fun x hx => this x (by simp [hx])
        have h3 := ‹∀ x ∈ y :: r, x.length ≤ 5› y (by simp)
        simp only [Lib.lens, List.map_cons, List.sum_cons, List.length_cons] at this ⊢
        omega
    simp; omega
theorem wordT_len {p : List Int} (h : p.all isWordB = true) : ∀ w ∈ p.map wordT, w.length ≤ 5 := by
  intro w hw
  obtain ⟨z, hz, rfl⟩ := List.mem_map.1 hw
  exact (wordT_facts (List.all_eq_true.1 h z hz)).2.2.2
theorem progT_len (p : List Int) : (progT p).length ≤ 400 := by
  unfold progT
  by_cases h : validB p = true
  · rw [if_pos h]
    by_cases hp : p = []
    · rw [if_pos hp]; simp
    · rw [if_neg hp]
      have := join_le _ (wordT_len (validB_words h))
      have hl := validB_len h
      rw [List.length_map] at this; omega
  · rw [if_neg h]; simp
theorem strVals_set (ss : List (List UInt8)) (k : Nat) (z : List UInt8) : (strVals ss).set k (.string ⟨z.toArray⟩) = strVals (ss.set k z) := by simp [strVals, List.map_set]

theorem join_snoc (ws : List (List UInt8)) (w : List UInt8) (h : ws ≠ []) : Lib.join (ws ++ [w]) [32] = Lib.join ws [32] ++ [32] ++ w := by
  obtain ⟨x, r, rfl⟩ := List.exists_cons_of_ne_nil h
  rw [List.cons_append, Lib.join_cons, Lib.join_cons]
  simp [Lib.joinTail]
def joinK (p : List Int) (k : Nat) : List UInt8 := Lib.join ((p.take k).map wordT) [32]
theorem joinK_len {p : List Int} (h : p.all isWordB = true) (k : Nat) : (joinK p k).length ≤ 6 * p.length := by
  have := join_le ((p.take k).map wordT) fun w hw => wordT_len h w (by
    obtain ⟨z, hz, rfl⟩ := List.mem_map.1 hw
    exact List.mem_map.2 ⟨z, List.mem_of_mem_take hz, rfl⟩)
  rw [List.length_map, List.length_take] at this
  unfold joinK; omega
theorem joinK_succ {p : List Int} {k : Nat} (h1 : 1 ≤ k) (h : k < p.length) : joinK p (k + 1) = joinK p k ++ [32] ++ wordT (p.getD k 0) := by
  unfold joinK
  rw [List.take_add_one, List.getElem?_eq_getElem h, List.map_append]
  simp only [Option.toList_some, List.map_cons, List.map_nil]
  rw [join_snoc _ _ (fun e => by
    have e2 : ((p.take k).map wordT).length = 0 := by rw [e]; rfl
    rw [List.length_map, List.length_take] at e2; omega)]
  simp [List.getD, List.getElem?_eq_getElem h]
theorem add_strs (x : ByteArray) (l : List UInt8) (h : x.size + l.length ≤ 100000) : ∃ y : ByteArray, bytesOf y = bytesOf x ++ l ∧ ∀ W, (Op.stringOp .add x ⟨l.toArray⟩).run Tryd.prog W = .ok (.string y) W := by
  refine ⟨⟨(bytesOf x ++ l).toArray⟩, bytes_mk _, fun W => ?_⟩
  have hsz : (⟨l.toArray⟩ : ByteArray).size = l.length := by simp [ByteArray.size]
  rw [run_string_add_sum W _ _ (by rw [hsz]; omega), sum_bytes x l]

end Go.Proofs.YtceekfoacgoalaaDoor

/- The contracts of texts in the words of the exact laws. -/
namespace Go.Proofs.YtceekfoacgoalaaDoor
set_option maxRecDepth 100000
open Go.RowKit Go.WideShapes

def rpR (x : ByteArray) : List Int × Bool := readProgP (bytesOf x)
def ptR (p : List Int) : ByteArray := ⟨(progT p).toArray⟩
def wtR (z : Int) : ByteArray := ⟨(wordT z).toArray⟩
theorem readProgP_valid (l : List UInt8) : validB (readProgP l).1 = true := by
  unfold readProgP
  rcases h : readProgR l with _ | p
  · decide
  · exact (prog_read h).1
theorem rp_len (x : ByteArray) : szI (rpR x).1 ≤ 1000000 := by
  have := validB_len (readProgP_valid (bytesOf x))
  unfold szI rpR; omega
end Go.Proofs.YtceekfoacgoalaaDoor
