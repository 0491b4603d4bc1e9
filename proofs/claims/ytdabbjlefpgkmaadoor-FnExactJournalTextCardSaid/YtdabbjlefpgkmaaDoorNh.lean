/- Programs read from texts, by the program: a range over the text with a space behind it. -/
import Derived.Test.YtdabbjlefpgkmaaDoorNg
import Derived.Lib.OthersKept
namespace Go.Proofs.YtdabbjlefpgkmaaDoor
set_option maxRecDepth 100000
open Go.RowKit Go.WideShapes

theorem get_byte (s : ByteArray) (k : Nat) (h : k < s.size) : s.get! k = s[k]'h := by
  simp [ByteArray.get!, getElem!_pos, h]
  rfl
/-- What a range finds at a place: one byte below 128, or several of 128 and more. -/
theorem decode_facts (s : ByteArray) (pos : Nat) (h : pos < s.size) : ∃ r wd, Utf8.decode s pos = (r, wd) ∧ 1 ≤ wd ∧ pos + wd ≤ s.size ∧ r ≤ 2147483647 ∧ (((bytesOf s)[pos]? = some 32 ∧ r = 32 ∧ wd = 1) ∨ (r ≠ 32 ∧ ∀ j, pos ≤ j → j < pos + wd → ∃ c, (bytesOf s)[j]? = some c ∧ c ≠ 32)) := by
  have hle := decode_le s pos
  by_cases ha : (s[pos]'h).toNat < 128
  · have hd := decode_ascii s pos h ha
    refine ⟨_, _, hd, Nat.le_refl _, by omega, by omega, ?_⟩
    by_cases h32 : s[pos]'h = 32
    · exact .inl ⟨by rw [bytes_get s pos h, h32], by rw [h32]; rfl, rfl⟩
    · refine .inr ⟨fun e => h32 (UInt8.toNat_inj.1 (by simpa using e)), fun j h1 h2 => ?_⟩
      obtain rfl : j = pos := by omega
      exact ⟨_, bytes_get s _ h, h32⟩
  · have hk : ∀ k, pos + k < s.size → 128 ≤ (s.get! (pos + k)).toNat → ∃ c, (bytesOf s)[pos + k]? = some c ∧ c ≠ 32 := fun k hk hc => by
      rw [get_byte s _ hk] at hc
      refine ⟨_, bytes_get s _ hk, fun e => ?_⟩
      rw [e] at hc; simp at hc
    have h0 : 128 ≤ (s.get! (pos + 0)).toNat := by rw [get_byte s (pos + 0) (by omega)]; simpa using Nat.le_of_not_lt ha
    have hh := decode_high s pos h (by omega)
    have hone : ∀ j, pos ≤ j → j < pos + 1 → ∃ c, (bytesOf s)[j]? = some c ∧ c ≠ 32 := fun j h1 h2 => by
      obtain rfl : j = pos + 0 := by omega
      exact hk 0 (by omega) h0
    have hc : ∀ k, decide (pos + k < s.size) = true ∧ ((s.get! (pos + k)).toNat / 64 == 2) = true → pos + k < s.size ∧ 128 ≤ (s.get! (pos + k)).toNat := fun k ⟨h1, h2⟩ => ⟨by simpa using h1, by have := beq_iff_eq.1 h2; omega⟩
    generalize hD : Utf8.decode s pos = D at *
    obtain ⟨r, wd⟩ := D
    refine ⟨r, wd, rfl, hh.2, ?_⟩
    dsimp only at hh hle
    have hn : ¬ (s.get! (pos + 0)).toNat < 0x80 := by omega
    simp only [Utf8.decode, hn, if_false] at hD
    have fin : ∀ n, wd = n → (∀ k, k < n → pos + k < s.size ∧ 128 ≤ (s.get! (pos + k)).toNat) → 1 ≤ n → pos + wd ≤ s.size ∧ r ≤ 2147483647 ∧ (((bytesOf s)[pos]? = some 32 ∧ r = 32 ∧ wd = 1) ∨ (r ≠ 32 ∧ ∀ j, pos ≤ j → j < pos + wd → ∃ c, (bytesOf s)[j]? = some c ∧ c ≠ 32)) := by
      rintro n rfl hall h1
      refine ⟨by have := (hall (wd - 1) (by omega)).1; omega, hle, .inr ⟨by omega, fun j h1 h2 => ?_⟩⟩
      obtain ⟨k, rfl⟩ : ∃ k, j = pos + k := ⟨j - pos, by omega⟩
      exact hk k (hall k (by omega)).1 (hall k (by omega)).2
    have b0 : pos + 0 < s.size ∧ 128 ≤ (s.get! (pos + 0)).toNat := ⟨by omega, h0⟩
    have f1 : ∀ e : wd = 1, _ := fun e => fin 1 e (fun k hk => (show k = 0 by omega) ▸ b0) (Nat.le_refl _)
    split at hD
    · rename_i hx
      simp only [Bool.and_eq_true] at hx
      split at hD
      · cases hD
        refine fin 2 rfl (fun k hk => ?_) (by omega)
        rcases (show k = 0 ∨ k = 1 by omega) with rfl | rfl
        · exact b0
        · exact hc 1 hx.2
      · cases hD; exact f1 rfl
    · split at hD
      · rename_i hx
        simp only [Bool.and_eq_true] at hx
        split at hD
        · cases hD
          refine fin 3 rfl (fun k hk => ?_) (by omega)
          rcases (show k = 0 ∨ k = 1 ∨ k = 2 by omega) with rfl | rfl | rfl
          · exact b0
          · exact hc 1 hx.1.2
          · exact hc 2 hx.2
        · cases hD; exact f1 rfl
      · split at hD
        · rename_i hx
          simp only [Bool.and_eq_true] at hx
          split at hD
          · cases hD
            refine fin 4 rfl (fun k hk => ?_) (by omega)
            rcases (show k = 0 ∨ k = 1 ∨ k = 2 ∨ k = 3 by omega) with rfl | rfl | rfl | rfl
            · exact b0
            · exact hc 1 hx.1.1.2
            · exact hc 2 hx.1.2
            · exact hc 3 hx.2
          · cases hD; exact f1 rfl
        · cases hD; exact f1 rfl
theorem CutSt.many {l : List UInt8} {i j : Nat} {out : List (List UInt8)} (n : Nat) (h : CutSt l i j out) (hc : ∀ k, j ≤ k → k < j + n → ∃ c, l[k]? = some c ∧ c ≠ 32) : CutSt l i (j + n) out := by
  induction n with
  | zero => exact h
  | succ n ih =>
    obtain ⟨c, h1, h2⟩ := hc (j + n) (by omega) (by omega)
    exact (ih fun k hk hk2 => hc k hk (by omega)).other h1 h2
/-- With a space behind it every word ends at one. -/
theorem CutSt.words {l : List UInt8} {i j : Nat} {out : List (List UInt8)} (h : CutSt (l ++ [32]) i j out) : ∃ r, cutL 32 l = out ++ r := by
  have e := h.eq
  rw [cutL_snoc] at e
  have hne := cut_ne 32 ((l ++ [32]).drop i)
  generalize cutL 32 ((l ++ [32]).drop i) = X at *
  rcases List.eq_nil_or_concat X with rfl | ⟨r, y, rfl⟩
  · exact absurd rfl hne
  · rw [List.concat_eq_append, ← List.append_assoc] at e
    exact ⟨r, (List.append_inj' e rfl).1⟩
theorem CutSt.ended {l : List UInt8} {i : Nat} {out : List (List UInt8)} (h : CutSt (l ++ [32]) i (l.length + 1) out) : cutL 32 l = out := by
  have hi : i = l.length + 1 := by
    rcases Nat.lt_or_ge i (l.length + 1) with h1 | h1
    · exfalso
      refine h.no ?_
      rw [List.take_of_length_le (by simp), List.drop_append_of_le_length (by omega)]
      simp
    · have := h.le; omega
  have e := h.eq
  rw [cutL_snoc, hi, List.drop_of_length_le (by simp)] at e
  exact (List.append_inj' e rfl).1
theorem CutSt.piece {l : List UInt8} {i j : Nat} (hj : j ≤ l.length) : ((l ++ [32]).drop i).take (j - i) = (l.drop i).take (j - i) := by
  rcases Nat.lt_or_ge j i with h | h
  · rw [show j - i = 0 by omega]; simp
  · rw [List.drop_append_of_le_length (by omega), List.take_append_of_le_length (by simp; omega)]
theorem readProgP_cut {l : List UInt8} (h2 : ¬ l = [45, 45]) : readProgP l = match readAll (cutL 32 l) with
        | none => ([], false)
        | some p => if validB p = true then (p, true) else ([], false) := by
  unfold readProgP readProgR
  rw [if_neg h2]
  rcases readAll (cutL 32 l) with _ | p
  · rfl
  · show (match (if validB p = true then some p else none) with | some p => (p, true) | none => ([], false)) = _
    by_cases hv : validB p = true <;> simp [hv]
theorem read_bad {l : List UInt8} {out r : List (List UInt8)} {s : List UInt8} {p : List Int} (h2 : ¬ l = [45, 45]) (he : cutL 32 l = out ++ [s] ++ r) (hp : readAll out = some p) (hb : readWordR s = none ∨ p.length = 60) : readProgP l = ([], false) := by
  rw [readProgP_cut h2, he, readAll_app, readAll_app, hp]
  simp only [Option.bind_some, readAll]
  rcases hb with hb | hb
  · rw [hb]; rfl
  · rcases readWordR s with _ | z
    · rfl
    · rcases readAll r with _ | q
      · rfl
      · show (if validB (p ++ [z] ++ q) = true then _ else _) = _
        rw [if_neg]
        simp [validB]; intro _; omega
theorem read_good {l : List UInt8} {p : List Int} (h2 : ¬ l = [45, 45]) (hp : readAll (cutL 32 l) = some p) (hl : p.length ≤ 60) : readProgP l = if fitsFrom 0 p = true then (p, true) else ([], false) := by
  rw [readProgP_cut h2, hp]
  have := (readAll_len hp).2.1
  have e : validB p = fitsFrom 0 p := by simp [validB, this, hl]
  simp only [e]
theorem iterAt_grown (w : World) (G : Nat) (s : ByteArray) (pos : Nat) : w.grownBy (w.iterAt G s pos) (some G) :=
  ⟨rfl, rfl, rfl, by rw [Lib.iterAt_size]; exact Nat.le_refl _, fun i _ hne => Lib.iterAt_other w G i s pos fun e => hne (by rw [e])⟩
end Go.Proofs.YtdabbjlefpgkmaaDoor
