/- Journals: their deeds, line by line; cutting at the first newline. -/
import Derived.Test.YtdabbjlefpgkmaaDoorAi
namespace Go.Proofs.YtdabbjlefpgkmaaDoor
set_option maxRecDepth 100000
open Go.RowKit Go.WideShapes Go.Deep

/-- The line with which a text begins, and what is behind its newline. -/
def lineR : List UInt8 → Option (List UInt8 × List UInt8)
  | [] => none
  | c :: r => if c = 10 then some ([], r) else (lineR r).map fun x => (c :: x.1, x.2)
theorem lineR_split {t l r : List UInt8} (h : lineR t = some (l, r)) : t = l ++ 10 :: r := by
  induction t generalizing l with
  | nil => cases h
  | cons c t ih =>
    rw [lineR] at h
    split at h
    · rename_i e; cases h; subst e; rfl
    · rcases hl : lineR t with _ | ⟨a, b⟩
      · rw [hl] at h; cases h
      · rw [hl] at h; cases h
        rw [ih hl]; rfl
theorem lineR_len {t l r : List UInt8} (h : lineR t = some (l, r)) : t.length = l.length + 1 + r.length ∧ t.drop (l.length + 1) = r ∧ t.take l.length = l := by
  have e := lineR_split h
  subst e
  refine ⟨by simp; omega, ?_, by simp⟩
  rw [show l.length + 1 = (l ++ [10]).length by simp, show l ++ 10 :: r = (l ++ [10]) ++ r by simp, List.drop_left]
theorem idx_line (t : List UInt8) : Lib.index t [10] = match lineR t with | none => -1 | some x => (x.1.length : Int) := by
  induction t with
  | nil => rfl
  | cons c t ih =>
    rw [Lib.index, lineR]
    by_cases hc : c = 10
    · subst hc; rw [if_pos rfl, if_pos (by simp [List.isPrefixOf])]; rfl
    · rw [if_neg hc, if_neg (by simp [List.isPrefixOf]; exact fun e => hc e.symm), ih]
      rcases hl : lineR t with _ | ⟨a, b⟩
      · rfl
      · simp only [Option.map_some]
        rw [if_neg (by simp)]
        simp
theorem cut_line (t : List UInt8) : Lib.cut t [10] = match lineR t with | none => (t, [], false) | some x => (x.1, x.2, true) := by
  unfold Lib.cut
  rw [idx_line]
  rcases hl : lineR t with _ | ⟨a, b⟩
  · rfl
  · simp only
    rw [if_pos (by omega)]
    obtain ⟨_, h2, h3⟩ := lineR_len hl
    simp only [Int.toNat_natCast, List.length_singleton]
    rw [h3, h2]
/-- The deeds of a journal, and how many bytes their lines have. -/
def jrnF : Nat → List UInt8 → Deeds × Nat
  | 0, _ => ([], 0)
  | n + 1, t => match lineR t with
    | none => ([], 0)
    | some x => if (deedR x.1).2 = true then ((deedR x.1).1 :: (jrnF n x.2).1, x.1.length + 1 + (jrnF n x.2).2) else ([], 0)
theorem jrnF_more (n m : Nat) (t : List UInt8) (hn : t.length ≤ n) (hm : t.length ≤ m) : jrnF n t = jrnF m t := by
  induction n generalizing m t with
  | zero =>
    have : t = [] := List.eq_nil_of_length_eq_zero (by omega)
    subst this
    rcases m with _ | m <;> rfl
  | succ n ih =>
    rcases m with _ | m
    · have : t = [] := List.eq_nil_of_length_eq_zero (by omega)
      subst this; rfl
    · rw [jrnF, jrnF]
      rcases hl : lineR t with _ | ⟨a, b⟩
      · rfl
      · have := (lineR_len hl).1
        simp only
        rw [ih m b (by omega) (by omega)]
def jrn (t : List UInt8) : Deeds × Nat := jrnF t.length t
theorem jrn_none {t : List UInt8} (h : lineR t = none) : jrn t = ([], 0) := by
  unfold jrn
  rcases hn : t.length with _ | n
  · rfl
  · rw [jrnF, h]
theorem jrn_bad {t l r : List UInt8} (h : lineR t = some (l, r)) (hd : (deedR l).2 = false) : jrn t = ([], 0) := by
  unfold jrn
  rcases hn : t.length with _ | n
  · rfl
  · rw [jrnF, h]; simp [hd]
theorem jrn_some {t l r : List UInt8} (h : lineR t = some (l, r)) (hd : (deedR l).2 = true) : jrn t = ((deedR l).1 :: (jrn r).1, l.length + 1 + (jrn r).2) := by
  have hlen := (lineR_len h).1
  unfold jrn
  rcases hn : t.length with _ | n
  · omega
  · rw [jrnF, h]
    simp only [hd, if_true]
    rw [jrnF_more n r.length r (by omega) (Nat.le_refl _)]
theorem jrnF_le (n : Nat) (t : List UInt8) : (jrnF n t).1.length ≤ t.length ∧ (jrnF n t).2 ≤ t.length := by
  induction n generalizing t with
  | zero => simp [jrnF]
  | succ n ih =>
    rw [jrnF]
    rcases hl : lineR t with _ | ⟨a, b⟩
    · simp
    · have := (lineR_len hl).1
      have h2 := ih b
      simp only
      split
      · simp; omega
      · simp
theorem jrn_le (t : List UInt8) : (jrn t).1.length ≤ t.length ∧ (jrn t).2 ≤ t.length := jrnF_le _ t
/-- So far, so many deeds in so many bytes. -/
def JrnAt (t : List UInt8) (from_ : Nat) (ds : Deeds) : Prop := from_ ≤ t.length ∧ ds.length ≤ from_ ∧ jrn t = (ds ++ (jrn (t.drop from_)).1, from_ + (jrn (t.drop from_)).2)
theorem JrnAt.start (t : List UInt8) : JrnAt t 0 [] := ⟨by omega, by simp, by simp⟩
theorem JrnAt.stop {t : List UInt8} {f : Nat} {ds : Deeds} (h : JrnAt t f ds) (hs : jrn (t.drop f) = ([], 0)) : jrn t = (ds, f) := by
  rw [h.2.2, hs]; simp
theorem JrnAt.more {t l r : List UInt8} {f : Nat} {ds : Deeds} (h : JrnAt t f ds) (hl : lineR (t.drop f) = some (l, r)) (hd : (deedR l).2 = true) : JrnAt t (f + (l.length + 1)) (ds ++ [(deedR l).1]) := by
  obtain ⟨h1, h2, h3⟩ := h
  obtain ⟨e1, e2, _⟩ := lineR_len hl
  rw [List.length_drop] at e1
  refine ⟨by omega, by simp; omega, ?_⟩
  rw [h3, jrn_some hl hd, ← e2, List.drop_drop]
  simp; omega

/-- The library's variable of the longest text that is looked for at once. -/
def MLen (w : World) : Prop := 1 < w.heap.size ∧ ∃ m, w.cell? ⟨1, 0, none⟩ = some (.int .i64 m)
theorem MLen.below {w w' : World} {B : Nat} (h : MLen w) (hb : Below B w w') (hg : 1 < B) : MLen w' := by
  obtain ⟨h1, m, hm⟩ := h
  refine ⟨?_, m, (hb.cell (p := ⟨1, 0, none⟩) hg).trans hm⟩
  exact Nat.lt_of_lt_of_le h1 hb.size
theorem MLen.of_shaped {w : World} (h : w.ShapedOpen Tryd.prog) : MLen w := by
  obtain ⟨m, hm⟩ := Tryd.laysM145.s1_3 w h
  exact ⟨lt_of_cell hm, m, hm⟩
theorem cutNl (S L : ByteArray) (R : ByteArray) (b : Bool) (w : World) (h : MLen w) (hs : S.size < 4294967281) (h1 : (⟨(Lib.cut (bytesOf S) [10]).1.toArray⟩ : ByteArray) = L) (h2 : (⟨(Lib.cut (bytesOf S) [10]).2.1.toArray⟩ : ByteArray) = R) (h3 : (Lib.cut (bytesOf S) [10]).2.2 = b) :
    Calls Tryd.prog 53 #[.string S, .string ⟨#[10]⟩] w fun e w' => e = .returned (.tuple #[.string L, .string R, .bool b]) ∧ Below w.heap.size w w' := by
  subst h1 h2 h3
  obtain ⟨_, m, hm⟩ := h
  refine (Any.strings_Cut { Tryd.laysM145 with } S ⟨#[10]⟩ m w hs hm).mono ?_
  rintro e w' ⟨rfl, n, rfl⟩
  exact ⟨rfl, by
    induction n with
    | zero => exact Below.refl _ _
    | succ n ih => exact ih.trans (by first | exact (Below.refl _ _).drew | (show Below _ _ _; exact (Below.refl _ _).drew))⟩
end Go.Proofs.YtdabbjlefpgkmaaDoor
