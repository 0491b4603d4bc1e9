/- Benches: what the functions give, plain facts. -/
import Derived.Test.YtdabbjlefpgkmaaDoorNm
import Derived.Test.YtdabbjlefpgkmaaDoorB5
namespace Go.Proofs.YtdabbjlefpgkmaaDoor
set_option maxRecDepth 100000
open Go.RowKit Go.WideShapes

theorem blk_pair {w : World} {g : Nat} {a b : Value} {T : TypeId} (h : Blk w g #[a, b] T) : w.cell? ⟨g, 0, none⟩ = some a ∧ w.cell? ⟨g, 1, none⟩ = some b ∧ w.frozen? ⟨g, 0, none⟩ = false ∧ w.frozen? ⟨g, 1, none⟩ = false :=
  ⟨h.cell 0, h.cell 1, h.free 0, h.free 1⟩
/-- A program is that of a stack. -/
def bsB (p : List Int) : Bool := (progStackR p).2
/-- A text is that of the program of a stack. -/
def tsB (t : List UInt8) : Bool := match readProgR t with
  | some p => bsB p
  | none => false
def benchB (n : List Int) (ps : List (List UInt8)) : Bool := bsB n && decide (ps.length ≤ 20) && ps.all tsB
theorem bsB_valid {p : List Int} (h : bsB p = true) : validB p = true ∧ p.length ≤ 60 := by
  unfold bsB progStackR at h
  split at h
  · rename_i h1; exact ⟨h1.1, validB_len h1.1⟩
  · cases h
theorem benchB_parts {n : List Int} {ps : List (List UInt8)} (h : benchB n ps = true) : bsB n = true ∧ ps.length ≤ 20 ∧ ∀ t ∈ ps, tsB t = true := by
  simp only [benchB, Bool.and_eq_true, decide_eq_true_eq, List.all_eq_true] at h
  exact ⟨h.1.1, h.1.2, h.2⟩
theorem tsB_text {t : List UInt8} (h : tsB t = true) : ∃ p, readProgR t = some p ∧ bsB p = true ∧ progT p = t := by
  unfold tsB at h
  split at h
  · rename_i p hp; exact ⟨p, hp, h, (prog_read hp).2⟩
  · cases h
theorem tsB_len {t : List UInt8} (h : tsB t = true) : t.length ≤ 400 := by
  obtain ⟨p, _, _, e⟩ := tsB_text h
  rw [← e]; exact progT_len p
end Go.Proofs.YtdabbjlefpgkmaaDoor
