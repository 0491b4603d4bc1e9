/- The model's letters: l1Same; l3Letters. -/
import Derived.Test.YtaobijmjlkdphaaDoorTp
import Derived.BigQuiet
namespace Go.Proofs.YtaobijmjlkdphaaDoor
set_option maxRecDepth 100000
open Go.RowKit Go.WideShapes

def SameRel (a b : List Int) (w : World) (k : Value) (wr : World) : Prop := ∃ j : Nat, k = .int .i64 j ∧ j ≤ a.length ∧ j ≤ b.length ∧ a.take j = b.take j ∧ Below w.heap.size w wr
theorem take_next {a b : List Int} {j : Nat} (ha : j < a.length) (hb : j < b.length) (h : a.take j = b.take j) (he : a.getD j 0 = b.getD j 0) : a.take (j + 1) = b.take (j + 1) := by
  rw [List.take_add_one, List.take_add_one, h]
  simp only [List.getD, List.getElem?_eq_getElem ha, List.getElem?_eq_getElem hb, Option.getD_some] at he
  rw [List.getElem?_eq_getElem ha, List.getElem?_eq_getElem hb, he]
theorem rdI_take {w : World} {b off c L : Nat} {zs : List Int} (h : RdI w (.slice (some ⟨b, off, none⟩) L c) zs) (e : Nat) (he : e ≤ zs.length) : RdI w (.slice (some ⟨b, off, none⟩) e c) (zs.take e) := by
  obtain ⟨A, c', eq, hi, hc⟩ := h
  cases eq
  have h1 := hi.sub 0 e (by omega)
  rw [List.drop_zero, Nat.add_zero] at h1
  exact ⟨_, c, by rw [List.length_take, Nat.min_eq_left he], h1, by rw [List.length_take]; omega⟩
def LetPost (n : Nat) (b : Bool) (zs : List Int) (k : Nat) (ls : List (Int × Int)) (w : World) (e : Ending) (w' : World) : Prop := ∃ u, e = .returned u ∧ RdI w' u ((lets n b (zs.drop k) ls).map code) ∧ Below w.heap.size w w'
end Go.Proofs.YtaobijmjlkdphaaDoor
