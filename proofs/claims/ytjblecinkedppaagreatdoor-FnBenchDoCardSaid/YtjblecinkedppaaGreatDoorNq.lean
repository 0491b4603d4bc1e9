/- The draws of words, texts of words, programs and texts of programs. -/
import Derived.Test.YtjblecinkedppaaGreatDoorNo
import Derived.Test.YtjblecinkedppaaGreatDoorBo
namespace Go.Proofs.YtjblecinkedppaaGreatDoor
set_option maxRecDepth 100000
open Go.RowKit Go.WideShapes

theorem add_ba (x y : ByteArray) (h : x.size + y.size ≤ 100000) : ∃ z : ByteArray, z.size = x.size + y.size ∧ ∀ W, (Op.stringOp .add x y).run Tryz.prog W = .ok (.string z) W :=
  ⟨x ++ y, by simp [ByteArray.size_append], fun W => run_string_add_sum W _ _ (by omega)⟩
theorem str_at {W : World} {g : Nat} {ss : List (List UInt8)} {T : TypeId} (h : W.heap[g]? = some (.cells (strVals ss).toArray T (0, 0))) {j : Nat} {t : List UInt8} (ht : ss[j]? = some t) : W.cell? ⟨g, j, none⟩ = some (.string ⟨t.toArray⟩) := by
  rw [cell_of_row _ _ _ _ _ _ h]; simp [strVals, ht]
theorem str_new (W : World) {ss : List (List UInt8)} {T : TypeId} {j : Nat} {t : List UInt8} (ht : ss[j]? = some t) : (W.alloc (.cells (strVals ss).toArray T)).cell? ⟨W.heap.size, j, none⟩ = some (.string ⟨t.toArray⟩) := str_at (heap_alloc_new W _) ht
/-- A byte of a text spoiled: the pieces, whatever is put between them. -/
theorem spoil_parts (S : ByteArray) (k : Nat) (hk : k < S.size) (hS : S.size ≤ 50000) : ∃ A B : ByteArray, A.size = k ∧ B.size + (k + 1) = S.size ∧
    (∀ W, (Instr.slice 9 (.string S) none (some (.int .i64 k)) none).run Tryz.prog W = .ok (.string A) W) ∧ (∀ W, (Instr.slice 9 (.string S) (some (.int .i64 ((k : Int) + 1))) none none).run Tryz.prog W = .ok (.string B) W) :=
  ⟨S.extract 0 k, S.extract (k + 1) S.size, by rw [ByteArray.size_extract]; omega, by rw [ByteArray.size_extract]; omega, fun W => by
    rw [run_slice_string_to_if W 9 S .i64 k Tryz.underlying9, if_pos ⟨by omega, by omega⟩, Int.toNat_natCast], fun W => by
    rw [run_slice_string_from_if W 9 S .i64 ((k : Int) + 1) Tryz.underlying9, if_pos ⟨by omega, by omega⟩, show ((k : Int) + 1).toNat = k + 1 by omega]⟩
def SpoilPost (w : World) (L : Nat) (e : Ending) (w' : World) : Prop := ∃ T : ByteArray, e = .returned (.string T) ∧ T.size ≤ L ∧ Below w.heap.size w w'

theorem mk_size (l : List UInt8) : (⟨l.toArray⟩ : ByteArray).size = l.length := by simp [ByteArray.size]
theorem below_drewA {w W : World} (h : Below w.heap.size w W) (o : Obj) : Below w.heap.size w (W.alloc o).drew := (h.alloc h.size o).drew
theorem below_drewB {w W : World} (h : Below w.heap.size w W) (o : Obj) : Below w.heap.size w (W.drew.alloc o) := h.drew.alloc h.size o
theorem spoil_after {ss : List (List UInt8)} {T : TypeId} {w5 w6 : World} {g j L : Nat} (hw : Within g (g + 1) (w5.alloc (.cells (strVals ss).toArray T)).drew w6) (hg : g < w5.heap.size) (hj : j < ss.length) (hL : ∀ t ∈ ss, t.length ≤ L) :
    ∃ t : List UInt8, t.length ≤ L ∧ w6.cell? ⟨w5.heap.size, j, none⟩ = some (.string ⟨t.toArray⟩) :=
  ⟨ss[j], hL _ (List.getElem_mem hj), str_at ((hw.block w5.heap.size (show w5.heap.size < (w5.heap.push _).size by rw [Array.size_push]; omega) (by omega)).trans (heap_alloc_new w5 _)) (List.getElem?_eq_getElem hj)⟩
theorem spoil_new (ss : List (List UInt8)) (T : TypeId) {j L : Nat} (hj : j < ss.length) (hL : ∀ t ∈ ss, t.length ≤ L) :
    ∃ t : List UInt8, t.length ≤ L ∧ ∀ W : World, (W.alloc (.cells (strVals ss).toArray T)).cell? ⟨W.heap.size, j, none⟩ = some (.string ⟨t.toArray⟩) :=
  ⟨ss[j], hL _ (List.getElem_mem hj), fun W => str_new W (List.getElem?_eq_getElem hj)⟩
theorem add_three (A B : ByteArray) (t : List UInt8) (h : A.size + t.length + B.size ≤ 100000) : ∃ C D : ByteArray, D.size = A.size + t.length + B.size ∧ (∀ W, (Op.stringOp .add A ⟨t.toArray⟩).run Tryz.prog W = .ok (.string C) W) ∧ (∀ W, (Op.stringOp .add C B).run Tryz.prog W = .ok (.string D) W) := by
  obtain ⟨C, hC, h1⟩ := add_ba A ⟨t.toArray⟩ (by rw [mk_size t]; omega)
  rw [mk_size t] at hC
  obtain ⟨D, hD, h2⟩ := add_ba C B (by omega)
  exact ⟨C, D, by omega, h1, h2⟩
def lits6 : List (List UInt8) := [[], [48], [91], [93], [32], [32, 32]]
theorem lits6_len : ∀ t ∈ lits6, t.length ≤ 2 := by decide

def lits4 : List (List UInt8) := [[], [48], [112], [32]]
theorem lits4_len : ∀ t ∈ lits4, t.length ≤ 2 := by decide

end Go.Proofs.YtjblecinkedppaaGreatDoor
