/- Contracts of ProgThen and ProgQuote. -/
import Derived.Test.YtgiemajjmdjfkaaDoorA
import Derived.Test.YtgiemajjmdjfkaaDoorC
namespace Go.Proofs.YtgiemajjmdjfkaaDoor
set_option maxRecDepth 100000
open Go.RowKit Go.WideShapes

def thenR (p q : List Int) : List Int × Bool := if validB p = true ∧ validB q = true ∧ p.length + q.length ≤ 60 then (p ++ q, true) else ([], false)
def quoteR (p : List Int) : List Int × Bool := if validB p = true ∧ p.length + 2 ≤ 60 then (1012 :: (p ++ [1013]), true) else ([], false)

theorem Own.nil (w : World) (B : Nat) : Own w B (.slice none 0 0) [] := ⟨World.ownsRow_nil _ _ _ _, by simp⟩

theorem slrow_lit (w : World) (T : TypeId) (ss : List Sl) (h : ∀ s ∈ ss, IntsK .i64 w w.heap.size s.1 s.2.2) :
    SlRow (w.alloc (.cells (ss.map Sl.val).toArray T)) (w.alloc (.cells (ss.map Sl.val).toArray T)).heap.size w.heap.size 0 ss := by
  refine ⟨fun j s hs => ?_, fun s hs => ((h s hs).alloc (Nat.le_refl _) _).mono (by simp)⟩
  rw [Nat.zero_add, cell_of_row _ _ _ _ _ _ (heap_alloc_new w _)]
  simp [hs]

theorem ret_pair {v : Value} {a b : Bool} (h : a = b) : Ending.returned (.tuple #[v, .bool a]) = .returned (.tuple #[v, .bool b]) := by rw [h]

theorem lit_own (w : World) (zs : List Int) (hn : zs.length ≤ 1000) : (w.alloc (.cells (zs.map (Value.int .i64)).toArray 3)).ownsRow w.heap.size 3 1 (.slice (some ⟨w.heap.size, 0, none⟩) zs.length zs.length) zs.length (zs.map (Value.int .i64)) := by
  have h := World.ownsRow_lit (base := w.heap.size) (e := 3) (size := 1) w (zs.map (Value.int .i64)).toArray zs.length (Nat.le_refl _) (by unfold maxLen; omega) (by simp)
  simpa using h
theorem validB_len {p : List Int} (h : validB p = true) : p.length ≤ 60 := by simp [validB] at h; omega
theorem wf_small (z : Int) (h : 0 ≤ z ∧ z ≤ 1000000) : InK .i64 z := WalkArith.wf_i64 (by omega)

end Go.Proofs.YtgiemajjmdjfkaaDoor
