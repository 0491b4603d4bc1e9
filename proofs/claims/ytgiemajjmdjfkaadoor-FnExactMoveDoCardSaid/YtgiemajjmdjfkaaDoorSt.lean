/- States by value: the exact laws' helpers, StateOk of the program and of the model. -/
import Derived.Test.YtgiemajjmdjfkaaDoorQf
import Derived.Test.YtgiemajjmdjfkaaDoorLr
namespace Go.Proofs.YtgiemajjmdjfkaaDoor
set_option maxRecDepth 100000
open Go.RowKit Go.WideShapes

def leftT (n : Int) (r : List Int) (s : List (List Int)) : Int := if n - (r.length : Int) < 0 then -1 else leftS (n - (r.length : Int)) s
def stateB (r : List Int) (s : List (List Int)) : Bool := restB r && stackB s
theorem cell_new2 (w : World) (o : Obj) (cs : Array Value) (T : TypeId) (j : Nat) (u : Value) (h : cs[j]? = some u) : ((w.alloc o).alloc (.cells cs T)).cell? ⟨w.heap.size + 1, j, none⟩ = some u := by
  have hh := heap_alloc_new (w.alloc o) (.cells cs T)
  rw [show (w.alloc o).heap.size = w.heap.size + 1 from by simp] at hh
  rw [cell_of_row _ _ _ _ _ _ hh, h]
theorem bcell {W w1 : World} (hb : Below W.heap.size W w1) : (∀ b o, b < W.heap.size → w1.cell? ⟨b, o, none⟩ = W.cell? ⟨b, o, none⟩) ∧ (∀ b o, b < W.heap.size → w1.frozen? ⟨b, o, none⟩ = W.frozen? ⟨b, o, none⟩) :=
  ⟨fun b o h => hb.cell (p := ⟨b, o, none⟩) h, fun b o h => hb.frozen (p := ⟨b, o, none⟩) h⟩
/-- Block g holds these cells, none of them frozen. -/
def Blk (w : World) (g : Nat) (cs : Array Value) (T : TypeId) : Prop := w.heap[g]? = some (.cells cs T (0, 0))
theorem Blk.cell {w : World} {g : Nat} {cs : Array Value} {T : TypeId} (h : Blk w g cs T) (j : Nat) : w.cell? ⟨g, j, none⟩ = cs[j]? := by
  simpa using cell_of_row _ _ _ _ _ _ h
theorem Blk.free {w : World} {g : Nat} {cs : Array Value} {T : TypeId} (h : Blk w g cs T) (j : Nat) : w.frozen? ⟨g, j, none⟩ = false := by
  unfold Blk at h; simp [World.frozen?, h]
theorem Blk.lt {w : World} {g : Nat} {cs : Array Value} {T : TypeId} (h : Blk w g cs T) : g < w.heap.size := by
  unfold Blk at h
  rcases Nat.lt_or_ge g w.heap.size with h1 | h1
  · exact h1
  · rw [Array.getElem?_eq_none h1] at h; cases h
theorem Blk.below {w w' : World} {g B : Nat} {cs : Array Value} {T : TypeId} (h : Blk w g cs T) (hb : Below B w w') (hg : g < B) : Blk w' g cs T := (hb.block g hg).trans h
theorem Blk.set {w : World} {g : Nat} {cs : Array Value} {T : TypeId} (h : Blk w g cs T) (j : Nat) (u : Value) : Blk (w.setCell ⟨g, j, none⟩ u) g (cs.setIfInBounds j u) T := by
  unfold Blk at *; simp [World.setCell, Array.getElem?_modify, h]
theorem Blk.other {w : World} {g g' : Nat} {cs : Array Value} {T : TypeId} (h : Blk w g cs T) (hne : g ≠ g') (j : Nat) (u : Value) : Blk (w.setCell ⟨g', j, none⟩ u) g cs T := (Below.heap_setCell _ _ _ _ (by simpa using hne)).trans h
theorem Blk.new (w : World) (cs : Array Value) (T : TypeId) : Blk (w.alloc (.cells cs T)) w.heap.size cs T := heap_alloc_new w _
theorem within_setCell (w : World) (g o : Nat) (u : Value) : Within g (g + 1) w (w.setCell ⟨g, o, none⟩ u) :=
  ⟨rfl, rfl, rfl, by simp [World.setCell], fun k _ hn => Below.heap_setCell _ _ _ _ (by simp only; omega)⟩
/-- A copy of a state: both rows of the call's own. -/
def ToT (w : World) (r : List Int) (s : List (List Int)) (e : Ending) (w' : World) : Prop := ∃ u0 u1 m, e = .returned (.agg #[u0, u1]) ∧ w.heap.size ≤ m ∧ m ≤ w'.heap.size ∧ OwnI w' w.heap.size m u0 r ∧ OwnS w' m w'.heap.size u1 s ∧ Below w.heap.size w w'
end Go.Proofs.YtgiemajjmdjfkaaDoor