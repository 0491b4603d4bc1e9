/- Contracts of chapter 1's functions, in the form that the exact laws take. -/
import Derived.Test.YtconlhhnolodbaaU
import Derived.Test.YtconlhhnolodbaaO
namespace Go.Proofs.Ytconlhhnolodbaa
set_option maxRecDepth 100000
open Go.RowKit Go.WideShapes

theorem ProgThen_I (v0 : Value) (x0 : List Int) (v1 : Value) (x1 : List Int) (w : World) (h0 : RdI w v0 x0) (_ : x0.length ≤ 1048576) (h1 : RdI w v1 x1) (_ : x1.length ≤ 1048576) (y0 : List Int) (y1 : Bool) (hR : thenR x0 x1 = (y0, y1)) :
    Calls Try.prog 30 #[v0, v1] w fun e w' => ∃ u, e = .returned (.tuple #[u, .bool y1]) ∧ OwnI w' w.heap.size w'.heap.size u y0 ∧ Below w.heap.size w w' := by
  obtain ⟨A, c, rfl, hi0, _⟩ := h0
  obtain ⟨A', c', rfl, hi1, _⟩ := h1
  refine (ProgThen_any A A' c c' x0 x1 w hi0 hi1).mono ?_
  rw [hR]
  rintro e w' ⟨u, rfl, ho, hb⟩
  exact ⟨u, rfl, ho.within, hb⟩
theorem thenR_len (p q : List Int) : szI (thenR p q).1 ≤ 1000000 := by
  unfold thenR szI; split
  · rename_i h; simp; omega
  · simp
theorem ProgQuote_I (v0 : Value) (x0 : List Int) (w : World) (h0 : RdI w v0 x0) (_ : x0.length ≤ 1048576) (y0 : List Int) (y1 : Bool) (hR : quoteR x0 = (y0, y1)) :
    Calls Try.prog 42 #[v0] w fun e w' => ∃ u, e = .returned (.tuple #[u, .bool y1]) ∧ OwnI w' w.heap.size w'.heap.size u y0 ∧ Below w.heap.size w w' := by
  obtain ⟨A, c, rfl, hi0, _⟩ := h0
  refine (ProgQuote_any A c x0 w hi0).mono ?_
  rw [hR]
  rintro e w' ⟨u, rfl, ho, hb⟩
  exact ⟨u, rfl, ho.within, hb⟩
theorem quoteR_len (p : List Int) : szI (quoteR p).1 ≤ 1000000 := by
  unfold quoteR szI; split
  · rename_i h; simp; omega
  · simp
end Go.Proofs.Ytconlhhnolodbaa
