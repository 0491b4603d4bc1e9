/- What the reader gives of a slice of moves. -/
import Derived.Test.YtgbpbcghblmiaaaDoorB9
namespace Go.Proofs.YtgbpbcghblmiaaaDoor
set_option maxRecDepth 100000
open Go.RowKit Go.WideShapes Go.ChangeShapes Go.Deep

theorem moves_of_trod {H : Type} {enc : TypeId × Value → H} {W : World} {v : Value} {d : DataW H} {ps : List MemPlace} {base : Nat}
    (hval : Value.okWide Tryd.prog W .any base 50 v) (h : DataW.Trod enc Tryd.prog W 0 (fun _ => true) true 50 v d ps) : ∃ A c ms, v = .slice A ms.length c ∧ RdM W v ms := by
  obtain ⟨a0, len, cap, rfl⟩ := okWide_slice Tryd.underlying50 hval
  obtain ⟨fuel, hf⟩ := h
  exact pairs_of_fuel Tryd.underlying50 Tryd.underlying76 Tryd.underlying3 Tryd.underlying3 (rfl : 0 = 0) (by kernel_rfl) (by kernel_rfl) (by simpa [Value.cells] using hf)
end Go.Proofs.YtgbpbcghblmiaaaDoor
