/- What the reader gives of a state of the laws. -/
import Derived.Test.YtkdpfiaegimnlaaB5
namespace Go.Proofs.Ytkdpfiaegimnlaa
set_option maxRecDepth 100000
open Go.RowKit Go.WideShapes Go.Joins

theorem state_of_trod {H : Type} {enc : TypeId × Value → H} {W : World} {v : Value} {d : DataW H} {ps : List MemPlace} {base : Nat}
    (hval : Value.okWide Try.prog W .any base 56 v) (h : DataW.Trod enc Try.prog W 0 (fun _ => true) true 56 v d ps) :
    ∃ A0 c0 r A1 c1 s, v = .agg #[.slice A0 r.length c0, .slice A1 s.length c1] ∧ RdI W (.slice A0 r.length c0) r ∧ RdS W (.slice A1 s.length c1) s := by
  obtain ⟨v0, v1, y0, y1, n, rfl, _, _, h0, h1⟩ := open_agg2 Try.underlying56 (by kernel_rfl) (by kernel_rfl) hval h
  obtain ⟨A0, c0, r, rfl, hr⟩ := ints_of_fuel Try.underlying25 Try.underlying3 cells_int' h0
  obtain ⟨A1, c1, s, rfl, hs⟩ := rows_of_fuel Try.underlying23 Try.underlying25 Try.underlying3 cells_row cells_int' h1
  exact ⟨A0, c0, r, A1, c1, s, rfl, hr, hs⟩
end Go.Proofs.Ytkdpfiaegimnlaa
