/- The draw of a state that may have a bad value on top: DrawStateOk. -/
import Derived.Test.YtenaeiedoiepdaaDt
namespace Go.Proofs.Ytenaeiedoiepdaa
set_option maxRecDepth 100000
open Go.RowKit Go.WideShapes

def DrawnSt (w : World) (e : Ending) (w' : World) : Prop := ∃ A c zs B d zss, e = .returned (.agg #[.slice A zs.length c, .slice B zss.length d]) ∧ RdI w' (.slice A zs.length c) zs ∧ zs.length ≤ 62 ∧ RdS w' (.slice B zss.length d) zss ∧ zss.length ≤ 27 ∧ Below w.heap.size w w'
theorem st_end {w W : World} {A : Option Addr} {c : Nat} {zs : List Int} {B : Option Addr} {d : Nat} {zss : List (List Int)} {lo hi l2 : Nat} (hb : Below w.heap.size w W) (h1 : OwnI W lo hi (.slice A zs.length c) zs) (hl : zs.length ≤ 62) (h2 : OwnR W l2 W.heap.size (.slice B zss.length d) zss) (hul : zss.length ≤ 27) (hlo : w.heap.size + 1 ≤ lo) (hl2 : w.heap.size + 1 ≤ l2) :
    DrawnSt w (.returned (.agg #[.slice A zs.length c, .slice B zss.length d])) ((W.setCell ⟨w.heap.size, 0, none⟩ (.slice A zs.length c)).setCell ⟨w.heap.size, 1, none⟩ (.slice B zss.length d)) := by
  have hbs : Below w.heap.size W ((W.setCell ⟨w.heap.size, 0, none⟩ (.slice A zs.length c)).setCell ⟨w.heap.size, 1, none⟩ (.slice B zss.length d)) := ((Below.refl w.heap.size _).setCell (Nat.le_refl w.heap.size) _).setCell (Nat.le_refl w.heap.size) _
  have hw1 := within_setCell W w.heap.size 0 (.slice A zs.length c)
  have hw2 := within_setCell (W.setCell ⟨w.heap.size, 0, none⟩ (.slice A zs.length c)) w.heap.size 1 (.slice B zss.length d)
  exact ⟨A, c, zs, B, d, zss, rfl, ((h1.apart hw1 (.inr (by omega))).apart hw2 (.inr (by omega))).rd, hl, (((h2.within hw1 (by omega)).within hw2 (by omega)).rdG (by omega)).rd, hul, hb.trans hbs⟩
theorem RdI.off_blk {w w' : World} {u : Value} {zs : List Int} (h : RdI w u zs) {b : Nat} {x0 x1 : Option Addr} {n0 c0 n1 c1 : Nat} {T : TypeId} (hk : Blk w b #[.slice x0 n0 c0, .slice x1 n1 c1] T) (hw : Within b (b + 1) w w') : RdI w' u zs := by
  refine h.kept hw.size ?_
  obtain ⟨A, c, rfl, hi, hc⟩ := h
  by_cases h0 : 0 < zs.length
  · obtain ⟨q, off, rfl, hq, hcc⟩ := hi.at_ h0
    have h1 := hcc 0 h0
    have hne : q ≠ b := by
      rintro rfl
      rw [hk.cell] at h1
      rcases off with _ | _ | off <;> simp at h1
    exact .inr ⟨q, rfl, hw.block q hq (by omega)⟩
  · exact .inl (List.eq_nil_of_length_eq_zero (by omega))
theorem ownsRow_off {w w' : World} {lo n : Nat} {v : Value} {vs : List Value} {U : TypeId} (h : w.ownsRow lo U 1 v n vs) {b : Nat} {cs : Array Value} {T : TypeId} (hk : Blk w b cs T) (hT : T ≠ U) (hw : Within b (b + 1) w w') : w'.ownsRow lo U 1 v n vs := by
  refine ⟨h.1, ?_⟩
  rcases h.2 with h0 | ⟨g, cap, cur, rfl, hb, hh, h5⟩
  · exact .inl h0
  · have hne : g ≠ b := by
      rintro rfl
      rw [show w.heap[g]? = some (.cells cs T (0, 0)) from hk] at hh
      simp only [Option.some.injEq, Obj.cells.injEq] at hh
      exact hT hh.2.1
    exact .inr ⟨g, cap, cur, rfl, hb, (hw.block g (h.lt g rfl).2 (by omega)).trans hh, h5⟩
theorem OwnR.off_blk {w w' : World} {lo hi : Nat} {v : Value} {zss : List (List Int)} (h : OwnR w lo hi v zss) {b : Nat} {x0 x1 : Option Addr} {n0 c0 n1 c1 : Nat} {T : TypeId} (hk : Blk w b #[.slice x0 n0 c0, .slice x1 n1 c1] T) (hT : T ≠ 23) (hw : Within b (b + 1) w w') : OwnR w' lo hi v zss := by
  obtain ⟨vs, h1, h2, h3, h4⟩ := h
  exact ⟨vs, h1, ownsRow_off h2 hk hT hw, h3, fun j q zs hq hz => ⟨⟨(h4 j q zs hq hz).1.1.off_blk hk hw, (h4 j q zs hq hz).1.2⟩, (h4 j q zs hq hz).2⟩⟩
end Go.Proofs.Ytenaeiedoiepdaa
