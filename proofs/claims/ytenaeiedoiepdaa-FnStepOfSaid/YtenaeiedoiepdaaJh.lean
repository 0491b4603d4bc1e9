/- Appends of one integer to a row of the call's own; rows that are empty. -/
import Derived.Test.YtenaeiedoiepdaaBe
namespace Go.Proofs.Ytenaeiedoiepdaa
set_option maxRecDepth 100000
open Go.RowKit Go.WideShapes

theorem nilLit (w : World) : OwnI (w.alloc (.cells #[] 3)) w.heap.size (w.alloc (.cells #[] 3)).heap.size (.slice (some ⟨w.heap.size, 0, none⟩) 0 0) [] ∧ Below w.heap.size w (w.alloc (.cells #[] 3)) := by
  have h : OwnI (w.alloc (.cells #[] 3)) w.heap.size (w.heap.size + 1) (.slice (some ⟨w.heap.size, 0, none⟩) 0 0) [] := by simpa using lits_own w [] (by simp) (by simp)
  exact ⟨⟨h.own, fun q hq => by have := h.lt q hq; simp; omega⟩, (Below.refl _ _).alloc (Nat.le_refl _) _⟩
theorem nilOut {w w1 : World} (h : Below w.heap.size w w1) : OwnI (w1.alloc (.cells #[] 3)) w.heap.size (w1.alloc (.cells #[] 3)).heap.size (.slice (some ⟨w1.heap.size, 0, none⟩) 0 0) [] ∧ Below w.heap.size w (w1.alloc (.cells #[] 3)) := by
  have hz := h.size
  obtain ⟨h1, h2⟩ := nilLit w1
  exact ⟨⟨h1.own.mono hz, h1.lt⟩, h.trans (h2.mono hz)⟩
theorem nilOwn (w : World) (lo hi : Nat) : OwnI w lo hi (.slice none 0 0) [] := ⟨Own.nil w lo, fun g hg => by simp [Value.ownBlock] at hg⟩

/-- append(s, z): s of the call's own, z in a literal that has just been laid. -/
theorem wpList_append_z {P : Program} {w w0 : World} {ops : Array Oper} {rest : List Oper} {o : Oper} {a : Act} {Q : Exit → Act → World → Prop} (hgd : o.guard = none) (s x : Operand) (t : TypeId)
    (ho : o.op = .call { callee := .builtin .append, args := #[s, x], argTypes := #[t, t] })
    (ht : P.underlying t = some (.slice 3)) (hinfo : (P.info? 3).map (fun i => (i.zero, i.size, i.bytes)) = some (some (.int .i64 0), 1, 8))
    (z : Int) (hw : w = w0.alloc (.cells #[.int .i64 z] 3)) (hz : InK .i64 z)
    (lo hi : Nat) (v : Value) (zs : List Int) (hs : a.eval s = v) (hown : OwnI w0 lo hi v zs) (hlo : lo ≤ w0.heap.size)
    (hx : a.eval x = .slice (some ⟨w0.heap.size, 0, none⟩) 1 1) (hlen : zs.length ≤ 900000000)
    (h : ∀ v' w', OwnI w' lo w'.heap.size v' (zs ++ [z]) → Below lo w0 w' → Within lo hi w0 w' → wpList P ops Q rest (a.put o.dst v') w') : wpList P ops Q (o :: rest) a w := by
  subst hw
  have hl := lits_own w0 [z] (by simp) (by simpa using hz)
  have hb : Below w0.heap.size w0 (w0.alloc (.cells #[.int .i64 z] 3)) := (Below.refl _ _).alloc (Nat.le_refl _) _
  refine wpList_append_W hgd s x t ho ht hinfo lo hi v zs hs (hown.below hb) (by simp; omega) _ [z] hx (by simpa using hl.rd) (by simp; omega) fun v' w' h1 h2 h3 => h v' w' h1 ((hb.mono hlo).trans h2) ((Within.of_below hb).trans h3)
end Go.Proofs.Ytenaeiedoiepdaa
