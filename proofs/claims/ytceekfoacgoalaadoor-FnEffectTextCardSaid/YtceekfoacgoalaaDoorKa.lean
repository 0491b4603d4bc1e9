/- Rows of the call's own of different kinds: apart by their type; appends that tell which block has grown. -/
import Derived.Test.YtceekfoacgoalaaDoorB3
namespace Go.Proofs.YtceekfoacgoalaaDoor
set_option maxRecDepth 100000
open Go.RowKit Go.WideShapes

theorem ownsRow_type {w : World} {lo d n : Nat} {e : TypeId} {v : Value} {xs : List Value} (h : w.ownsRow lo e d v n xs) {g : Nat} (hg : v.ownBlock = some g) : ∃ cs, w.heap[g]? = some (.cells cs e) := by
  rcases h.2 with ⟨rfl, _⟩ | ⟨g', cap, cur, rfl, _, hh, _⟩
  · simp [Value.ownBlock] at hg
  · simp only [Value.ownBlock, Option.some.injEq] at hg
    subst hg
    exact ⟨_, hh⟩
theorem ownsRow_ne8 {w : World} {lo lo' d d' n n' : Nat} {e e' : TypeId} {v v' : Value} {xs xs' : List Value} (h : w.ownsRow lo e d v n xs) (h' : w.ownsRow lo' e' d' v' n' xs') (hne : e ≠ e') : v.ownBlock = none ∨ v.ownBlock ≠ v'.ownBlock := by
  rcases hv : v.ownBlock with _ | g
  · exact .inl rfl
  · right
    intro e2
    obtain ⟨cs, h1⟩ := ownsRow_type h hv
    obtain ⟨cs', h2⟩ := ownsRow_type h' e2.symm
    rw [h1] at h2
    injection h2 with h2
    injection h2 with _ h3
    exact hne h3
/-- append(s, x...): what has grown is told. -/
theorem wpList_append_K {P : Program} {w : World} {ops : Array Oper} {rest : List Oper} {o : Oper} {a : Act} {Q : Exit → Act → World → Prop} (hgd : o.guard = none) (s x : Operand) (t : TypeId)
    (ho : o.op = .call { callee := .builtin .append, args := #[s, x], argTypes := #[t, t] })
    (ht : P.underlying t = some (.slice 3)) (hinfo : (P.info? 3).map (fun i => (i.zero, i.size, i.bytes)) = some (some (.int .i64 0), 1, 8))
    (lo : Nat) (v : Value) (zs : List Int) (hs : a.eval s = v) (hown : Own w lo v zs) (hlo : lo ≤ w.heap.size)
    (u : Value) (ys : List Int) (hx : a.eval x = u) (hr : RdI w u ys) (hlen : zs.length + ys.length ≤ 1000000000)
    (h : ∀ v' w', Own w' lo v' (zs ++ ys) → w.grownBy w' v.ownBlock → (v'.ownBlock = v.ownBlock ∨ v'.ownBlock = some w.heap.size) → wpList P ops Q rest (a.put o.dst v') w') : wpList P ops Q (o :: rest) a w := by
  obtain ⟨A, c, rfl, hi', _⟩ := hr
  refine wpList_plain hgd fun _ hK => wp_append_ints s x t ho lo 3 .i64 8 ht hinfo (Nat.le_refl _) v zs hs hown.own w.heap.size A ys c hx hi' hlen hlo ?_
  intro v' w' h1 h2 h3
  refine hK _ _ (h v' w' ⟨h1, fun z hz => ?_⟩ h2 h3)
  rcases List.mem_append.1 hz with h | h
  · exact hown.wf z h
  · exact hi'.wf z h
theorem wpList_append_Kz {P : Program} {w w0 : World} {ops : Array Oper} {rest : List Oper} {o : Oper} {a : Act} {Q : Exit → Act → World → Prop} (hgd : o.guard = none) (s x : Operand) (t : TypeId)
    (ho : o.op = .call { callee := .builtin .append, args := #[s, x], argTypes := #[t, t] })
    (ht : P.underlying t = some (.slice 3)) (hinfo : (P.info? 3).map (fun i => (i.zero, i.size, i.bytes)) = some (some (.int .i64 0), 1, 8))
    (z : Int) (hw : w = w0.alloc (.cells #[.int .i64 z] 3)) (hz : InK .i64 z)
    (lo : Nat) (v : Value) (zs : List Int) (hs : a.eval s = v) (hown : Own w0 lo v zs) (hlo : lo ≤ w0.heap.size)
    (hx : a.eval x = .slice (some ⟨w0.heap.size, 0, none⟩) 1 1) (hlen : zs.length ≤ 900000000)
    (h : ∀ v' w', Own w' lo v' (zs ++ [z]) → w0.grownBy w' v.ownBlock → wpList P ops Q rest (a.put o.dst v') w') : wpList P ops Q (o :: rest) a w := by
  subst hw
  have hl := lits_own w0 [z] (by simp) (by simpa using hz)
  have hb : Below w0.heap.size w0 (w0.alloc (.cells #[.int .i64 z] 3)) := (Below.refl _ _).alloc (Nat.le_refl _) _
  exact wpList_append_K hgd s x t ho ht hinfo lo v zs hs (hown.below hb) (by simp; omega) _ [z] hx (by simpa using hl.rd) (by simp; omega) fun v' w' h1 h2 _ => h v' w' h1 (World.grownBy.trans (only_of_below hb _) h2)
end Go.Proofs.YtceekfoacgoalaaDoor
