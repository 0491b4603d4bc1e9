/- What the laws draw: numbers, parts of programs, words, programs. Only that something comes, in memory of its own, not too long. -/
import Derived.Test.YthnpcgmidnkffaaG
import Derived.Test.YthnpcgmidnkffaaT
namespace Go.Proofs.Ythnpcgmidnkffaa
set_option maxRecDepth 100000
open Go.RowKit Go.WideShapes

theorem lits_own (w : World) (zs : List Int) (hn : zs.length ≤ 1000) (hw : ∀ z ∈ zs, InK .i64 z) : OwnI (w.alloc (.cells (zs.map (Value.int .i64)).toArray 3)) w.heap.size (w.heap.size + 1) (.slice (some ⟨w.heap.size, 0, none⟩) zs.length zs.length) zs :=
  ⟨⟨lit_own w zs hn, hw⟩, fun g hg => by simp [Value.ownBlock] at hg; omega⟩
theorem wf_near (z : Int) (h : -1000000 ≤ z ∧ z ≤ 1000000) : InK .i64 z := WalkArith.wf_i64 (by omega)

/-- append(s, x...) in the words of OwnI and RdI. -/
theorem wp_append_V {P : Program} {w : World} {o : Oper} {a : Act} {K : Act → World → Prop} {Q : Exit → Act → World → Prop} (s x : Operand) (t : TypeId)
    (ho : o.op = .call { callee := .builtin .append, args := #[s, x], argTypes := #[t, t] })
    (ht : P.underlying t = some (.slice 3)) (hinfo : (P.info? 3).map (fun i => (i.zero, i.size, i.bytes)) = some (some (.int .i64 0), 1, 8))
    (lo hi : Nat) (v : Value) (zs : List Int) (hs : a.eval s = v) (hown : OwnI w lo hi v zs) (hlo : lo ≤ w.heap.size)
    (u : Value) (ys : List Int) (hx : a.eval x = u) (hr : RdI w u ys) (hlen : zs.length + ys.length ≤ 1000000000)
    (h : ∀ v' w', OwnI w' lo w'.heap.size v' (zs ++ ys) → Below lo w w' → K (a.put o.dst v') w') : o.wp P a w K Q := by
  obtain ⟨A, c, rfl, hi', _⟩ := hr
  refine wp_append_ints s x t ho lo 3 .i64 8 ht hinfo (Nat.le_refl _) v zs hs hown.own.own w.heap.size A ys c hx hi' hlen hlo ?_
  intro v' w' h1 h2 _
  refine h v' w' (Own.within ⟨h1, fun z hz => ?_⟩) (below_of_only h2 hlo (fun k hk => (hown.own.ge k hk).1))
  rcases List.mem_append.1 hz with h | h
  · exact hown.own.wf z h
  · exact hi'.wf z h
theorem wpList_append_V {P : Program} {w : World} {ops : Array Oper} {rest : List Oper} {o : Oper} {a : Act} {Q : Exit → Act → World → Prop} (hgd : o.guard = none) (s x : Operand) (t : TypeId)
    (ho : o.op = .call { callee := .builtin .append, args := #[s, x], argTypes := #[t, t] })
    (ht : P.underlying t = some (.slice 3)) (hinfo : (P.info? 3).map (fun i => (i.zero, i.size, i.bytes)) = some (some (.int .i64 0), 1, 8))
    (lo hi : Nat) (v : Value) (zs : List Int) (hs : a.eval s = v) (hown : OwnI w lo hi v zs) (hlo : lo ≤ w.heap.size)
    (u : Value) (ys : List Int) (hx : a.eval x = u) (hr : RdI w u ys) (hlen : zs.length + ys.length ≤ 1000000000)
    (h : ∀ v' w', OwnI w' lo w'.heap.size v' (zs ++ ys) → Below lo w w' → wpList P ops Q rest (a.put o.dst v') w') : wpList P ops Q (o :: rest) a w :=
  wpList_plain hgd fun _ hK => wp_append_V s x t ho ht hinfo lo hi v zs hs hown hlo u ys hx hr hlen fun v' w' h1 h2 => hK _ _ (h v' w' h1 h2)
/-- The same where the append is guarded, and is done. -/
theorem wpList_append_G {P : Program} {w : World} {ops : Array Oper} {rest : List Oper} {o : Oper} {a : Act} {Q : Exit → Act → World → Prop} (hwant : Region.wanted o (yielded ops a.tmps) = true) (s x : Operand) (t : TypeId)
    (ho : o.op = .call { callee := .builtin .append, args := #[s, x], argTypes := #[t, t] })
    (ht : P.underlying t = some (.slice 3)) (hinfo : (P.info? 3).map (fun i => (i.zero, i.size, i.bytes)) = some (some (.int .i64 0), 1, 8))
    (lo hi : Nat) (v : Value) (zs : List Int) (hs : a.eval s = v) (hown : OwnI w lo hi v zs) (hlo : lo ≤ w.heap.size)
    (u : Value) (ys : List Int) (hx : a.eval x = u) (hr : RdI w u ys) (hlen : zs.length + ys.length ≤ 1000000000)
    (h : ∀ v' w', OwnI w' lo w'.heap.size v' (zs ++ ys) → Below lo w w' → wpList P ops Q rest (a.put o.dst v') w') : wpList P ops Q (o :: rest) a w :=
  wpList_step fun _ hK => by
    rw [if_pos hwant]
    exact wp_append_V s x t ho ht hinfo lo hi v zs hs hown hlo u ys hx hr hlen fun v' w' h1 h2 => hK _ _ (h v' w' h1 h2)

/-- What a part gives back. -/
def PartPost (w0 : World) (g p : Nat) (bs : List Int) (w : World) (L C : Nat) (e : Ending) (w' : World) : Prop :=
  ∃ v zs p', e = .returned v ∧ OwnI w' w.heap.size w'.heap.size v zs ∧ zs.length ≤ L ∧ RS w0 w' g bs p' ∧ p' ≤ p + C ∧ Within g (g + 1) w w'
theorem part_lit (w0 w w1 : World) (g p p1 L C : Nat) (bs zs : List Int) (hr : RS w0 w1 g bs p1) (hg : Within g (g + 1) w w1) (h0 : w0.heap.size ≤ w.heap.size) (hz : ∀ z ∈ zs, -1000000 ≤ z ∧ z ≤ 1000000) (hl : zs.length ≤ L ∧ L ≤ 1000) (hp : p1 ≤ p + C) :
    PartPost w0 g p bs w L C (.returned (.slice (some ⟨w1.heap.size, 0, none⟩) zs.length zs.length)) (w1.alloc (.cells (zs.map (Value.int .i64)).toArray 3)) := by
  have hb : Below w1.heap.size w1 (w1.alloc (.cells (zs.map (Value.int .i64)).toArray 3)) := (Below.refl _ _).alloc (Nat.le_refl _) _
  have ho := lits_own w1 zs (by omega) (fun z h => wf_near z (hz z h))
  have hs := hg.size
  refine ⟨_, zs, p1, rfl, ⟨ho.own.mono hs, fun g hg => by have := ho.lt g hg; simpa using this⟩, hl.1, hr.below hb (by omega), hp, hg.then_below hb hs⟩

end Go.Proofs.Ythnpcgmidnkffaa
