/- Rows of the call's own of different kinds: apart by their type; appends that tell which block has grown. -/
import Derived.Test.YtaehaalaeikloaaOa
import Derived.Test.YtaehaalaeikloaaSa
namespace Go.Proofs.Ytaehaalaeikloaa
set_option maxRecDepth 100000
open Go.RowKit Go.WideShapes Go.Deep

theorem ownsRow_type {w : World} {lo d n : Nat} {e : TypeId} {v : Value} {xs : List Value} (h : w.ownsRow lo e d v n xs) {g : Nat} (hg : v.ownBlock = some g) : ∃ cs, w.heap[g]? = some (.cells cs e) := by
  rcases h.2 with ⟨rfl, _⟩ | ⟨g', cap, cur, rfl, _, hh, _⟩
  · simp [Value.ownBlock] at hg
  · simp only [Value.ownBlock, Option.some.injEq] at hg
    subst hg
    exact ⟨_, hh⟩
theorem ownsRow_blk_ne {w : World} {lo d n : Nat} {e : TypeId} {v : Value} {xs : List Value} (h : w.ownsRow lo e d v n xs) {g : Nat} {cs : Array Value} {T : TypeId} (hb : Blk w g cs T) (hne : T ≠ e) : v.ownBlock ≠ some g := by
  intro hg
  obtain ⟨cs2, h2⟩ := ownsRow_type h hg
  unfold Blk at hb
  rw [hb] at h2
  injection h2 with h2
  injection h2 with _ h3
  exact hne h3
theorem ownsRow_ne8 {w : World} {lo lo' d d' n n' : Nat} {e e' : TypeId} {v v' : Value} {xs xs' : List Value} (h : w.ownsRow lo e d v n xs) (h' : w.ownsRow lo' e' d' v' n' xs') (hne : e ≠ e') : v.ownBlock = none ∨ v.ownBlock ≠ v'.ownBlock := by
  rcases hv : v.ownBlock with _ | g
  · exact .inl rfl
  · right
    intro e2
    obtain ⟨cs, h1⟩ := ownsRow_type h hv
    obtain ⟨cs', h2⟩ := ownsRow_type h' e2.symm
    rw [h1] at h2
    injection h2 with h2
    injection h2 with _ h3
    exact hne h3
/-- append(s, x...): what has grown is told. -/
theorem wpList_append_K {P : Program} {w : World} {ops : Array Oper} {rest : List Oper} {o : Oper} {a : Act} {Q : Exit → Act → World → Prop} (hgd : o.guard = none) (s x : Operand) (t : TypeId)
    (ho : o.op = .call { callee := .builtin .append, args := #[s, x], argTypes := #[t, t] })
    (ht : P.underlying t = some (.slice 3)) (hinfo : (P.info? 3).map (fun i => (i.zero, i.size, i.bytes)) = some (some (.int .i64 0), 1, 8))
    (lo : Nat) (v : Value) (zs : List Int) (hs : a.eval s = v) (hown : Own w lo v zs) (hlo : lo ≤ w.heap.size)
    (u : Value) (ys : List Int) (hx : a.eval x = u) (hr : RdI w u ys) (hlen : zs.length + ys.length ≤ 1000000000)
    (h : ∀ v' w', Own w' lo v' (zs ++ ys) → w.grownBy w' v.ownBlock → (v'.ownBlock = v.ownBlock ∨ v'.ownBlock = some w.heap.size) → wpList P ops Q rest (a.put o.dst v') w') : wpList P ops Q (o :: rest) a w := by
  obtain ⟨A, c, rfl, hi', _⟩ := hr
  refine wpList_plain hgd fun _ hK => wp_append_ints s x t ho lo 3 .i64 8 ht hinfo (Nat.le_refl _) v zs hs hown.own w.heap.size A ys c hx hi' hlen hlo ?_
  intro v' w' h1 h2 h3
  refine hK _ _ (h v' w' ⟨h1, fun z hz => ?_⟩ h2 h3)
  rcases List.mem_append.1 hz with h | h
  · exact hown.wf z h
  · exact hi'.wf z h
/-- The registers while they are made: the list behind its variable, and the row. -/
structure RgS (w : World) (lo g : Nat) (T : Int) (ul v : Value) (ms : List (Int × Int × Int)) (row : List Int) : Prop where
  blk : Blk w g #[.int .i64 T, ul, .slice none 0 0] 43
  lst : w.ownsRow lo 102 3 ul ms.length ((flat3 ms).map (Value.int .i64))
  row : Own w lo v row
theorem RgS.step {w w' : World} {lo g : Nat} {T : Int} {ul v : Value} {ms : List (Int × Int × Int)} {row : List Int} (h : RgS w lo g T ul v ms row) (hb : Below w.heap.size w w') : RgS w' lo g T ul v ms row :=
  ⟨h.blk.below hb h.blk.lt, ((show Own3 102 w lo w.heap.size ul ms from ⟨h.lst, fun g hg => (h.lst.lt g hg).2⟩).below hb).own, h.row.below hb⟩
theorem wpList_append_Kz {P : Program} {w w0 : World} {ops : Array Oper} {rest : List Oper} {o : Oper} {a : Act} {Q : Exit → Act → World → Prop} (hgd : o.guard = none) (s x : Operand) (t : TypeId)
    (ho : o.op = .call { callee := .builtin .append, args := #[s, x], argTypes := #[t, t] })
    (ht : P.underlying t = some (.slice 3)) (hinfo : (P.info? 3).map (fun i => (i.zero, i.size, i.bytes)) = some (some (.int .i64 0), 1, 8))
    (z : Int) (hw : w = w0.alloc (.cells #[.int .i64 z] 3)) (hz : InK .i64 z)
    (lo : Nat) (v : Value) (zs : List Int) (hs : a.eval s = v) (hown : Own w0 lo v zs) (hlo : lo ≤ w0.heap.size)
    (hx : a.eval x = .slice (some ⟨w0.heap.size, 0, none⟩) 1 1) (hlen : zs.length ≤ 900000000)
    (h : ∀ v' w', Own w' lo v' (zs ++ [z]) → w0.grownBy w' v.ownBlock → wpList P ops Q rest (a.put o.dst v') w') : wpList P ops Q (o :: rest) a w := by
  subst hw
  have hl := lits_own w0 [z] (by simp) (by simpa using hz)
  have hb : Below w0.heap.size w0 (w0.alloc (.cells #[.int .i64 z] 3)) := (Below.refl _ _).alloc (Nat.le_refl _) _
  exact wpList_append_K hgd s x t ho ht hinfo lo v zs hs (hown.below hb) (by simp; omega) _ [z] hx (by simpa using hl.rd) (by simp; omega) fun v' w' h1 h2 _ => h v' w' h1 (World.grownBy.trans (only_of_below hb _) h2)
theorem RgS.grown {w w' : World} {lo g : Nat} {T : Int} {ul v v' : Value} {ms : List (Int × Int × Int)} {row row' : List Int} (h : RgS w lo g T ul v ms row) (hr : Own w' lo v' row') (hg : w.grownBy w' v.ownBlock) : RgS w' lo g T ul v' ms row' := by
  refine ⟨(hg.block g h.blk.lt fun e => ownsRow_blk_ne h.row.own h.blk (by decide) e.symm).trans h.blk, ?_, hr⟩
  refine h.lst.kept hg ?_
  rcases ownsRow_ne8 h.lst h.row.own (by decide) with h1 | h1
  · exact .inl h1
  · exact .inr h1
theorem RgS.below {w w' : World} {lo g : Nat} {T : Int} {ul v : Value} {ms : List (Int × Int × Int)} {row : List Int} (h : RgS w lo g T ul v ms row) (hlo : lo ≤ w.heap.size) (hg : w.grownBy w' v.ownBlock) : Below lo w w' :=
  below_of_only hg hlo fun k hk => (h.row.ge k hk).1
end Go.Proofs.Ytaehaalaeikloaa
