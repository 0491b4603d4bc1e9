/- Chapter 9: a map from integers to rows, as a function from integers to values. -/
import Derived.Test.YtaehaalaeikloaaYk
import Derived.Test.YtaehaalaeikloaaDr
namespace Go.Proofs.Ytaehaalaeikloaa
set_option maxRecDepth 100000
open Go.RowKit Go.WideShapes Go.Maps

def heldV (v : Value) : Option (DataW Value × List MemPlace) := some (.held v, [])
def MapAt (w : World) (b N : Nat) (f : Int → Value) : Prop :=
  ∃ D : DataW Value, w.ownsMap Try.prog 3 heldV b N D ∧ IsMap D ∧ ∀ z, InK .i64 z → D.atKey (.int .i64 z) (.held (.slice none 0 0)) = .held (f z)
theorem mapKeyed : Keyed Try.prog 3 := int_keyed Try.underlying3
theorem mapKey_int {z : Int} (h : InK .i64 z) : keyOf Try.prog 3 (.int .i64 z) = some (.int .i64 z) := keyOf_int_mk Try.underlying3 h
theorem MapAt.made (w : World) : MapAt (w.alloc (.map #[] 0)) w.heap.size 0 (fun _ => .slice none 0 0) :=
  ⟨_, World.ownsMap_made w _ _ _, isMap_empty, fun _ _ => rfl⟩
theorem MapAt.mono {w : World} {b N N' : Nat} {f : Int → Value} (h : MapAt w b N f) (hN : N ≤ N') : MapAt w b N' f := by
  obtain ⟨D, h1, h2⟩ := h; exact ⟨D, h1.mono hN, h2⟩
theorem MapAt.lt {w : World} {b N : Nat} {f : Int → Value} (h : MapAt w b N f) : b < w.heap.size := by
  obtain ⟨D, h1, _⟩ := h; exact h1.lt
theorem MapAt.block {w : World} {b N : Nat} {f : Int → Value} (h : MapAt w b N f) : ∃ es c, w.heap[b]? = some (.map es c) := by
  obtain ⟨D, ⟨es, c, hb, _⟩, _⟩ := h; exact ⟨es, c, hb⟩
theorem MapAt.below {w w' : World} {b N : Nat} {f : Int → Value} (h : MapAt w b N f) (hb : Below w.heap.size w w') : MapAt w' b N f := by
  obtain ⟨D, h1, h2⟩ := h
  exact ⟨D, h1.kept (row := none) (only_of_below hb none) (by simp), h2⟩
theorem MapAt.look {w : World} {b N : Nat} {f : Int → Value} (h : MapAt w b N f) {z : Int} (hz : InK .i64 z) : (Instr.lookup 144 (.map (some b)) (.int .i64 z) false).run Try.prog w = .ok (f z) w := by
  obtain ⟨D, h1, _, h3⟩ := h
  obtain ⟨v, ps, hrun, hv⟩ := h1.lookup (t := 144) (e := 23) mapKeyed Try.underlying144 (z := .slice none 0 0) (by rfl) (zd := .held (.slice none 0 0)) (zp := []) rfl (mapKey_int hz)
  rw [h3 z hz] at hv
  have : v = f z := by
    simp only [heldV, Option.some.injEq, Prod.mk.injEq, DataW.held.injEq] at hv
    exact hv.1
  rw [← this]; exact hrun
theorem MapAt.put {w : World} {b N : Nat} {f : Int → Value} (h : MapAt w b N f) (hN : N < 1000) {z : Int} (hz : InK .i64 z) (v : Value) :
    ∃ w', (Instr.mapUpdate 144 (.map (some b)) (.int .i64 z) v).run Try.prog w = .ok () w' ∧ MapAt w' b (N + 1) (fun y => if y = z then v else f y) ∧ w.grownBy w' (some b) := by
  obtain ⟨D, h1, h2, h3⟩ := h
  obtain ⟨w', hrun, h4, h5⟩ := h1.update (t := 144) (e := 23) mapKeyed Try.underlying144 (by unfold maxLen; omega) (val := v) (d := .held v) (ps := []) (mapKey_int hz) rfl
  refine ⟨w', hrun, ⟨_, h4, h2.put _ _, fun y hy => ?_⟩, h5⟩
  dsimp only
  by_cases e : y = z
  · subst e
    rw [if_pos rfl]
    exact atKey_put_same h2 (mapKeyed.key (mapKey_int hz)) _ _
  · rw [if_neg e, atKey_put_other (by simpa using e)]
    exact h3 y hy
theorem MapAt.del {w : World} {b N : Nat} {f : Int → Value} (h : MapAt w b N f) {z : Int} (hz : InK .i64 z) (ty : TypeId) :
    ∃ w', (Builtin.delete_ #[144, 3] ty #[.map (some b), .int .i64 z]).run Try.prog w = .ok (.tuple #[]) w' ∧ MapAt w' b N (fun y => if y = z then .slice none 0 0 else f y) ∧ w.grownBy w' (some b) := by
  obtain ⟨D, h1, h2, h3⟩ := h
  obtain ⟨w', hrun, h4, h5⟩ := h1.drop (t := 144) (e := 23) mapKeyed Try.underlying144 (mapKey_int hz) ty
  refine ⟨w', hrun, ⟨_, h4, h2.del _, fun y hy => ?_⟩, h5.grown⟩
  dsimp only
  by_cases e : y = z
  · subst e
    rw [if_pos rfl]
    exact atKey_del_same _
  · rw [if_neg e, atKey_del_other (by simpa using e)]
    exact h3 y hy
theorem RdI.off_map {w w' : World} {b N : Nat} {f : Int → Value} {v : Value} {zs : List Int} (h : RdI w v zs) (hm : MapAt w b N f) (hg : w.grownBy w' (some b)) : RdI w' v zs := by
  refine h.grown hg ?_
  obtain ⟨es, c, hb⟩ := hm.block
  rcases Nat.eq_zero_or_pos zs.length with h0 | h0
  · exact .inl (List.eq_nil_of_length_eq_zero h0)
  · right; right
    obtain ⟨A, cc, rfl, hi, _⟩ := h
    obtain ⟨g, off, rfl, hgl, hcc⟩ := hi.at_ h0
    intro e
    cases e
    have := hcc 0 h0
    simp only [World.cell?, hb] at this
    cases this
theorem OwnI.off_map {w w' : World} {b N lo hi : Nat} {f : Int → Value} {v : Value} {zs : List Int} (h : OwnI w lo hi v zs) (hm : MapAt w b N f) (hg : w.grownBy w' (some b)) : OwnI w' lo hi v zs := by
  refine ⟨h.own.only hg ?_, h.lt⟩
  obtain ⟨es, c, hb⟩ := hm.block
  rcases h.own.own.2 with ⟨rfl, _⟩ | ⟨g, cap, cur, rfl, _, hh, _⟩
  · exact .inl rfl
  · right
    intro e
    cases e
    rw [hb] at hh
    cases hh
theorem below_map {B : Nat} {a w w' : World} {b : Nat} (h : Below B a w) (hg : w.grownBy w' (some b)) (hB : B ≤ w.heap.size) (hb : B ≤ b) : Below B a w' :=
  h.grown hg hB (by intro k hk; cases hk; exact hb)
theorem wpList_look_at {w : World} {ops : Array Oper} {rest : List Oper} {o : Oper} {a : Act} {Q : Exit → Act → World → Prop} (hg : o.guard = none) (m x : Operand) (hop : o.op = Op.lookup 144 m x false)
    (b N : Nat) (f : Int → Value) (z : Int) (hm : a.eval m = .map (some b)) (hx : a.eval x = .int .i64 z) (hz : InK .i64 z) (hown : MapAt w b N f)
    (hK : wpList Try.prog ops Q rest (a.put o.dst (f z)) w) : wpList Try.prog ops Q (o :: rest) a w := by
  refine wpList_plain hg fun K' hK' => ?_
  have hrun := hown.look hz
  unfold Oper.wp
  simp [execOp, hop, hm, hx, hrun, Result.andThen]
  exact hK' _ _ hK
theorem wpList_put_at {w : World} {ops : Array Oper} {rest : List Oper} {o : Oper} {a : Act} {Q : Exit → Act → World → Prop} (hg : o.guard = none) (m x v : Operand) (hop : o.op = Op.mapUpdate 144 m x v ∨ o.op = Op.insert 144 m x v)
    (b N : Nat) (f : Int → Value) (z : Int) (u : Value) (hm : a.eval m = .map (some b)) (hx : a.eval x = .int .i64 z) (hv : a.eval v = u) (hz : InK .i64 z) (hown : MapAt w b N f) (hN : N < 1000)
    (hK : ∀ w', MapAt w' b (N + 1) (fun y => if y = z then u else f y) → w.grownBy w' (some b) → wpList Try.prog ops Q rest (a.put o.dst undef) w') : wpList Try.prog ops Q (o :: rest) a w := by
  refine wpList_plain hg fun K' hK' => ?_
  obtain ⟨w', hrun, r1, r2⟩ := hown.put hN hz u
  unfold Oper.wp
  rcases hop with hop | hop
  · simp [execOp, hop, hm, hx, hv, hrun, Result.andThen]
    exact hK' _ _ (hK w' r1 r2)
  · simp [execOp, hop, hm, hx, hv, hrun, Result.andThen]
    exact hK' _ _ (hK w' r1 r2)
theorem wpList_del_at {w : World} {ops : Array Oper} {rest : List Oper} {o : Oper} {a : Act} {Q : Exit → Act → World → Prop} (hg : o.guard = none) (m x : Operand) (hop : o.op = Op.call { callee := Callee.builtin Builtin.delete, args := #[m, x], argTypes := #[144, 3] })
    (b N : Nat) (f : Int → Value) (z : Int) (hm : a.eval m = .map (some b)) (hx : a.eval x = .int .i64 z) (hz : InK .i64 z) (hown : MapAt w b N f)
    (hK : ∀ w', MapAt w' b N (fun y => if y = z then .slice none 0 0 else f y) → w.grownBy w' (some b) → wpList Try.prog ops Q rest (a.put o.dst (.tuple #[])) w') : wpList Try.prog ops Q (o :: rest) a w := by
  refine wpList_plain hg fun K' hK' => ?_
  obtain ⟨w', hrun, r1, r2⟩ := hown.del hz o.type
  unfold Oper.wp
  simp [execOp, hop, resolve, invoke, builtin, hm, hx, hrun, Result.andThen]
  exact hK' _ _ (hK w' r1 r2)
end Go.Proofs.Ytaehaalaeikloaa
