/- Appends onto a row of the call's own, from whatever slice of one-cell elements; literals of slices. -/
import Derived.Test.YtgiemajjmdjfkaaDoorW
import Derived.Laws.AppendOwnNone
namespace Go.Proofs.YtgiemajjmdjfkaaDoor
set_option maxRecDepth 100000
open Go.RowKit Go.WideShapes

section
variable {P : Program}

theorem run_append_none (w : World) (base : Nat) (t ty e : TypeId) (i : TypeInfo) (size : Nat) (ht : P.underlying t = some (.slice e)) (hi : P.info? e = some i)
    (v : Value) (n : Nat) (xs : List Value) (hown : w.ownsRow base e size v n xs) (c : Nat) : (Builtin.append_ #[t, t] ty #[v, .slice none 0 c]).run P w = .ok v w := by
  rcases hown.2 with ⟨rfl, rfl⟩ | ⟨g, cap, cur, rfl, _, _, hnc, _⟩ <;>
    simp [Builtin.append_, run_underlying ht, sizeOf, typeInfo, Builtin.lenOf, Builtin.firstCells, storeCells, *]

/-- append(s, x...) where s is of the call's own and x reads as integers: nil, empty or not. -/
theorem wp_append_ints {w : World} {o : Oper} {a : Act} {K : Act → World → Prop} {Q : Exit → Act → World → Prop} (s x : Operand) (t : TypeId)
    (ho : o.op = .call { callee := .builtin .append, args := #[s, x], argTypes := #[t, t] })
    (base : Nat) (e : TypeId) (k : IntKind) (by_ : Nat) (ht : P.underlying t = some (.slice e)) (hinfo : (P.info? e).map (fun i => (i.zero, i.size, i.bytes)) = some (some (.int k 0), 1, by_)) (hby : by_ ≤ 8)
    (v : Value) (zs : List Int) (hs : a.eval s = v) (hown : w.ownsRow base e 1 v zs.length (zs.map (Value.int k)))
    (B : Nat) (A : Option Addr) (ys : List Int) (c : Nat) (hx : a.eval x = .slice A ys.length c) (hr : IntsK k w B A ys) (hlen : zs.length + ys.length ≤ 1000000000) (hbase : base ≤ w.heap.size)
    (h : ∀ v' w', w'.ownsRow base e 1 v' (zs ++ ys).length ((zs ++ ys).map (Value.int k)) → w.grownBy w' v.ownBlock → (v'.ownBlock = v.ownBlock ∨ v'.ownBlock = some w.heap.size) → K (a.put o.dst v') w') :
    o.wp P a w K Q := by
  obtain ⟨i0, hi0, hz0, hz1, hz2⟩ := info_parts hinfo
  have hrun : ∃ v' w', (Builtin.append_ #[t, t] o.type #[v, .slice A ys.length c]).run P w = .ok v' w' ∧ w'.ownsRow base e 1 v' (zs ++ ys).length ((zs ++ ys).map (Value.int k)) ∧ w.grownBy w' v.ownBlock ∧
      (v'.ownBlock = v.ownBlock ∨ v'.ownBlock = some w.heap.size) := by
    by_cases hy : ys = []
    · subst hy
      rcases A with _ | ad
      · exact ⟨v, w, run_append_none w base t o.type e i0 1 ht hi0 v _ _ hown c, by simpa using hown, World.grownBy.refl w _, .inl rfl⟩
      · obtain ⟨v', w', hr1, h2, h3, _, h5⟩ := run_append_own_at (P := P) w base t o.type e i0 (.int k 0) 1 by_ ht hi0 hz0 hz1 hz2 rfl (by omega) v _ _ hown ad 0 c [] (by simp) (by simp) (by simp) (by simp [maxLen]; simp at hlen; omega) (by simp at hlen; have := Nat.mul_le_mul hlen hby; simp; omega) hbase
        exact ⟨v', w', hr1, by simpa using h2, h3, h5⟩
    · have h0 : 0 < ys.length := List.length_pos_iff.2 hy
      obtain ⟨b, off, rfl, hb, hc⟩ := hr.at_ h0
      obtain ⟨v', w', hr1, h2, h3, _, h5⟩ := run_append_own_at (P := P) w base t o.type e i0 (.int k 0) 1 by_ ht hi0 hz0 hz1 hz2 rfl (by omega) v _ _ hown ⟨b, off, none⟩ ys.length c (ys.map (Value.int k)) (by simp) (by
          intro j u hu
          rw [List.getElem?_map] at hu
          rw [add_plain]
          rcases hj : ys[j]? with _ | y
          · rw [hj] at hu; simp at hu
          · rw [hj] at hu
            have hlt : j < ys.length := by
              rcases Nat.lt_or_ge j ys.length with h | h
              · exact h
              · rw [List.getElem?_eq_none h] at hj; simp at hj
            rw [hc j hlt, ← hu]
            simp [List.getD, hj]) (ints_oneCell k ys) (by simp only [maxLen]; omega) (by have := Nat.mul_le_mul hlen hby; omega) hbase
      exact ⟨v', w', hr1, by simpa using h2, h3, h5⟩
  obtain ⟨v', w', hr1, h2, h3, h4⟩ := hrun
  unfold Oper.wp execOp
  simp only [ho, resolve, invoke, builtin, Sem.run_bind, Sem.run_pure, Result.andThen_ok, List.map_toArray, List.map_cons, List.map_nil, hs, hx, hr1]
  exact h v' w' h2 h3 h4

theorem wpList_append_ints {w : World} {ops : Array Oper} {rest : List Oper} {o : Oper} {a : Act} {Q : Exit → Act → World → Prop} (hgd : o.guard = none) (s x : Operand) (t : TypeId)
    (ho : o.op = .call { callee := .builtin .append, args := #[s, x], argTypes := #[t, t] })
    (base : Nat) (e : TypeId) (k : IntKind) (by_ : Nat) (ht : P.underlying t = some (.slice e)) (hinfo : (P.info? e).map (fun i => (i.zero, i.size, i.bytes)) = some (some (.int k 0), 1, by_)) (hby : by_ ≤ 8)
    (v : Value) (zs : List Int) (hs : a.eval s = v) (hown : w.ownsRow base e 1 v zs.length (zs.map (Value.int k)))
    (B : Nat) (A : Option Addr) (ys : List Int) (c : Nat) (hx : a.eval x = .slice A ys.length c) (hr : IntsK k w B A ys) (hlen : zs.length + ys.length ≤ 1000000000) (hbase : base ≤ w.heap.size)
    (h : ∀ v' w', w'.ownsRow base e 1 v' (zs ++ ys).length ((zs ++ ys).map (Value.int k)) → w.grownBy w' v.ownBlock → (v'.ownBlock = v.ownBlock ∨ v'.ownBlock = some w.heap.size) → wpList P ops Q rest (a.put o.dst v') w') :
    wpList P ops Q (o :: rest) a w :=
  wpList_plain hgd fun _ hK => wp_append_ints s x t ho base e k by_ ht hinfo hby v zs hs hown B A ys c hx hr hlen hbase fun v' w' h1 h2 h3 => hK _ _ (h v' w' h1 h2 h3)

/-- append(s, x): s of the call's own, x in a block of one cell. -/
theorem wpList_append_one {w : World} {ops : Array Oper} {rest : List Oper} {o : Oper} {a : Act} {Q : Exit → Act → World → Prop} (hgd : o.guard = none) (s x : Operand) (t : TypeId)
    (ho : o.op = .call { callee := .builtin .append, args := #[s, x], argTypes := #[t, t] })
    (base : Nat) (e : TypeId) (z : Value) (by_ : Nat) (ht : P.underlying t = some (.slice e)) (hinfo : (P.info? e).map (fun i => (i.zero, i.size, i.bytes)) = some (some z, 1, by_)) (hby : by_ ≤ 64) (hz : z.cells.size = 1)
    (v : Value) (n : Nat) (vs : List Value) (hs : a.eval s = v) (hown : w.ownsRow base e 1 v n vs)
    (g c : Nat) (u : Value) (hx : a.eval x = .slice (some ⟨g, 0, none⟩) 1 c) (hcell : w.cell? ⟨g, 0, none⟩ = some u) (hu : u.oneCell' = true) (hlen : n ≤ 1000000000) (hbase : base ≤ w.heap.size)
    (h : ∀ v' w', w'.ownsRow base e 1 v' (n + 1) (vs ++ [u]) → w.grownBy w' v.ownBlock → (v'.ownBlock = v.ownBlock ∨ v'.ownBlock = some w.heap.size) → wpList P ops Q rest (a.put o.dst v') w') :
    wpList P ops Q (o :: rest) a w := by
  obtain ⟨i0, hi0, hz0, hz1, hz2⟩ := info_parts hinfo
  obtain ⟨v', w', hr1, h2, h3, _, h5⟩ := run_append_own_at (P := P) w base t o.type e i0 z 1 by_ ht hi0 hz0 hz1 hz2 hz (by omega) v n vs hown ⟨g, 0, none⟩ 1 c [u] (by simp) (by
      intro j q hq
      rcases j with _ | j
      · simp at hq; subst hq; rw [add_plain]; exact hcell
      · simp at hq) (by simpa using hu) (by simp only [maxLen]; omega) (by
      have : (n + 1) * by_ ≤ (n + 1) * 64 := Nat.mul_le_mul_left _ hby
      omega) hbase
  refine wpList_plain hgd fun K hK => ?_
  unfold Oper.wp execOp
  simp only [ho, resolve, invoke, builtin, Sem.run_bind, Sem.run_pure, Result.andThen_ok, List.map_toArray, List.map_cons, List.map_nil, hs, hx, hr1]
  exact hK _ _ (h v' w' h2 h3 h5)
end
end Go.Proofs.YtgiemajjmdjfkaaDoor
