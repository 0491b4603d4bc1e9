/- The model's step: a copy laid with append on an empty literal changes nothing of before; a row that is only readable, put on a stack of the call's own. -/
import Derived.Test.YtceekfoacgoalaaSb
namespace Go.Proofs.Ytceekfoacgoalaa
set_option maxRecDepth 100000
open Go.RowKit Go.WideShapes

/-- A part of a row that is read, wherever its slice is told to begin if it is empty. -/
theorem rd_part {w : World} {B b0 o0 N C : Nat} {zs : List Int} (h : RdBI w B (.slice (some ⟨b0, o0, none⟩) N C) zs) (hB : B ≤ w.heap.size) {off n c : Nat} {ys : List Int} (d : Nat) (hy : ys = (zs.drop d).take n) (hdn : d + n ≤ zs.length) (hoff : off = o0 + d ∨ n = 0) (hc : n ≤ c) : RdI w (.slice (some ⟨b0, off, none⟩) n c) ys := by
  subst hy
  have hl : ((zs.drop d).take n).length = n := by simp; omega
  by_cases hn : n = 0
  · exact rd_nil (by omega) (by omega)
  · obtain ⟨A, c', hs, hi, _⟩ := h
    cases hs
    have h1 := (hi.sub d n (by omega)).mono hB
    have ho : off = o0 + d := by omega
    subst ho
    exact ⟨_, c, by rw [hl], h1, by omega⟩

theorem run_append_nil0 {P : Program} (w : World) (t ty : TypeId) (ht : P.underlying t = some (.slice 3)) (hinfo : (P.info? 3).map (fun i => (i.zero, i.size, i.bytes)) = some (some (.int .i64 0), 1, 8))
    (g : Nat) (hg : g ≤ w.heap.size) (u : Value) (ys : List Int) (hr : RdI w u ys) (hlen : ys.length ≤ 1000000000) :
    ∃ v' w', (Builtin.append_ #[t, t] ty #[.slice (some ⟨g, 0, none⟩) 0 0, u]).run P w = .ok v' w' ∧ RdG g w' v' ys ∧ Below w.heap.size w w' := by
  obtain ⟨A, c, rfl, hi, hc⟩ := hr
  obtain ⟨i0, hi0, hz0, hz1, hz2⟩ := info_parts hinfo
  by_cases hy : ys = []
  · subst hy
    refine ⟨.slice (some ⟨g, 0, none⟩) 0 0, w, ?_, ⟨rd_nil (by simp) (by simp), fun k hk => by simp [Value.ownBlock] at hk; omega⟩, Below.refl _ _⟩
    rcases A with _ | ad
    all_goals simp [Builtin.append_, run_underlying ht, sizeOf, typeInfo, hi0, Builtin.lenOf, Builtin.firstCells, loadCells, loadCellsFrom, storeCells]
  · have h0 : 0 < ys.length := List.length_pos_iff.2 hy
    obtain ⟨b, off, rfl, hb, hcc⟩ := hi.at_ h0
    have hnews : ∀ (j : Nat) v, (ys.map (Value.int .i64))[j]? = some v → w.cell? ((⟨b, off, none⟩ : Addr).add j) = some v := by
      intro j u hu
      rw [List.getElem?_map] at hu
      rw [add_plain]
      rcases hj : ys[j]? with _ | y
      · rw [hj] at hu; simp at hu
      · rw [hj] at hu
        have hlt : j < ys.length := by
          rcases Nat.lt_or_ge j ys.length with h | h
          · exact h
          · rw [List.getElem?_eq_none h] at hj; simp at hj
        rw [hcc j hlt, ← hu]
        simp [List.getD, hj]
    obtain ⟨v', w', h1, h2, h3, -, -⟩ := run_append_own_at (P := P) w w.heap.size t ty 3 i0 (.int .i64 0) 1 8 ht hi0 hz0 hz1 hz2 rfl (by omega) (.slice none 0 0) 0 [] (World.ownsRow_nil _ _ _ _) ⟨b, off, none⟩ ys.length c (ys.map (Value.int .i64)) (by simp) hnews (ints_oneCell .i64 ys) (by simp only [maxLen]; omega) (by omega) (Nat.le_refl _)
    have e1 := run_append_nil (P := P) w t ty 3 i0 (.int .i64 0) ht hi0 hz0 ⟨b, off, none⟩ ys.length c (ys.map (Value.int .i64)) (by simp [hz1]) hnews h0 (by omega) (by rw [hz2]; omega)
    have e2 := run_append_grow (P := P) w t ty 3 i0 (.int .i64 0) ht hi0 hz0 ⟨g, 0, none⟩ 0 0 [] (by simp) (by simp) ⟨b, off, none⟩ ys.length c (ys.map (Value.int .i64)) (by simp [hz1]) hnews (by omega) (by omega) (growslice_fits (by omega) (by rw [hz2]; omega))
    refine ⟨v', w', ?_, ?_, ?_⟩
    · rw [e2, ← h1, e1]
      simp
    · have ho : Own w' w.heap.size v' ys := ⟨by simpa using h2, hi.wf⟩
      exact ⟨(Own.within ho).rd, fun k hk => by have := ho.ge k hk; omega⟩
    · exact below_of_only h3 (Nat.le_refl _) (fun k hk => by simp [Value.ownBlock] at hk)
/-- append([]int{}, x...), as a step of a region that draws its order. -/
theorem step_append_nil {P : Program} {w : World} {ops : Array Oper} {o : Oper} {a : Act} {K : Act → World → Prop} {Q : Exit → Act → World → Prop} {E : Prop} (hgd : o.guard = none) (s x : Operand) (t : TypeId)
    (ho : o.op = .call { callee := .builtin .append, args := #[s, x], argTypes := #[t, t] })
    (ht : P.underlying t = some (.slice 3)) (hinfo : (P.info? 3).map (fun i => (i.zero, i.size, i.bytes)) = some (some (.int .i64 0), 1, 8))
    (g : Nat) (hs : a.eval s = .slice (some ⟨g, 0, none⟩) 0 0) (hg : g ≤ w.heap.size)
    (u : Value) (ys : List Int) (hx : a.eval x = u) (hr : RdI w u ys) (hlen : ys.length ≤ 1000000000)
    (h : ∀ v' w', RdG g w' v' ys → Below w.heap.size w w' → K (a.put o.dst v') w') : if Region.wanted o (yielded ops a.tmps) = true then Oper.wp P o a w K Q else E := by
  rw [if_pos (by simp [Region.wanted, hgd])]
  obtain ⟨v', w', hr1, h2, h3⟩ := run_append_nil0 (P := P) w t o.type ht hinfo g hg u ys hr hlen
  unfold Oper.wp execOp
  simp only [ho, resolve, invoke, builtin, Sem.run_bind, Sem.run_pure, Result.andThen_ok, List.map_toArray, List.map_cons, List.map_nil, hs, hx, hr1]
  exact h v' w' h2 h3
/-- append(s, x), as a step of a region that draws its order: s a stack of the call's own, x a row that is read, laid since. -/
theorem step_append_R {P : Program} {w : World} {ops : Array Oper} {o : Oper} {a : Act} {K : Act → World → Prop} {Q : Exit → Act → World → Prop} {E : Prop} (hgd : o.guard = none) (s x : Operand) (t : TypeId)
    (ho : o.op = .call { callee := .builtin .append, args := #[s, x], argTypes := #[t, t] })
    (ht : P.underlying t = some (.slice 23)) (hinfo : (P.info? 23).map (fun i => (i.zero, i.size, i.bytes)) = some (some (.slice none 0 0), 1, 24))
    (lo hi : Nat) (v : Value) (zss : List (List Int)) (hs : a.eval s = v) (hown : OwnS w lo hi v zss) (hlo : lo ≤ hi)
    (g c : Nat) (u : Value) (zs : List Int) (hx : a.eval x = .slice (some ⟨g, 0, none⟩) 1 c) (hcell : w.cell? ⟨g, 0, none⟩ = some u) (hg : hi ≤ w.heap.size) (hu : RdG hi w u zs) (hlen : zss.length ≤ 1000000)
    (h : ∀ v' w', RdGS lo w' v' (zss ++ [zs]) → Within lo hi w w' → K (a.put o.dst v') w') : if Region.wanted o (yielded ops a.tmps) = true then Oper.wp P o a w K Q else E := by
  rw [if_pos (by simp [Region.wanted, hgd])]
  obtain ⟨vs, hvs⟩ := hown
  obtain ⟨⟨A, cu, rfl, hui⟩, hug⟩ := hu
  obtain ⟨i0, hi0, hz0, hz1, hz2⟩ := info_parts hinfo
  obtain ⟨v', w', hr1, h2, h3, _, h5⟩ := run_append_own_at (P := P) w lo t o.type 23 i0 (.slice none 0 0) 1 24 ht hi0 hz0 hz1 hz2 rfl (by omega) v zss.length vs hvs.row ⟨g, 0, none⟩ 1 c [.slice A zs.length cu] (by simp) (by
      intro j q hq
      rcases j with _ | j
      · simp at hq; subst hq; rw [add_plain]; exact hcell
      · simp at hq) (by intro u hu; simp at hu; subst hu; rfl) (by simp only [maxLen]; omega) (by omega) (by omega)
  unfold Oper.wp execOp
  simp only [ho, resolve, invoke, builtin, Sem.run_bind, Sem.run_pure, Result.andThen_ok, List.map_toArray, List.map_cons, List.map_nil, hs, hx, hr1]
  have hw : Within lo hi w w' := Within.of_only h3 (fun k hk => ⟨(hvs.row.lt k hk).1, hvs.lt k hk⟩)
  refine h v' w' ?_ hw
  have hl : (zss ++ [zs]).length = zss.length + 1 := by simp
  rcases h2.2 with ⟨h0, h1⟩ | ⟨b, cap, cur, h0, hb, hh, h1, _⟩
  · omega
  · subst h0
    refine ⟨_, cap, by rw [hl], by omega, fun _ => ⟨b, 0, rfl, ?_, hb, fun j y hy => ?_⟩⟩
    · rcases Nat.lt_or_ge b w'.heap.size with h | h
      · exact h
      · rw [Array.getElem?_eq_none h] at hh; cases hh
    · have hj : j < zss.length + 1 := by
        rw [← hl]
        rcases Nat.lt_or_ge j (zss ++ [zs]).length with h | h
        · exact h
        · rw [List.getElem?_eq_none h] at hy; cases hy
      have hlv : vs.length = zss.length := hvs.len
      have hcell' : ∀ q, (vs ++ [.slice A zs.length cu])[j]? = some q → w'.cell? ⟨b, 0 + j, none⟩ = some q := by
        intro q hq
        have := h2.cells (g := b) rfl j q hq
        rw [add_plain] at this
        exact this
      by_cases hjn : j < zss.length
      · rw [List.getElem?_append_left hjn] at hy
        obtain ⟨q, hq⟩ : ∃ q, vs[j]? = some q := ⟨vs[j]'(by omega), List.getElem?_eq_getElem (by omega)⟩
        refine ⟨q, hcell' q (by rw [List.getElem?_append_left (by omega)]; exact hq), ?_⟩
        have hi1 := hvs.inner j q y hq hy
        have hne : q.ownBlock = none ∨ q.ownBlock ≠ v.ownBlock := by
          rcases e : q.ownBlock with _ | k
          · exact .inl rfl
          · refine .inr ?_
            rcases hvs.inner_ne hq hy with h | h
            · rw [h]; simp
            · rw [← e]; exact fun e2 => h e2.symm
        have ho := hi1.own.only h3 hne
        exact ⟨(Own.within ho).rd, fun k hk => (ho.ge k hk).1⟩
      · have hje : j = zss.length := by omega
        subst hje
        rw [List.getElem?_append_right (Nat.le_refl _)] at hy
        simp at hy; subst hy
        refine ⟨.slice A zs.length cu, hcell' _ (by rw [← hlv, List.getElem?_append_right (Nat.le_refl _)]; simp), ?_⟩
        have h9 := RdG.within (lo := hi) ⟨⟨A, cu, rfl, hui⟩, hug⟩ hw (Nat.le_refl _)
        exact ⟨h9.1, fun k hk => Nat.le_trans hlo (h9.2 k hk)⟩
end Go.Proofs.Ytceekfoacgoalaa
