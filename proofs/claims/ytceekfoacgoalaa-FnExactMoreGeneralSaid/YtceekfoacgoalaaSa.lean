/- The model's steps: copies of stacks, bodies, what an operation with numbers leaves; rows of a stack of the call's own, put behind each other anew. -/
import Derived.Test.YtceekfoacgoalaaB6
import Derived.Test.YtceekfoacgoalaaB4
import Derived.Test.YtceekfoacgoalaaB5
namespace Go.Proofs.Ytceekfoacgoalaa
set_option maxRecDepth 100000
open Go.RowKit Go.WideShapes

theorem OwnVs.below {w w' : World} {lo hi : Nat} {v : Value} {vs : List Value} {zss : List (List Int)} (h : OwnVs w lo hi v vs zss) (hb : Below w.heap.size w w') : OwnVs w' lo hi v vs zss := by
  refine ⟨h.len, h.row.kept (row := none) (only_of_below hb none) ?_, h.lt, fun j u zs hu hz => (h.inner j u zs hu hz).below hb, h.apart⟩
  rcases e : v.ownBlock with _ | g
  · exact .inl rfl
  · exact .inr (by simp)
theorem ownBlock_slice (A : Option Addr) (n k c : Nat) : (Value.slice A n c).ownBlock = (Value.slice A k c).ownBlock := by cases A <;> rfl
/-- Rows out of those of an own stack, each at most once: still of the call's own. -/
theorem OwnVs.pick {w w' : World} {lo hi hi' : Nat} {v v' : Value} {vs vs' : List Value} {zss zss' : List (List Int)} (h : OwnVs w lo hi v vs zss) (_hhi : hi ≤ w.heap.size) (hg : ∀ k, k < w.heap.size → some k ≠ v.ownBlock → w'.heap[k]? = w.heap[k]?)
    (f : Nat → Nat) (hl : vs'.length = zss'.length) (hf : ∀ (j : Nat) u, vs'[j]? = some u → vs[f j]? = some u) (hz : ∀ (j : Nat) z, zss'[j]? = some z → zss[f j]? = some z) (hinj : ∀ i j, i < vs'.length → j < vs'.length → f i = f j → i = j)
    (hrow : w'.ownsRow lo 23 1 v' zss'.length vs') (hlt : ∀ g, v'.ownBlock = some g → g < hi') (hh : hi ≤ hi') : OwnVs w' lo hi' v' vs' zss' := by
  refine ⟨hl, hrow, hlt, ?_, ?_⟩
  · intro j q ys hq hy
    have h1 := h.inner (f j) q ys (hf j q hq) (hz j ys hy)
    have h2 := h.inner_ne (hf j q hq) (hz j ys hy)
    refine ⟨⟨⟨h1.own.own.1, ?_⟩, h1.own.wf⟩, fun g hg' => Nat.lt_of_lt_of_le (h1.lt g hg') hh⟩
    rcases h1.own.own.2 with h0 | ⟨g, cap, cur, rfl, hb', hh', h3⟩
    · exact .inl h0
    · refine .inr ⟨g, cap, cur, rfl, hb', (hg g (h1.own.own.lt g rfl).2 ?_).trans hh', h3⟩
      rcases h2 with h | h
      · rw [h]; simp
      · exact fun e => h e.symm
  · intro i j q q' g hij hq hq' e
    have hi' : i < vs'.length := by
      rcases Nat.lt_or_ge i vs'.length with h | h
      · exact h
      · rw [List.getElem?_eq_none h] at hq; cases hq
    have hj' : j < vs'.length := by
      rcases Nat.lt_or_ge j vs'.length with h | h
      · exact h
      · rw [List.getElem?_eq_none h] at hq'; cases hq'
    exact h.apart (f i) (f j) q q' g (fun e => hij (hinj i j hi' hj' e)) (hf i q hq) (hf j q' hq') e
theorem OwnVs.take {w : World} {lo hi n c : Nat} {A : Option Addr} {vs : List Value} {zss : List (List Int)} (h : OwnVs w lo hi (.slice A n c) vs zss) (k : Nat) (hk : k ≤ zss.length) (hhi : hi ≤ w.heap.size) : OwnVs w lo hi (.slice A k c) (vs.take k) (zss.take k) := by
  have hn : (zss.take k).length = k := by simp; omega
  have hvn : (vs.take k).length = k := by have := h.len; simp; omega
  refine h.pick hhi (fun _ _ _ => rfl) id (by rw [hn, hvn]) ?_ ?_ (fun i j _ _ e => e) ?_ (fun g hg => h.lt g ((ownBlock_slice A n k c).trans hg)) (Nat.le_refl _)
  · intro j u hu
    rw [List.getElem?_take] at hu
    split at hu
    · exact hu
    · cases hu
  · intro j u hu
    rw [List.getElem?_take] at hu
    split at hu
    · exact hu
    · cases hu
  · rw [hn]
    refine ⟨by rw [hvn]; simp, ?_⟩
    rcases h.row.2 with ⟨h0, h1⟩ | ⟨g, cap, cur, h0, hb, hh, h1, h2, h3, h4⟩
    · cases h0; exact .inl ⟨by rw [show k = 0 from by omega], by omega⟩
    · cases h0
      refine .inr ⟨g, c, cur, rfl, hb, hh, by omega, h2, h3, ?_⟩
      rw [← h4, List.take_take]; congr 1; omega
theorem OwnS.take {w : World} {lo hi n c : Nat} {A : Option Addr} {zss : List (List Int)} (h : OwnS w lo hi (.slice A n c) zss) (k : Nat) (hk : k ≤ zss.length) (hhi : hi ≤ w.heap.size) : OwnS w lo hi (.slice A k c) (zss.take k) := by
  obtain ⟨vs, h⟩ := h; exact ⟨_, h.take k hk hhi⟩

/-- append(s[:n-2], s[n-1], s[n-2]): the two upper rows of an own stack the other way round. -/
theorem wp_append_swap {P : Program} {w : World} {o : Oper} {a : Act} {K : Act → World → Prop} {Q : Exit → Act → World → Prop} (s x : Operand) (t : TypeId)
    (ho : o.op = .call { callee := .builtin .append, args := #[s, x], argTypes := #[t, t] })
    (ht : P.underlying t = some (.slice 23)) (hinfo : (P.info? 23).map (fun i => (i.zero, i.size, i.bytes)) = some (some (.slice none 0 0), 1, 24))
    (lo hi k : Nat) (A : Option Addr) (c n : Nat) (vs : List Value) (zss : List (List Int)) (hs : a.eval s = .slice A k c) (hown : OwnVs w lo hi (.slice A n c) vs zss) (hlo : lo ≤ hi) (hhi : hi ≤ w.heap.size) (hk : zss.length = k + 2) (hkl : k ≤ 1000000)
    (g cx : Nat) (ua ub : Value) (za zb : List Int) (hx : a.eval x = .slice (some ⟨g, 0, none⟩) 2 cx) (hca : w.cell? ⟨g, 0, none⟩ = some ua) (hcb : w.cell? ⟨g, 1, none⟩ = some ub)
    (hua : vs[k + 1]? = some ua) (hub : vs[k]? = some ub) (hza : zss[k + 1]? = some za) (hzb : zss[k]? = some zb)
    (h : ∀ v' w', OwnS w' lo w'.heap.size v' (zss.take k ++ [za, zb]) → Below lo w w' → K (a.put o.dst v') w') : o.wp P a w K Q := by
  obtain ⟨i0, hi0, hz0, hz1, hz2⟩ := info_parts hinfo
  have htk := hown.take k (by omega) hhi
  have hkk : (zss.take k).length = k := by simp; omega
  have hvk : (vs.take k).length = k := by have := hown.len; simp; omega
  have hone : ∀ (j : Nat) u, vs[j]? = some u → ∀ z, zss[j]? = some z → u.oneCell' = true := fun j u hu z hz => by
    obtain ⟨A1, c1, rfl, _⟩ := (hown.inner j u z hu hz).rd; rfl
  have hrow := htk.row
  rw [hkk] at hrow
  obtain ⟨v', w', hr1, h2, h3, _, h5⟩ := run_append_own_at (P := P) w lo t o.type 23 i0 (.slice none 0 0) 1 24 ht hi0 hz0 hz1 hz2 rfl (by omega) (.slice A k c) k (vs.take k) hrow ⟨g, 0, none⟩ 2 cx [ua, ub] (by simp) (by
      intro j q hq
      rcases j with _ | _ | j
      · simp at hq; subst hq; rw [add_plain]; exact hca
      · simp at hq; subst hq; rw [add_plain]; exact hcb
      · simp at hq) (by
      intro u hu
      simp only [List.mem_cons, List.not_mem_nil, or_false] at hu
      rcases hu with rfl | rfl
      · exact hone _ _ hua _ hza
      · exact hone _ _ hub _ hzb) (by simp only [maxLen]; omega) (by omega) (by omega)
  unfold Oper.wp execOp
  simp only [ho, resolve, invoke, builtin, Sem.run_bind, Sem.run_pure, Result.andThen_ok, List.map_toArray, List.map_cons, List.map_nil, hs, hx, hr1]
  have hbelow : Below lo w w' := below_of_only h3 (by omega) (fun j hj => (hown.row.lt j ((ownBlock_slice A n k c).trans hj)).1)
  refine h v' w' ⟨vs.take k ++ [ua, ub], ?_⟩ hbelow
  have hl2 : (zss.take k ++ [za, zb]).length = k + 2 := by simp; omega
  refine hown.pick hhi (fun j hj hne => h3.block j hj (fun e => hne (e.trans (ownBlock_slice A k n c)))) (fun j => if j < k then j else if j = k then k + 1 else k) ?_ ?_ ?_ ?_ (by rw [hl2]; exact h2) (fun j hj => (h2.lt j hj).2) (Nat.le_trans hhi hbelow.size)
  · simp; have := hown.len; omega
  · intro j u hu
    by_cases hj : j < k
    · rw [List.getElem?_append_left (by omega), List.getElem?_take, if_pos hj] at hu
      simp only [hj, if_true]; exact hu
    · rw [List.getElem?_append_right (by omega), hvk] at hu
      simp only [hj, if_false]
      rcases e : j - k with _ | _ | q
      · rw [e] at hu; simp at hu; subst hu; rw [if_pos (by omega)]; exact hua
      · rw [e] at hu; simp at hu; subst hu; rw [if_neg (by omega)]; exact hub
      · rw [e] at hu; simp at hu
  · intro j u hu
    by_cases hj : j < k
    · rw [List.getElem?_append_left (by omega), List.getElem?_take, if_pos hj] at hu
      simp only [hj, if_true]; exact hu
    · rw [List.getElem?_append_right (by omega), hkk] at hu
      simp only [hj, if_false]
      rcases e : j - k with _ | _ | q
      · rw [e] at hu; simp at hu; subst hu; rw [if_pos (by omega)]; exact hza
      · rw [e] at hu; simp at hu; subst hu; rw [if_neg (by omega)]; exact hzb
      · rw [e] at hu; simp at hu
  · intro i j hi' hj' e
    have hl3 : (vs.take k ++ [ua, ub]).length = k + 2 := by simp; have := hown.len; omega
    rw [hl3] at hi' hj'
    split at e <;> split at e <;> (try split at e) <;> (try split at e) <;> omega

theorem step_append_swap {P : Program} {w : World} {ops : Array Oper} {o : Oper} {a : Act} {K : Act → World → Prop} {Q : Exit → Act → World → Prop} {E : Prop} (hgd : o.guard = none) (s x : Operand) (t : TypeId)
    (ho : o.op = .call { callee := .builtin .append, args := #[s, x], argTypes := #[t, t] })
    (ht : P.underlying t = some (.slice 23)) (hinfo : (P.info? 23).map (fun i => (i.zero, i.size, i.bytes)) = some (some (.slice none 0 0), 1, 24))
    (lo hi k : Nat) (A : Option Addr) (c n : Nat) (vs : List Value) (zss : List (List Int)) (hs : a.eval s = .slice A k c) (hown : OwnVs w lo hi (.slice A n c) vs zss) (hlo : lo ≤ hi) (hhi : hi ≤ w.heap.size) (hk : zss.length = k + 2) (hkl : k ≤ 1000000)
    (g cx : Nat) (ua ub : Value) (za zb : List Int) (hx : a.eval x = .slice (some ⟨g, 0, none⟩) 2 cx) (hca : w.cell? ⟨g, 0, none⟩ = some ua) (hcb : w.cell? ⟨g, 1, none⟩ = some ub)
    (hua : vs[k + 1]? = some ua) (hub : vs[k]? = some ub) (hza : zss[k + 1]? = some za) (hzb : zss[k]? = some zb)
    (h : ∀ v' w', OwnS w' lo w'.heap.size v' (zss.take k ++ [za, zb]) → Below lo w w' → K (a.put o.dst v') w') : if Region.wanted o (yielded ops a.tmps) = true then Oper.wp P o a w K Q else E := by
  rw [if_pos (by simp [Region.wanted, hgd])]
  exact wp_append_swap s x t ho ht hinfo lo hi k A c n vs zss hs hown hlo hhi hk hkl g cx ua ub za zb hx hca hcb hua hub hza hzb h
/-- append(s, x...) of integers, as a step of a region that draws its order. -/
theorem step_append_V {P : Program} {w : World} {ops : Array Oper} {o : Oper} {a : Act} {K : Act → World → Prop} {Q : Exit → Act → World → Prop} {E : Prop} (hgd : o.guard = none) (s x : Operand) (t : TypeId)
    (ho : o.op = .call { callee := .builtin .append, args := #[s, x], argTypes := #[t, t] })
    (ht : P.underlying t = some (.slice 3)) (hinfo : (P.info? 3).map (fun i => (i.zero, i.size, i.bytes)) = some (some (.int .i64 0), 1, 8))
    (lo hi : Nat) (v : Value) (zs : List Int) (hs : a.eval s = v) (hown : OwnI w lo hi v zs) (hlo : lo ≤ w.heap.size)
    (u : Value) (ys : List Int) (hx : a.eval x = u) (hr : RdI w u ys) (hlen : zs.length + ys.length ≤ 1000000000)
    (h : ∀ v' w', OwnI w' lo w'.heap.size v' (zs ++ ys) → Below lo w w' → K (a.put o.dst v') w') : if Region.wanted o (yielded ops a.tmps) = true then Oper.wp P o a w K Q else E := by
  rw [if_pos (by simp [Region.wanted, hgd])]
  exact wp_append_V s x t ho ht hinfo lo hi v zs hs hown hlo u ys hx hr hlen h
/-- append(s, x), as a step of a region that draws its order: s a stack of the call's own, x laid since. -/
theorem step_append_S {P : Program} {w : World} {ops : Array Oper} {o : Oper} {a : Act} {K : Act → World → Prop} {Q : Exit → Act → World → Prop} {E : Prop} (hgd : o.guard = none) (s x : Operand) (t : TypeId)
    (ho : o.op = .call { callee := .builtin .append, args := #[s, x], argTypes := #[t, t] })
    (ht : P.underlying t = some (.slice 23)) (hinfo : (P.info? 23).map (fun i => (i.zero, i.size, i.bytes)) = some (some (.slice none 0 0), 1, 24))
    (lo hi : Nat) (v : Value) (zss : List (List Int)) (hs : a.eval s = v) (hown : OwnS w lo hi v zss) (hlo : lo ≤ hi)
    (g c : Nat) (u : Value) (zs : List Int) (hx : a.eval x = .slice (some ⟨g, 0, none⟩) 1 c) (hcell : w.cell? ⟨g, 0, none⟩ = some u) (hg : hi ≤ w.heap.size) (hu : OwnI w hi w.heap.size u zs) (hlen : zss.length ≤ 1000000)
    (h : ∀ v' w', OwnS w' lo w'.heap.size v' (zss ++ [zs]) → Below lo w w' → K (a.put o.dst v') w') : if Region.wanted o (yielded ops a.tmps) = true then Oper.wp P o a w K Q else E := by
  rw [if_pos (by simp [Region.wanted, hgd])]
  obtain ⟨vs, hvs⟩ := hown
  obtain ⟨A, cu, rfl, _⟩ := hu.rd
  obtain ⟨i0, hi0, hz0, hz1, hz2⟩ := info_parts hinfo
  obtain ⟨v', w', hr1, h2, h3, _, h5⟩ := run_append_own_at (P := P) w lo t o.type 23 i0 (.slice none 0 0) 1 24 ht hi0 hz0 hz1 hz2 rfl (by omega) v zss.length vs hvs.row ⟨g, 0, none⟩ 1 c [.slice A zs.length cu] (by simp) (by
      intro j q hq
      rcases j with _ | j
      · simp at hq; subst hq; rw [add_plain]; exact hcell
      · simp at hq) (by intro u hu; simp at hu; subst hu; rfl) (by simp only [maxLen]; omega) (by omega) (by omega)
  unfold Oper.wp execOp
  simp only [ho, resolve, invoke, builtin, Sem.run_bind, Sem.run_pure, Result.andThen_ok, List.map_toArray, List.map_cons, List.map_nil, hs, hx, hr1]
  exact h v' w' ⟨_, hvs.snoc2 hu hlo (fun k hk hne => h3.block k hk hne) h2⟩ (below_of_only h3 (by omega) (fun k hk => (hvs.row.lt k hk).1))
theorem OwnS.cap2 {w : World} {lo hi n c : Nat} {A : Option Addr} {zss : List (List Int)} (h : OwnS w lo hi (.slice A n c) zss) : zss.length ≤ c ∧ c ≤ 9223372036854775807 := by
  obtain ⟨vs, h⟩ := h
  rcases h.row.2 with ⟨h0, h1⟩ | ⟨g, cap, cur, h0, hb, hh, h1, h2, _⟩
  · cases h0; exact ⟨by omega, by omega⟩
  · cases h0; exact ⟨h1, by simpa [maxLen] using h2⟩
/-- A row of an own stack: where it lies, and what it reads as. -/
theorem OwnS.at1 {w : World} {lo hi n c : Nat} {A : Option Addr} {zss : List (List Int)} (h : OwnS w lo hi (.slice A n c) zss) {j : Nat} {zs : List Int} (hz : zss[j]? = some zs) :
    ∃ g, ∃ (_ : True) (u : Value), A = some ⟨g, 0, none⟩ ∧ g < w.heap.size ∧ w.cell? ⟨g, j, none⟩ = some u ∧ RdI w u zs := by
  obtain ⟨b, off, u, hA, hb, hc, hu⟩ := RdBS.get h.rd hz
  obtain ⟨vs, h⟩ := h
  rcases h.row.2 with ⟨h0, h1⟩ | ⟨g, cap, cur, h0, _⟩
  · cases h0; cases hA
  · cases h0
    obtain ⟨rfl, rfl⟩ : b = g ∧ off = 0 := by cases hA; exact ⟨rfl, rfl⟩
    rw [Nat.zero_add] at hc
    exact ⟨b, trivial, u, rfl, hb, hc, hu.rd (Nat.le_refl _)⟩

end Go.Proofs.Ytceekfoacgoalaa
