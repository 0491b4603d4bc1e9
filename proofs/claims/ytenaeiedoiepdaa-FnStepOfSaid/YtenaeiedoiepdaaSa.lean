/- The model's steps: copies of stacks, bodies, what an operation with numbers leaves; rows of a stack of the call's own, put behind each other anew. -/
import Derived.Test.YtenaeiedoiepdaaB6
import Derived.Test.YtenaeiedoiepdaaB4
import Derived.Test.YtenaeiedoiepdaaB5
namespace Go.Proofs.Ytenaeiedoiepdaa
set_option maxRecDepth 100000
open Go.RowKit Go.WideShapes

theorem OwnVs.below {w w' : World} {lo hi : Nat} {v : Value} {vs : List Value} {zss : List (List Int)} (h : OwnVs w lo hi v vs zss) (hb : Below w.heap.size w w') : OwnVs w' lo hi v vs zss := by
  refine ⟨h.len, h.row.kept (row := none) (only_of_below hb none) ?_, h.lt, fun j u zs hu hz => (h.inner j u zs hu hz).below hb, h.apart⟩
  rcases e : v.ownBlock with _ | g
  · exact .inl rfl
  · exact .inr (by simp)
theorem ownBlock_slice (A : Option Addr) (n k c : Nat) : (Value.slice A n c).ownBlock = (Value.slice A k c).ownBlock := by cases A <;> rfl
/-- Rows out of those of an own stack, each at most once: still of the call's own. -/
theorem OwnVs.pick {w w' : World} {lo hi hi' : Nat} {v v' : Value} {vs vs' : List Value} {zss zss' : List (List Int)} (h : OwnVs w lo hi v vs zss) (_hhi : hi ≤ w.heap.size) (hg : ∀ k, k < w.heap.size → some k ≠ v.ownBlock → w'.heap[k]? = w.heap[k]?)
    (f : Nat → Nat) (hl : vs'.length = zss'.length) (hf : ∀ (j : Nat) u, vs'[j]? = some u → vs[f j]? = some u) (hz : ∀ (j : Nat) z, zss'[j]? = some z → zss[f j]? = some z) (hinj : ∀ i j, i < vs'.length → j < vs'.length → f i = f j → i = j)
    (hrow : w'.ownsRow lo 23 1 v' zss'.length vs') (hlt : ∀ g, v'.ownBlock = some g → g < hi') (hh : hi ≤ hi') : OwnVs w' lo hi' v' vs' zss' := by
  refine ⟨hl, hrow, hlt, ?_, ?_⟩
  · intro j q ys hq hy
    have h1 := h.inner (f j) q ys (hf j q hq) (hz j ys hy)
    have h2 := h.inner_ne (hf j q hq) (hz j ys hy)
    refine ⟨⟨⟨h1.own.own.1, ?_⟩, h1.own.wf⟩, fun g hg' => Nat.lt_of_lt_of_le (h1.lt g hg') hh⟩
    rcases h1.own.own.2 with h0 | ⟨g, cap, cur, rfl, hb', hh', h3⟩
    · exact .inl h0
    · refine .inr ⟨g, cap, cur, rfl, hb', (hg g (h1.own.own.lt g rfl).2 ?_).trans hh', h3⟩
      rcases h2 with h | h
      · rw [h]; simp
      · exact fun e => h e.symm
  · intro i j q q' g hij hq hq' e
    have hi' : i < vs'.length := by
      rcases Nat.lt_or_ge i vs'.length with h | h
      · exact h
      · rw [List.getElem?_eq_none h] at hq; cases hq
    have hj' : j < vs'.length := by
      rcases Nat.lt_or_ge j vs'.length with h | h
      · exact h
      · rw [List.getElem?_eq_none h] at hq'; cases hq'
    exact h.apart (f i) (f j) q q' g (fun e => hij (hinj i j hi' hj' e)) (hf i q hq) (hf j q' hq') e
theorem OwnVs.take {w : World} {lo hi n c : Nat} {A : Option Addr} {vs : List Value} {zss : List (List Int)} (h : OwnVs w lo hi (.slice A n c) vs zss) (k : Nat) (hk : k ≤ zss.length) (hhi : hi ≤ w.heap.size) : OwnVs w lo hi (.slice A k c) (vs.take k) (zss.take k) := by
  have hn : (zss.take k).length = k := by simp; omega
  have hvn : (vs.take k).length = k := by have := h.len; simp; omega
  refine h.pick hhi (fun _ _ _ => rfl) id (by rw [hn, hvn]) ?_ ?_ (fun i j _ _ e => e) ?_ (fun g hg => h.lt g ((ownBlock_slice A n k c).trans hg)) (Nat.le_refl _)
  · intro j u hu
    rw [List.getElem?_take] at hu
    split at hu
    · exact hu
    · cases hu
  · intro j u hu
    rw [List.getElem?_take] at hu
    split at hu
    · exact hu
    · cases hu
  · rw [hn]
    refine ⟨by rw [hvn]; simp, ?_⟩
    rcases h.row.2 with ⟨h0, h1⟩ | ⟨g, cap, cur, h0, hb, hh, h1, h2, h3, h4⟩
    · cases h0; exact .inl ⟨by rw [show k = 0 from by omega], by omega⟩
    · cases h0
      refine .inr ⟨g, c, cur, rfl, hb, hh, by omega, h2, h3, ?_⟩
      rw [← h4, List.take_take]; congr 1; omega
theorem OwnS.take {w : World} {lo hi n c : Nat} {A : Option Addr} {zss : List (List Int)} (h : OwnS w lo hi (.slice A n c) zss) (k : Nat) (hk : k ≤ zss.length) (hhi : hi ≤ w.heap.size) : OwnS w lo hi (.slice A k c) (zss.take k) := by
  obtain ⟨vs, h⟩ := h; exact ⟨_, h.take k hk hhi⟩

/-- append(s[:n-2], s[n-1], s[n-2]): the two upper rows of an own stack the other way round. -/
theorem wp_append_swap {P : Program} {w : World} {o : Oper} {a : Act} {K : Act → World → Prop} {Q : Exit → Act → World → Prop} (s x : Operand) (t : TypeId)
    (ho : o.op = .call { callee := .builtin .append, args := #[s, x], argTypes := #[t, t] })
    (ht : P.underlying t = some (.slice 23)) (hinfo : (P.info? 23).map (fun i => (i.zero, i.size, i.bytes)) = some (some (.slice none 0 0), 1, 24))
    (lo hi k : Nat) (A : Option Addr) (c n : Nat) (vs : List Value) (zss : List (List Int)) (hs : a.eval s = .slice A k c) (hown : OwnVs w lo hi (.slice A n c) vs zss) (hlo : lo ≤ hi) (hhi : hi ≤ w.heap.size) (hk : zss.length = k + 2) (hkl : k ≤ 1000000)
    (g cx : Nat) (ua ub : Value) (za zb : List Int) (hx : a.eval x = .slice (some ⟨g, 0, none⟩) 2 cx) (hca : w.cell? ⟨g, 0, none⟩ = some ua) (hcb : w.cell? ⟨g, 1, none⟩ = some ub)
    (hua : vs[k + 1]? = some ua) (hub : vs[k]? = some ub) (hza : zss[k + 1]? = some za) (hzb : zss[k]? = some zb)
    (h : ∀ v' w', OwnS w' lo w'.heap.size v' (zss.take k ++ [za, zb]) → Below lo w w' → K (a.put o.dst v') w') : o.wp P a w K Q := by
  obtain ⟨i0, hi0, hz0, hz1, hz2⟩ := info_parts hinfo
  have htk := hown.take k (by omega) hhi
  have hkk : (zss.take k).length = k := by simp; omega
  have hvk : (vs.take k).length = k := by have := hown.len; simp; omega
  have hone : ∀ (j : Nat) u, vs[j]? = some u → ∀ z, zss[j]? = some z → u.oneCell' = true := fun j u hu z hz => by
    obtain ⟨A1, c1, rfl, _⟩ := (hown.inner j u z hu hz).rd; rfl
  have hrow := htk.row
  rw [hkk] at hrow
  obtain ⟨v', w', hr1, h2, h3, _, h5⟩ := run_append_own_at (P := P) w lo t o.type 23 i0 (.slice none 0 0) 1 24 ht hi0 hz0 hz1 hz2 rfl (by omega) (.slice A k c) k (vs.take k) hrow ⟨g, 0, none⟩ 2 cx [ua, ub] (by simp) (by
      intro j q hq
      rcases j with _ | _ | j
      · simp at hq; subst hq; rw [add_plain]; exact hca
      · simp at hq; subst hq; rw [add_plain]; exact hcb
      · simp at hq) (by
      intro u hu
      simp only [List.mem_cons, List.not_mem_nil, or_false] at hu
      rcases hu with rfl | rfl
      · exact hone _ _ hua _ hza
      · exact hone _ _ hub _ hzb) (by simp only [maxLen]; omega) (by omega) (by omega)
  unfold Oper.wp execOp
  simp only [ho, resolve, invoke, builtin, Sem.run_bind, Sem.run_pure, Result.andThen_ok, List.map_toArray, List.map_cons, List.map_nil, hs, hx, hr1]
  have hbelow : Below lo w w' := below_of_only h3 (by omega) (fun j hj => (hown.row.lt j ((ownBlock_slice A n k c).trans hj)).1)
  refine h v' w' ⟨vs.take k ++ [ua, ub], ?_⟩ hbelow
  have hl2 : (zss.take k ++ [za, zb]).length = k + 2 := by simp; omega
  refine hown.pick hhi (fun j hj hne => h3.block j hj (fun e => hne (e.trans (ownBlock_slice A k n c)))) (fun j => if j < k then j else if j = k then k + 1 else k) ?_ ?_ ?_ ?_ (by rw [hl2]; exact h2) (fun j hj => (h2.lt j hj).2) (Nat.le_trans hhi hbelow.size)
  · simp; have := hown.len; omega
  · intro j u hu
    by_cases hj : j < k
    · rw [List.getElem?_append_left (by omega), List.getElem?_take, if_pos hj] at hu
      simp only [hj, if_true]; exact hu
    · rw [List.getElem?_append_right (by omega), hvk] at hu
      simp only [hj, if_false]
      rcases e : j - k with _ | _ | q
      · rw [e] at hu; simp at hu; subst hu; rw [if_pos (by omega)]; exact hua
      · rw [e] at hu; simp at hu; subst hu; rw [if_neg (by omega)]; exact hub
      · rw [e] at hu; simp at hu
  · intro j u hu
    by_cases hj : j < k
    · rw [List.getElem?_append_left (by omega), List.getElem?_take, if_pos hj] at hu
      simp only [hj, if_true]; exact hu
    · rw [List.getElem?_append_right (by omega), hkk] at hu
      simp only [hj, if_false]
      rcases e : j - k with _ | _ | q
      · rw [e] at hu; simp at hu; subst hu; rw [if_pos (by omega)]; exact hza
      · rw [e] at hu; simp at hu; subst hu; rw [if_neg (by omega)]; exact hzb
      · rw [e] at hu; simp at hu
  · intro i j hi' hj' e
    have hl3 : (vs.take k ++ [ua, ub]).length = k + 2 := by simp; have := hown.len; omega
    rw [hl3] at hi' hj'
    split at e <;> split at e <;> (try split at e) <;> (try split at e) <;> omega

theorem step_append_swap {P : Program} {w : World} {ops : Array Oper} {o : Oper} {a : Act} {K : Act → World → Prop} {Q : Exit → Act → World → Prop} {E : Prop} (hgd : o.guard = none) (s x : Operand) (t : TypeId)
    (ho : o.op = .call { callee := .builtin .append, args := #[s, x], argTypes := #[t, t] })
    (ht : P.underlying t = some (.slice 23)) (hinfo : (P.info? 23).map (fun i => (i.zero, i.size, i.bytes)) = some (some (.slice none 0 0), 1, 24))
    (lo hi k : Nat) (A : Option Addr) (c n : Nat) (vs : List Value) (zss : List (List Int)) (hs : a.eval s = .slice A k c) (hown : OwnVs w lo hi (.slice A n c) vs zss) (hlo : lo ≤ hi) (hhi : hi ≤ w.heap.size) (hk : zss.length = k + 2) (hkl : k ≤ 1000000)
    (g cx : Nat) (ua ub : Value) (za zb : List Int) (hx : a.eval x = .slice (some ⟨g, 0, none⟩) 2 cx) (hca : w.cell? ⟨g, 0, none⟩ = some ua) (hcb : w.cell? ⟨g, 1, none⟩ = some ub)
    (hua : vs[k + 1]? = some ua) (hub : vs[k]? = some ub) (hza : zss[k + 1]? = some za) (hzb : zss[k]? = some zb)
    (h : ∀ v' w', OwnS w' lo w'.heap.size v' (zss.take k ++ [za, zb]) → Below lo w w' → K (a.put o.dst v') w') : if Region.wanted o (yielded ops a.tmps) = true then Oper.wp P o a w K Q else E := by
  rw [if_pos (by simp [Region.wanted, hgd])]
  exact wp_append_swap s x t ho ht hinfo lo hi k A c n vs zss hs hown hlo hhi hk hkl g cx ua ub za zb hx hca hcb hua hub hza hzb h
/-- append(s, x...) of integers, as a step of a region that draws its order. -/
theorem step_append_V {P : Program} {w : World} {ops : Array Oper} {o : Oper} {a : Act} {K : Act → World → Prop} {Q : Exit → Act → World → Prop} {E : Prop} (hgd : o.guard = none) (s x : Operand) (t : TypeId)
    (ho : o.op = .call { callee := .builtin .append, args := #[s, x], argTypes := #[t, t] })
    (ht : P.underlying t = some (.slice 3)) (hinfo : (P.info? 3).map (fun i => (i.zero, i.size, i.bytes)) = some (some (.int .i64 0), 1, 8))
    (lo hi : Nat) (v : Value) (zs : List Int) (hs : a.eval s = v) (hown : OwnI w lo hi v zs) (hlo : lo ≤ w.heap.size)
    (u : Value) (ys : List Int) (hx : a.eval x = u) (hr : RdI w u ys) (hlen : zs.length + ys.length ≤ 1000000000)
    (h : ∀ v' w', OwnI w' lo w'.heap.size v' (zs ++ ys) → Below lo w w' → K (a.put o.dst v') w') : if Region.wanted o (yielded ops a.tmps) = true then Oper.wp P o a w K Q else E := by
  rw [if_pos (by simp [Region.wanted, hgd])]
  exact wp_append_V s x t ho ht hinfo lo hi v zs hs hown hlo u ys hx hr hlen h
/-- append(s, x), as a step of a region that draws its order: s a stack of the call's own, x laid since. -/
theorem step_append_S {P : Program} {w : World} {ops : Array Oper} {o : Oper} {a : Act} {K : Act → World → Prop} {Q : Exit → Act → World → Prop} {E : Prop} (hgd : o.guard = none) (s x : Operand) (t : TypeId)
    (ho : o.op = .call { callee := .builtin .append, args := #[s, x], argTypes := #[t, t] })
    (ht : P.underlying t = some (.slice 23)) (hinfo : (P.info? 23).map (fun i => (i.zero, i.size, i.bytes)) = some (some (.slice none 0 0), 1, 24))
    (lo hi : Nat) (v : Value) (zss : List (List Int)) (hs : a.eval s = v) (hown : OwnS w lo hi v zss) (hlo : lo ≤ hi)
    (g c : Nat) (u : Value) (zs : List Int) (hx : a.eval x = .slice (some ⟨g, 0, none⟩) 1 c) (hcell : w.cell? ⟨g, 0, none⟩ = some u) (hg : hi ≤ w.heap.size) (hu : OwnI w hi w.heap.size u zs) (hlen : zss.length ≤ 1000000)
    (h : ∀ v' w', OwnS w' lo w'.heap.size v' (zss ++ [zs]) → Below lo w w' → K (a.put o.dst v') w') : if Region.wanted o (yielded ops a.tmps) = true then Oper.wp P o a w K Q else E := by
  rw [if_pos (by simp [Region.wanted, hgd])]
  obtain ⟨vs, hvs⟩ := hown
  obtain ⟨A, cu, rfl, _⟩ := hu.rd
  obtain ⟨i0, hi0, hz0, hz1, hz2⟩ := info_parts hinfo
  obtain ⟨v', w', hr1, h2, h3, _, h5⟩ := run_append_own_at (P := P) w lo t o.type 23 i0 (.slice none 0 0) 1 24 ht hi0 hz0 hz1 hz2 rfl (by omega) v zss.length vs hvs.row ⟨g, 0, none⟩ 1 c [.slice A zs.length cu] (by simp) (by
      intro j q hq
      rcases j with _ | j
      · simp at hq; subst hq; rw [add_plain]; exact hcell
      · simp at hq) (by intro u hu; simp at hu; subst hu; rfl) (by simp only [maxLen]; omega) (by omega) (by omega)
  unfold Oper.wp execOp
  simp only [ho, resolve, invoke, builtin, Sem.run_bind, Sem.run_pure, Result.andThen_ok, List.map_toArray, List.map_cons, List.map_nil, hs, hx, hr1]
  exact h v' w' ⟨_, hvs.snoc2 hu hlo (fun k hk hne => h3.block k hk hne) h2⟩ (below_of_only h3 (by omega) (fun k hk => (hvs.row.lt k hk).1))
theorem OwnS.cap2 {w : World} {lo hi n c : Nat} {A : Option Addr} {zss : List (List Int)} (h : OwnS w lo hi (.slice A n c) zss) : zss.length ≤ c ∧ c ≤ 9223372036854775807 := by
  obtain ⟨vs, h⟩ := h
  rcases h.row.2 with ⟨h0, h1⟩ | ⟨g, cap, cur, h0, hb, hh, h1, h2, _⟩
  · cases h0; exact ⟨by omega, by omega⟩
  · cases h0; exact ⟨h1, by simpa [maxLen] using h2⟩
/-- A row of an own stack: where it lies, and what it reads as. -/
theorem OwnS.at1 {w : World} {lo hi n c : Nat} {A : Option Addr} {zss : List (List Int)} (h : OwnS w lo hi (.slice A n c) zss) {j : Nat} {zs : List Int} (hz : zss[j]? = some zs) :
    ∃ g, ∃ (_ : True) (u : Value), A = some ⟨g, 0, none⟩ ∧ g < w.heap.size ∧ w.cell? ⟨g, j, none⟩ = some u ∧ RdI w u zs := by
  obtain ⟨b, off, u, hA, hb, hc, hu⟩ := RdBS.get h.rd hz
  obtain ⟨vs, h⟩ := h
  rcases h.row.2 with ⟨h0, h1⟩ | ⟨g, cap, cur, h0, _⟩
  · cases h0; cases hA
  · cases h0
    obtain ⟨rfl, rfl⟩ : b = g ∧ off = 0 := by cases hA; exact ⟨rfl, rfl⟩
    rw [Nat.zero_add] at hc
    exact ⟨b, trivial, u, rfl, hb, hc, hu.rd (Nat.le_refl _)⟩

set_option maxHeartbeats 1000000 in
theorem l2Copy_any (v : Value) (zss : List (List Int)) (w : World) (h : RdS w v zss) (hn : zss.length ≤ 1000000) (hl : ∀ zs ∈ zss, zs.length ≤ 1000000) :
    Calls Try.prog 46 #[v] w fun e w' => ∃ u, e = .returned u ∧ OwnS w' w.heap.size w'.heap.size u zss ∧ Below w.heap.size w w' := by
  obtain ⟨A, c, rfl, hm, hr⟩ := h
  have Hr := Lib.hid hr; clear hr
  have HL := Lib.hid hl; clear hl
  have L0 := Lib.hid (litS_nil w)
  go_enter Try.func46, Try.ntmps46
  go_wp2
  go_loopw [3, 4] (fun q i wr => ∃ k : Nat, k ≤ zss.length ∧ i = .int .i64 k ∧ w.heap.size ≤ wr.heap.size ∧ Below w.heap.size w wr ∧ OwnS wr w.heap.size wr.heap.size q (zss.take k)) (fun _ i _ => zss.length - (intOf i).toNat)
  case atStart => exact ⟨0, Nat.zero_le _, rfl, by simp, (Below.refl _ _).alloc (Nat.le_refl _) _, by simpa using L0.out⟩
  case round =>
    clear L0
    obtain ⟨k, hk, rfl, hsz, hbk, hown⟩ := hrel
    have X := Lib.hid (And.intro hbk hown); clear hbk hown
    by_cases hlt : k < zss.length
    · obtain ⟨b, off, rfl, hb, hc⟩ := Hr.out (by omega)
      have hz : zss[k]? = some zss[k] := List.getElem?_eq_getElem hlt
      obtain ⟨u, hcell, hu⟩ := hc k _ hz
      have hlz := HL.out zss[k] (List.getElem_mem hlt)
      have Hs : Hid (zss.take (k + 1) = zss.take k ++ [zss[k]]) := Lib.hid (by rw [List.take_add_one, hz]; rfl)
      have HU := Lib.hid ((hu.below X.out.1).rd hsz)
      replace hcell := (X.out.1.cell (p := ⟨b, off + k, none⟩) hb).trans hcell
      have htl : (zss.take k).length = k := by simp; omega
      clear hc hz hu
      generalize zss[k] = zs at *
      have hltI : (k : Int) < zss.length := by omega
      have L1 : OwnI (wr.alloc (.cells #[] 3)) wr.heap.size (wr.heap.size + 1) (.slice (some ⟨wr.heap.size, 0, none⟩) 0 0) [] := by simpa using lits_own wr [] (by simp) (by simp)
      have Hbl : Below wr.heap.size wr (wr.alloc (.cells #[] 3)) := (Below.refl _ _).alloc (Nat.le_refl _) _
      have Y := Lib.hid (And.intro (X.out.2.belowB Hbl (Nat.le_refl _)) (And.intro (X.out.1.trans (Hbl.mono hsz)) (And.intro (RdI.step HU.out Hbl) L1)))
      have hcella := (Hbl.cell (p := ⟨b, off + k, none⟩) (show b < wr.heap.size by omega)).trans hcell
      clear L1 Hbl X HU hcell
      go_wp2_with (at_builtin; go_loud (refine wpList_append_V rfl _ _ _ rfl Try.underlying23 intInfo wr.heap.size (wr.heap.size + 1) _ [] rfl Y.out.2.2.2 (by simp) u zs rfl Y.out.2.2.1 (by simp; omega) ?_))
      intro v2 w2 ho2 hb2
      have hz2 : wr.heap.size + 1 ≤ w2.heap.size := by have := hb2.size; simpa using this
      obtain ⟨Au, cu, rfl, _⟩ := ho2.rd
      have hbl : Below w2.heap.size w2 (w2.alloc (.cells #[.slice Au zs.length cu] 23)) := (Below.refl _ _).alloc (Nat.le_refl _) _
      have hou2 : OwnI (w2.alloc (.cells #[.slice Au zs.length cu] 23)) wr.heap.size (w2.alloc (.cells #[.slice Au zs.length cu] 23)).heap.size (.slice Au zs.length cu) zs := by
        have h1 := ho2.belowB hbl (Nat.le_refl _)
        exact ⟨h1.own, fun q hq => by have := h1.lt q hq; simp; omega⟩
      have V := Lib.hid (And.intro ((Y.out.1.belowB hb2 (Nat.le_refl _)).belowB hbl (by omega)) (And.intro hou2 (And.intro (lit_row w2 (.slice Au zs.length cu)) ((Y.out.2.1.trans (hb2.mono hsz)).trans (hbl.mono (by omega)))))); clear ho2 hou2 hb2 hbl Y
      go_wp2_with (at_builtin; refine wpList_append_S rfl _ _ _ rfl Try.underlying24 rowInfo w.heap.size wr.heap.size _ (zss.take k) (by first | rfl | rw [htl]) V.out.1 hsz w2.heap.size 1 _ zs rfl V.out.2.2.1 (by simp; omega) V.out.2.1 (by omega) ?_)
      intro v4 w4 ho4 hb4
      have hs4 := hb4.size
      rw [← Hs.out] at ho4
      have T := Lib.hid (And.intro (V.out.2.2.2.trans hb4) ho4); clear ho4 hb4 V Hs
      have hsz4 : w.heap.size ≤ w4.heap.size := by simp at hs4; omega
      go_wp2
      go_roundw
      case rel => exact ⟨k + 1, by omega, by go_num, hsz4, T.out⟩
      case measure => simp [intOf]; omega
    · have hall : zss.take k = zss := List.take_of_length_le (by omega)
      rw [hall] at X
      go_wp2
      go_ret
      exact ⟨_, rfl, X.out.2, X.out.1⟩

theorem l2Is_any (v : Value) (zs : List Int) (w : World) (h : RdI w v zs) (b : Bool) (hb : decide (1 < zs.length) = b) :
    Calls Try.prog 48 #[v] w fun e w' => e = .returned (.bool b) ∧ w = w' := by
  obtain ⟨A, c, rfl, hi, _⟩ := h
  have hm := hi.len
  clear hi
  subst hb
  go_enter Try.func48, Try.ntmps48
  go_wp2
  go_ret
  refine ⟨?_, rfl⟩
  by_cases h1 : 1 < zs.length
  · simp [h1]; omega
  · simp [h1]; omega

theorem l2Body_any (v : Value) (zs : List Int) (w : World) (h : RdI w v zs) (hl : 2 ≤ zs.length ∧ zs.length ≤ 1000000) :
    Calls Try.prog 49 #[v] w fun e w' => ∃ u, e = .returned u ∧ OwnI w' w.heap.size w'.heap.size u (inside zs) ∧ Below w.heap.size w w' := by
  obtain ⟨A, c, rfl, hi, hc⟩ := h
  obtain ⟨b, off, rfl, hb, hcc⟩ := hi.at_ (by omega)
  have hil : (inside zs).length = zs.length - 1 - 1 := by unfold inside; simp; omega
  have hin : RdI w (.slice (some ⟨b, off + 1, none⟩) (inside zs).length (c - 1)) (inside zs) := by
    have h1 := hi.sub 1 (zs.length - 2) (by omega)
    refine ⟨_, _, rfl, ?_, by omega⟩
    have he : (zs.drop 1).take (zs.length - 2) = inside zs := by
      unfold inside; rcases zs with _ | ⟨z, zs⟩
      · simp
      · simp
    rw [he] at h1
    exact h1
  have L1 : OwnI (w.alloc (.cells #[] 3)) w.heap.size (w.heap.size + 1) (.slice (some ⟨w.heap.size, 0, none⟩) 0 0) [] := by simpa using lits_own w [] (by simp) (by simp)
  have Hbl : Below w.heap.size w (w.alloc (.cells #[] 3)) := (Below.refl _ _).alloc (Nat.le_refl _) _
  have Y := Lib.hid (And.intro (RdI.step hin Hbl) (And.intro L1 Hbl))
  clear L1 Hbl hi hin hcc
  rw [hil] at Y
  go_enter Try.func49, Try.ntmps49
  go_wp2_with (at_builtin; go_loud (refine wpList_append_V rfl _ _ _ rfl Try.underlying23 intInfo w.heap.size (w.heap.size + 1) _ [] rfl Y.out.2.1 (by simp) _ (inside zs) rfl Y.out.1 (by simp; omega) ?_))
  intro v2 w2 ho2 hb2
  have Z := Lib.hid (And.intro ho2 (Y.out.2.2.trans hb2)); clear ho2 hb2 Y
  go_wp2
  go_ret
  exact ⟨_, rfl, Z.out.1, Z.out.2⟩

theorem l2Reckon_any (z a b : Int) (w : World) (hz : 1006 ≤ z ∧ z ≤ 1009) (ha : 0 ≤ a ∧ a ≤ 999) (hb : 0 ≤ b ∧ b ≤ 999) :
    Calls Try.prog 51 #[.int .i64 z, .int .i64 a, .int .i64 b] w fun e w' => e = .returned (.int .i64 (reck z a b)) ∧ w = w' := by
  have hm : 0 ≤ a * b ∧ a * b ≤ 998001 := by
    refine ⟨Int.mul_nonneg ha.1 hb.1, ?_⟩
    have : a * b ≤ 999 * 999 := Int.mul_le_mul ha.2 hb.2 hb.1 (by omega)
    omega
  obtain ⟨hm1, hm2⟩ := hm
  by_cases h1 : z = 1006
  · subst h1
    go_enter Try.func51, Try.ntmps51
    go_wp2
    go_ret
    exact ⟨ret_i64 (by simp [reck] <;> (try (rw [show a - b + 999 + 1 = a - b + 1000 by omega]; simp))), rfl⟩
  · by_cases h2 : z = 1007
    · subst h2
      go_enter Try.func51, Try.ntmps51
      go_wp2
      go_ret
      exact ⟨ret_i64 (by simp [reck] <;> (try (rw [show a - b + 999 + 1 = a - b + 1000 by omega]; simp))), rfl⟩
    · by_cases h3 : z = 1008
      · subst h3
        go_enter Try.func51, Try.ntmps51
        go_wp2
        go_ret
        exact ⟨ret_i64 (by simp [reck] <;> (try (rw [show a - b + 999 + 1 = a - b + 1000 by omega]; simp))), rfl⟩
      · have e1 : (z == 1006) = false := by simpa using h1
        have e2 : (z == 1007) = false := by simpa using h2
        have e3 : (z == 1008) = false := by simpa using h3
        have hR : reck z a b = if a < b then 1 else 0 := by simp [reck, h1, h2, h3]
        have HR := Lib.hid hR
        clear h1 h2 h3 hR
        by_cases hlt : a < b
        all_goals
          go_enter Try.func51, Try.ntmps51
          go_wp2
          go_ret
          exact ⟨ret_i64 (by rw [HR.out]; simp [hlt]), rfl⟩

end Go.Proofs.Ytenaeiedoiepdaa
