/- Rows of rows: the outer row of the call's own, the inner ones only read; append, and a store. -/
import Derived.Test.YtceekfoacgoalaaDr
import Derived.Test.YtceekfoacgoalaaQa
namespace Go.Proofs.Ytceekfoacgoalaa
set_option maxRecDepth 100000
open Go.RowKit Go.WideShapes

def OwnQ (w : World) (lo hi : Nat) (v : Value) (zss : List (List Int)) : Prop := ∃ vs, vs.length = zss.length ∧ w.ownsRow lo 23 1 v zss.length vs ∧ (∀ g, v.ownBlock = some g → g < hi) ∧ ∀ (j : Nat) q zs, vs[j]? = some q → zss[j]? = some zs → Apart 0 w v.ownBlock q zs
theorem OwnQ.below {w w' : World} {lo hi : Nat} {v : Value} {zss : List (List Int)} (h : OwnQ w lo hi v zss) (hb : Below w.heap.size w w') : OwnQ w' lo hi v zss := by
  obtain ⟨vs, h1, h2, h3, h4⟩ := h
  exact ⟨vs, h1, ownsRow_keep h2 fun g hg => hb.block g (h2.lt g hg).2, h3, fun j q zs hq hz => ⟨(h4 j q zs hq hz).1.below hb, (h4 j q zs hq hz).2⟩⟩
theorem OwnQ.rd {w : World} {lo hi : Nat} {v : Value} {zss : List (List Int)} (h : OwnQ w lo hi v zss) (hn : zss.length ≤ 1000000) : RdS w v zss := by
  obtain ⟨vs, h1, h2, h3, h4⟩ := h
  rcases h2.2 with ⟨rfl, h0⟩ | ⟨b, cap, cur, rfl, hb, hh, hc, _⟩
  · exact ⟨none, 0, by rw [h0], by omega, fun h => by omega⟩
  · refine ⟨some ⟨b, 0, none⟩, cap, rfl, by omega, fun _ => ⟨b, 0, rfl, (h2.lt b rfl).2, fun j y hy => ?_⟩⟩
    have hj : j < zss.length := (List.getElem?_eq_some_iff.1 hy).1
    have hq : vs[j]? = some (vs[j]'(by omega)) := List.getElem?_eq_getElem (by omega)
    have hcell := h2.cells (g := b) rfl j _ hq
    rw [add_plain] at hcell
    exact ⟨_, hcell, (h4 j _ y hq hy).1.1⟩
theorem Apart.lt0 {w : World} {row : Option Nat} {q : Value} {zs : List Int} (h : Apart 0 w row q zs) : zs = [] ∨ q.ownBlock = none ∨ ∃ k, q.ownBlock = some k ∧ k < w.heap.size := by
  obtain ⟨⟨⟨A, c, rfl, hi, _⟩, _⟩, _⟩ := h
  by_cases h0 : 0 < zs.length
  · obtain ⟨b, off, rfl, hb, _⟩ := hi.at_ h0
    exact .inr (.inr ⟨b, rfl, hb⟩)
  · exact .inl (List.eq_nil_of_length_eq_zero (by omega))
theorem wpList_append_rowsQ {P : Program} {w : World} {ops : Array Oper} {rest : List Oper} {o : Oper} {a : Act} {Q : Exit → Act → World → Prop} (hgd : o.guard = none) (s x : Operand) (t : TypeId)
    (ho : o.op = .call { callee := .builtin .append, args := #[s, x], argTypes := #[t, t] })
    (ht : P.underlying t = some (.slice 23)) (hinfo : (P.info? 23).map (fun i => (i.zero, i.size, i.bytes)) = some (some (.slice none 0 0), 1, 24))
    (lo hi : Nat) (v : Value) (zss : List (List Int)) (hs : a.eval s = v) (hlo : lo ≤ w.heap.size) (hown : OwnQ w lo hi v zss)
    (A : Option Addr) (c : Nat) (yss : List (List Int)) (hx : a.eval x = .slice A yss.length c) (hlen : zss.length + yss.length ≤ 1000000)
    (hu : 0 < yss.length → ∃ b off, A = some ⟨b, off, none⟩ ∧ ∀ (j : Nat) ys, yss[j]? = some ys → ∃ q, w.cell? ⟨b, off + j, none⟩ = some q ∧ Apart 0 w v.ownBlock q ys)
    (h : ∀ v' w', OwnQ w' lo w'.heap.size v' (zss ++ yss) → Below lo w w' → wpList P ops Q rest (a.put o.dst v') w') : wpList P ops Q (o :: rest) a w := by
  obtain ⟨vs, hvl, hrow, hhi, hv⟩ := hown
  obtain ⟨i0, hi0, hz0, hz1, hz2⟩ := info_parts hinfo
  have hrun : ∃ v' w' us, us.length = yss.length ∧ (∀ (j : Nat) q ys, us[j]? = some q → yss[j]? = some ys → Apart 0 w v.ownBlock q ys) ∧ (Builtin.append_ #[t, t] o.type #[v, .slice A yss.length c]).run P w = .ok v' w' ∧ w'.ownsRow lo 23 1 v' (zss.length + yss.length) (vs ++ us) ∧ w.grownBy w' v.ownBlock ∧ (v'.ownBlock = v.ownBlock ∨ v'.ownBlock = some w.heap.size) := by
    by_cases hy : yss.length = 0
    · have hyn : yss = [] := List.eq_nil_of_length_eq_zero hy
      subst hyn
      rcases A with _ | ad
      · exact ⟨v, w, [], rfl, by simp, run_append_none w lo t o.type 23 i0 1 ht hi0 v _ _ hrow c, by simpa using hrow, World.grownBy.refl w _, .inl rfl⟩
      · obtain ⟨v', w', hr1, h2, h3, _, h5⟩ := run_append_own_at (P := P) w lo t o.type 23 i0 (.slice none 0 0) 1 24 ht hi0 hz0 hz1 hz2 rfl (by omega) v _ vs hrow ad 0 c [] (by simp) (by simp) (by simp) (by simp [maxLen]; simp at hlen; omega) (by simp at hlen; omega) hlo
        exact ⟨v', w', [], rfl, by simp, hr1, by simpa using h2, h3, h5⟩
    · obtain ⟨b, off, rfl, hc⟩ := hu (by omega)
      obtain ⟨us, hul, hus⟩ := rows_list hc
      have hlt : ∀ (j : Nat) q, us[j]? = some q → ∃ ys, yss[j]? = some ys := by
        intro j q hq
        have hj : j < us.length := (List.getElem?_eq_some_iff.1 hq).1
        exact ⟨yss[j]'(by omega), List.getElem?_eq_getElem (by omega)⟩
      obtain ⟨v', w', hr1, h2, h3, _, h5⟩ := run_append_own_at (P := P) w lo t o.type 23 i0 (.slice none 0 0) 1 24 ht hi0 hz0 hz1 hz2 rfl (by omega) v zss.length vs hrow ⟨b, off, none⟩ yss.length c us (by omega) (by
        intro j q hq
        obtain ⟨ys, hy⟩ := hlt j q hq
        rw [add_plain]
        exact (hus j q ys hq hy).1) (by
        intro q hq
        obtain ⟨j, hj⟩ := List.mem_iff_getElem?.1 hq
        obtain ⟨ys, hy⟩ := hlt j q hj
        exact (hus j q ys hj hy).2.2.2) (by simp only [maxLen]; omega) (by omega) hlo
      exact ⟨v', w', us, hul, fun j q ys hq hy => (hus j q ys hq hy).2, hr1, h2, h3, h5⟩
  obtain ⟨v', w', us, hul, hus, hr1, h2, h3, h5⟩ := hrun
  refine wpList_plain hgd fun K hK => ?_
  unfold Oper.wp execOp
  simp only [ho, resolve, invoke, builtin, Sem.run_bind, Sem.run_pure, Result.andThen_ok, List.map_toArray, List.map_cons, List.map_nil, hs, hx, hr1]
  refine hK _ _ (h v' w' ⟨vs ++ us, by simp; omega, by simpa using h2, fun g hg => (h2.lt g hg).2, fun j q y hq hy => ?_⟩ (below_of_only h3 hlo fun g hg => (hrow.lt g hg).1))
  have hap : Apart 0 w v.ownBlock q y := by
    by_cases hjn : j < zss.length
    · rw [List.getElem?_append_left hjn] at hy
      rw [List.getElem?_append_left (by omega)] at hq
      exact hv j q y hq hy
    · rw [List.getElem?_append_right (by omega)] at hy
      rw [List.getElem?_append_right (by omega), hvl] at hq
      exact hus _ q y hq hy
  refine ⟨⟨hap.1.1.grown h3 hap.2.1, hap.1.2⟩, ?_, hap.2.2⟩
  rcases h5 with h5 | h5
  · rw [h5]; exact hap.2.1
  · rw [h5]
    rcases hap.lt0 with h6 | h6 | ⟨k, h6, h7⟩
    · exact .inl h6
    · exact .inr (.inl h6)
    · exact .inr (.inr (fun e => by rw [h6] at e; have := Option.some.inj e; omega))
theorem OwnQ.set {w : World} {lo hi g cap : Nat} {zss : List (List Int)} {u : Value} {zs : List Int} {k : Nat} (h : OwnQ w lo hi (.slice (some ⟨g, 0, none⟩) zss.length cap) zss) (hu : Apart 0 w (some g) u zs) (_hk : k < zss.length) :
    OwnQ (w.setCell ⟨g, k, none⟩ u) lo hi (.slice (some ⟨g, 0, none⟩) (zss.set k zs).length cap) (zss.set k zs) ∧ Below lo w (w.setCell ⟨g, k, none⟩ u) := by
  obtain ⟨vs, h1, h2, h3, h4⟩ := h
  obtain ⟨hst, hgr⟩ := h2.stored k u
  have hlo := (h2.lt g rfl).1
  refine ⟨⟨vs.set k u, by simp [h1], by rw [List.length_set]; exact hst, h3, fun i q ys hq hy => ?_⟩, (Below.refl lo w).setCell hlo _⟩
  rw [List.getElem?_set] at hq hy
  by_cases hi : k = i
  · subst hi
    rw [if_pos rfl] at hq hy
    split at hq
    · rw [if_pos (by omega)] at hy
      cases hq; cases hy
      exact ⟨⟨hu.1.1.grown hgr hu.2.1, hu.1.2⟩, hu.2⟩
    · cases hq
  · rw [if_neg hi] at hq hy
    have ha := h4 i q ys hq hy
    exact ⟨⟨ha.1.1.grown hgr ha.2.1, ha.1.2⟩, ha.2⟩
theorem OwnQ.nil (w : World) (g : Nat) (h : Blk w g #[] 23) : OwnQ w g (g + 1) (.slice (some ⟨g, 0, none⟩) 0 0) [] :=
  ⟨[], rfl, ⟨rfl, .inr ⟨g, 0, #[], rfl, Nat.le_refl _, h, by simp, by simp, by simp, rfl⟩⟩, fun k hk => by simp [Value.ownBlock] at hk; omega, by simp⟩
/-- What the letters stand for, as the model keeps it: by 2n and 2n + 1. -/
def rowOf (o : Option Ty) : List Int := match o with | some T => T.nums | none => []
def Rep (σ : Sbt) (zss : List (List Int)) : Prop := ∀ n : Nat, zss.getD (2 * n) [] = rowOf (σ (1, n)) ∧ zss.getD (2 * n + 1) [] = rowOf (σ (3, n))
theorem Rep.none : Rep (fun _ => Option.none) [] := fun n => by simp [rowOf]
def padTo (zss : List (List Int)) (L : Nat) : List (List Int) := zss ++ List.replicate (L + 1 - zss.length) []
theorem padTo_get (zss : List (List Int)) (L j : Nat) : (padTo zss L).getD j [] = zss.getD j [] := by
  unfold padTo
  simp only [List.getD]
  by_cases h : j < zss.length
  · rw [List.getElem?_append_left h]
  · rw [List.getElem?_append_right (by omega), List.getElem?_eq_none (l := zss) (by omega), List.getElem?_replicate]
    split <;> rfl
theorem padTo_len (zss : List (List Int)) (L : Nat) : (padTo zss L).length = max zss.length (L + 1) := by unfold padTo; simp; omega
theorem set_get (xs : List (List Int)) (L j : Nat) (y : List Int) (h : L < xs.length) : (xs.set L y).getD j [] = if j = L then y else xs.getD j [] := by
  simp only [List.getD, List.getElem?_set]
  by_cases e : L = j
  · subst e; simp [h]
  · rw [if_neg e, if_neg (fun h => e h.symm)]
theorem Rep.set1 {σ : Sbt} {zss : List (List Int)} (h : Rep σ zss) (n : Nat) (T : Ty) : Rep (σ.set (1, n) T) ((padTo zss (2 * n)).set (2 * n) T.nums) := by
  intro m
  have hl : 2 * n < (padTo zss (2 * n)).length := by rw [padTo_len]; omega
  have e1 := set_get (padTo zss (2 * n)) (2 * n) (2 * m) T.nums hl
  have e2 := set_get (padTo zss (2 * n)) (2 * n) (2 * m + 1) T.nums hl
  rw [padTo_get] at e1 e2
  have hne : m ≠ n → ((1 : Int), (m : Int)) ≠ (1, (n : Int)) := fun h1 h2 => by injection h2 with _ h2; omega
  have hno : ((3 : Int), (m : Int)) ≠ (1, (n : Int)) := fun h2 => by injection h2 with h2 _; omega
  refine ⟨?_, ?_⟩
  · rw [e1, (h m).1]
    by_cases e : m = n
    · subst e; rw [if_pos rfl]; simp [Sbt.set, rowOf]
    · rw [if_neg (by omega)]; unfold Sbt.set; rw [if_neg (hne e)]
  · rw [e2, (h m).2, if_neg (by omega)]; unfold Sbt.set; rw [if_neg hno]
theorem Rep.set3 {σ : Sbt} {zss : List (List Int)} (h : Rep σ zss) (n : Nat) (T : Ty) : Rep (σ.set (3, n) T) ((padTo zss (2 * n + 1)).set (2 * n + 1) T.nums) := by
  intro m
  have hl : 2 * n + 1 < (padTo zss (2 * n + 1)).length := by rw [padTo_len]; omega
  have e1 := set_get (padTo zss (2 * n + 1)) (2 * n + 1) (2 * m) T.nums hl
  have e2 := set_get (padTo zss (2 * n + 1)) (2 * n + 1) (2 * m + 1) T.nums hl
  rw [padTo_get] at e1 e2
  have hne : m ≠ n → ((3 : Int), (m : Int)) ≠ (3, (n : Int)) := fun h1 h2 => by injection h2 with _ h2; omega
  have hno : ((1 : Int), (m : Int)) ≠ (3, (n : Int)) := fun h2 => by injection h2 with h2 _; omega
  refine ⟨?_, ?_⟩
  · rw [e1, (h m).1, if_neg (by omega)]; unfold Sbt.set; rw [if_neg hno]
  · rw [e2, (h m).2]
    by_cases e : m = n
    · subst e; rw [if_pos rfl]; simp [Sbt.set, rowOf]
    · rw [if_neg (by omega)]; unfold Sbt.set; rw [if_neg (hne e)]
end Go.Proofs.Ytceekfoacgoalaa
