/- What the laws of runs draw: stacks of numbers, a program with a stack it can mostly be done on; append(s, t...) of rows that are only read. -/
import Derived.Test.YtceekfoacgoalaaB6
import Derived.Test.YtceekfoacgoalaaSc
import Derived.Test.YtceekfoacgoalaaBe
import Derived.Test.YtceekfoacgoalaaGd3
import Derived.Test.YtceekfoacgoalaaGd7
namespace Go.Proofs.Ytceekfoacgoalaa
set_option maxRecDepth 100000
open Go.RowKit Go.WideShapes

theorem rows_list {w : World} {b off : Nat} {yss : List (List Int)} {R : Value → List Int → Prop} (h : ∀ (j : Nat) ys, yss[j]? = some ys → ∃ q, w.cell? ⟨b, off + j, none⟩ = some q ∧ R q ys) :
    ∃ us : List Value, us.length = yss.length ∧ ∀ (j : Nat) q ys, us[j]? = some q → yss[j]? = some ys → w.cell? ⟨b, off + j, none⟩ = some q ∧ R q ys := by
  refine ⟨List.ofFn (fun j : Fin yss.length => Classical.choose (h j.1 yss[j] (List.getElem?_eq_getElem j.2))), by simp, fun j q ys hq hy => ?_⟩
  have hj : j < yss.length := by
    rcases Nat.lt_or_ge j yss.length with h | h
    · exact h
    · rw [List.getElem?_eq_none h] at hy; cases hy
  rw [List.getElem?_ofFn, dif_pos hj] at hq
  have e1 : yss[j] = ys := by rw [List.getElem?_eq_getElem hj] at hy; exact Option.some.inj hy
  have e2 := Option.some.inj hq
  have h3 := Classical.choose_spec (h j yss[j] (List.getElem?_eq_getElem hj))
  subst e1
  rw [← e2]
  exact h3
/-- A row that is read, not in the block that grows. -/
theorem RdI.grown {w w' : World} {v : Value} {zs : List Int} {row : Option Nat} (h : RdI w v zs) (hg : w.grownBy w' row) (hne : zs = [] ∨ v.ownBlock = none ∨ v.ownBlock ≠ row) : RdI w' v zs := by
  obtain ⟨A, c, rfl, ⟨hl, hwf, hat⟩, hc⟩ := h
  refine ⟨A, c, rfl, ⟨hl, hwf, fun h0 => ?_⟩, hc⟩
  obtain ⟨b, off, rfl, hb, hcc⟩ := hat h0
  have hne2 : some b ≠ row := by
    rcases hne with h | h | h
    · subst h; simp at h0
    · cases h
    · exact h
  refine ⟨b, off, rfl, Nat.lt_of_lt_of_le hb hg.size, fun j hj => ?_⟩
  rw [← hcc j hj]
  exact cell_of_block (hg.block b hb hne2) _
def Apart (lo : Nat) (w : World) (row : Option Nat) (q : Value) (zs : List Int) : Prop := RdG lo w q zs ∧ (zs = [] ∨ q.ownBlock = none ∨ q.ownBlock ≠ row) ∧ q.oneCell' = true

theorem wpList_append_rows {P : Program} {w : World} {ops : Array Oper} {rest : List Oper} {o : Oper} {a : Act} {Q : Exit → Act → World → Prop} (hgd : o.guard = none) (s x : Operand) (t : TypeId)
    (ho : o.op = .call { callee := .builtin .append, args := #[s, x], argTypes := #[t, t] })
    (ht : P.underlying t = some (.slice 23)) (hinfo : (P.info? 23).map (fun i => (i.zero, i.size, i.bytes)) = some (some (.slice none 0 0), 1, 24))
    (l2 lo : Nat) (hl2o : l2 ≤ lo) (v : Value) (vs : List Value) (zss : List (List Int)) (hs : a.eval s = v) (hlo : lo ≤ w.heap.size) (hvl : vs.length = zss.length) (hrow : w.ownsRow lo 23 1 v zss.length vs)
    (hv : ∀ (j : Nat) q zs, vs[j]? = some q → zss[j]? = some zs → Apart l2 w v.ownBlock q zs)
    (A : Option Addr) (c : Nat) (yss : List (List Int)) (hx : a.eval x = .slice A yss.length c) (hlen : zss.length + yss.length ≤ 1000000)
    (hu : 0 < yss.length → ∃ b off, A = some ⟨b, off, none⟩ ∧ ∀ (j : Nat) ys, yss[j]? = some ys → ∃ q, w.cell? ⟨b, off + j, none⟩ = some q ∧ Apart l2 w v.ownBlock q ys)
    (h : ∀ v' w', RdGS l2 w' v' (zss ++ yss) → w.grownBy w' v.ownBlock → wpList P ops Q rest (a.put o.dst v') w') : wpList P ops Q (o :: rest) a w := by
  obtain ⟨i0, hi0, hz0, hz1, hz2⟩ := info_parts hinfo
  have hrun : ∃ v' w' us, us.length = yss.length ∧ (∀ (j : Nat) q ys, us[j]? = some q → yss[j]? = some ys → Apart l2 w v.ownBlock q ys) ∧ (Builtin.append_ #[t, t] o.type #[v, .slice A yss.length c]).run P w = .ok v' w' ∧ w'.ownsRow lo 23 1 v' (zss.length + yss.length) (vs ++ us) ∧ w.grownBy w' v.ownBlock := by
    by_cases hy : yss.length = 0
    · have hyn : yss = [] := List.eq_nil_of_length_eq_zero hy
      subst hyn
      rcases A with _ | ad
      · exact ⟨v, w, [], rfl, by simp, run_append_none w lo t o.type 23 i0 1 ht hi0 v _ _ hrow c, by simpa using hrow, World.grownBy.refl w _⟩
      · obtain ⟨v', w', hr1, h2, h3, _, h5⟩ := run_append_own_at (P := P) w lo t o.type 23 i0 (.slice none 0 0) 1 24 ht hi0 hz0 hz1 hz2 rfl (by omega) v _ vs hrow ad 0 c [] (by simp) (by simp) (by simp) (by simp [maxLen]; simp at hlen; omega) (by simp at hlen; omega) hlo
        exact ⟨v', w', [], rfl, by simp, hr1, by simpa using h2, h3⟩
    · obtain ⟨b, off, rfl, hc⟩ := hu (by omega)
      obtain ⟨us, hul, hus⟩ := rows_list hc
      have hlt : ∀ (j : Nat) q, us[j]? = some q → ∃ ys, yss[j]? = some ys := by
        intro j q hq
        have hj : j < us.length := by
          rcases Nat.lt_or_ge j us.length with h | h
          · exact h
          · rw [List.getElem?_eq_none h] at hq; cases hq
        exact ⟨yss[j]'(by omega), List.getElem?_eq_getElem (by omega)⟩
      obtain ⟨v', w', hr1, h2, h3, _, h5⟩ := run_append_own_at (P := P) w lo t o.type 23 i0 (.slice none 0 0) 1 24 ht hi0 hz0 hz1 hz2 rfl (by omega) v zss.length vs hrow ⟨b, off, none⟩ yss.length c us (by omega) (by
        intro j q hq
        obtain ⟨ys, hy⟩ := hlt j q hq
        rw [add_plain]
        exact (hus j q ys hq hy).1) (by
        intro q hq
        obtain ⟨j, hj⟩ := List.mem_iff_getElem?.1 hq
        obtain ⟨ys, hy⟩ := hlt j q hj
        exact (hus j q ys hj hy).2.2.2) (by simp only [maxLen]; omega) (by omega) hlo
      exact ⟨v', w', us, hul, fun j q ys hq hy => (hus j q ys hq hy).2, hr1, h2, h3⟩
  obtain ⟨v', w', us, hul, hus, hr1, h2, h3⟩ := hrun
  refine wpList_plain hgd fun K hK => ?_
  unfold Oper.wp execOp
  simp only [ho, resolve, invoke, builtin, Sem.run_bind, Sem.run_pure, Result.andThen_ok, List.map_toArray, List.map_cons, List.map_nil, hs, hx, hr1]
  refine hK _ _ (h v' w' ?_ h3)
  have hl : (zss ++ yss).length = zss.length + yss.length := by simp
  have hl2 : (vs ++ us).length = zss.length + yss.length := by simp; omega
  rcases h2.2 with ⟨h0, h1⟩ | ⟨b, cap, cur, h0, hb, hh, h1, _⟩
  · subst h0
    exact ⟨none, 0, by rw [hl]; congr 1; omega, by omega, fun h => by omega⟩
  · subst h0
    refine ⟨some ⟨b, 0, none⟩, cap, by rw [hl], by omega, fun _ => ⟨b, 0, rfl, (h2.lt b rfl).2, Nat.le_trans hl2o hb, fun j y hy => ?_⟩⟩
    have hj : j < (zss ++ yss).length := by
      rcases Nat.lt_or_ge j (zss ++ yss).length with h | h
      · exact h
      · rw [List.getElem?_eq_none h] at hy; cases hy
    obtain ⟨q, hq⟩ : ∃ q, (vs ++ us)[j]? = some q := ⟨(vs ++ us)[j]'(by omega), List.getElem?_eq_getElem (by omega)⟩
    have hcell := h2.cells (g := b) rfl j q hq
    rw [add_plain] at hcell
    refine ⟨q, hcell, ?_⟩
    have hap : Apart l2 w v.ownBlock q y := by
      by_cases hjn : j < zss.length
      · rw [List.getElem?_append_left hjn] at hy
        rw [List.getElem?_append_left (by omega)] at hq
        exact hv j q y hq hy
      · rw [List.getElem?_append_right (by omega)] at hy
        rw [List.getElem?_append_right (by omega), hvl] at hq
        exact hus _ q y hq hy
    exact ⟨hap.1.1.grown h3 hap.2.1, hap.1.2⟩
theorem Apart.weak {lo lo' : Nat} {w : World} {row : Option Nat} {q : Value} {zs : List Int} (h : Apart lo' w row q zs) (hl : lo ≤ lo') : Apart lo w row q zs := ⟨h.1.weak hl, h.2⟩
/-- The rows of a stack of the call's own, apart from its array. -/
theorem OwnVs.apart_rows {lo hi : Nat} {w : World} {v : Value} {vs : List Value} {zss : List (List Int)} (h : OwnVs w lo hi v vs zss) (j : Nat) (q : Value) (zs : List Int) (hq : vs[j]? = some q) (hz : zss[j]? = some zs) : Apart lo w v.ownBlock q zs := by
  have hi1 := h.inner j q zs hq hz
  refine ⟨hi1.rdG, ?_, ?_⟩
  · refine .inr ?_
    rcases e : q.ownBlock with _ | k
    · exact .inl rfl
    · refine .inr ?_
      rcases h.inner_ne hq hz with h | h
      · rw [h]; simp
      · rw [← e]; exact fun e2 => h e2.symm
  · obtain ⟨A, c, rfl, _⟩ := hi1.rd; rfl
theorem RdGS.apart_rows {l2 hi : Nat} {w : World} {A : Option Addr} {c : Nat} {row : Option Nat} {yss : List (List Int)} (h : RdGS hi w (.slice A yss.length c) yss) (hr : ∀ k, row = some k → k < hi) (hl : l2 ≤ hi) : 0 < yss.length → ∃ b off, A = some ⟨b, off, none⟩ ∧ ∀ (j : Nat) ys, yss[j]? = some ys → ∃ q, w.cell? ⟨b, off + j, none⟩ = some q ∧ Apart l2 w row q ys := by
  intro h0
  obtain ⟨A', c', e, -, h⟩ := h
  cases e
  obtain ⟨b, off, rfl, -, -, hc⟩ := h h0
  refine ⟨b, off, rfl, fun j ys hy => ?_⟩
  obtain ⟨q, h1, h2⟩ := hc j ys hy
  refine ⟨q, h1, h2.weak hl, ?_, ?_⟩
  · refine .inr ?_
    rcases e : q.ownBlock with _ | k
    · exact .inl rfl
    · refine .inr fun e2 => ?_
      have h3 := h2.2 k e
      have h4 := hr k e2.symm
      omega
  · obtain ⟨A, c, rfl, _⟩ := h2.1; rfl
/-- A row of before is apart from a block that was made since. -/
theorem RdBI.apart_old {w w' : World} {B g : Nat} {q : Value} {zs : List Int} (h : RdBI w B q zs) (hr : RdI w' q zs) (hB : B ≤ g) : Apart 0 w' (some g) q zs := by
  refine ⟨⟨hr, fun k _ => Nat.zero_le _⟩, ?_, ?_⟩
  · obtain ⟨A, c, rfl, hi, _⟩ := h
    by_cases h0 : 0 < zs.length
    · obtain ⟨b, off, rfl, hb, _⟩ := hi.at_ h0
      refine .inr (.inr fun e => ?_)
      have : b = g := Option.some.inj e
      omega
    · exact .inl (List.eq_nil_of_length_eq_zero (by omega))
  · obtain ⟨A, c, rfl, _⟩ := hr; rfl
end Go.Proofs.Ytceekfoacgoalaa
namespace Go.Proofs.Ytceekfoacgoalaa
set_option maxRecDepth 100000
open Go.RowKit Go.WideShapes

end Go.Proofs.Ytceekfoacgoalaa
namespace Go.Proofs.Ytceekfoacgoalaa
set_option maxRecDepth 100000
open Go.RowKit Go.WideShapes

/-- A drawn program and a drawn stack. -/
def RunPost (w0 : World) (g p : Nat) (bs : List Int) (w : World) (e : Ending) (w' : World) : Prop :=
  ∃ v zs u zss p', e = .returned (.tuple #[v, u]) ∧ RdG w.heap.size w' v zs ∧ zs.length ≤ 61 ∧ RdGS w.heap.size w' u zss ∧ zss.length ≤ 26 ∧ (∀ ys ∈ zss, ys.length ≤ 200) ∧ RS w0 w' g bs p' ∧ p' ≤ p + 60000 ∧ Within g (g + 1) w w'
theorem RdG.mk2 {lo : Nat} {w : World} {v : Value} {zs : List Int} (h : RdI w v zs) (hk : ∀ k, v.ownBlock = some k → lo ≤ k) : RdG lo w v zs := ⟨h, hk⟩
theorem lens_append {xss yss : List (List Int)} (h : ∀ zs ∈ xss, zs.length ≤ 200) (hy : ∀ zs ∈ yss, zs.length ≤ 200) : ∀ zs ∈ xss ++ yss, zs.length ≤ 200 := by
  intro zs hz
  rcases List.mem_append.1 hz with h1 | h1
  · exact h zs h1
  · exact hy zs h1

def DrawnR (w : World) (e : Ending) (w' : World) : Prop := ∃ v zs u zss, e = .returned (.tuple #[v, u]) ∧ RdG w.heap.size w' v zs ∧ zs.length ≤ 61 ∧ RdGS w.heap.size w' u zss ∧ zss.length ≤ 26 ∧ (∀ ys ∈ zss, ys.length ≤ 200) ∧ Below w.heap.size w w'
def DrawnSO (w : World) (e : Ending) (w' : World) : Prop := ∃ v zs u ys s zss, e = .returned (.tuple #[v, u, s]) ∧ RdI w' v zs ∧ zs.length ≤ 70 ∧ RdI w' u ys ∧ ys.length ≤ 70 ∧ RdS w' s zss ∧ zss.length ≤ 26 ∧ (∀ ys ∈ zss, ys.length ≤ 200) ∧ Below w.heap.size w w'
end Go.Proofs.Ytceekfoacgoalaa
