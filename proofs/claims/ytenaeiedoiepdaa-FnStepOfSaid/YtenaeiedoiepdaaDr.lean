/- What the laws of runs draw: stacks of numbers, a program with a stack it can mostly be done on; append(s, t...) of rows that are only read. -/
import Derived.Test.YtenaeiedoiepdaaB6
import Derived.Test.YtenaeiedoiepdaaSc
import Derived.Test.YtenaeiedoiepdaaBe
import Derived.Test.YtenaeiedoiepdaaGd3
import Derived.Test.YtenaeiedoiepdaaGd7
namespace Go.Proofs.Ytenaeiedoiepdaa
set_option maxRecDepth 100000
open Go.RowKit Go.WideShapes

theorem rows_list {w : World} {b off : Nat} {yss : List (List Int)} {R : Value → List Int → Prop} (h : ∀ (j : Nat) ys, yss[j]? = some ys → ∃ q, w.cell? ⟨b, off + j, none⟩ = some q ∧ R q ys) :
    ∃ us : List Value, us.length = yss.length ∧ ∀ (j : Nat) q ys, us[j]? = some q → yss[j]? = some ys → w.cell? ⟨b, off + j, none⟩ = some q ∧ R q ys := by
  refine ⟨List.ofFn (fun j : Fin yss.length => Classical.choose (h j.1 yss[j] (List.getElem?_eq_getElem j.2))), by simp, fun j q ys hq hy => ?_⟩
  have hj : j < yss.length := by
    rcases Nat.lt_or_ge j yss.length with h | h
    · exact h
    · rw [List.getElem?_eq_none h] at hy; cases hy
  rw [List.getElem?_ofFn, dif_pos hj] at hq
  have e1 : yss[j] = ys := by rw [List.getElem?_eq_getElem hj] at hy; exact Option.some.inj hy
  have e2 := Option.some.inj hq
  have h3 := Classical.choose_spec (h j yss[j] (List.getElem?_eq_getElem hj))
  subst e1
  rw [← e2]
  exact h3
/-- A row that is read, not in the block that grows. -/
theorem RdI.grown {w w' : World} {v : Value} {zs : List Int} {row : Option Nat} (h : RdI w v zs) (hg : w.grownBy w' row) (hne : zs = [] ∨ v.ownBlock = none ∨ v.ownBlock ≠ row) : RdI w' v zs := by
  obtain ⟨A, c, rfl, ⟨hl, hwf, hat⟩, hc⟩ := h
  refine ⟨A, c, rfl, ⟨hl, hwf, fun h0 => ?_⟩, hc⟩
  obtain ⟨b, off, rfl, hb, hcc⟩ := hat h0
  have hne2 : some b ≠ row := by
    rcases hne with h | h | h
    · subst h; simp at h0
    · cases h
    · exact h
  refine ⟨b, off, rfl, Nat.lt_of_lt_of_le hb hg.size, fun j hj => ?_⟩
  rw [← hcc j hj]
  exact cell_of_block (hg.block b hb hne2) _
def Apart (lo : Nat) (w : World) (row : Option Nat) (q : Value) (zs : List Int) : Prop := RdG lo w q zs ∧ (zs = [] ∨ q.ownBlock = none ∨ q.ownBlock ≠ row) ∧ q.oneCell' = true

theorem wpList_append_rows {P : Program} {w : World} {ops : Array Oper} {rest : List Oper} {o : Oper} {a : Act} {Q : Exit → Act → World → Prop} (hgd : o.guard = none) (s x : Operand) (t : TypeId)
    (ho : o.op = .call { callee := .builtin .append, args := #[s, x], argTypes := #[t, t] })
    (ht : P.underlying t = some (.slice 23)) (hinfo : (P.info? 23).map (fun i => (i.zero, i.size, i.bytes)) = some (some (.slice none 0 0), 1, 24))
    (l2 lo : Nat) (hl2o : l2 ≤ lo) (v : Value) (vs : List Value) (zss : List (List Int)) (hs : a.eval s = v) (hlo : lo ≤ w.heap.size) (hvl : vs.length = zss.length) (hrow : w.ownsRow lo 23 1 v zss.length vs)
    (hv : ∀ (j : Nat) q zs, vs[j]? = some q → zss[j]? = some zs → Apart l2 w v.ownBlock q zs)
    (A : Option Addr) (c : Nat) (yss : List (List Int)) (hx : a.eval x = .slice A yss.length c) (hlen : zss.length + yss.length ≤ 1000000)
    (hu : 0 < yss.length → ∃ b off, A = some ⟨b, off, none⟩ ∧ ∀ (j : Nat) ys, yss[j]? = some ys → ∃ q, w.cell? ⟨b, off + j, none⟩ = some q ∧ Apart l2 w v.ownBlock q ys)
    (h : ∀ v' w', RdGS l2 w' v' (zss ++ yss) → w.grownBy w' v.ownBlock → wpList P ops Q rest (a.put o.dst v') w') : wpList P ops Q (o :: rest) a w := by
  obtain ⟨i0, hi0, hz0, hz1, hz2⟩ := info_parts hinfo
  have hrun : ∃ v' w' us, us.length = yss.length ∧ (∀ (j : Nat) q ys, us[j]? = some q → yss[j]? = some ys → Apart l2 w v.ownBlock q ys) ∧ (Builtin.append_ #[t, t] o.type #[v, .slice A yss.length c]).run P w = .ok v' w' ∧ w'.ownsRow lo 23 1 v' (zss.length + yss.length) (vs ++ us) ∧ w.grownBy w' v.ownBlock := by
    by_cases hy : yss.length = 0
    · have hyn : yss = [] := List.eq_nil_of_length_eq_zero hy
      subst hyn
      rcases A with _ | ad
      · exact ⟨v, w, [], rfl, by simp, run_append_none w lo t o.type 23 i0 1 ht hi0 v _ _ hrow c, by simpa using hrow, World.grownBy.refl w _⟩
      · obtain ⟨v', w', hr1, h2, h3, _, h5⟩ := run_append_own_at (P := P) w lo t o.type 23 i0 (.slice none 0 0) 1 24 ht hi0 hz0 hz1 hz2 rfl (by omega) v _ vs hrow ad 0 c [] (by simp) (by simp) (by simp) (by simp [maxLen]; simp at hlen; omega) (by simp at hlen; omega) hlo
        exact ⟨v', w', [], rfl, by simp, hr1, by simpa using h2, h3⟩
    · obtain ⟨b, off, rfl, hc⟩ := hu (by omega)
      obtain ⟨us, hul, hus⟩ := rows_list hc
      have hlt : ∀ (j : Nat) q, us[j]? = some q → ∃ ys, yss[j]? = some ys := by
        intro j q hq
        have hj : j < us.length := by
          rcases Nat.lt_or_ge j us.length with h | h
          · exact h
          · rw [List.getElem?_eq_none h] at hq; cases hq
        exact ⟨yss[j]'(by omega), List.getElem?_eq_getElem (by omega)⟩
      obtain ⟨v', w', hr1, h2, h3, _, h5⟩ := run_append_own_at (P := P) w lo t o.type 23 i0 (.slice none 0 0) 1 24 ht hi0 hz0 hz1 hz2 rfl (by omega) v zss.length vs hrow ⟨b, off, none⟩ yss.length c us (by omega) (by
        intro j q hq
        obtain ⟨ys, hy⟩ := hlt j q hq
        rw [add_plain]
        exact (hus j q ys hq hy).1) (by
        intro q hq
        obtain ⟨j, hj⟩ := List.mem_iff_getElem?.1 hq
        obtain ⟨ys, hy⟩ := hlt j q hj
        exact (hus j q ys hj hy).2.2.2) (by simp only [maxLen]; omega) (by omega) hlo
      exact ⟨v', w', us, hul, fun j q ys hq hy => (hus j q ys hq hy).2, hr1, h2, h3⟩
  obtain ⟨v', w', us, hul, hus, hr1, h2, h3⟩ := hrun
  refine wpList_plain hgd fun K hK => ?_
  unfold Oper.wp execOp
  simp only [ho, resolve, invoke, builtin, Sem.run_bind, Sem.run_pure, Result.andThen_ok, List.map_toArray, List.map_cons, List.map_nil, hs, hx, hr1]
  refine hK _ _ (h v' w' ?_ h3)
  have hl : (zss ++ yss).length = zss.length + yss.length := by simp
  have hl2 : (vs ++ us).length = zss.length + yss.length := by simp; omega
  rcases h2.2 with ⟨h0, h1⟩ | ⟨b, cap, cur, h0, hb, hh, h1, _⟩
  · subst h0
    exact ⟨none, 0, by rw [hl]; congr 1; omega, by omega, fun h => by omega⟩
  · subst h0
    refine ⟨some ⟨b, 0, none⟩, cap, by rw [hl], by omega, fun _ => ⟨b, 0, rfl, (h2.lt b rfl).2, Nat.le_trans hl2o hb, fun j y hy => ?_⟩⟩
    have hj : j < (zss ++ yss).length := by
      rcases Nat.lt_or_ge j (zss ++ yss).length with h | h
      · exact h
      · rw [List.getElem?_eq_none h] at hy; cases hy
    obtain ⟨q, hq⟩ : ∃ q, (vs ++ us)[j]? = some q := ⟨(vs ++ us)[j]'(by omega), List.getElem?_eq_getElem (by omega)⟩
    have hcell := h2.cells (g := b) rfl j q hq
    rw [add_plain] at hcell
    refine ⟨q, hcell, ?_⟩
    have hap : Apart l2 w v.ownBlock q y := by
      by_cases hjn : j < zss.length
      · rw [List.getElem?_append_left hjn] at hy
        rw [List.getElem?_append_left (by omega)] at hq
        exact hv j q y hq hy
      · rw [List.getElem?_append_right (by omega)] at hy
        rw [List.getElem?_append_right (by omega), hvl] at hq
        exact hus _ q y hq hy
    exact ⟨hap.1.1.grown h3 hap.2.1, hap.1.2⟩
theorem Apart.weak {lo lo' : Nat} {w : World} {row : Option Nat} {q : Value} {zs : List Int} (h : Apart lo' w row q zs) (hl : lo ≤ lo') : Apart lo w row q zs := ⟨h.1.weak hl, h.2⟩
/-- The rows of a stack of the call's own, apart from its array. -/
theorem OwnVs.apart_rows {lo hi : Nat} {w : World} {v : Value} {vs : List Value} {zss : List (List Int)} (h : OwnVs w lo hi v vs zss) (j : Nat) (q : Value) (zs : List Int) (hq : vs[j]? = some q) (hz : zss[j]? = some zs) : Apart lo w v.ownBlock q zs := by
  have hi1 := h.inner j q zs hq hz
  refine ⟨hi1.rdG, ?_, ?_⟩
  · refine .inr ?_
    rcases e : q.ownBlock with _ | k
    · exact .inl rfl
    · refine .inr ?_
      rcases h.inner_ne hq hz with h | h
      · rw [h]; simp
      · rw [← e]; exact fun e2 => h e2.symm
  · obtain ⟨A, c, rfl, _⟩ := hi1.rd; rfl
theorem RdGS.apart_rows {l2 hi : Nat} {w : World} {A : Option Addr} {c : Nat} {row : Option Nat} {yss : List (List Int)} (h : RdGS hi w (.slice A yss.length c) yss) (hr : ∀ k, row = some k → k < hi) (hl : l2 ≤ hi) : 0 < yss.length → ∃ b off, A = some ⟨b, off, none⟩ ∧ ∀ (j : Nat) ys, yss[j]? = some ys → ∃ q, w.cell? ⟨b, off + j, none⟩ = some q ∧ Apart l2 w row q ys := by
  intro h0
  obtain ⟨A', c', e, -, h⟩ := h
  cases e
  obtain ⟨b, off, rfl, -, -, hc⟩ := h h0
  refine ⟨b, off, rfl, fun j ys hy => ?_⟩
  obtain ⟨q, h1, h2⟩ := hc j ys hy
  refine ⟨q, h1, h2.weak hl, ?_, ?_⟩
  · refine .inr ?_
    rcases e : q.ownBlock with _ | k
    · exact .inl rfl
    · refine .inr fun e2 => ?_
      have h3 := h2.2 k e
      have h4 := hr k e2.symm
      omega
  · obtain ⟨A, c, rfl, _⟩ := h2.1; rfl
/-- A row of before is apart from a block that was made since. -/
theorem RdBI.apart_old {w w' : World} {B g : Nat} {q : Value} {zs : List Int} (h : RdBI w B q zs) (hr : RdI w' q zs) (hB : B ≤ g) : Apart 0 w' (some g) q zs := by
  refine ⟨⟨hr, fun k _ => Nat.zero_le _⟩, ?_, ?_⟩
  · obtain ⟨A, c, rfl, hi, _⟩ := h
    by_cases h0 : 0 < zs.length
    · obtain ⟨b, off, rfl, hb, _⟩ := hi.at_ h0
      refine .inr (.inr fun e => ?_)
      have : b = g := Option.some.inj e
      omega
    · exact .inl (List.eq_nil_of_length_eq_zero (by omega))
  · obtain ⟨A, c, rfl, _⟩ := hr; rfl
theorem underOften_any (v u : Value) (zs : List Int) (zss : List (List Int)) (w : World) (h0 : RdI w v zs) (h1 : RdS w u zss) (hn : zss.length ≤ 900000) :
    Calls Try.prog 9 #[v, u] w fun e w' => ∃ q, e = .returned q ∧ RdS w' q (zs :: zss) ∧ Below w.heap.size w w' := by
  obtain ⟨A, n, c, rfl⟩ := rd_form h0
  obtain ⟨A1, c1, rfl, h1l, h1a⟩ := h1
  have hbl : Below w.heap.size w (w.alloc (.cells #[.slice A n c] 23)) := (Below.refl _ _).alloc (Nat.le_refl _) _
  have hrow : (w.alloc (.cells #[.slice A n c] 23)).ownsRow w.heap.size 23 1 (.slice (some ⟨w.heap.size, 0, none⟩) 1 1) 1 [.slice A n c] := ⟨by simp, .inr ⟨w.heap.size, 1, #[.slice A n c], rfl, Nat.le_refl _, heap_alloc_new w _, Nat.le_refl _, by simp [maxLen], by simp, by simp⟩⟩
  have H := Lib.hid (And.intro hrow (And.intro (h0.at_.apart_old (h0.step hbl) (Nat.le_refl _)) hbl))
  have HU : Hid (0 < zss.length → ∃ b off, A1 = some ⟨b, off, none⟩ ∧ ∀ (j : Nat) ys, zss[j]? = some ys → ∃ q, (w.alloc (.cells #[.slice A n c] 23)).cell? ⟨b, off + j, none⟩ = some q ∧ Apart 0 (w.alloc (.cells #[.slice A n c] 23)) (some w.heap.size) q ys) := Lib.hid (fun hp => by
    obtain ⟨b, off, rfl, hb, hc⟩ := h1a hp
    refine ⟨b, off, rfl, fun j ys hy => ?_⟩
    obtain ⟨q, h2, h3⟩ := hc j ys hy
    exact ⟨q, (hbl.cell (p := ⟨b, off + j, none⟩) hb).trans h2, h3.apart_old ((h3.below hbl).rd hbl.size) (Nat.le_refl _)⟩)
  clear hrow hbl h0 h1a
  go_enter Try.func9, Try.ntmps9
  go_wp2_with (at_builtin; refine wpList_append_rows rfl _ _ _ rfl Try.underlying24 rowInfo 0 w.heap.size (Nat.zero_le _) (.slice (some ⟨w.heap.size, 0, none⟩) 1 1) [.slice A n c] [zs] rfl (by simp) rfl H.out.1 (fun j q ys hq hy => by
    rcases j with _ | j
    · simp at hq hy; subst hq; subst hy; exact H.out.2.1
    · simp at hq) A1 c1 zss rfl (by simp; omega) HU.out ?_)
  intro v2 w2 ho hg
  have X := Lib.hid (And.intro ho.rd (H.out.2.2.trans (below_of_only hg (by simp) (fun k hk => by simp [Value.ownBlock] at hk; omega)))); clear ho hg H HU
  go_wp2
  go_ret
  exact ⟨_, rfl, X.out.1, X.out.2⟩
end Go.Proofs.Ytenaeiedoiepdaa
namespace Go.Proofs.Ytenaeiedoiepdaa
set_option maxRecDepth 100000
open Go.RowKit Go.WideShapes

theorem goodOk (w0 : World) (g pp : Nat) (bs : List Int) (w : World) (h0 b9 : Int) (hb : 0 ≤ b9 ∧ b9 ≤ 1000) (hh : -b9 ≤ h0 ∧ h0 ≤ b9) (h : RS w0 w g bs pp) (hp : pp ≤ 500000000000) :
    Calls Try.prog 59 #[.pointer (some ⟨g, 0, none⟩), .int .i64 h0, .int .i64 7] w (GoodPost w0 g pp bs w 210 190 (b9 + 77)) :=
  good7 w0 (fun w0 g pp bs w h0 b9 hb hh h hp => good3 w0 (fun w0 g pp bs w h0 b9 hb hh h hp => good1 w0 g pp bs w h0 b9 hb hh h hp) g pp bs w h0 b9 hb hh h hp) g pp bs w h0 b9 hb hh h hp

end Go.Proofs.Ytenaeiedoiepdaa
namespace Go.Proofs.Ytenaeiedoiepdaa
set_option maxRecDepth 100000
open Go.RowKit Go.WideShapes

theorem numbers (m : Nat) (w0 : World) (g p : Nat) (bs : List Int) (w : World) (hm : m ≤ 5) (h : RS w0 w g bs p) (hp : p ≤ 400000000000) :
    Calls Try.prog 60 #[.pointer (some ⟨g, 0, none⟩), .int .i64 m] w (StackPost w0 g p bs w 5 100) := by
  have hgw := h.rdr.lt
  have hs0 : w0.heap.size ≤ w.heap.size := h.size
  have B0 : Below w.heap.size w (w.alloc (.cells #[] 23)) := (Below.refl _ _).alloc (Nat.le_refl _) _
  have L0 := litS_nil w
  have S0 := Lib.hid (And.intro (h.below B0 h.size) (And.intro L0 (Within.of_below (lo := g) (hi := g + 1) B0))); clear h B0 L0
  go_enter Try.func60, Try.ntmps60
  go_wp2
  go_loopw [5, 6] (fun v k wr => ∃ (j p' : Nat) (zss : List (List Int)), k = .int .i64 j ∧ j ≤ m ∧ w.heap.size + 1 ≤ wr.heap.size ∧ zss.length ≤ j ∧ p' ≤ p + 10 * j ∧ OwnS wr w.heap.size wr.heap.size v zss ∧ RS w0 wr g bs p' ∧ Within g (g + 1) w wr ∧ (∀ zs ∈ zss, zs.length ≤ 200)) (fun _ k _ => m - (intOf k).toNat)
  case atStart => exact ⟨0, p, [], rfl, by omega, by simp, by simp, by omega, by simpa using S0.out.2.1, S0.out.1, S0.out.2.2, by simp⟩
  case round =>
    clear S0
    obtain ⟨j, p', zss, rfl, hj, hsz, hlen, hpc, q1, q2, q3, q4⟩ := hrel
    have X := Lib.hid (And.intro q1 (And.intro q2 (And.intro q3 q4))); clear q1 q2 q3 q4
    by_cases hlt : j < m
    · have hlt' : (j : Int) < (m : Int) := by omega
      go_wp2_with fail
      refine (num w0 g p' bs _ X.out.2.1 (by omega)).mono ?_
      rintro e w2 ⟨x, rfl, hx0, hx1, hr2, hg2⟩
      have hz2 : wr.heap.size ≤ w2.heap.size := hg2.size
      have Y := Lib.hid (And.intro ((X.out.1.apart hg2 (by omega)).widen hz2) (And.intro hr2 (And.intro (X.out.2.2.1.trans hg2) X.out.2.2.2))); clear hr2 hg2 X
      have V := Lib.hid (lit_facts (zs := [x]) Y.out.1 (by simp) (by intro z hz; simp only [List.mem_cons, List.not_mem_nil, or_false] at hz; omega))
      simp only [List.map_nil, List.map_cons, List.length_nil, List.length_cons, Nat.zero_add] at V
      go_wp2_with (at_builtin; refine wpList_append_S rfl _ _ _ rfl Try.underlying24 rowInfo w.heap.size w2.heap.size _ zss rfl V.out.1 (by omega) _ 1 _ [x] rfl V.out.2.2.1 (by simp; omega) V.out.2.1 (by omega) ?_)
      intro v4 w4 ho4 hb4
      have hs4 := hb4.size
      have T := Lib.hid (And.intro ho4 (And.intro ((Y.out.2.1.below V.out.2.2.2 (by omega)).below hb4 (by omega)) (And.intro ((Y.out.2.2.1.then_below V.out.2.2.2 (by omega)).then_below hb4 (by omega)) (lens_snoc (ys := [x]) Y.out.2.2.2 (by simp))))); clear ho4 hb4 V Y
      have hsz4 : w.heap.size + 1 ≤ w4.heap.size := by simp at hs4; omega
      go_wp2
      go_roundw
      case rel => exact ⟨j + 1, p' + 4, zss ++ [[x]], by first | rfl | go_num, by omega, hsz4, by simp; omega, by omega, T.out⟩
      case measure => simp [intOf]; omega
    · have hnl : ¬ ((j : Int) < (m : Int)) := by omega
      go_wp2
      go_ret
      exact ⟨_, zss, p', rfl, X.out.1, by omega, X.out.2.2.2, X.out.2.1, by omega, X.out.2.2.1⟩


/-- A drawn program and a drawn stack. -/
def RunPost (w0 : World) (g p : Nat) (bs : List Int) (w : World) (e : Ending) (w' : World) : Prop :=
  ∃ v zs u zss p', e = .returned (.tuple #[v, u]) ∧ RdG w.heap.size w' v zs ∧ zs.length ≤ 61 ∧ RdGS w.heap.size w' u zss ∧ zss.length ≤ 26 ∧ (∀ ys ∈ zss, ys.length ≤ 200) ∧ RS w0 w' g bs p' ∧ p' ≤ p + 60000 ∧ Within g (g + 1) w w'
theorem RdG.mk2 {lo : Nat} {w : World} {v : Value} {zs : List Int} (h : RdI w v zs) (hk : ∀ k, v.ownBlock = some k → lo ≤ k) : RdG lo w v zs := ⟨h, hk⟩
theorem lens_append {xss yss : List (List Int)} (h : ∀ zs ∈ xss, zs.length ≤ 200) (hy : ∀ zs ∈ yss, zs.length ≤ 200) : ∀ zs ∈ xss ++ yss, zs.length ≤ 200 := by
  intro zs hz
  rcases List.mem_append.1 hz with h1 | h1
  · exact h zs h1
  · exact hy zs h1

set_option maxHeartbeats 2000000 in
theorem run (w0 : World) (g p : Nat) (bs : List Int) (w : World) (h : RS w0 w g bs p) (hp : p ≤ 300000000000) :
    Calls Try.prog 26 #[.pointer (some ⟨g, 0, none⟩)] w (RunPost w0 g p bs w) := by
  have hgw := h.rdr.lt
  have hs0 : w0.heap.size ≤ w.heap.size := h.size
  have H := Lib.hid (And.intro h (Within.of_below (lo := g) (hi := g + 1) (Below.refl w.heap.size w))); clear h
  go_enter Try.func26, Try.ntmps26
  go_wp2_with fail
  refine (pick w0 g p 4 bs _ H.out.1 (by omega) (by omega)).mono ?_
  rintro e w1 ⟨x, rfl, hx0, hx1, hr1, hg1⟩
  have hz1 : w.heap.size ≤ w1.heap.size := hg1.size
  have S1 := Lib.hid (And.intro hr1 hg1); clear hr1 hg1 H
  by_cases hx : x = 0
  · subst hx
    go_wp2_with fail
    refine (prog 5 12 w0 g (p + 1) bs _ (by omega) (by omega) S1.out.1 (by omega)).mono ?_
    rintro e w2 ⟨v, zs, p2, rfl, ho, hl, hr2, hp2, hg2⟩
    have hz2 : w1.heap.size ≤ w2.heap.size := hg2.size
    have S2 := Lib.hid (And.intro hr2 (And.intro (S1.out.2.trans hg2) (ho.rdG.weak hz1))); clear hr2 hg2 ho S1
    go_wp2_with fail
    refine (stack 4 12 w0 g p2 bs _ (by omega) (by omega) S2.out.1 (by omega)).mono ?_
    rintro e w3 ⟨u, zss, p3, rfl, ho, hl3, hy3, hr3, hp3, hg3⟩
    have S3 := Lib.hid (And.intro hr3 (And.intro (S2.out.2.1.trans hg3) (And.intro (S2.out.2.2.within hg3 (by omega)) (And.intro (ho.rdG.weak (lo := w.heap.size) (by omega)) hy3)))); clear hr3 hg3 ho hy3 S2
    go_wp2_with fail
    go_ret2
    exact ⟨v, zs, u, zss, p3, rfl, S3.out.2.2.1, hl, S3.out.2.2.2.1, by omega, S3.out.2.2.2.2, S3.out.1, by omega, S3.out.2.1⟩
  · have hxb : (x == 0) = false := by simpa using hx
    clear hx hx0 hx1
    go_wp2_with fail
    refine (pick w0 g (p + 1) 4 bs _ S1.out.1 (by omega) (by omega)).mono ?_
    rintro e w2 ⟨y, rfl, hy0, hy1, hr2, hg2⟩
    have hz2 : w1.heap.size ≤ w2.heap.size := hg2.size
    have S2 := Lib.hid (And.intro hr2 (S1.out.2.trans hg2)); clear hr2 hg2 S1
    obtain ⟨m, rfl⟩ := Int.eq_ofNat_of_zero_le hy0
    have hm3 : m ≤ 3 := by omega
    clear hy0 hy1
    go_wp2_with fail
    refine (goodOk w0 g (p + 1 + 1) bs _ (m : Int) 3 (by omega) (by omega) S2.out.1 (by omega)).mono ?_
    rintro e w3 ⟨v, zs, p3, x3, rfl, ho, hl, hr3, hp3, hg3, hx3, hx4⟩
    have hz3 : w2.heap.size ≤ w3.heap.size := hg3.size
    obtain ⟨A, c, rfl, _⟩ := ho.rd
    have hvl := ho.lt
    have S3 := Lib.hid (And.intro hr3 (And.intro (S2.out.2.trans hg3) (ho.rdG.weak (lo := w.heap.size) (by omega)))); clear hr3 hg3 ho S2
    have HVL := Lib.hid hvl; clear hvl
    by_cases h60 : zs.length ≤ 60
    · have hg60 : ¬ ((60 : Int) < (zs.length : Int)) := by omega
      have S3b := Lib.hid (And.intro S3.out.1 (And.intro S3.out.2.1 (And.intro S3.out.2.2 HVL.out))); clear S3
      go_wp2_with fail
      refine (stack 2 0 w0 g p3 bs _ (by omega) (by omega) S3b.out.1 (by omega)).mono ?_
      rintro e w4 ⟨u, zss, p4, rfl, ho, hl4, hy4, hr4, hp4, hg4⟩
      have hz4 : w3.heap.size ≤ w4.heap.size := by have := hg4.size; first | omega | (simp at this; omega)
      have hzx : w3.heap.size ≤ w4.heap.size := hg4.size
      have S4 := Lib.hid (And.intro hr4 (And.intro (S3b.out.2.1.trans hg4) (And.intro (S3b.out.2.2.1.within hg4 (by omega)) (And.intro S3b.out.2.2.2 (And.intro ho hy4))))); clear hr4 hg4 ho hy4 S3b
      go_wp2_with fail
      refine (numbers m w0 g p4 bs _ (by omega) S4.out.1 (by omega)).mono ?_
      rintro e w5 ⟨u5, yss, p5, rfl, ho, hl5, hy5, hr5, hp5, hg5⟩
      have hz5 : w4.heap.size ≤ w5.heap.size := hg5.size
      obtain ⟨A5, c5, rfl, _⟩ := ho.rd
      have S5 := Lib.hid (And.intro hr5 (And.intro (S4.out.2.1.trans hg5) (And.intro (S4.out.2.2.1.within hg5 (by omega)) (And.intro S4.out.2.2.2.1 (And.intro (S4.out.2.2.2.2.1.apart hg5 (.inr (by first | omega | (simp; done) | (simp; omega)))) (And.intro S4.out.2.2.2.2.2 (And.intro ho.rdG hy5))))))); clear hr5 hg5 ho hy5 S4
      obtain ⟨vs, hvs⟩ := S5.out.2.2.2.2.1
      have HVS := Lib.hid hvs; clear hvs
      go_wp2_with (at_builtin; refine wpList_append_rows rfl _ _ _ rfl Try.underlying24 rowInfo w.heap.size w3.heap.size (by first | omega | (simp; done) | (simp; omega)) u vs zss rfl (by omega) HVS.out.len HVS.out.row (fun j q zs hq hz => (HVS.out.apart_rows j q zs hq hz).weak (by first | omega | (simp; done) | (simp; omega))) A5 c5 yss rfl (by omega) (S5.out.2.2.2.2.2.2.1.apart_rows (fun k hk => HVS.out.lt k hk) (by omega)) ?_)
      intro v6 w6 ho6 hg6
      have hb6 : Below w3.heap.size w5 w6 := below_of_only hg6 (by omega) (fun k hk => (HVS.out.row.lt k hk).1)
      have hVn : Hid ((Value.slice A zs.length c).ownBlock = none ∨ (Value.slice A zs.length c).ownBlock ≠ u.ownBlock) := Lib.hid (by
        rcases e : (Value.slice A zs.length c).ownBlock with _ | k
        · exact .inl rfl
        · refine .inr fun e2 => ?_
          have h1 := S5.out.2.2.2.1 k e
          have h2 := (HVS.out.row.lt k e2.symm).1
          omega)
      have S6 := Lib.hid (And.intro (S5.out.1.below hb6 (by first | omega | (simp; done) | (simp; omega))) (And.intro (S5.out.2.1.then_below hb6 (by first | omega | (simp; done) | (simp; omega))) (And.intro (RdG.mk2 (S5.out.2.2.1.1.grown hg6 (.inr hVn.out)) S5.out.2.2.1.2) (And.intro ho6 (lens_append S5.out.2.2.2.2.2.1 S5.out.2.2.2.2.2.2.2))))); clear S5 HVS ho6 hg6 hb6 hVn
      obtain ⟨A6, n6, c6, rfl⟩ := rdS_form S6.out.2.2.2.1.rd
      go_wp2
      go_ret2
      exact ⟨_, zs, _, zss ++ yss, p5, rfl, S6.out.2.2.1, by first | omega | (simp; done) | (simp; omega), S6.out.2.2.2.1, by simp; omega, S6.out.2.2.2.2, S6.out.1, by omega, S6.out.2.1⟩
    · have hg60 : (60 : Int) < (zs.length : Int) := by omega
      have hbl : Below w3.heap.size w3 (w3.alloc (.cells #[.int .i64 1001, .int .i64 1006] 3)) := (Below.refl _ _).alloc (Nat.le_refl _) _
      have ho2 := lits_own w3 [1001, 1006] (by simp) (by intro z hz; simp only [List.mem_cons, List.not_mem_nil, or_false] at hz; apply wf_near; omega)
      have S3b := Lib.hid (And.intro (S3.out.1.below hbl (by omega)) (And.intro (S3.out.2.1.then_below hbl (by omega)) (And.intro (ho2.rdG.weak (lo := w.heap.size) (by omega)) (show ∀ k, (Value.slice (some ⟨w3.heap.size, 0, none⟩) 2 2).ownBlock = some k → k < (w3.alloc (.cells #[.int .i64 1001, .int .i64 1006] 3)).heap.size from fun k hk => by simp [Value.ownBlock] at hk; simp; omega)))); clear S3 hbl ho2
      go_wp2_with fail
      refine (stack 2 0 w0 g p3 bs _ (by omega) (by omega) S3b.out.1 (by omega)).mono ?_
      rintro e w4 ⟨u, zss, p4, rfl, ho, hl4, hy4, hr4, hp4, hg4⟩
      have hz4 : w3.heap.size ≤ w4.heap.size := by have := hg4.size; first | omega | (simp at this; omega)
      have hzx : (w3.alloc (.cells #[.int .i64 1001, .int .i64 1006] 3)).heap.size ≤ w4.heap.size := hg4.size
      have S4 := Lib.hid (And.intro hr4 (And.intro (S3b.out.2.1.trans hg4) (And.intro (S3b.out.2.2.1.within hg4 (by omega)) (And.intro S3b.out.2.2.2 (And.intro ho hy4))))); clear hr4 hg4 ho hy4 S3b
      go_wp2_with fail
      refine (numbers m w0 g p4 bs _ (by omega) S4.out.1 (by omega)).mono ?_
      rintro e w5 ⟨u5, yss, p5, rfl, ho, hl5, hy5, hr5, hp5, hg5⟩
      have hz5 : w4.heap.size ≤ w5.heap.size := hg5.size
      obtain ⟨A5, c5, rfl, _⟩ := ho.rd
      have S5 := Lib.hid (And.intro hr5 (And.intro (S4.out.2.1.trans hg5) (And.intro (S4.out.2.2.1.within hg5 (by omega)) (And.intro S4.out.2.2.2.1 (And.intro (S4.out.2.2.2.2.1.apart hg5 (.inr (by first | omega | (simp; done) | (simp; omega)))) (And.intro S4.out.2.2.2.2.2 (And.intro ho.rdG hy5))))))); clear hr5 hg5 ho hy5 S4
      obtain ⟨vs, hvs⟩ := S5.out.2.2.2.2.1
      have HVS := Lib.hid hvs; clear hvs
      go_wp2_with (at_builtin; refine wpList_append_rows rfl _ _ _ rfl Try.underlying24 rowInfo w.heap.size (w3.alloc (.cells #[.int .i64 1001, .int .i64 1006] 3)).heap.size (by first | omega | (simp; done) | (simp; omega)) u vs zss rfl (by omega) HVS.out.len HVS.out.row (fun j q zs hq hz => (HVS.out.apart_rows j q zs hq hz).weak (by first | omega | (simp; done) | (simp; omega))) A5 c5 yss rfl (by omega) (S5.out.2.2.2.2.2.2.1.apart_rows (fun k hk => HVS.out.lt k hk) (by omega)) ?_)
      intro v6 w6 ho6 hg6
      have hb6 : Below (w3.alloc (.cells #[.int .i64 1001, .int .i64 1006] 3)).heap.size w5 w6 := below_of_only hg6 (by omega) (fun k hk => (HVS.out.row.lt k hk).1)
      have hVn : Hid ((Value.slice (some ⟨w3.heap.size, 0, none⟩) 2 2).ownBlock = none ∨ (Value.slice (some ⟨w3.heap.size, 0, none⟩) 2 2).ownBlock ≠ u.ownBlock) := Lib.hid (by
        rcases e : (Value.slice (some ⟨w3.heap.size, 0, none⟩) 2 2).ownBlock with _ | k
        · exact .inl rfl
        · refine .inr fun e2 => ?_
          have h1 := S5.out.2.2.2.1 k e
          have h2 := (HVS.out.row.lt k e2.symm).1
          omega)
      have S6 := Lib.hid (And.intro (S5.out.1.below hb6 (by first | omega | (simp; done) | (simp; omega))) (And.intro (S5.out.2.1.then_below hb6 (by first | omega | (simp; done) | (simp; omega))) (And.intro (RdG.mk2 (S5.out.2.2.1.1.grown hg6 (.inr hVn.out)) S5.out.2.2.1.2) (And.intro ho6 (lens_append S5.out.2.2.2.2.2.1 S5.out.2.2.2.2.2.2.2))))); clear S5 HVS ho6 hg6 hb6 hVn
      obtain ⟨A6, n6, c6, rfl⟩ := rdS_form S6.out.2.2.2.1.rd
      go_wp2
      go_ret2
      exact ⟨_, [1001, 1006], _, zss ++ yss, p5, rfl, S6.out.2.2.1, by first | omega | (simp; done) | (simp; omega), S6.out.2.2.2.1, by simp; omega, S6.out.2.2.2.2, S6.out.1, by omega, S6.out.2.1⟩

def DrawnR (w : World) (e : Ending) (w' : World) : Prop := ∃ v zs u zss, e = .returned (.tuple #[v, u]) ∧ RdG w.heap.size w' v zs ∧ zs.length ≤ 61 ∧ RdGS w.heap.size w' u zss ∧ zss.length ≤ 26 ∧ (∀ ys ∈ zss, ys.length ≤ 200) ∧ Below w.heap.size w w'
def DrawnSO (w : World) (e : Ending) (w' : World) : Prop := ∃ v zs u ys s zss, e = .returned (.tuple #[v, u, s]) ∧ RdI w' v zs ∧ zs.length ≤ 70 ∧ RdI w' u ys ∧ ys.length ≤ 70 ∧ RdS w' s zss ∧ zss.length ≤ 26 ∧ (∀ ys ∈ zss, ys.length ≤ 200) ∧ Below w.heap.size w w'
end Go.Proofs.Ytenaeiedoiepdaa
