/- Rows of rows whose outer row is of the call's own and whose inner rows are only read; states drawn so: l20State, DrawStateOk. -/
import Derived.Test.YtenaeiedoiepdaaDs
namespace Go.Proofs.Ytenaeiedoiepdaa
set_option maxRecDepth 100000
open Go.RowKit Go.WideShapes

/-- An outer row of the call's own, its inner rows only read, apart from it. -/
def OwnR (w : World) (lo hi : Nat) (v : Value) (zss : List (List Int)) : Prop := ∃ vs, vs.length = zss.length ∧ w.ownsRow lo 23 1 v zss.length vs ∧ (∀ g, v.ownBlock = some g → g < hi) ∧ ∀ (j : Nat) q zs, vs[j]? = some q → zss[j]? = some zs → Apart lo w v.ownBlock q zs
theorem OwnS.toR {w : World} {lo hi : Nat} {v : Value} {zss : List (List Int)} (h : OwnS w lo hi v zss) : OwnR w lo hi v zss := by
  obtain ⟨vs, h⟩ := h
  exact ⟨vs, h.len, h.row, h.lt, fun j q zs hq hz => h.apart_rows j q zs hq hz⟩
theorem ownsRow_same {w w' : World} {lo n : Nat} {v : Value} {vs : List Value} {T : TypeId} (h : w.ownsRow lo T 1 v n vs) (hk : ∀ g, lo ≤ g → g < w.heap.size → w'.heap[g]? = w.heap[g]?) : w'.ownsRow lo T 1 v n vs := by
  refine ⟨h.1, ?_⟩
  rcases h.2 with h0 | ⟨g, cap, cur, rfl, hb, hh, h1⟩
  · exact .inl h0
  · exact .inr ⟨g, cap, cur, rfl, hb, (hk g hb (h.lt g rfl).2).trans hh, h1⟩
theorem OwnR.within {w w' : World} {lo hi m n : Nat} {v : Value} {zss : List (List Int)} (h : OwnR w lo hi v zss) (hw : Within m n w w') (hn : n ≤ lo) : OwnR w' lo hi v zss := by
  obtain ⟨vs, h1, h2, h3, h4⟩ := h
  exact ⟨vs, h1, ownsRow_same h2 fun g hg hl => hw.block g hl (by omega), h3, fun j q zs hq hz => ⟨(h4 j q zs hq hz).1.within hw hn, (h4 j q zs hq hz).2⟩⟩
theorem OwnR.below {w w' : World} {lo hi : Nat} {v : Value} {zss : List (List Int)} (h : OwnR w lo hi v zss) (hb : Below w.heap.size w w') : OwnR w' lo hi v zss := by
  obtain ⟨vs, h1, h2, h3, h4⟩ := h
  exact ⟨vs, h1, ownsRow_same h2 fun g _ hl => hb.block g hl, h3, fun j q zs hq hz => ⟨(h4 j q zs hq hz).1.below hb, (h4 j q zs hq hz).2⟩⟩
theorem OwnR.widen {w : World} {lo hi hi' : Nat} {v : Value} {zss : List (List Int)} (h : OwnR w lo hi v zss) (hh : hi ≤ hi') : OwnR w lo hi' v zss := by
  obtain ⟨vs, h1, h2, h3, h4⟩ := h
  exact ⟨vs, h1, h2, fun g hg => Nat.lt_of_lt_of_le (h3 g hg) hh, h4⟩
theorem OwnR.rdG {w : World} {lo hi : Nat} {v : Value} {zss : List (List Int)} (h : OwnR w lo hi v zss) (hn : zss.length ≤ 1000000) : RdGS lo w v zss := by
  obtain ⟨vs, h1, h2, h3, h4⟩ := h
  rcases h2.2 with ⟨rfl, h0⟩ | ⟨b, cap, cur, rfl, hb, hh, hc, _⟩
  · exact ⟨none, 0, by rw [h0], by omega, fun h => by omega⟩
  · refine ⟨some ⟨b, 0, none⟩, cap, rfl, by omega, fun _ => ⟨b, 0, rfl, (h2.lt b rfl).2, hb, fun j y hy => ?_⟩⟩
    have hj : j < zss.length := by
      rcases Nat.lt_or_ge j zss.length with h | h
      · exact h
      · rw [List.getElem?_eq_none h] at hy; cases hy
    have hq : vs[j]? = some (vs[j]'(by omega)) := List.getElem?_eq_getElem (by omega)
    have hcell := h2.cells (g := b) rfl j _ hq
    rw [add_plain] at hcell
    exact ⟨_, hcell, (h4 j _ y hq hy).1⟩
theorem Apart.lt {lo : Nat} {w : World} {row : Option Nat} {q : Value} {zs : List Int} (h : Apart lo w row q zs) : zs = [] ∨ q.ownBlock = none ∨ ∃ k, q.ownBlock = some k ∧ k < w.heap.size := by
  obtain ⟨⟨⟨A, c, rfl, hi, _⟩, _⟩, _⟩ := h
  by_cases h0 : 0 < zs.length
  · obtain ⟨b, off, rfl, hb, _⟩ := hi.at_ h0
    exact .inr (.inr ⟨b, rfl, hb⟩)
  · exact .inl (List.eq_nil_of_length_eq_zero (by omega))

/-- append(s, t...) of rows: as wpList_append_rows; the result's outer row is of the call's own. -/
theorem wpList_append_rowsR {P : Program} {w : World} {ops : Array Oper} {rest : List Oper} {o : Oper} {a : Act} {Q : Exit → Act → World → Prop} (hgd : o.guard = none) (s x : Operand) (t : TypeId)
    (ho : o.op = .call { callee := .builtin .append, args := #[s, x], argTypes := #[t, t] })
    (ht : P.underlying t = some (.slice 23)) (hinfo : (P.info? 23).map (fun i => (i.zero, i.size, i.bytes)) = some (some (.slice none 0 0), 1, 24))
    (lo hi : Nat) (v : Value) (zss : List (List Int)) (hs : a.eval s = v) (hlo : lo ≤ w.heap.size) (hown : OwnR w lo hi v zss)
    (A : Option Addr) (c : Nat) (yss : List (List Int)) (hx : a.eval x = .slice A yss.length c) (hlen : zss.length + yss.length ≤ 1000000)
    (hu : 0 < yss.length → ∃ b off, A = some ⟨b, off, none⟩ ∧ ∀ (j : Nat) ys, yss[j]? = some ys → ∃ q, w.cell? ⟨b, off + j, none⟩ = some q ∧ Apart lo w v.ownBlock q ys)
    (h : ∀ v' w', OwnR w' lo w'.heap.size v' (zss ++ yss) → w.grownBy w' v.ownBlock → (∀ g, v.ownBlock = some g → lo ≤ g ∧ g < hi) → wpList P ops Q rest (a.put o.dst v') w') : wpList P ops Q (o :: rest) a w := by
  obtain ⟨vs, hvl, hrow, hhi, hv⟩ := hown
  obtain ⟨i0, hi0, hz0, hz1, hz2⟩ := info_parts hinfo
  have hrun : ∃ v' w' us, us.length = yss.length ∧ (∀ (j : Nat) q ys, us[j]? = some q → yss[j]? = some ys → Apart lo w v.ownBlock q ys) ∧ (Builtin.append_ #[t, t] o.type #[v, .slice A yss.length c]).run P w = .ok v' w' ∧ w'.ownsRow lo 23 1 v' (zss.length + yss.length) (vs ++ us) ∧ w.grownBy w' v.ownBlock ∧ (v'.ownBlock = v.ownBlock ∨ v'.ownBlock = some w.heap.size) := by
    by_cases hy : yss.length = 0
    · have hyn : yss = [] := List.eq_nil_of_length_eq_zero hy
      subst hyn
      rcases A with _ | ad
      · exact ⟨v, w, [], rfl, by simp, run_append_none w lo t o.type 23 i0 1 ht hi0 v _ _ hrow c, by simpa using hrow, World.grownBy.refl w _, .inl rfl⟩
      · obtain ⟨v', w', hr1, h2, h3, _, h5⟩ := run_append_own_at (P := P) w lo t o.type 23 i0 (.slice none 0 0) 1 24 ht hi0 hz0 hz1 hz2 rfl (by omega) v _ vs hrow ad 0 c [] (by simp) (by simp) (by simp) (by simp [maxLen]; simp at hlen; omega) (by simp at hlen; omega) hlo
        exact ⟨v', w', [], rfl, by simp, hr1, by simpa using h2, h3, h5⟩
    · obtain ⟨b, off, rfl, hc⟩ := hu (by omega)
      obtain ⟨us, hul, hus⟩ := rows_list hc
      have hlt : ∀ (j : Nat) q, us[j]? = some q → ∃ ys, yss[j]? = some ys := by
        intro j q hq
        have hj : j < us.length := by
          rcases Nat.lt_or_ge j us.length with h | h
          · exact h
          · rw [List.getElem?_eq_none h] at hq; cases hq
        exact ⟨yss[j]'(by omega), List.getElem?_eq_getElem (by omega)⟩
      obtain ⟨v', w', hr1, h2, h3, _, h5⟩ := run_append_own_at (P := P) w lo t o.type 23 i0 (.slice none 0 0) 1 24 ht hi0 hz0 hz1 hz2 rfl (by omega) v zss.length vs hrow ⟨b, off, none⟩ yss.length c us (by omega) (by
        intro j q hq
        obtain ⟨ys, hy⟩ := hlt j q hq
        rw [add_plain]
        exact (hus j q ys hq hy).1) (by
        intro q hq
        obtain ⟨j, hj⟩ := List.mem_iff_getElem?.1 hq
        obtain ⟨ys, hy⟩ := hlt j q hj
        exact (hus j q ys hj hy).2.2.2) (by simp only [maxLen]; omega) (by omega) hlo
      exact ⟨v', w', us, hul, fun j q ys hq hy => (hus j q ys hq hy).2, hr1, h2, h3, h5⟩
  obtain ⟨v', w', us, hul, hus, hr1, h2, h3, h5⟩ := hrun
  refine wpList_plain hgd fun K hK => ?_
  unfold Oper.wp execOp
  simp only [ho, resolve, invoke, builtin, Sem.run_bind, Sem.run_pure, Result.andThen_ok, List.map_toArray, List.map_cons, List.map_nil, hs, hx, hr1]
  refine hK _ _ (h v' w' ⟨vs ++ us, by simp; omega, by simpa using h2, fun g hg => (h2.lt g hg).2, fun j q y hq hy => ?_⟩ h3 fun g hg => ⟨(hrow.lt g hg).1, hhi g hg⟩)
  have hap : Apart lo w v.ownBlock q y := by
    by_cases hjn : j < zss.length
    · rw [List.getElem?_append_left hjn] at hy
      rw [List.getElem?_append_left (by omega)] at hq
      exact hv j q y hq hy
    · rw [List.getElem?_append_right (by omega)] at hy
      rw [List.getElem?_append_right (by omega), hvl] at hq
      exact hus _ q y hq hy
  refine ⟨⟨hap.1.1.grown h3 hap.2.1, hap.1.2⟩, ?_, hap.2.2⟩
  rcases h5 with h5 | h5
  · rw [h5]; exact hap.2.1
  · rw [h5]
    rcases hap.lt with h6 | h6 | ⟨k, h6, h7⟩
    · exact .inl h6
    · exact .inr (.inl h6)
    · exact .inr (.inr (by rw [h6]; intro e; have := Option.some.inj e; omega))
-- drawn (written by states.py)
def RunPostR (w0 : World) (g p : Nat) (bs : List Int) (w : World) (e : Ending) (w' : World) : Prop :=
  ∃ v zs u zss p' m, e = .returned (.tuple #[v, u]) ∧ OwnI w' w.heap.size m v zs ∧ w.heap.size ≤ m ∧ m ≤ w'.heap.size ∧ zs.length ≤ 61 ∧ OwnR w' m w'.heap.size u zss ∧ zss.length ≤ 26 ∧ (∀ ys ∈ zss, ys.length ≤ 200) ∧ RS w0 w' g bs p' ∧ p' ≤ p + 60000 ∧ Within g (g + 1) w w'
set_option maxHeartbeats 2000000 in
theorem runOuter (w0 : World) (g p : Nat) (bs : List Int) (w : World) (h : RS w0 w g bs p) (hp : p ≤ 300000000000) :
    Calls Try.prog 26 #[.pointer (some ⟨g, 0, none⟩)] w (RunPostR w0 g p bs w) := by
  have hgw := h.rdr.lt
  have hs0 : w0.heap.size ≤ w.heap.size := h.size
  have H := Lib.hid (And.intro h (Within.of_below (lo := g) (hi := g + 1) (Below.refl w.heap.size w))); clear h
  go_enter Try.func26, Try.ntmps26
  go_wp2_with fail
  refine (pick w0 g p 4 bs _ H.out.1 (by omega) (by omega)).mono ?_
  rintro e w1 ⟨x, rfl, hx0, hx1, hr1, hg1⟩
  have hz1 : w.heap.size ≤ w1.heap.size := hg1.size
  have S1 := Lib.hid (And.intro hr1 hg1); clear hr1 hg1 H
  by_cases hx : x = 0
  · subst hx
    go_wp2_with fail
    refine (prog 5 12 w0 g (p + 1) bs _ (by omega) (by omega) S1.out.1 (by omega)).mono ?_
    rintro e w2 ⟨v, zs, p2, rfl, ho, hl, hr2, hp2, hg2⟩
    have hz2 : w1.heap.size ≤ w2.heap.size := hg2.size
    have S2 := Lib.hid (And.intro hr2 (And.intro (S1.out.2.trans hg2) (OwnI.mk (ho.own.mono hz1) ho.lt))); clear hr2 hg2 ho S1
    go_wp2_with fail
    refine (stack 4 12 w0 g p2 bs _ (by omega) (by omega) S2.out.1 (by omega)).mono ?_
    rintro e w3 ⟨u, zss, p3, rfl, ho, hl3, hy3, hr3, hp3, hg3⟩
    have hg3s : w2.heap.size ≤ w3.heap.size := hg3.size
    have S3 := Lib.hid (And.intro hr3 (And.intro (S2.out.2.1.trans hg3) (And.intro (S2.out.2.2.apart hg3 (by omega)) (And.intro ho.toR hy3)))); clear hr3 hg3 ho hy3 S2
    go_wp2_with fail
    go_ret2
    exact ⟨v, zs, u, zss, p3, w2.heap.size, rfl, S3.out.2.2.1, by omega, hg3s, hl, S3.out.2.2.2.1, by omega, S3.out.2.2.2.2, S3.out.1, by omega, S3.out.2.1⟩
  · have hxb : (x == 0) = false := by simpa using hx
    clear hx hx0 hx1
    go_wp2_with fail
    refine (pick w0 g (p + 1) 4 bs _ S1.out.1 (by omega) (by omega)).mono ?_
    rintro e w2 ⟨y, rfl, hy0, hy1, hr2, hg2⟩
    have hz2 : w1.heap.size ≤ w2.heap.size := hg2.size
    have S2 := Lib.hid (And.intro hr2 (S1.out.2.trans hg2)); clear hr2 hg2 S1
    obtain ⟨m, rfl⟩ := Int.eq_ofNat_of_zero_le hy0
    have hm3 : m ≤ 3 := by omega
    clear hy0 hy1
    go_wp2_with fail
    refine (goodOk w0 g (p + 1 + 1) bs _ (m : Int) 3 (by omega) (by omega) S2.out.1 (by omega)).mono ?_
    rintro e w3 ⟨v, zs, p3, x3, rfl, ho, hl, hr3, hp3, hg3, hx3, hx4⟩
    have hz3 : w2.heap.size ≤ w3.heap.size := hg3.size
    obtain ⟨A, c, rfl, _⟩ := ho.rd
    have hvl := ho.lt
    have S3 := Lib.hid (And.intro hr3 (And.intro (S2.out.2.trans hg3) (OwnI.mk (ho.own.mono (show w.heap.size ≤ w2.heap.size by omega)) ho.lt))); clear hr3 hg3 ho S2
    have HVL := Lib.hid hvl; clear hvl
    by_cases h60 : zs.length ≤ 60
    · have hg60 : ¬ ((60 : Int) < (zs.length : Int)) := by omega
      have S3b := Lib.hid (And.intro S3.out.1 (And.intro S3.out.2.1 (And.intro S3.out.2.2 HVL.out))); clear S3
      go_wp2_with fail
      refine (stack 2 0 w0 g p3 bs _ (by omega) (by omega) S3b.out.1 (by omega)).mono ?_
      rintro e w4 ⟨u, zss, p4, rfl, ho, hl4, hy4, hr4, hp4, hg4⟩
      have hz4 : w3.heap.size ≤ w4.heap.size := by have := hg4.size; first | omega | (simp at this; omega)
      have hzx : w3.heap.size ≤ w4.heap.size := hg4.size
      have S4 := Lib.hid (And.intro hr4 (And.intro (S3b.out.2.1.trans hg4) (And.intro (S3b.out.2.2.1.apart hg4 (by omega)) (And.intro S3b.out.2.2.2 (And.intro ho hy4))))); clear hr4 hg4 ho hy4 S3b
      go_wp2_with fail
      refine (numbers m w0 g p4 bs _ (by omega) S4.out.1 (by omega)).mono ?_
      rintro e w5 ⟨u5, yss, p5, rfl, ho, hl5, hy5, hr5, hp5, hg5⟩
      have hz5 : w4.heap.size ≤ w5.heap.size := hg5.size
      obtain ⟨A5, c5, rfl, _⟩ := ho.rd
      have S5 := Lib.hid (And.intro hr5 (And.intro (S4.out.2.1.trans hg5) (And.intro (S4.out.2.2.1.apart hg5 (by omega)) (And.intro S4.out.2.2.2.1 (And.intro (S4.out.2.2.2.2.1.apart hg5 (.inr (by first | omega | (simp; done) | (simp; omega)))) (And.intro S4.out.2.2.2.2.2 (And.intro ho.rdG hy5))))))); clear hr5 hg5 ho hy5 S4
      obtain ⟨vs, hvs⟩ := S5.out.2.2.2.2.1
      have HVS := Lib.hid hvs; clear hvs
      go_wp2_with (at_builtin; go_loud (refine wpList_append_rowsR rfl _ _ _ rfl Try.underlying24 rowInfo w3.heap.size _ u zss rfl (by omega) S5.out.2.2.2.2.1.toR A5 c5 yss rfl (by omega) (S5.out.2.2.2.2.2.2.1.apart_rows (fun k hk => HVS.out.lt k hk) (by omega)) ?_))
      intro v6 w6 ho6 hg6 _
      have hb6 : Below w3.heap.size w5 w6 := below_of_only hg6 (by omega) (fun k hk => (HVS.out.row.lt k hk).1)
      have hVn : Hid ((Value.slice A zs.length c).ownBlock = none ∨ (Value.slice A zs.length c).ownBlock ≠ u.ownBlock) := Lib.hid (by
        rcases e : (Value.slice A zs.length c).ownBlock with _ | k
        · exact .inl rfl
        · refine .inr fun e2 => ?_
          have h1 := S5.out.2.2.2.1 k e
          have h2 := (HVS.out.row.lt k e2.symm).1
          omega)
      have S6 := Lib.hid (And.intro (S5.out.1.below hb6 (by first | omega | (simp; done) | (simp; omega))) (And.intro (S5.out.2.1.then_below hb6 (by first | omega | (simp; done) | (simp; omega))) (And.intro (OwnI.mk (S5.out.2.2.1.own.only hg6 hVn.out) S5.out.2.2.1.lt) (And.intro ho6 (lens_append S5.out.2.2.2.2.2.1 S5.out.2.2.2.2.2.2.2))))); have hz6 : w5.heap.size ≤ w6.heap.size := hb6.size; clear S5 HVS ho6 hg6 hb6 hVn
      obtain ⟨A6, n6, c6, rfl⟩ := rdS_form (S6.out.2.2.2.1.rdG (by simp; omega)).rd
      go_wp2
      go_ret2
      exact ⟨_, zs, _, zss ++ yss, p5, w3.heap.size, rfl, S6.out.2.2.1, by omega, by omega, by first | omega | (simp; done) | (simp; omega), (by first | exact S6.out.2.2.2.1 | simpa using S6.out.2.2.2.1), by simp; omega, S6.out.2.2.2.2, S6.out.1, by omega, S6.out.2.1⟩
    · have hg60 : (60 : Int) < (zs.length : Int) := by omega
      have hbl : Below w3.heap.size w3 (w3.alloc (.cells #[.int .i64 1001, .int .i64 1006] 3)) := (Below.refl _ _).alloc (Nat.le_refl _) _
      have ho2 := lits_own w3 [1001, 1006] (by simp) (by intro z hz; simp only [List.mem_cons, List.not_mem_nil, or_false] at hz; apply wf_near; omega)
      have S3b := Lib.hid (And.intro (S3.out.1.below hbl (by omega)) (And.intro (S3.out.2.1.then_below hbl (by omega)) (And.intro (OwnI.mk (ho2.own.mono (show w.heap.size ≤ w3.heap.size by omega)) (fun q hq => by have := ho2.lt q hq; simpa using this) : OwnI (w3.alloc (.cells #[.int .i64 1001, .int .i64 1006] 3)) w.heap.size (w3.heap.size + 1) (.slice (some ⟨w3.heap.size, 0, none⟩) 2 2) [1001, 1006]) (show ∀ k, (Value.slice (some ⟨w3.heap.size, 0, none⟩) 2 2).ownBlock = some k → k < (w3.alloc (.cells #[.int .i64 1001, .int .i64 1006] 3)).heap.size from fun k hk => by simp [Value.ownBlock] at hk; simp; omega)))); clear S3 hbl ho2
      go_wp2_with fail
      refine (stack 2 0 w0 g p3 bs _ (by omega) (by omega) S3b.out.1 (by omega)).mono ?_
      rintro e w4 ⟨u, zss, p4, rfl, ho, hl4, hy4, hr4, hp4, hg4⟩
      have hz4 : w3.heap.size ≤ w4.heap.size := by have := hg4.size; first | omega | (simp at this; omega)
      have hzx : (w3.alloc (.cells #[.int .i64 1001, .int .i64 1006] 3)).heap.size ≤ w4.heap.size := hg4.size
      have S4 := Lib.hid (And.intro hr4 (And.intro (S3b.out.2.1.trans hg4) (And.intro (S3b.out.2.2.1.apart hg4 (by omega)) (And.intro S3b.out.2.2.2 (And.intro ho hy4))))); clear hr4 hg4 ho hy4 S3b
      go_wp2_with fail
      refine (numbers m w0 g p4 bs _ (by omega) S4.out.1 (by omega)).mono ?_
      rintro e w5 ⟨u5, yss, p5, rfl, ho, hl5, hy5, hr5, hp5, hg5⟩
      have hz5 : w4.heap.size ≤ w5.heap.size := hg5.size
      obtain ⟨A5, c5, rfl, _⟩ := ho.rd
      have S5 := Lib.hid (And.intro hr5 (And.intro (S4.out.2.1.trans hg5) (And.intro (S4.out.2.2.1.apart hg5 (by omega)) (And.intro S4.out.2.2.2.1 (And.intro (S4.out.2.2.2.2.1.apart hg5 (.inr (by first | omega | (simp; done) | (simp; omega)))) (And.intro S4.out.2.2.2.2.2 (And.intro ho.rdG hy5))))))); clear hr5 hg5 ho hy5 S4
      obtain ⟨vs, hvs⟩ := S5.out.2.2.2.2.1
      have HVS := Lib.hid hvs; clear hvs
      go_wp2_with (at_builtin; go_loud (refine wpList_append_rowsR rfl _ _ _ rfl Try.underlying24 rowInfo (w3.alloc (.cells #[.int .i64 1001, .int .i64 1006] 3)).heap.size _ u zss rfl (by omega) S5.out.2.2.2.2.1.toR A5 c5 yss rfl (by omega) (S5.out.2.2.2.2.2.2.1.apart_rows (fun k hk => HVS.out.lt k hk) (by omega)) ?_))
      intro v6 w6 ho6 hg6 _
      have hb6 : Below (w3.alloc (.cells #[.int .i64 1001, .int .i64 1006] 3)).heap.size w5 w6 := below_of_only hg6 (by omega) (fun k hk => (HVS.out.row.lt k hk).1)
      have hVn : Hid ((Value.slice (some ⟨w3.heap.size, 0, none⟩) 2 2).ownBlock = none ∨ (Value.slice (some ⟨w3.heap.size, 0, none⟩) 2 2).ownBlock ≠ u.ownBlock) := Lib.hid (by
        rcases e : (Value.slice (some ⟨w3.heap.size, 0, none⟩) 2 2).ownBlock with _ | k
        · exact .inl rfl
        · refine .inr fun e2 => ?_
          have h1 := S5.out.2.2.2.1 k e
          have h2 := (HVS.out.row.lt k e2.symm).1
          omega)
      have S6 := Lib.hid (And.intro (S5.out.1.below hb6 (by first | omega | (simp; done) | (simp; omega))) (And.intro (S5.out.2.1.then_below hb6 (by first | omega | (simp; done) | (simp; omega))) (And.intro (OwnI.mk (S5.out.2.2.1.own.only hg6 hVn.out) S5.out.2.2.1.lt) (And.intro ho6 (lens_append S5.out.2.2.2.2.2.1 S5.out.2.2.2.2.2.2.2))))); have hz6 : w5.heap.size ≤ w6.heap.size := hb6.size; clear S5 HVS ho6 hg6 hb6 hVn
      obtain ⟨A6, n6, c6, rfl⟩ := rdS_form (S6.out.2.2.2.1.rdG (by simp; omega)).rd
      go_wp2
      go_ret2
      exact ⟨_, [1001, 1006], _, zss ++ yss, p5, w3.heap.size + 1, rfl, S6.out.2.2.1, by omega, by have := hzx; simp at this; omega, by first | omega | (simp; done) | (simp; omega), (by first | exact S6.out.2.2.2.1 | simpa using S6.out.2.2.2.1), by simp; omega, S6.out.2.2.2.2, S6.out.1, by omega, S6.out.2.1⟩



theorem blkApart {w w' : World} {g lo hi : Nat} {cs : Array Value} {T : TypeId} (h : Blk w g cs T) (hw : Within lo hi w w') (hd : g < lo ∨ hi ≤ g) : Blk w' g cs T := (hw.block g h.lt (by omega)).trans h
def StatePostR (w0 : World) (g p : Nat) (bs : List Int) (w : World) (e : Ending) (w' : World) : Prop :=
  ∃ A c zs B d zss p' m, e = .returned (.agg #[.slice A zs.length c, .slice B zss.length d]) ∧ OwnI w' w.heap.size m (.slice A zs.length c) zs ∧ zs.length ≤ 62 ∧ OwnR w' w.heap.size w'.heap.size (.slice B zss.length d) zss ∧ zss.length ≤ 26 ∧ (∀ ys ∈ zss, ys.length ≤ 200) ∧ RS w0 w' g bs p' ∧ p' ≤ p + 60001 ∧ Within g (g + 1) w w' ∧ ((Value.slice A zs.length c).ownBlock = none ∨ (Value.slice A zs.length c).ownBlock ≠ (Value.slice B zss.length d).ownBlock)
theorem OwnR.low {w : World} {lo lo' hi : Nat} {v : Value} {zss : List (List Int)} (h : OwnR w lo hi v zss) (hl : lo' ≤ lo) : OwnR w lo' hi v zss := by
  obtain ⟨vs, h1, h2, h3, h4⟩ := h
  refine ⟨vs, h1, ⟨h2.1, ?_⟩, h3, fun j q zs hq hz => (h4 j q zs hq hz).weak hl⟩
  rcases h2.2 with h0 | ⟨g, cap, cur, rfl, hb, h5⟩
  · exact .inl h0
  · exact .inr ⟨g, cap, cur, rfl, by omega, h5⟩
theorem state_end (w0 : World) (g p1 p : Nat) (bs : List Int) (w W : World) (A : Option Addr) (c : Nat) (zs : List Int) (B : Option Addr) (d : Nat) (zss : List (List Int)) (mh m : Nat) (_hgw : g < w.heap.size) (hs0 : w0.heap.size ≤ w.heap.size) (hm : w.heap.size + 1 ≤ m)
    (h1 : RS w0 W g bs p1) (hp : p1 ≤ p + 60001) (h2 : Within g (g + 1) w W) (h3 : OwnI W (w.heap.size + 1) mh (.slice A zs.length c) zs) (hl : zs.length ≤ 62) (h4 : OwnR W m W.heap.size (.slice B zss.length d) zss) (hul : zss.length ≤ 26) (huy : ∀ ys ∈ zss, ys.length ≤ 200) (hne : (Value.slice A zs.length c).ownBlock = none ∨ (Value.slice A zs.length c).ownBlock ≠ (Value.slice B zss.length d).ownBlock) :
    StatePostR w0 g p bs w (.returned (.agg #[.slice A zs.length c, .slice B zss.length d])) ((W.setCell ⟨w.heap.size, 0, none⟩ (.slice A zs.length c)).setCell ⟨w.heap.size, 1, none⟩ (.slice B zss.length d)) := by
  have hbs : Below w.heap.size W ((W.setCell ⟨w.heap.size, 0, none⟩ (.slice A zs.length c)).setCell ⟨w.heap.size, 1, none⟩ (.slice B zss.length d)) := ((Below.refl w.heap.size _).setCell (Nat.le_refl w.heap.size) _).setCell (Nat.le_refl w.heap.size) _
  have hw1 := within_setCell W w.heap.size 0 (.slice A zs.length c)
  have hw2 := within_setCell (W.setCell ⟨w.heap.size, 0, none⟩ (.slice A zs.length c)) w.heap.size 1 (.slice B zss.length d)
  have h3' := (h3.apart hw1 (.inr (Nat.le_refl _))).apart hw2 (.inr (Nat.le_refl _))
  have h4' := ((h4.within hw1 (by omega)).within hw2 (by omega)).low (lo' := w.heap.size) (by omega)
  exact ⟨A, c, zs, B, d, zss, p1, mh, rfl, ⟨h3'.own.mono (by omega), h3'.lt⟩, hl, h4'.widen (by simp [World.setCell]), hul, huy, h1.below hbs hs0, hp, h2.then_below hbs (Nat.le_refl _), hne⟩
theorem OwnR.lt2 {w : World} {lo hi : Nat} {v : Value} {zss : List (List Int)} (h : OwnR w lo hi v zss) : ∀ g, v.ownBlock = some g → lo ≤ g ∧ g < w.heap.size ∧ g < hi := by
  obtain ⟨vs, h1, h2, h3, h4⟩ := h
  exact fun g hg => ⟨(h2.lt g hg).1, (h2.lt g hg).2, h3 g hg⟩
theorem ne_blocks {a b : Value} (h : ∀ k, a.ownBlock = some k → b.ownBlock ≠ some k) : a.ownBlock = none ∨ a.ownBlock ≠ b.ownBlock := by
  rcases e : a.ownBlock with _ | k
  · exact .inl rfl
  · exact .inr fun e2 => h k e e2.symm
theorem ne_blocks2 {zs : List Int} {a : Value} {r : Option Nat} (h : ∀ k, a.ownBlock = some k → r ≠ some k) : zs = [] ∨ a.ownBlock = none ∨ a.ownBlock ≠ r := by
  rcases e : a.ownBlock with _ | k
  · exact .inr (.inl rfl)
  · exact .inr (.inr fun e2 => h k e e2.symm)
/-- append(s, x...): what lies apart from s is kept; the result lies where s lay, or in a new block. -/
theorem wpList_append_X {P : Program} {w : World} {ops : Array Oper} {rest : List Oper} {o : Oper} {a : Act} {Q : Exit → Act → World → Prop} (hgd : o.guard = none) (s x : Operand) (t : TypeId)
    (ho : o.op = .call { callee := .builtin .append, args := #[s, x], argTypes := #[t, t] })
    (ht : P.underlying t = some (.slice 3)) (hinfo : (P.info? 3).map (fun i => (i.zero, i.size, i.bytes)) = some (some (.int .i64 0), 1, 8))
    (lo hi : Nat) (v : Value) (zs : List Int) (hs : a.eval s = v) (hown : OwnI w lo hi v zs) (hlo : lo ≤ w.heap.size)
    (u : Value) (ys : List Int) (hx : a.eval x = u) (hr : RdI w u ys) (hlen : zs.length + ys.length ≤ 1000000000)
    (h : ∀ v' w', OwnI w' lo w'.heap.size v' (zs ++ ys) → Below lo w w' → Within lo hi w w' → (v'.ownBlock = v.ownBlock ∨ v'.ownBlock = some w.heap.size) → wpList P ops Q rest (a.put o.dst v') w') : wpList P ops Q (o :: rest) a w := by
  obtain ⟨A, c, rfl, hi', _⟩ := hr
  refine wpList_plain hgd fun _ hK => wp_append_ints s x t ho lo 3 .i64 8 ht hinfo (Nat.le_refl _) v zs hs hown.own.own w.heap.size A ys c hx hi' hlen hlo ?_
  intro v' w' h1 h2 h5
  refine hK _ _ (h v' w' (Own.within ⟨h1, fun z hz => ?_⟩) (below_of_only h2 hlo (fun k hk => (hown.own.ge k hk).1)) (Within.of_only h2 (fun k hk => ⟨(hown.own.ge k hk).1, hown.lt k hk⟩)) h5)
  rcases List.mem_append.1 hz with h | h
  · exact hown.own.wf z h
  · exact hi'.wf z h
set_option maxHeartbeats 1000000 in
theorem state_anyR (w0 : World) (g p : Nat) (bs : List Int) (w : World) (h : RS w0 w g bs p) (hp : p ≤ 200000000000) :
    Calls Try.prog 11 #[.pointer (some ⟨g, 0, none⟩)] w (StatePostR w0 g p bs w) := by
  have hgw := h.rdr.lt
  have hs0 : w0.heap.size ≤ w.heap.size := h.size
  have hb0 : Below w.heap.size w (w.alloc (.cells #[.slice none 0 0, .slice none 0 0] 26)) := (Below.refl _ _).alloc (Nat.le_refl _) _
  have H := Lib.hid (And.intro (h.below hb0 hs0) (And.intro (Within.of_below (lo := g) (hi := g + 1) hb0) (Blk.new w #[.slice none 0 0, .slice none 0 0] 26))); clear h hb0
  go_enter Try.func11, Try.ntmps11
  go_wp2_with fail
  refine (runOuter w0 g p bs _ H.out.1 (by omega)).mono ?_
  rintro e w1 ⟨v, zs, u, zss, p1, m, rfl, ho, hm1, hm2, hl, hu, hul, huy, hr1, hp1, hg1⟩
  simp only [World.size_alloc] at ho hm1
  have hz1 : w.heap.size + 1 ≤ w1.heap.size := by have := hg1.size; simpa using this
  obtain ⟨A, c, rfl, _⟩ := ho.rd
  obtain ⟨B, d, rfl, _⟩ := (hu.rdG (by omega)).rd
  have X := Lib.hid (And.intro hr1 (And.intro (H.out.2.1.trans hg1) (And.intro ho (And.intro hu (And.intro huy (blkApart H.out.2.2 hg1 (by omega))))))); clear hr1 hg1 ho hu huy H
  go_wp2_with fail
  refine (odd w0 g p1 12 bs _ X.out.1 (by omega) (by omega)).mono ?_
  rintro e w2 ⟨b, rfl, hr2, hg2⟩
  have hz2 := hg2.size
  have Y := Lib.hid (And.intro hr2 (And.intro (X.out.2.1.trans hg2) (And.intro (X.out.2.2.1.apart hg2 (by omega)) (And.intro (X.out.2.2.2.1.within hg2 (by omega)) (And.intro X.out.2.2.2.2.1 (blkApart X.out.2.2.2.2.2 hg2 (by omega))))))); clear hr2 hg2 X
  rcases b with _ | _
  · obtain ⟨r0, r1, r2, r3⟩ := Blk.two Y.out.2.2.2.2.2
    go_wp2
    obtain ⟨c0, c1⟩ := Blk.two_out Y.out.2.2.2.2.2 (x := .slice A zs.length c) (y := .slice B zss.length d)
    refine bodyPost_ret (v := .agg #[.slice A zs.length c, .slice B zss.length d]) (by simp [results, Try.results11, go_sem, c0, c1]) rfl ?_
    exact state_end w0 g (p1 + 1) p bs w w2 A c zs B d zss m m hgw hs0 hm1 Y.out.1 (by omega) Y.out.2.1 Y.out.2.2.1 (by omega) (Y.out.2.2.2.1.widen hz2) hul Y.out.2.2.2.2.1 (ne_blocks fun k hk e => by have h1 := Y.out.2.2.1.lt k hk; have h2 := (Y.out.2.2.2.1.lt2 k e).1; omega)
  · have hbl : Below w2.heap.size w2 (w2.alloc (.cells #[.int .i64 1013] 3)) := (Below.refl _ _).alloc (Nat.le_refl _) _
    have hlit := lits_own w2 [1013] (by simp) (by intro z hz; simp only [List.mem_cons, List.not_mem_nil, or_false] at hz; subst hz; exact wf_near _ (by omega))
    have hrz := Y.out.1.size
    have L := Lib.hid (And.intro (Y.out.1.below hbl hrz) (And.intro (Y.out.2.1.then_below hbl (by omega)) (And.intro (Y.out.2.2.1.below hbl) (And.intro (Y.out.2.2.2.1.below hbl) (And.intro (show OwnI (w2.alloc (.cells #[.int .i64 1013] 3)) w2.heap.size (w2.heap.size + 1) (.slice (some ⟨w2.heap.size, 0, none⟩) 1 1) [1013] by simpa using hlit) (Y.out.2.2.2.2.2.below hbl (by omega))))))); clear hbl hlit
    go_wp2_with (at_builtin; go_loud (refine wpList_append_X rfl _ _ _ rfl Try.underlying23 intInfo (w.heap.size + 1) m _ zs rfl L.out.2.2.1 (by simp; omega) _ [1013] rfl L.out.2.2.2.2.1.rd (by simp; omega) ?_))
    intro v3 w3 ho3 hb3 hw3 h53
    have hz3 : w2.heap.size + 1 ≤ w3.heap.size := by have := hb3.size; simpa using this
    obtain ⟨z3, hz3e, hz3l⟩ : ∃ z3, zs ++ [1013] = z3 ∧ z3.length ≤ 62 := ⟨_, rfl, by simp; omega⟩
    rw [hz3e] at ho3
    have hne : v3.ownBlock = none ∨ v3.ownBlock ≠ (Value.slice B zss.length d).ownBlock := ne_blocks fun k hk e => by
      have h2 := L.out.2.2.2.1.lt2 k e
      have h1 := L.out.2.2.1.lt
      have h3 := Y.out.2.2.2.1.lt2 k e
      rcases h53 with h5 | h5
      · have := h1 k (by rw [← h5]; exact hk); omega
      · rw [h5] at hk; have := Option.some.inj hk; first | omega | (simp at this; omega)
    obtain ⟨A3, c3, rfl, _⟩ := ho3.rd
    have V := Lib.hid (And.intro (L.out.1.below hb3 (by omega)) (And.intro (L.out.2.1.then_below hb3 (by omega)) (And.intro ho3 (And.intro (L.out.2.2.2.1.within hw3 (Nat.le_refl _)) (And.intro Y.out.2.2.2.2.1 (blkApart L.out.2.2.2.2.2 hw3 (by omega))))))); clear hb3 hw3 ho3 hz3e h53 L Y
    obtain ⟨r0, r1, r2, r3⟩ := Blk.two V.out.2.2.2.2.2
    go_wp2
    obtain ⟨c0, c1⟩ := Blk.two_out V.out.2.2.2.2.2 (x := .slice A3 z3.length c3) (y := .slice B zss.length d)
    refine bodyPost_ret (v := .agg #[.slice A3 z3.length c3, .slice B zss.length d]) (by simp [results, Try.results11, go_sem, c0, c1]) rfl ?_
    exact state_end w0 g (p1 + 1) p bs w w3 A3 c3 z3 B d zss w3.heap.size m hgw hs0 hm1 V.out.1 (by omega) V.out.2.1 V.out.2.2.1 hz3l (V.out.2.2.2.1.widen (by omega)) hul V.out.2.2.2.2.1 hne
end Go.Proofs.Ytenaeiedoiepdaa
