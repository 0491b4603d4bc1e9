/- The draw of a state that may have a bad value on top: DrawStateOk. -/
import Derived.Test.YtjbfpbajbjnifaaDt
namespace Go.Proofs.Ytjbfpbajbjnifaa
set_option maxRecDepth 100000
open Go.RowKit Go.WideShapes

def DrawnSt (w : World) (e : Ending) (w' : World) : Prop := ∃ A c zs B d zss, e = .returned (.agg #[.slice A zs.length c, .slice B zss.length d]) ∧ RdI w' (.slice A zs.length c) zs ∧ zs.length ≤ 62 ∧ RdS w' (.slice B zss.length d) zss ∧ zss.length ≤ 27 ∧ Below w.heap.size w w'
theorem st_end {w W : World} {A : Option Addr} {c : Nat} {zs : List Int} {B : Option Addr} {d : Nat} {zss : List (List Int)} {lo hi l2 : Nat} (hb : Below w.heap.size w W) (h1 : OwnI W lo hi (.slice A zs.length c) zs) (hl : zs.length ≤ 62) (h2 : OwnR W l2 W.heap.size (.slice B zss.length d) zss) (hul : zss.length ≤ 27) (hlo : w.heap.size + 1 ≤ lo) (hl2 : w.heap.size + 1 ≤ l2) :
    DrawnSt w (.returned (.agg #[.slice A zs.length c, .slice B zss.length d])) ((W.setCell ⟨w.heap.size, 0, none⟩ (.slice A zs.length c)).setCell ⟨w.heap.size, 1, none⟩ (.slice B zss.length d)) := by
  have hbs : Below w.heap.size W ((W.setCell ⟨w.heap.size, 0, none⟩ (.slice A zs.length c)).setCell ⟨w.heap.size, 1, none⟩ (.slice B zss.length d)) := ((Below.refl w.heap.size _).setCell (Nat.le_refl w.heap.size) _).setCell (Nat.le_refl w.heap.size) _
  have hw1 := within_setCell W w.heap.size 0 (.slice A zs.length c)
  have hw2 := within_setCell (W.setCell ⟨w.heap.size, 0, none⟩ (.slice A zs.length c)) w.heap.size 1 (.slice B zss.length d)
  exact ⟨A, c, zs, B, d, zss, rfl, ((h1.apart hw1 (.inr (by omega))).apart hw2 (.inr (by omega))).rd, hl, (((h2.within hw1 (by omega)).within hw2 (by omega)).rdG (by omega)).rd, hul, hb.trans hbs⟩
theorem RdI.off_blk {w w' : World} {u : Value} {zs : List Int} (h : RdI w u zs) {b : Nat} {x0 x1 : Option Addr} {n0 c0 n1 c1 : Nat} {T : TypeId} (hk : Blk w b #[.slice x0 n0 c0, .slice x1 n1 c1] T) (hw : Within b (b + 1) w w') : RdI w' u zs := by
  refine h.kept hw.size ?_
  obtain ⟨A, c, rfl, hi, hc⟩ := h
  by_cases h0 : 0 < zs.length
  · obtain ⟨q, off, rfl, hq, hcc⟩ := hi.at_ h0
    have h1 := hcc 0 h0
    have hne : q ≠ b := by
      rintro rfl
      rw [hk.cell] at h1
      rcases off with _ | _ | off <;> simp at h1
    exact .inr ⟨q, rfl, hw.block q hq (by omega)⟩
  · exact .inl (List.eq_nil_of_length_eq_zero (by omega))
theorem ownsRow_off {w w' : World} {lo n : Nat} {v : Value} {vs : List Value} {U : TypeId} (h : w.ownsRow lo U 1 v n vs) {b : Nat} {cs : Array Value} {T : TypeId} (hk : Blk w b cs T) (hT : T ≠ U) (hw : Within b (b + 1) w w') : w'.ownsRow lo U 1 v n vs := by
  refine ⟨h.1, ?_⟩
  rcases h.2 with h0 | ⟨g, cap, cur, rfl, hb, hh, h5⟩
  · exact .inl h0
  · have hne : g ≠ b := by
      rintro rfl
      rw [show w.heap[g]? = some (.cells cs T (0, 0)) from hk] at hh
      simp only [Option.some.injEq, Obj.cells.injEq] at hh
      exact hT hh.2.1
    exact .inr ⟨g, cap, cur, rfl, hb, (hw.block g (h.lt g rfl).2 (by omega)).trans hh, h5⟩
theorem OwnR.off_blk {w w' : World} {lo hi : Nat} {v : Value} {zss : List (List Int)} (h : OwnR w lo hi v zss) {b : Nat} {x0 x1 : Option Addr} {n0 c0 n1 c1 : Nat} {T : TypeId} (hk : Blk w b #[.slice x0 n0 c0, .slice x1 n1 c1] T) (hT : T ≠ 23) (hw : Within b (b + 1) w w') : OwnR w' lo hi v zss := by
  obtain ⟨vs, h1, h2, h3, h4⟩ := h
  exact ⟨vs, h1, ownsRow_off h2 hk hT hw, h3, fun j q zs hq hz => ⟨⟨(h4 j q zs hq hz).1.1.off_blk hk hw, (h4 j q zs hq hz).1.2⟩, (h4 j q zs hq hz).2⟩⟩
set_option maxHeartbeats 2000000 in
theorem DrawStateOk_any (v : Value) (zs : List Int) (w : World) (h : RdC w v zs) : Calls Try.prog 15 #[v] w (DrawnSt w) := by
  have hb0 : Below w.heap.size w (w.alloc (.cells #[.slice none 0 0, .slice none 0 0] 26)) := (Below.refl _ _).alloc (Nat.le_refl _) _
  have H := Lib.hid (And.intro ((RdBC.below h hb0).rd (by simp)) (And.intro hb0 (Blk.new w #[.slice none 0 0, .slice none 0 0] 26))); clear h hb0
  go_enter Try.func15, Try.ntmps15
  go_wp2_with fail
  refine (l20Open_any v zs _ H.out.1).mono ?_
  rintro e w1 ⟨g, bs, rfl, hr, hg, hb⟩
  have hz1 : w.heap.size + 1 ≤ w1.heap.size := by have := hb.size; simpa using this
  simp only [World.size_alloc] at hg
  have hgl := hr.lt
  have X := Lib.hid (And.intro (RS.refl hr) (And.intro (H.out.2.1.trans (hb.mono (by simp))) (H.out.2.2.below hb (by simp)))); clear hr hb H
  go_wp2_with fail
  refine (state_anyR w1 g 0 bs _ X.out.1 (by omega)).mono ?_
  rintro e w2 ⟨A, c, zp, B, d, zss, p2, m, rfl, ho, hl, hu, hul, _, hr2, hp2, hg2, hne⟩
  have hz2 := hg2.size
  have hbt : Below w2.heap.size w2 (w2.alloc (.cells #[.slice A zp.length c, .slice B zss.length d] 26)) := (Below.refl _ _).alloc (Nat.le_refl _) _
  have hrz := hr2.size
  have Y := Lib.hid (And.intro (hr2.below hbt hrz) (And.intro ((X.out.2.1.trans (hg2.below (B := w.heap.size) (by omega) (by omega))).trans (hbt.mono (by omega))) (And.intro ((blkApart X.out.2.2 hg2 (by omega)).below hbt (by omega)) (And.intro (ho.below hbt) (And.intro (hu.below hbt) (Blk.new w2 #[.slice A zp.length c, .slice B zss.length d] 26)))))); clear hr2 hg2 ho hu hbt X
  go_wp2_with fail
  refine (odd w1 g p2 4 bs _ Y.out.1 (by omega) (by omega)).mono ?_
  rintro e w3 ⟨b, rfl, hr3, hg3⟩
  have hz3 : w2.heap.size + 1 ≤ w3.heap.size := by have := hg3.size; simpa using this
  have hom : m ≤ w2.heap.size ∨ True := .inr trivial
  have Z := Lib.hid (And.intro (Y.out.2.1.trans (hg3.below (B := w.heap.size) (by omega) (by simp; omega))) (And.intro (blkApart Y.out.2.2.1 hg3 (by omega)) (And.intro (Y.out.2.2.2.1.apart hg3 (.inr (by omega))) (And.intro (Y.out.2.2.2.2.1.within hg3 (by omega)) (blkApart Y.out.2.2.2.2.2 hg3 (by omega)))))); clear hr3 hg3 hom Y
  obtain ⟨r0, r1, r2, r3⟩ := Blk.two Z.out.2.1
  obtain ⟨t0, t1, t2, t3⟩ := Blk.two Z.out.2.2.2.2
  rcases b with _ | _
  · go_wp2
    obtain ⟨c0, c1⟩ := Blk.two_out Z.out.2.1 (x := .slice A zp.length c) (y := .slice B zss.length d)
    refine bodyPost_ret (v := .agg #[.slice A zp.length c, .slice B zss.length d]) (by simp [results, Try.results15, go_sem, c0, c1]) rfl ?_
    exact st_end Z.out.1 Z.out.2.2.1 hl (Z.out.2.2.2.1.widen (by omega)) (by omega) hz1 hz1
  · obtain ⟨u, hu⟩ : ∃ u, Value.slice B zss.length d = u := ⟨_, rfl⟩
    have hub : ∃ x1 n1 c1, u = .slice x1 n1 c1 := ⟨_, _, _, hu.symm⟩
    rw [hu] at Z t1 hne
    clear hu
    have hba : Below w3.heap.size w3 ((w3.alloc (.cells #[.int .i64 (-1)] 3)).alloc (.cells #[.slice (some ⟨w3.heap.size, 0, none⟩) 1 1] 23)) := ((Below.refl _ _).alloc (Nat.le_refl _) _).alloc (by simp) _
    have hlit := lits_own w3 [-1] (by simp) (by intro z hz; simp only [List.mem_cons, List.not_mem_nil, or_false] at hz; subst hz; exact wf_near _ (by omega))
    have hq : Apart w1.heap.size ((w3.alloc (.cells #[.int .i64 (-1)] 3)).alloc (.cells #[.slice (some ⟨w3.heap.size, 0, none⟩) 1 1] 23)) u.ownBlock (.slice (some ⟨w3.heap.size, 0, none⟩) 1 1) [-1] := by
      have h1 : OwnI (w3.alloc (.cells #[.int .i64 (-1)] 3)) w3.heap.size (w3.heap.size + 1) (.slice (some ⟨w3.heap.size, 0, none⟩) 1 1) [-1] := by simpa using hlit
      have h2 := h1.belowB (show Below (w3.heap.size + 1) _ ((w3.alloc (.cells #[.int .i64 (-1)] 3)).alloc (.cells #[.slice (some ⟨w3.heap.size, 0, none⟩) 1 1] 23)) from (Below.refl _ _).alloc (by simp) _) (Nat.le_refl _)
      refine ⟨⟨h2.rd, fun k hk => by simp [Value.ownBlock] at hk; omega⟩, ?_, rfl⟩
      refine ne_blocks2 fun k hk e => ?_
      have := (Z.out.2.2.2.1.lt2 k e).2.1
      simp [Value.ownBlock] at hk; omega
    have hrow : ((w3.alloc (.cells #[.int .i64 (-1)] 3)).alloc (.cells #[.slice (some ⟨w3.heap.size, 0, none⟩) 1 1] 23)).cell? ⟨w3.heap.size + 1, 0, none⟩ = some (.slice (some ⟨w3.heap.size, 0, none⟩) 1 1) := cell_new2 _ _ _ _ 0 _ rfl
    have hrows : 0 < ([[-1]] : List (List Int)).length → ∃ b off, (some ⟨w3.heap.size + 1, 0, none⟩ : Option Addr) = some ⟨b, off, none⟩ ∧ ∀ (j : Nat) ys, ([[-1]] : List (List Int))[j]? = some ys → ∃ q, ((w3.alloc (.cells #[.int .i64 (-1)] 3)).alloc (.cells #[.slice (some ⟨w3.heap.size, 0, none⟩) 1 1] 23)).cell? ⟨b, off + j, none⟩ = some q ∧ Apart w1.heap.size ((w3.alloc (.cells #[.int .i64 (-1)] 3)).alloc (.cells #[.slice (some ⟨w3.heap.size, 0, none⟩) 1 1] 23)) u.ownBlock q ys := by
      refine fun _ => ⟨w3.heap.size + 1, 0, rfl, fun j ys hy => ?_⟩
      rcases j with _ | j
      · simp at hy; subst hy; exact ⟨_, hrow, hq⟩
      · simp at hy
    have L := Lib.hid (And.intro (Z.out.1.trans (hba.mono (by omega))) (And.intro (Z.out.2.1.below hba (by omega)) (And.intro (Z.out.2.2.1.below hba) (And.intro (Z.out.2.2.2.1.below hba) (And.intro (Z.out.2.2.2.2.below hba (by omega)) hrows))))); clear hba hlit hq hrow hrows
    go_wp2_with (at_builtin; go_loud (refine wpList_append_rowsR rfl _ _ _ rfl Try.underlying24 rowInfo w1.heap.size w2.heap.size _ zss rfl (by simp; omega) L.out.2.2.2.1 (some ⟨w3.heap.size + 1, 0, none⟩) 1 [[-1]] rfl (by simp; omega) L.out.2.2.2.2.2 ?_))
    intro v6 w6 ho6 hg6 hgq
    have hz6 : w3.heap.size + 1 + 1 ≤ w6.heap.size := by have := hg6.size; simpa using this
    obtain ⟨z6, hz6e, hz6l⟩ : ∃ z6, zss ++ [[-1]] = z6 ∧ z6.length ≤ 27 := ⟨_, rfl, by simp; omega⟩
    rw [hz6e] at ho6
    have hW : Within w1.heap.size w2.heap.size ((w3.alloc (.cells #[.int .i64 (-1)] 3)).alloc (.cells #[.slice (some ⟨w3.heap.size, 0, none⟩) 1 1] 23)) w6 := Within.of_only hg6 hgq
    have V := Lib.hid (And.intro (L.out.1.trans (hW.below (B := w.heap.size) (by omega) (by simp; omega))) (And.intro (blkApart L.out.2.1 hW (by omega)) (And.intro (show OwnI w6 w1.heap.size m (.slice A zp.length c) zp from ⟨L.out.2.2.1.own.only hg6 hne, L.out.2.2.1.lt⟩) (And.intro ho6 (blkApart L.out.2.2.2.2.1 hW (by omega)))))); clear hW hg6 hgq ho6 hz6e L
    obtain ⟨B6, c6, rfl, _⟩ := (V.out.2.2.2.1.rdG (by omega)).rd
    obtain ⟨s0, s1, s2, s3⟩ := Blk.two V.out.2.1
    obtain ⟨q0, q1, q2, q3⟩ := Blk.two V.out.2.2.2.2
    go_wp2
    obtain ⟨c0, c1⟩ := Blk.two_out (w := w6.setCell ⟨w2.heap.size, 1, none⟩ (.slice B6 z6.length c6)) (blkApart V.out.2.1 (within_setCell w6 w2.heap.size 1 _) (by omega)) (x := .slice A zp.length c) (y := .slice B6 z6.length c6)
    refine bodyPost_ret (v := .agg #[.slice A zp.length c, .slice B6 z6.length c6]) (by simp [results, Try.results15, go_sem, c0, c1]) rfl ?_
    have hwt := within_setCell w6 w2.heap.size 1 (.slice B6 z6.length c6)
    have hbt : Below w.heap.size w6 (w6.setCell ⟨w2.heap.size, 1, none⟩ (.slice B6 z6.length c6)) := (Below.refl w.heap.size _).setCell (show w.heap.size ≤ w2.heap.size by omega) _
    have hu6 : ∃ x1 n1 c1, u = .slice x1 n1 c1 := hub
    obtain ⟨x1, n1, c1', rfl⟩ := hu6
    exact st_end (V.out.1.trans hbt) ⟨⟨ownsRow_off V.out.2.2.1.own.own V.out.2.2.2.2 (by decide) hwt, V.out.2.2.1.own.wf⟩, V.out.2.2.1.lt⟩ hl (V.out.2.2.2.1.off_blk V.out.2.2.2.2 (by decide) hwt |>.widen (Nat.le_of_eq (by simp [World.setCell]))) hz6l hz1 hz1
end Go.Proofs.Ytjbfpbajbjnifaa
