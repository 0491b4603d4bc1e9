/- The model's step: what it leaves; a try of its beginning. -/
import Derived.Test.YtceekfoacgoalaaSa
import Derived.Test.YtceekfoacgoalaaRr
import Derived.Test.YtceekfoacgoalaaB1
namespace Go.Proofs.Ytceekfoacgoalaa
set_option maxRecDepth 100000
open Go.RowKit Go.WideShapes

theorem rd_nil {w : World} {A : Option Addr} {n c : Nat} {r : List Int} (hr : r.length ≤ 0) (hn : n ≤ 0) : RdI w (.slice A n c) r := by
  have h : r = [] := List.eq_nil_of_length_eq_zero (by omega)
  subst h
  have h2 : n = 0 := by omega
  subst h2
  exact ⟨A, c, rfl, IntsK.nil _ _ _ _, by simp⟩
/-- What is read, in a block from lo on. -/
def RdG (lo : Nat) (w : World) (v : Value) (zs : List Int) : Prop := RdI w v zs ∧ ∀ k, v.ownBlock = some k → lo ≤ k
theorem RdG.below {lo : Nat} {w w' : World} {v : Value} {zs : List Int} (h : RdG lo w v zs) (hb : Below w.heap.size w w') : RdG lo w' v zs := ⟨h.1.step hb, h.2⟩
theorem RdG.alloc {lo : Nat} {w : World} {v : Value} {zs : List Int} (h : RdG lo w v zs) (o : Obj) : RdG lo (w.alloc o) v zs := h.below ((Below.refl _ _).alloc (Nat.le_refl _) _)
theorem RdG.drew {lo : Nat} {w : World} {v : Value} {zs : List Int} (h : RdG lo w v zs) : RdG lo w.drew v zs := h.below (Below.refl _ _).drew
theorem rd_form {w : World} {v : Value} {zs : List Int} (h : RdI w v zs) : ∃ A n c, v = .slice A n c := by
  obtain ⟨A, c, rfl, _⟩ := h; exact ⟨_, _, _, rfl⟩
theorem rdS_form {w : World} {v : Value} {zss : List (List Int)} (h : RdS w v zss) : ∃ A n c, v = .slice A n c := by
  obtain ⟨A, c, rfl, _⟩ := h; exact ⟨_, _, _, rfl⟩
theorem cell_of_block {w w' : World} {b : Nat} (h : w'.heap[b]? = w.heap[b]?) (o : Nat) : w'.cell? ⟨b, o, none⟩ = w.cell? ⟨b, o, none⟩ := by
  simp only [World.cell?, h]
theorem RdG.within {lo m hi : Nat} {w w' : World} {v : Value} {zs : List Int} (h : RdG lo w v zs) (hw : Within m hi w w') (hh : hi ≤ lo) : RdG lo w' v zs := by
  obtain ⟨⟨A, c, rfl, ⟨hl, hwf, hat⟩, hc⟩, hk⟩ := h
  refine ⟨⟨A, c, rfl, ⟨hl, hwf, fun h0 => ?_⟩, hc⟩, hk⟩
  obtain ⟨b, off, rfl, hb, hcc⟩ := hat h0
  have hlo : lo ≤ b := hk b rfl
  refine ⟨b, off, rfl, Nat.lt_of_lt_of_le hb hw.size, fun j hj => ?_⟩
  rw [← hcc j hj]
  exact cell_of_block (hw.block b hb (by omega)) _
def RdGS (lo : Nat) (w : World) (v : Value) (zss : List (List Int)) : Prop := ∃ A c, v = .slice A zss.length c ∧ zss.length ≤ 9223372036854775807 ∧ (0 < zss.length → ∃ b off, A = some ⟨b, off, none⟩ ∧ b < w.heap.size ∧ lo ≤ b ∧ ∀ (j : Nat) zs, zss[j]? = some zs → ∃ u, w.cell? ⟨b, off + j, none⟩ = some u ∧ RdG lo w u zs)
theorem RdGS.rd {lo : Nat} {w : World} {v : Value} {zss : List (List Int)} (h : RdGS lo w v zss) : RdS w v zss := by
  obtain ⟨A, c, rfl, hl, h⟩ := h
  refine ⟨A, c, rfl, hl, fun h0 => ?_⟩
  obtain ⟨b, off, rfl, hb, -, hc⟩ := h h0
  refine ⟨b, off, rfl, hb, fun j zs hz => ?_⟩
  obtain ⟨u, h1, h2⟩ := hc j zs hz
  exact ⟨u, h1, h2.1.at_⟩
theorem RdGS.within {lo m hi : Nat} {w w' : World} {v : Value} {zss : List (List Int)} (h : RdGS lo w v zss) (hw : Within m hi w w') (hh : hi ≤ lo) : RdGS lo w' v zss := by
  obtain ⟨A, c, rfl, hl, h⟩ := h
  refine ⟨A, c, rfl, hl, fun h0 => ?_⟩
  obtain ⟨b, off, rfl, hb, hlo, hc⟩ := h h0
  refine ⟨b, off, rfl, Nat.lt_of_lt_of_le hb hw.size, hlo, fun j zs hz => ?_⟩
  obtain ⟨u, h1, h2⟩ := hc j zs hz
  exact ⟨u, (cell_of_block (hw.block b hb (by omega)) _).trans h1, h2.within hw hh⟩
theorem RdGS.below {lo : Nat} {w w' : World} {v : Value} {zss : List (List Int)} (h : RdGS lo w v zss) (hb : Below w.heap.size w w') : RdGS lo w' v zss := by
  obtain ⟨A, c, rfl, hl, h⟩ := h
  refine ⟨A, c, rfl, hl, fun h0 => ?_⟩
  obtain ⟨b, off, rfl, hb', hlo, hc⟩ := h h0
  refine ⟨b, off, rfl, Nat.lt_of_lt_of_le hb' hb.size, hlo, fun j zs hz => ?_⟩
  obtain ⟨u, h1, h2⟩ := hc j zs hz
  exact ⟨u, (hb.cell (p := ⟨b, off + j, none⟩) hb').trans h1, h2.below hb⟩

theorem RdG.weak {lo lo' : Nat} {w : World} {v : Value} {zs : List Int} (h : RdG lo' w v zs) (hl : lo ≤ lo') : RdG lo w v zs := ⟨h.1, fun k hk => Nat.le_trans hl (h.2 k hk)⟩
theorem RdGS.weak {lo lo' : Nat} {w : World} {v : Value} {zss : List (List Int)} (h : RdGS lo' w v zss) (hl : lo ≤ lo') : RdGS lo w v zss := by
  obtain ⟨A, c, rfl, hn, h⟩ := h
  refine ⟨A, c, rfl, hn, fun h0 => ?_⟩
  obtain ⟨b, off, rfl, hb, hlo, hc⟩ := h h0
  refine ⟨b, off, rfl, hb, Nat.le_trans hl hlo, fun j zs hz => ?_⟩
  obtain ⟨u, h1, h2⟩ := hc j zs hz
  exact ⟨u, h1, h2.weak hl⟩
theorem OwnI.rdG {lo hi : Nat} {w : World} {v : Value} {zs : List Int} (h : OwnI w lo hi v zs) : RdG lo w v zs := ⟨h.rd, fun k hk => (h.own.ge k hk).1⟩
theorem OwnS.rdG {lo hi : Nat} {w : World} {v : Value} {zss : List (List Int)} (h : OwnS w lo hi v zss) : RdGS lo w v zss := by
  obtain ⟨vs, h⟩ := h
  have hl := h.len_le
  rcases h.form with ⟨rfl, h0⟩ | ⟨g, cap, rfl, hg, hc⟩
  · exact ⟨none, 0, by rw [h0], hl, fun h1 => by omega⟩
  · refine ⟨_, cap, rfl, hl, fun h1 => ⟨g, 0, rfl, hg, (h.row.lt g rfl).1, fun j zs hz => ?_⟩⟩
    have hj : j < vs.length := by
      rw [h.len]
      rcases Nat.lt_or_ge j zss.length with h | h
      · exact h
      · rw [List.getElem?_eq_none h] at hz; cases hz
    have hu : vs[j]? = some vs[j] := List.getElem?_eq_getElem hj
    exact ⟨vs[j], by rw [Nat.zero_add]; exact hc j _ hu, (h.inner j _ zs hu hz).rdG⟩
def StepPost (w : World) (x : Option (List Int × List (List Int))) (e : Ending) (w' : World) : Prop :=
  ∃ A0 n0 c0 A1 n1 c1, Below w.heap.size w w' ∧ e = .returned (.tuple #[.agg #[.slice A0 n0 c0, .slice A1 n1 c1], .bool x.isSome]) ∧ ∀ y, x = some y → RdG (w.heap.size + 1 + 1) w' (.slice A0 n0 c0) y.1 ∧ RdGS (w.heap.size + 1 + 1) w' (.slice A1 n1 c1) y.2.reverse

theorem blks {w w2 : World} {a b : Array Value} {T : TypeId} {o : Obj} (hb : Below (w.heap.size + 1 + 1) (((w.alloc (.cells a T)).alloc (.cells b T)).alloc o) w2) : Blk w2 w.heap.size a T ∧ Blk w2 (w.heap.size + 1) b T ∧ Below w.heap.size w w2 ∧ w.heap.size + 1 + 1 + 1 ≤ w2.heap.size := by
  have h1 := Blk.new w a T
  have h2 := Blk.new (w.alloc (.cells a T)) b T
  simp only [World.size_alloc] at h2
  have b1 : Below (w.heap.size + 1) (w.alloc (.cells a T)) ((w.alloc (.cells a T)).alloc (.cells b T)) := (Below.refl _ _).alloc (by simp) _
  have b2 : Below (w.heap.size + 1 + 1) ((w.alloc (.cells a T)).alloc (.cells b T)) (((w.alloc (.cells a T)).alloc (.cells b T)).alloc o) := (Below.refl _ _).alloc (by simp) _
  refine ⟨((h1.below b1 (by omega)).below b2 (by omega)).below hb (by omega), (h2.below b2 (by omega)).below hb (by omega), ?_, by have := hb.size; simpa using this⟩
  exact ((((Below.refl w.heap.size w).alloc (Nat.le_refl _) _).trans (b1.mono (by omega))).trans (b2.mono (by omega))).trans (hb.mono (by omega))
theorem step_out {w wE : World} {x0 x1 : Value} {r' : List Int} {zss' : List (List Int)} {hi hi' : Nat} (h0 : OwnI wE (w.heap.size + 1 + 1) hi x0 r') (h1 : OwnS wE (w.heap.size + 1 + 1) hi' x1 zss') (hb : Below w.heap.size w wE) :
    RdG (w.heap.size + 1 + 1) ((wE.setCell ⟨w.heap.size + 1, 0, none⟩ x0).setCell ⟨w.heap.size + 1, 1, none⟩ x1) x0 r' ∧ RdGS (w.heap.size + 1 + 1) ((wE.setCell ⟨w.heap.size + 1, 0, none⟩ x0).setCell ⟨w.heap.size + 1, 1, none⟩ x1) x1 zss' ∧ Below w.heap.size w ((wE.setCell ⟨w.heap.size + 1, 0, none⟩ x0).setCell ⟨w.heap.size + 1, 1, none⟩ x1) :=
  ⟨((h0.apart (within_setCell _ (w.heap.size + 1) 0 x0) (.inr (by omega))).apart (within_setCell _ (w.heap.size + 1) 1 x1) (.inr (by omega))).rdG,
   ((h1.apart (within_setCell _ (w.heap.size + 1) 0 x0) (.inr (by omega))).apart (within_setCell _ (w.heap.size + 1) 1 x1) (.inr (by omega))).rdG,
   (hb.setCell (by simp) _).setCell (by simp) _⟩
theorem fail_below {w w3 : World} (h : Below w.heap.size w w3) (x y : Value) : Below w.heap.size w ((w3.setCell ⟨w.heap.size + 1, 0, none⟩ x).setCell ⟨w.heap.size + 1, 1, none⟩ y) := (h.setCell (by simp) _).setCell (by simp) _
/-- The cells of the block that holds the result, ahead of the store. -/
theorem Blk.two {w : World} {g : Nat} {a b : Value} {T : TypeId} (h : Blk w g #[a, b] T) : w.cell? ⟨g, 0, none⟩ = some a ∧ w.cell? ⟨g, 1, none⟩ = some b ∧ w.frozen? ⟨g, 0, none⟩ = false ∧ w.frozen? ⟨g, 1, none⟩ = false :=
  ⟨h.cell 0, h.cell 1, h.free 0, h.free 1⟩
theorem Blk.two_out {w : World} {g : Nat} {a b x y : Value} {T : TypeId} (h : Blk w g #[a, b] T) : ((w.setCell ⟨g, 0, none⟩ x).setCell ⟨g, 1, none⟩ y).cell? ⟨g, 0, none⟩ = some x ∧ ((w.setCell ⟨g, 0, none⟩ x).setCell ⟨g, 1, none⟩ y).cell? ⟨g, 1, none⟩ = some y :=
  ⟨((h.set 0 x).set 1 y).cell 0, ((h.set 0 x).set 1 y).cell 1⟩

/-- A row of an own stack: where it lies, and what it reads as; with the values by name. -/
theorem OwnVs.at2 {w : World} {lo hi n c : Nat} {A : Option Addr} {vs : List Value} {zss : List (List Int)} (h : OwnVs w lo hi (.slice A n c) vs zss) {j : Nat} {zs : List Int} (hz : zss[j]? = some zs) :
    ∃ (g : Nat) (u : Value), A = some ⟨g, 0, none⟩ ∧ g < w.heap.size ∧ w.cell? ⟨g, j, none⟩ = some u ∧ vs[j]? = some u ∧ RdI w u zs := by
  obtain ⟨g, _, u, hA, hg, hc, hu⟩ := OwnS.at1 ⟨vs, h⟩ hz
  subst hA
  refine ⟨g, u, rfl, hg, hc, ?_, hu⟩
  have hj : j < zss.length := by
    rcases Nat.lt_or_ge j zss.length with h | h
    · exact h
    · rw [List.getElem?_eq_none h] at hz; cases hz
  rcases h.row.2 with ⟨h0, h1⟩ | ⟨g', cap, cur, h0, _⟩
  · cases h0
  · cases h0
    rw [← h.row.cellAt j (by omega)]; exact hc
end Go.Proofs.Ytceekfoacgoalaa
