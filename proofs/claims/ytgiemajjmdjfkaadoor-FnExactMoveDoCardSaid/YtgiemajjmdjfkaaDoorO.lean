/- What a law keeps in hand: values that read as integers; rows of the call's own, each within its blocks; and how the steps keep them. -/
import Derived.Test.YtgiemajjmdjfkaaDoorE
namespace Go.Proofs.YtgiemajjmdjfkaaDoor
set_option maxRecDepth 100000
open Go.RowKit Go.WideShapes

/-- A value that reads as the integers zs. -/
def RdI (w : World) (v : Value) (zs : List Int) : Prop := ∃ A c, v = .slice A zs.length c ∧ Ints w A zs ∧ zs.length ≤ c
theorem RdI.mk {w : World} {A : Option Addr} {c : Nat} {zs : List Int} (h : Ints w A zs) (hc : zs.length ≤ c) : RdI w (.slice A zs.length c) zs := ⟨A, c, rfl, h, hc⟩
theorem RdI.len_le {w : World} {v : Value} {zs : List Int} (h : RdI w v zs) : zs.length ≤ 9223372036854775807 := by
  obtain ⟨A, c, rfl, hi, _⟩ := h; exact hi.len
theorem RdI.step {w w' : World} {v : Value} {zs : List Int} (h : RdI w v zs) (hb : Below w.heap.size w w') : RdI w' v zs := by
  obtain ⟨A, c, rfl, hi, hc⟩ := h
  exact ⟨A, c, rfl, hi.step hb, hc⟩
theorem RdI.wf {w : World} {v : Value} {zs : List Int} (h : RdI w v zs) : ∀ z ∈ zs, InK .i64 z := by
  obtain ⟨A, c, rfl, hi, _⟩ := h; exact hi.wf

/-- A value that reads as zs, all of it below block B: kept whatever happens from B on. -/
def RdBI (w : World) (B : Nat) (v : Value) (zs : List Int) : Prop := ∃ A c, v = .slice A zs.length c ∧ IntsK .i64 w B A zs ∧ zs.length ≤ c

/-- Only blocks from lo on and below hi have changed, of those that were. -/
structure Within (lo hi : Nat) (w w' : World) : Prop where
  os : w'.os = w.os
  tape : w'.tape = w.tape
  output : w'.output = w.output
  size : w.heap.size ≤ w'.heap.size
  block : ∀ k, k < w.heap.size → ¬ (lo ≤ k ∧ k < hi) → w'.heap[k]? = w.heap[k]?
theorem Within.of_below {lo hi : Nat} {w w' : World} (h : Below w.heap.size w w') : Within lo hi w w' := ⟨h.os, h.tape, h.output, h.size, fun k hk _ => h.block k hk⟩
theorem Within.below {lo hi B : Nat} {w w' : World} (h : Within lo hi w w') (hB : B ≤ lo) (hs : B ≤ w.heap.size) : Below B w w' := ⟨h.os, h.tape, h.output, h.size, fun k hk => h.block k (by omega) (by omega)⟩
theorem Within.of_only {lo hi : Nat} {w w' : World} {row : Option Nat} (h : w.grownBy w' row) (hr : ∀ g, row = some g → lo ≤ g ∧ g < hi) : Within lo hi w w' :=
  ⟨h.os, h.tape, h.output, h.size, fun k hk hn => h.block k hk (by
    intro e
    exact hn (hr k e.symm))⟩

/-- A row of the call's own in the blocks from lo on and below hi. -/
structure OwnI (w : World) (lo hi : Nat) (v : Value) (zs : List Int) : Prop where
  own : Own w lo v zs
  lt : ∀ g, v.ownBlock = some g → g < hi
theorem Own.within {w : World} {lo : Nat} {v : Value} {zs : List Int} (h : Own w lo v zs) : OwnI w lo w.heap.size v zs := ⟨h, fun g hg => (h.ge g hg).2⟩
theorem OwnI.rd {w : World} {lo hi : Nat} {v : Value} {zs : List Int} (h : OwnI w lo hi v zs) : RdI w v zs := by
  exact h.own.ints
theorem OwnI.below {w w' : World} {lo hi : Nat} {v : Value} {zs : List Int} (h : OwnI w lo hi v zs) (hb : Below w.heap.size w w') : OwnI w' lo hi v zs := ⟨h.own.below hb, h.lt⟩
theorem OwnI.apart {w w' : World} {lo hi lo' hi' : Nat} {v : Value} {zs : List Int} (h : OwnI w lo hi v zs) (hw : Within lo' hi' w w') (hd : hi ≤ lo' ∨ hi' ≤ lo) : OwnI w' lo hi v zs := by
  refine ⟨⟨?_, h.own.wf⟩, h.lt⟩
  rcases h.own.own.2 with h0 | ⟨g, cap, cur, rfl, hb, hh, h1⟩
  · exact ⟨h.own.own.1, .inl h0⟩
  · have hg := h.lt g rfl
    exact ⟨h.own.own.1, .inr ⟨g, cap, cur, rfl, hb, (hw.block g (h.own.own.lt g rfl).2 (by omega)).trans hh, h1⟩⟩
theorem OwnI.belowB {w w' : World} {lo hi B : Nat} {v : Value} {zs : List Int} (h : OwnI w lo hi v zs) (hb : Below B w w') (hB : hi ≤ B) : OwnI w' lo hi v zs := by
  refine ⟨⟨⟨h.own.own.1, ?_⟩, h.own.wf⟩, h.lt⟩
  rcases h.own.own.2 with h0 | ⟨g, cap, cur, rfl, hb', hh, h1⟩
  · exact .inl h0
  · have hg := h.lt g rfl
    exact .inr ⟨g, cap, cur, rfl, hb', (hb.block g (by omega)).trans hh, h1⟩
theorem RdI.at_ {w : World} {v : Value} {zs : List Int} (h : RdI w v zs) : RdBI w w.heap.size v zs := h
def szI (zs : List Int) : Nat := zs.length
def mkI (a : Int) (zs : List Int) : List Int := marks a zs.length
theorem RdBI.rd {w : World} {B : Nat} {v : Value} {zs : List Int} (h : RdBI w B v zs) (hB : B ≤ w.heap.size) : RdI w v zs := by
  obtain ⟨A, c, rfl, hi, hc⟩ := h
  exact ⟨A, c, rfl, hi.mono hB, hc⟩
theorem RdBI.below {w w' : World} {B : Nat} {v : Value} {zs : List Int} (h : RdBI w B v zs) (hb : Below B w w') : RdBI w' B v zs := by
  obtain ⟨A, c, rfl, hi, hc⟩ := h
  exact ⟨A, c, rfl, hi.below hb, hc⟩

/-- The helpers, in these words. -/
theorem toI (v : Value) (zs : List Int) (w : World) (h : RdI w v zs) (hl : zs.length ≤ 1048576) :
    Calls Tryd.prog 42 #[v] w fun e w' => ∃ u, e = .returned u ∧ OwnI w' w.heap.size w'.heap.size u zs ∧ Below w.heap.size w w' := by
  obtain ⟨A, c, rfl, hi, _⟩ := h
  refine (toIntS_any A c zs w hi hl).mono ?_
  rintro e w' ⟨u, rfl, ho, hb⟩
  exact ⟨u, rfl, ho.within, hb⟩
theorem eqI (v u : Value) (xs ys : List Int) (w : World) (hx : RdI w v xs) (hy : RdI w u ys) (b : Bool) (hb : decide (xs = ys) = b) :
    Calls Tryd.prog 44 #[v, u] w fun e w' => e = .returned (.bool b) ∧ Below w.heap.size w w' := by
  obtain ⟨A, c, rfl, hi, _⟩ := hx
  obtain ⟨A', c', rfl, hi', _⟩ := hy
  refine (eqIntS_any A A' c c' xs ys w hi hi').mono ?_
  rintro e w' ⟨rfl, n, rfl⟩
  exact ⟨by rw [hb], below_drewN (Below.refl _ _) n⟩
theorem markI (v : Value) (zs : List Int) (a : Int) (lo hi : Nat) (w : World) (ha : 0 ≤ a ∧ a ≤ 1000000000) (hl : szI zs ≤ 1000000000) (h : OwnI w lo hi v zs) :
    Calls Tryd.prog 45 #[v, .int .i64 a] w fun e w' => e = .returned (.int .i64 (a + zs.length)) ∧ OwnI w' lo hi v (mkI a zs) ∧ Within lo hi w w' := by
  refine (mark_own lo zs v a w ha hl h.own).mono ?_
  rintro e w' ⟨rfl, ho, hg⟩
  exact ⟨rfl, ⟨ho, h.lt⟩, Within.of_only hg fun g hg => ⟨(h.own.ge g hg).1, h.lt g hg⟩⟩
theorem heldI (v : Value) (zs : List Int) (a : Int) (w : World) (ha : 0 ≤ a ∧ a ≤ 1000000000) (hl : szI zs ≤ 1000000000) (h : RdI w v (mkI a zs)) :
    Calls Tryd.prog 46 #[v, .int .i64 a] w fun e w' => e = .returned (.int .i64 (a + zs.length)) ∧ Below w.heap.size w w' := by
  obtain ⟨A, c, rfl, hi, _⟩ := h
  rw [mkI, marks_length]
  refine (heldIntS_any A c zs.length a w ha hl hi).mono ?_
  rintro e w' ⟨rfl, rfl⟩
  exact ⟨rfl, Below.refl _ _⟩
end Go.Proofs.YtgiemajjmdjfkaaDoor
