/- Words for memory: a slice that reads as a list of integers; a row of the call's own; and how both are kept. -/
import Derived.Test.YtgiemajjmdjfkaaDoorChecked
import Derived.WalkKit
import Derived.ProofKit
import Derived.OpenShut
import Derived.LoopTactic
import Derived.Below
import Derived.BigQuiet
import Derived.Deep.QuietTactic
import Derived.Deep.Draws
import Derived.Lib.Hide
import Derived.Laws.OwnMore
import Derived.Laws.MakeOwn
import Derived.OwnWalk
import Derived.Maps.AppendAt
namespace Go.Proofs.YtgiemajjmdjfkaaDoor
set_option maxRecDepth 100000
open Go.RowKit Go.WideShapes Go.ChangeShapes

theorem ret_bool {a b : Bool} (h : a = b) : Ending.returned (.bool a) = .returned (.bool b) := by rw [h]
theorem ret_i64 {a b : Int} (h : a = b) : Ending.returned (.int .i64 a) = .returned (.int .i64 b) := by rw [h]

/-- Whatever the world, no draw counted: below B nothing has changed. -/
theorem below_drewN {B : Nat} {a w : World} (h : Below B a w) (n : Nat) : Below B a (w.drewN n) := ⟨h.os, h.tape, h.output, h.size, h.block⟩
theorem below_after {a b c : World} (h : Below a.heap.size a b) (k : Below b.heap.size b c) : Below a.heap.size a c := h.trans (k.mono h.size)
theorem only_of_below {a w : World} (h : Below a.heap.size a w) (row : Option Nat) : a.grownBy w row := ⟨h.os, h.tape, h.output, h.size, fun i hi _ => h.block i hi⟩
theorem below_of_only {B : Nat} {a w : World} {row : Option Nat} (h : a.grownBy w row) (hB : B ≤ a.heap.size) (hr : ∀ k, row = some k → B ≤ k) : Below B a w := (Below.refl _ _).grown h hB hr

def InK (k : IntKind) (z : Int) : Prop := (Lit.int k z).wf = true

/-- A slice value at A, below block B, that reads as the integers zs. -/
structure IntsK (k : IntKind) (w : World) (B : Nat) (A : Option Addr) (zs : List Int) : Prop where
  len : zs.length ≤ 9223372036854775807
  wf : ∀ z ∈ zs, InK k z
  at_ : 0 < zs.length → ∃ b off, A = some ⟨b, off, none⟩ ∧ b < B ∧ ∀ j, j < zs.length → w.cell? ⟨b, off + j, none⟩ = some (.int k (zs.getD j 0))

abbrev Ints (w : World) (A : Option Addr) (zs : List Int) : Prop := IntsK .i64 w w.heap.size A zs

section
variable {k : IntKind} {w w' : World} {B B' : Nat} {A : Option Addr} {zs : List Int}
theorem IntsK.keep (h : IntsK k w B A zs) (hk : ∀ p : Addr, p.block < B → w'.cell? p = w.cell? p) : IntsK k w' B A zs :=
  ⟨h.len, h.wf, fun h0 => by
    obtain ⟨b, off, e, hb, hc⟩ := h.at_ h0
    exact ⟨b, off, e, hb, fun j hj => (hk _ hb).trans (hc j hj)⟩⟩
theorem IntsK.mono (h : IntsK k w B A zs) (hB : B ≤ B') : IntsK k w B' A zs :=
  ⟨h.len, h.wf, fun h0 => by
    obtain ⟨b, off, e, hb, hc⟩ := h.at_ h0
    exact ⟨b, off, e, by omega, hc⟩⟩
theorem IntsK.below (h : IntsK k w B A zs) (hb : Below B w w') : IntsK k w' B A zs := h.keep fun _ hp => hb.cell hp
theorem Ints.step (h : Ints w A zs) (hb : Below w.heap.size w w') : Ints w' A zs := (IntsK.below h hb).mono hb.size
theorem IntsK.drewN (h : IntsK k w B A zs) (n : Nat) : IntsK k (w.drewN n) B A zs := ⟨h.len, h.wf, h.at_⟩
theorem IntsK.alloc (h : IntsK k w B A zs) (hB : B ≤ w.heap.size) (o : Obj) : IntsK k (w.alloc o) B A zs := h.keep fun p hp => World.cell?_alloc_lt w o p (by omega)
theorem IntsK.nil (k : IntKind) (w : World) (B : Nat) (A : Option Addr) : IntsK k w B A [] := ⟨by simp, by simp, fun h => by simp at h⟩
end

/-- A row of the call's own, from block B on, that holds the integers zs. -/
structure Own (w : World) (B : Nat) (v : Value) (zs : List Int) : Prop where
  own : w.ownsRow B 3 1 v zs.length (zs.map (Value.int .i64))
  wf : ∀ z ∈ zs, InK .i64 z

section
variable {w w' : World} {B B' : Nat} {v : Value} {zs : List Int}
theorem Own.len_le (h : Own w B v zs) : zs.length ≤ 9223372036854775807 := by
  rcases h.own.2 with ⟨_, h0⟩ | ⟨g, cap, cur, _, _, _, h1, h2, _⟩
  · omega
  · unfold maxLen at h2; omega
/-- It reads as a slice of integers. -/
theorem Own.ints (h : Own w B v zs) : ∃ A c, v = .slice A zs.length c ∧ Ints w A zs ∧ zs.length ≤ c := by
  have hl := h.len_le
  rcases hx : h.own.2 with ⟨rfl, h0⟩ | ⟨g, cap, cur, rfl, hb, hh, h1, h2, _⟩
  · have hz : zs = [] := List.eq_nil_of_length_eq_zero h0
    subst hz
    exact ⟨none, 0, rfl, IntsK.nil _ _ _ _, by simp⟩
  · refine ⟨_, _, rfl, ⟨hl, h.wf, fun _ => ⟨g, 0, rfl, ?_, fun j hj => ?_⟩⟩, h1⟩
    · exact (h.own.lt g rfl).2
    · rw [Nat.zero_add, h.own.cellAt j (by omega)]
      simp [List.getD, hj]
theorem Own.below (h : Own w B v zs) (hb : Below w.heap.size w w') : Own w' B v zs :=
  ⟨h.own.kept (row := none) (only_of_below hb none) (by
    rcases e : v.ownBlock with _ | g
    · exact .inl rfl
    · exact .inr (by simp)), h.wf⟩
theorem Own.only (h : Own w B v zs) {row : Option Nat} (hg : w.grownBy w' row) (hne : v.ownBlock = none ∨ v.ownBlock ≠ row) : Own w' B v zs := ⟨h.own.kept hg hne, h.wf⟩
theorem Own.mono (h : Own w B' v zs) (hB : B ≤ B') : Own w B v zs := by
  refine ⟨⟨h.own.1, ?_⟩, h.wf⟩
  rcases h.own.2 with h0 | ⟨g, cap, cur, rfl, hb, h1⟩
  · exact .inl h0
  · exact .inr ⟨g, cap, cur, rfl, by omega, h1⟩
theorem Own.ge (h : Own w B v zs) : ∀ g, v.ownBlock = some g → B ≤ g ∧ g < w.heap.size := fun g hg => h.own.lt g hg
end

theorem intInfo : (Tryd.prog.info? 3).map (fun i => (i.zero, i.size, i.bytes)) = some (some (.int .i64 0), 1, 8) := by kernel_rfl

/-- What the reader gives of a slice of integers. -/
theorem ints_of_trod {H : Type} {enc : TypeId × Value → H} {P : Program} {W : World} {t e : TypeId} {k : IntKind} {v : Value} {d : DataW H} {ps : List MemPlace} {base : Nat}
    (ht : P.underlying t = some (.slice e)) (he : P.underlying e = some (.int k)) (hc : P.cellsOf e = 1)
    (hval : Value.okWide P W .any base t v) (h : DataW.Trod enc P W 0 (fun _ => true) true t v d ps) : ∃ A c zs, v = .slice A zs.length c ∧ IntsK k W W.heap.size A zs ∧ zs.length ≤ c := by
  obtain ⟨a0, len, cap, rfl⟩ := okWide_slice ht hval
  obtain ⟨fuel, hf⟩ := h
  rcases open_ints ht he hc hf with ⟨hcs, hx⟩ | ⟨a, len', cap', zs, hcs, _, hl, hm, hz, hx, hcell, hwz⟩
  · simp [Value.cells] at hcs
    obtain ⟨rfl, rfl, rfl⟩ := hcs
    exact ⟨none, 0, [], rfl, IntsK.nil _ _ _ _, by simp⟩
  · simp [Value.cells] at hcs
    obtain ⟨rfl, rfl, rfl⟩ := hcs
    simp only [if_true] at hz
    have hlen : (zs.take len).length = len := by rw [List.length_take]; omega
    refine ⟨some a, cap, zs.take len, by rw [hlen], ⟨by unfold maxLen at hm; omega, fun z hz' => hwz z (List.mem_of_mem_take hz'), fun h0 => ?_⟩, by rw [hlen]; exact hl⟩
    have h0' : 0 < zs.length := by omega
    obtain ⟨b, off, spot⟩ := a
    have hspot : spot = none := by simpa [Addr.add] using World.cell?_spot (hcell 0 h0')
    subst hspot
    have hb : b < W.heap.size := by
      have h1 := hcell 0 h0'
      rcases Nat.lt_or_ge b W.heap.size with hlt | hge
      · exact hlt
      · simp [World.cell?, Addr.add, Array.getElem?_eq_none hge] at h1
    refine ⟨b, off, rfl, hb, fun j hj => ?_⟩
    rw [← add_plain, hcell j (by omega)]
    simp only [List.getD, List.getElem?_take]
    rw [if_pos (by omega)]

end Go.Proofs.YtgiemajjmdjfkaaDoor
