/- slices.Values, slices.AppendSeq, slices.Collect at a row of integers that is read. -/
import Derived.Test.YtkdpfiaegimnlaaB7
import Derived.OwnWalkIn
import Derived.RangeFuncGives
namespace Go.Proofs.Ytkdpfiaegimnlaa
set_option maxRecDepth 100000
open Go.RowKit Go.WideShapes Go.Shelf
attribute [local go_sem] Oper.semAt_some

theorem i64s {ws : List Int} (h : ∀ z ∈ ws, InK .i64 z) : ∃ zs : List I64, ws = zs.map (·.1) := by
  induction ws with
  | nil => exact ⟨[], rfl⟩
  | cons a r ih =>
    obtain ⟨q, rfl⟩ := ih (fun z hz => h z (by simp [hz]))
    exact ⟨⟨a, h a (by simp)⟩ :: q, rfl⟩
theorem takeD_succ (zs : List I64) (k : Nat) (h : k < zs.length) : zs.take (k + 1) = zs.take k ++ [zs.getD k d64] := by
  rw [List.take_add_one]; simp [List.getD, List.getElem?_eq_getElem h]

/-- What is read between the rounds: the box, and the row. -/
def RdV (lo Bs : Nat) (A : Option Addr) (cap : Nat) (zs : List I64) (W : World) : Prop := lo ≤ W.heap.size ∧ Bs < lo ∧ W.cell? ⟨Bs, 0, none⟩ = some (.slice A zs.length cap) ∧ (0 < zs.length → ∃ b off, A = some ⟨b, off, none⟩ ∧ b < lo ∧ ∀ j, j < zs.length → W.cell? ⟨b, off + j, none⟩ = some (.int .i64 (zs.getD j d64).1))
theorem RdV.keep {lo Bs cap : Nat} {A : Option Addr} {zs : List I64} {W W' : World} (h : RdV lo Bs A cap zs W) (k : Below lo W W') : RdV lo Bs A cap zs W' := by
  obtain ⟨h0, h1, h2, h3⟩ := h
  refine ⟨Nat.le_trans h0 k.size, h1, (k.cell (p := ⟨Bs, 0, none⟩) h1).trans h2, fun hp => ?_⟩
  obtain ⟨b, off, rfl, hb, hc⟩ := h3 hp
  exact ⟨b, off, rfl, hb, fun j hj => (k.cell (p := ⟨b, off + j, none⟩) hb).trans (hc j hj)⟩
theorem RdV.cells {lo Bs cap : Nat} {A : Option Addr} {zs : List I64} {W : World} (h : RdV lo Bs A cap zs W) : W.cell? ⟨Bs, 0, none⟩ = some (.slice A zs.length cap) ∧ (0 < zs.length → ∃ b off, A = some ⟨b, off, none⟩ ∧ ∀ j, j < zs.length → W.cell? ⟨b, off + j, none⟩ = some (.int .i64 (zs.getD j d64).1)) := by
  obtain ⟨h0, h1, h2, h3⟩ := h
  refine ⟨h2, fun hp => ?_⟩
  obtain ⟨b, off, rfl, _, hc⟩ := h3 hp
  exact ⟨b, off, rfl, hc⟩
/-- Between two rounds of AppendSeq: the box holds a row of the call's own. -/
def Apd (w : World) (lo : Nat) (pre : List I64) (W : World) : Prop := ∃ v, Blk W lo #[v] 25 ∧ W.ownsRow lo 3 1 v pre.length (pre.map fun x => Value.int .i64 x.1) ∧ Below lo w W
theorem Apd.turn {w W W' : World} {lo : Nat} {pre : List I64} {row : Option Nat} (h : Apd w lo pre W) (hlo : lo ≤ w.heap.size) (hg : W.grownBy W' row) (hr : ∀ r, row = some r → lo ≤ r ∧ ∃ o : Obj, W.heap[r]? = some o ∧ o.isCells = false) : Apd w lo pre W' := by
  obtain ⟨v, hb, ho, hB⟩ := h
  have hsame : ∀ k, IsC W k → W'.heap[k]? = W.heap[k]? := fun k hk => hg.block k hk.lt (fun e => by
    obtain ⟨_, o, ho, hc⟩ := hr k e.symm
    obtain ⟨cs, T, f, hk⟩ := hk
    rw [hk] at ho; cases ho
    simp [Obj.isCells] at hc)
  refine ⟨v, (hsame _ ⟨_, _, _, hb⟩).trans hb, ownsRow_keep ho fun k hk => ?_, hB.grown hg (Nat.le_trans hlo hB.size) (fun k e => (hr k e).1)⟩
  rcases ho.2 with ⟨rfl, _⟩ | ⟨g', cap, cur, rfl, _, hh, _⟩
  · simp [Value.ownBlock] at hk
  · have : g' = k := by simpa [Value.ownBlock] using hk
    subst this
    exact hsame _ ⟨_, _, _, hh⟩

end Go.Proofs.Ytkdpfiaegimnlaa
