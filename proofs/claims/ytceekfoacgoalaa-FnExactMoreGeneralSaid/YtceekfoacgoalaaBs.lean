/- Several texts in one. -/
import Derived.Test.YtceekfoacgoalaaRr
import Derived.Test.YtceekfoacgoalaaB5
import Derived.Test.YtceekfoacgoalaaB1
/- WordEffect: what it answers; the program's. -/
namespace Go.Proofs.Ytceekfoacgoalaa
set_option maxRecDepth 100000
open Go.RowKit Go.WideShapes

/-- A row and a type more. -/
def putW (row t : List Int) : List Int := 4 :: (row ++ t)
def putsW (row : List Int) (ts : List (List Int)) : List Int := ts.foldl putW row
def progW : List Int := [2, 3, 0, 3, 1]
def wordR (w : Int) : List Int × List Int × Bool :=
  if 0 ≤ w ∧ w ≤ 999 then ([3, 0], putsW [3, 0] [[0]], true)
  else if w = 1001 then (putsW [3, 0] [[1, 0]], putsW [3, 0] [[1, 0], [1, 0]], true)
  else if w = 1002 then (putsW [3, 0] [[1, 0]], [3, 0], true)
  else if w = 1003 then (putsW [3, 0] [[1, 0], [1, 1]], putsW [3, 0] [[1, 1], [1, 0]], true)
  else if w = 1004 then (putsW [3, 0] [[1, 0], progW], putsW [3, 1] [[1, 0]], true)
  else if w = 1005 then (putsW [3, 0] [progW], [3, 1], true)
  else if 1006 ≤ w ∧ w ≤ 1009 then (putsW [3, 0] [[0], [0]], putsW [3, 0] [[0]], true)
  else if w = 1010 then (putsW [3, 0] [[0], progW, progW], [3, 1], true)
  else if w = 1011 then (putsW [3, 0] [[0], [2, 3, 0, 3, 0]], [3, 0], true)
  else ([], [], false)

/-- A literal of a row of one, and then two rows. -/
theorem three_rows (w : World) (k : Int) (hk : -1000 ≤ k ∧ k ≤ 1000) (A0 A1 : Option Addr) (c0 c1 : Nat) (a b : List Int) (h0 : RdI w (.slice A0 a.length c0) a) (h1 : RdI w (.slice A1 b.length c1) b) :
    RdS ((w.alloc (.cells #[.int .i64 k] 3)).alloc (.cells #[.slice (some ⟨w.heap.size, 0, none⟩) 1 1, .slice A0 a.length c0, .slice A1 b.length c1] 23)) (.slice (some ⟨w.heap.size + 1, 0, none⟩) 3 3) [[k], a, b] ∧
    Below w.heap.size w ((w.alloc (.cells #[.int .i64 k] 3)).alloc (.cells #[.slice (some ⟨w.heap.size, 0, none⟩) 1 1, .slice A0 a.length c0, .slice A1 b.length c1] 23)) := by
  have hb1 : Below w.heap.size w (w.alloc (.cells #[.int .i64 k] 3)) := (Below.refl _ _).alloc (Nat.le_refl _) _
  have l1 : RdI (w.alloc (.cells #[.int .i64 k] 3)) (.slice (some ⟨w.heap.size, 0, none⟩) 1 1) [k] := by
    have := (lits_own w [k] (by simp) (by intro q hq; simp only [List.mem_cons, List.not_mem_nil, or_false] at hq; subst hq; exact wf_near _ (by omega))).rd
    simpa using this
  have hrd := rdS_lit (w.alloc (.cells #[.int .i64 k] 3)) [.slice (some ⟨w.heap.size, 0, none⟩) 1 1, .slice A0 a.length c0, .slice A1 b.length c1] [[k], a, b] rfl (by simp) (by
    intro j u zs hu hz
    rcases j with _ | _ | _ | j
    · simp at hu hz; subst hu; subst hz; exact l1
    · simp at hu hz; subst hu; subst hz; exact h0.step hb1
    · simp at hu hz; subst hu; subst hz; exact h1.step hb1
    · simp at hu)
  simp only [World.size_alloc, List.length_cons, List.length_nil] at hrd
  exact ⟨hrd, hb1.alloc (by simp) _⟩
def WRow (w : World) (row : List Int) (ts : List (List Int)) (v k : Value) (wr : World) : Prop := ∃ (j : Nat), k = .int .i64 j ∧ j ≤ ts.length ∧ RdI wr v (putsW row (ts.take j)) ∧ (1 ≤ j → OwnI wr w.heap.size wr.heap.size v (putsW row (ts.take j))) ∧ Below w.heap.size w wr
theorem putsW_len (row : List Int) (ts : List (List Int)) (h : ∀ t ∈ ts, t.length ≤ 100) : (putsW row ts).length ≤ row.length + 101 * ts.length := by
  induction ts generalizing row with
  | nil => simp [putsW]
  | cons t r ih =>
    have := ih (putW row t) (fun q hq => h q (by simp [hq]))
    have h1 := h t (by simp)
    simp only [putsW, List.foldl_cons] at this ⊢
    simp only [putW, List.length_cons, List.length_append] at this ⊢
    omega
end Go.Proofs.Ytceekfoacgoalaa

/- WordEffect, the program's. (Written by wip/tools/word.py.) -/
namespace Go.Proofs.Ytceekfoacgoalaa
set_option maxRecDepth 100000
open Go.RowKit Go.WideShapes

theorem blk_two {w : World} {g : Nat} {a b : Value} {T : TypeId} (h : Blk w g #[a, b] T) : w.cell? ⟨g, 0, none⟩ = some a ∧ w.cell? ⟨g, 1, none⟩ = some b ∧ w.frozen? ⟨g, 0, none⟩ = false ∧ w.frozen? ⟨g, 1, none⟩ = false :=
  ⟨h.cell 0, h.cell 1, h.free 0, h.free 1⟩
theorem blk_two_out {w : World} {g : Nat} {a b x y : Value} {T : TypeId} (h : Blk w g #[a, b] T) : ((w.setCell ⟨g, 0, none⟩ x).setCell ⟨g, 1, none⟩ y).cell? ⟨g, 0, none⟩ = some x ∧ ((w.setCell ⟨g, 0, none⟩ x).setCell ⟨g, 1, none⟩ y).cell? ⟨g, 1, none⟩ = some y :=
  ⟨((h.set 0 x).set 1 y).cell 0, ((h.set 0 x).set 1 y).cell 1⟩
theorem ownI_nil (w : World) (lo hi : Nat) : OwnI w lo hi (.slice none 0 0) [] := ⟨Own.nil _ _, by simp [Value.ownBlock]⟩
def EffPost (w : World) (y0 y1 : List Int) (y2 : Bool) (e : Ending) (w' : World) : Prop := ∃ u0 u1 lo0 hi0 lo1 hi1, e = .returned (.tuple #[.agg #[u0, u1], .bool y2]) ∧ w.heap.size ≤ lo0 ∧ w.heap.size ≤ lo1 ∧ lo0 ≤ hi0 ∧ lo1 ≤ hi1 ∧ (hi0 ≤ lo1 ∨ hi1 ≤ lo0) ∧ hi0 ≤ w'.heap.size ∧ hi1 ≤ w'.heap.size ∧ OwnI w' lo0 hi0 u0 y0 ∧ OwnI w' lo1 hi1 u1 y1 ∧ Below w.heap.size w w'
theorem eff_end {w wE : World} {u0 u1 : Value} {y0 y1 : List Int} {lo0 hi0 lo1 hi1 : Nat} (y2 : Bool) (h0 : OwnI wE lo0 hi0 u0 y0) (h1 : OwnI wE lo1 hi1 u1 y1) (hb : Below w.heap.size w wE) (k0 : w.heap.size + 1 ≤ lo0) (k1 : w.heap.size + 1 ≤ lo1) (k2 : lo0 ≤ hi0) (k3 : lo1 ≤ hi1) (k4 : hi0 ≤ lo1 ∨ hi1 ≤ lo0) (k5 : hi0 ≤ wE.heap.size) (k6 : hi1 ≤ wE.heap.size) :
    EffPost w y0 y1 y2 (.returned (.tuple #[.agg #[u0, u1], .bool y2])) ((wE.setCell ⟨w.heap.size, 0, none⟩ u0).setCell ⟨w.heap.size, 1, none⟩ u1) := by
  have hsz : ((wE.setCell ⟨w.heap.size, 0, none⟩ u0).setCell ⟨w.heap.size, 1, none⟩ u1).heap.size = wE.heap.size := by simp [World.setCell]
  refine ⟨u0, u1, lo0, hi0, lo1, hi1, rfl, by omega, by omega, k2, k3, k4, by omega, by omega, ?_, ?_, (hb.setCell (Nat.le_refl _) _).setCell (Nat.le_refl _) _⟩
  · exact (h0.apart (within_setCell _ w.heap.size 0 u0) (.inr (by omega))).apart (within_setCell _ w.heap.size 1 u1) (.inr (by omega))
  · exact (h1.apart (within_setCell _ w.heap.size 0 u0) (.inr (by omega))).apart (within_setCell _ w.heap.size 1 u1) (.inr (by omega))

end Go.Proofs.Ytceekfoacgoalaa

/- WordEffect, the model's. -/
namespace Go.Proofs.Ytceekfoacgoalaa
set_option maxRecDepth 100000
open Go.RowKit Go.WideShapes

def letW (c : Nat) : List Int := if c = 110 then [0] else if c = 97 then [1, 0] else if c = 98 then [1, 1] else if c = 112 then progW else [2, 3, 0, 3, 0]
def strW (s : List UInt8) (bottom : Int) : List Int := s.foldl (fun t c => putW t (letW c.toNat)) [3, bottom]
theorem letW_of (c : Nat) : (((c : Int) == 110) = true → letW c = [0]) ∧ (((c : Int) == 110) = false → ((c : Int) == 97) = true → letW c = [1, 0]) ∧ (((c : Int) == 110) = false → ((c : Int) == 97) = false → ((c : Int) == 98) = true → letW c = [1, 1]) ∧
    (((c : Int) == 110) = false → ((c : Int) == 97) = false → ((c : Int) == 98) = false → ((c : Int) == 112) = true → letW c = progW) ∧ (((c : Int) == 110) = false → ((c : Int) == 97) = false → ((c : Int) == 98) = false → ((c : Int) == 112) = false → letW c = [2, 3, 0, 3, 0]) := by
  have h : ∀ k : Nat, (((c : Int) == (k : Int)) = decide (c = k)) := fun k => by
    rw [Bool.eq_iff_iff, decide_eq_true_eq, beq_iff_eq]; omega
  have h1 : ((c : Int) == 110) = decide (c = 110) := h 110
  have h2 : ((c : Int) == 97) = decide (c = 97) := h 97
  have h3 : ((c : Int) == 98) = decide (c = 98) := h 98
  have h4 : ((c : Int) == 112) = decide (c = 112) := h 112
  rw [h1, h2, h3, h4]
  simp only [decide_eq_true_eq, decide_eq_false_iff_not]
  unfold letW
  refine ⟨fun a => if_pos a, fun a b => ?_, fun a b c => ?_, fun a b c d => ?_, fun a b c d => ?_⟩
  · rw [if_neg a, if_pos b]
  · rw [if_neg a, if_neg b, if_pos c]
  · rw [if_neg a, if_neg b, if_neg c, if_pos d]
  · rw [if_neg a, if_neg b, if_neg c, if_neg d]
theorem strW_succ {s : ByteArray} {j : Nat} (h : j < s.size) (bottom : Int) : strW (s.toList.take (j + 1)) bottom = 4 :: (strW (s.toList.take j) bottom ++ letW s[j].toNat) := by
  have hg : s.toList[j]? = some s[j] := by
    rw [Go.ByteArray.toList_eq]
    have h2 : j < s.data.size := h
    rw [Array.getElem?_toList, Array.getElem?_eq_getElem h2]; rfl
  rw [List.take_add_one, hg, strW, List.foldl_append]; rfl
def LRow (w : World) (s : List UInt8) (bottom : Int) (v k : Value) (wr : World) : Prop := ∃ (j : Nat), k = .int .i64 j ∧ j ≤ s.length ∧ OwnI wr w.heap.size wr.heap.size v (strW (s.take j) bottom) ∧ (strW (s.take j) bottom).length ≤ 2 + 6 * j ∧ Below w.heap.size w wr
def RowsPost (w : World) (a b : List Int) (e : Ending) (w' : World) : Prop := ∃ u0 u1 lo0 hi0 lo1 hi1, e = .returned (.agg #[u0, u1]) ∧ OwnI w' lo0 hi0 u0 a ∧ OwnI w' lo1 hi1 u1 b ∧ w.heap.size + 1 ≤ lo0 ∧ w.heap.size + 1 ≤ lo1 ∧ Below w.heap.size w w'
def EdPost (w : World) (y0 y1 : List Int) (y2 : Bool) (e : Ending) (w' : World) : Prop := ∃ u0 u1, e = .returned (.tuple #[.agg #[u0, u1], .bool y2]) ∧ RdI w' u0 y0 ∧ RdI w' u1 y1 ∧ Below w.heap.size w w'
theorem ed_end {w w1 : World} {A0 A1 : Option Addr} {c0 c1 lo0 hi0 lo1 hi1 : Nat} {q0 q1 : List Int} (h0 : OwnI w1 lo0 hi0 (.slice A0 q0.length c0) q0) (h1 : OwnI w1 lo1 hi1 (.slice A1 q1.length c1) q1) (k0 : w.heap.size + 1 + 1 ≤ lo0) (k1 : w.heap.size + 1 + 1 ≤ lo1) (hb : Below w.heap.size w w1) :
    EdPost w q0 q1 true (.returned (.tuple #[.agg #[.slice A0 q0.length c0, .slice A1 q1.length c1], .bool true])) ((w1.setCell ⟨w.heap.size, 0, none⟩ (.slice A0 q0.length c0)).setCell ⟨w.heap.size, 1, none⟩ (.slice A1 q1.length c1)) :=
  ⟨_, _, rfl, ((h0.apart (within_setCell _ w.heap.size 0 (.slice A0 q0.length c0)) (.inr (by omega))).apart (within_setCell _ w.heap.size 1 (.slice A1 q1.length c1)) (.inr (by omega))).rd,
    ((h1.apart (within_setCell _ w.heap.size 0 (.slice A0 q0.length c0)) (.inr (by omega))).apart (within_setCell _ w.heap.size 1 (.slice A1 q1.length c1)) (.inr (by omega))).rd, (hb.setCell (Nat.le_refl _) _).setCell (Nat.le_refl _) _⟩
theorem strW_data (l : Array UInt8) (n : Int) : strW (ByteArray.mk l).toList n = strW l.toList n := by rw [Go.ByteArray.toList_eq]
end Go.Proofs.Ytceekfoacgoalaa
