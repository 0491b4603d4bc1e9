/- The program's runner: a rest and values behind a pointer. What of it is kept; push and pop. The program's runner: contracts of push and pop, for numbers and for values. The program's runner: contracts of push and pop for the words of the rest. -/
import Derived.Test.YtceekfoacgoalaaB5
import Derived.RangeFuncOwn
import Derived.RangeFuncBox
namespace Go.Proofs.Ytceekfoacgoalaa
set_option maxRecDepth 100000
open Go.RowKit Go.WideShapes

theorem RdI.own_lt {w : World} {u : Value} {zs : List Int} (h : RdI w u zs) : zs = [] ∨ ∃ k, u.ownBlock = some k ∧ k < w.heap.size := by
  obtain ⟨A, c, rfl, hi, _⟩ := h
  by_cases h0 : 0 < zs.length
  · obtain ⟨b, off, rfl, hb, _⟩ := hi.at_ h0
    exact .inr ⟨b, rfl, hb⟩
  · exact .inl (List.eq_nil_of_length_eq_zero (by omega))
/-- A slice reads as it did where its block is as it was. -/
theorem RdI.kept {w w' : World} {u : Value} {zs : List Int} (h : RdI w u zs) (hs : w.heap.size ≤ w'.heap.size) (hk : zs = [] ∨ ∃ k, u.ownBlock = some k ∧ w'.heap[k]? = w.heap[k]?) : RdI w' u zs := by
  obtain ⟨A, c, rfl, hi, hc⟩ := h
  refine ⟨A, c, rfl, ⟨hi.len, hi.wf, fun h0 => ?_⟩, hc⟩
  have hne : zs ≠ [] := by rintro rfl; simp at h0
  obtain ⟨q, off, rfl, hq, hcc⟩ := hi.at_ h0
  obtain ⟨k, hk1, hk2⟩ := hk.resolve_left hne
  obtain rfl : q = k := by simpa [Value.ownBlock] using hk1
  exact ⟨q, off, rfl, Nat.lt_of_lt_of_le hq hs, fun j hj => (World.cell?_of_block (w := w) (a := ⟨q, off + j, Option.none⟩) hk2).trans (hcc j hj)⟩

theorem ownsRow_ne {w : World} {lo : Nat} {e : TypeId} {v : Value} {n : Nat} {xs : List Value} {g : Nat} {cs : Array Value} {T : TypeId} (h : w.ownsRow lo e 1 v n xs) (hb : Blk w g cs T) (hne : T ≠ e) : v.ownBlock ≠ some g := by
  rcases h.2 with ⟨rfl, _⟩ | ⟨g', cap, cur, rfl, _, hh, _⟩
  · simp [Value.ownBlock]
  · intro e'
    simp only [Value.ownBlock, Option.some.injEq] at e'
    subst e'
    unfold Blk at hb
    rw [hb] at hh
    injection hh with hh
    injection hh with _ h2
    exact hne h2
theorem ownsRow_ne2 {w : World} {lo lo' : Nat} {e e' : TypeId} {v v' : Value} {n n' : Nat} {xs xs' : List Value} (h : w.ownsRow lo e 1 v n xs) (h' : w.ownsRow lo' e' 1 v' n' xs') (hne : e ≠ e') : v.ownBlock = none ∨ v.ownBlock ≠ v'.ownBlock := by
  rcases h.2 with ⟨rfl, _⟩ | ⟨g, cap, cur, rfl, _, hh, _⟩
  · exact .inl rfl
  · right
    have := ownsRow_ne h' (show Blk w g cur e from hh) hne
    intro e2
    exact this (by rw [← e2]; rfl)
/-- What is owned is kept where its block is. -/
theorem ownsRow_keep {w w' : World} {lo : Nat} {e : TypeId} {v : Value} {n : Nat} {xs : List Value} (h : w.ownsRow lo e 1 v n xs) (hk : ∀ k, v.ownBlock = some k → w'.heap[k]? = w.heap[k]?) : w'.ownsRow lo e 1 v n xs := by
  refine ⟨h.1, ?_⟩
  rcases h.2 with h0 | ⟨g, cap, cur, rfl, hb, hh, h1⟩
  · exact .inl h0
  · exact .inr ⟨g, cap, cur, rfl, hb, (hk g rfl).trans hh, h1⟩
theorem ownsRow_take {w : World} {lo : Nat} {e : TypeId} {n cap g : Nat} {xs : List Value} (h : w.ownsRow lo e 1 (.slice (some ⟨g, 0, none⟩) n cap) n xs) (k : Nat) (hk : k ≤ n) : w.ownsRow lo e 1 (.slice (some ⟨g, 0, none⟩) k cap) k (xs.take k) := by
  obtain ⟨h1, h2 | ⟨g', cap', cur, he, hb, hh, hn, hm, hs, hx⟩⟩ := h
  · simp at h2
  · cases he
    refine ⟨by rw [List.length_take]; omega, .inr ⟨_, _, cur, rfl, hb, hh, by omega, hm, hs, ?_⟩⟩
    rw [← hx, List.take_take]; congr 1; omega

/-- A block apart from the runner's own memory. -/
def IsC (w : World) (k : Nat) : Prop := ∃ cs T f, w.heap[k]? = some (.cells cs T f)
theorem IsC.lt {w : World} {k : Nat} (h : IsC w k) : k < w.heap.size := by
  obtain ⟨cs, T, f, h⟩ := h
  rcases Nat.lt_or_ge k w.heap.size with h1 | h1
  · exact h1
  · rw [Array.getElem?_eq_none h1] at h; cases h
theorem IsC.of_eq {w w' : World} {k : Nat} (h : IsC w k) (e : w'.heap[k]? = w.heap[k]?) : IsC w' k := by
  obtain ⟨cs, T, f, h⟩ := h; exact ⟨cs, T, f, e.trans h⟩
theorem isC_of_cell {w : World} {b o : Nat} {u : Value} (h : w.cell? ⟨b, o, none⟩ = some u) : IsC w b := by
  simp only [World.cell?] at h
  rcases hh : w.heap[b]? with _ | ob
  · rw [hh] at h; simp at h
  · rw [hh] at h
    cases ob <;> first | exact ⟨_, _, _, hh⟩ | (simp at h)
theorem RdI.own_c {w : World} {u : Value} {zs : List Int} (h : RdI w u zs) : zs = [] ∨ ∃ k, u.ownBlock = some k ∧ IsC w k := by
  obtain ⟨A, c, rfl, hi, _⟩ := h
  by_cases h0 : 0 < zs.length
  · obtain ⟨b, off, rfl, hb, hc⟩ := hi.at_ h0
    exact .inr ⟨b, rfl, isC_of_cell (hc 0 h0)⟩
  · exact .inl (List.eq_nil_of_length_eq_zero (by omega))
end Go.Proofs.Ytceekfoacgoalaa
namespace Go.Proofs.Ytceekfoacgoalaa
set_option maxRecDepth 100000
open Go.RowKit Go.WideShapes

theorem ownsRow_cap {w : World} {lo g n c : Nat} {e : TypeId} {xs : List Value} (h : w.ownsRow lo e 1 (.slice (some ⟨g, 0, none⟩) n c) n xs) : n ≤ c ∧ c ≤ 9223372036854775807 := by
  rcases h.2 with ⟨h0, _⟩ | ⟨g', cap, cur, he, _, _, h1, h2, _⟩
  · simp at h0
  · cases he; unfold maxLen at h2; exact ⟨h1, h2⟩
theorem others_gen {w w' : World} {lo g n : Nat} {e T : TypeId} {cs : Array Value} {v : Value} {xs : List Value} (hs : w.heap.size ≤ w'.heap.size) (h : Blk w g cs T) (hrow : w.ownsRow lo e 1 v n xs) (hk : ∀ k, k < w.heap.size → k ≠ g → some k ≠ v.ownBlock → w'.heap[k]? = w.heap[k]?) : KeepsOthers w w' := by
  refine ⟨hs, fun k o ho hc => ?_⟩
  have hlt : k < w.heap.size := by
    rcases Nat.lt_or_ge k w.heap.size with h1 | h1
    · exact h1
    · rw [Array.getElem?_eq_none h1] at ho; cases ho
  refine (hk k hlt ?_ ?_).trans ho
  · rintro rfl
    unfold Blk at h
    rw [h] at ho; cases ho
    simp [Obj.isCells] at hc
  · intro e'
    rcases hrow.2 with ⟨rfl, _⟩ | ⟨g', cap, cur, rfl, _, hh, _⟩
    · simp [Value.ownBlock] at e'
    · have : k = g' := by simpa [Value.ownBlock] using e'
      subst this
      rw [hh] at ho; cases ho
      simp [Obj.isCells] at hc
end Go.Proofs.Ytceekfoacgoalaa
namespace Go.Proofs.Ytceekfoacgoalaa
set_option maxRecDepth 100000
open Go.RowKit Go.WideShapes

end Go.Proofs.Ytceekfoacgoalaa
