/- The bench of a stack, by the program and by the model; benches without texts of before: compared, marked, found again. -/
import Derived.Test.YtjblecinkedppaaGreatDoorB5
namespace Go.Proofs.YtjblecinkedppaaGreatDoor
set_option maxRecDepth 100000
open Go.RowKit Go.WideShapes

theorem blkPair9 {w : World} {g : Nat} {a b : Value} {T : TypeId} (h : Blk w g #[a, b] T) : w.cell? ⟨g, 0, none⟩ = some a ∧ w.cell? ⟨g, 1, none⟩ = some b ∧ w.frozen? ⟨g, 0, none⟩ = false ∧ w.frozen? ⟨g, 1, none⟩ = false :=
  ⟨h.cell 0, h.cell 1, h.free 0, h.free 1⟩
theorem BenchNew_S (v0 : Value) (x0 : List (List Int)) (w : World) (h0 : RdS w v0 x0) (hn : x0.length ≤ 1048576) (hl : szS x0 ≤ 1048576) (y0 : List Int) (y1 : Bool) (hR : stackProgR x0 = (y0, y1)) :
    Calls Tryz.prog 47 #[v0] w fun e w' => ∃ u A, e = .returned (.agg #[u, .slice A 0 0]) ∧ OwnI w' w.heap.size w'.heap.size u y0 ∧ Below w.heap.size w w' := by
  have hal : Below w.heap.size w (w.alloc (.cells #[.slice none 0 0, .slice none 0 0] 26)) := (Below.refl _ _).alloc (Nat.le_refl _) _
  have hbk := Blk.new w #[.slice none 0 0, .slice none 0 0] 26
  have S0 := Lib.hid (And.intro (RdS.step h0 hal) (And.intro hal hbk)); clear hal hbk h0
  have hno : y1 = false → y0 = [] := by
    intro e; subst e
    unfold stackProgR at hR
    split at hR
    · cases hR
    · cases hR; rfl
  have HR := Lib.hid hR; clear hR
  rcases y1 with _ | _
  · obtain rfl := hno rfl
    clear hno
    go_enter Tryz.func47, Tryz.ntmps47
    go_wp2_with fail
    refine (StackProg_O v0 x0 _ S0.out.1 hn hl _ _ HR.out).mono ?_
    rintro e w2 ⟨u, rfl, ho, hb⟩
    have hB := S0.out.2.2.below hb (by simp)
    obtain ⟨b0, b1, f0, f1⟩ := blkPair9 hB
    have K := Lib.hid (And.intro (S0.out.2.1.trans (hb.mono (by simp))) hB); clear ho hb hB S0
    go_wp2
    obtain ⟨c0, c1, _, _⟩ := blkPair9 ((K.out.2.set 0 (.slice none 0 0)).set 1 (.slice none 0 0))
    refine bodyPost_ret (v := .agg #[.slice none 0 0, .slice none 0 0]) (by simp [results, Tryz.results47, go_sem, c0, c1]) rfl ?_
    exact ⟨_, none, rfl, ⟨⟨World.ownsRow_nil _ _ _ _, fun _ h => absurd h (by simp)⟩, by simp [Value.ownBlock]⟩, (K.out.1.setCell (Nat.le_refl _) _).setCell (Nat.le_refl _) _⟩
  · clear hno
    go_enter Tryz.func47, Tryz.ntmps47
    go_wp2_with fail
    refine (StackProg_O v0 x0 _ S0.out.1 hn hl _ _ HR.out).mono ?_
    rintro e w2 ⟨u, rfl, ho, hb⟩
    have hz2 := hb.size
    rw [World.size_alloc] at hz2
    obtain ⟨B, d, rfl, _⟩ := ho.rd
    have hba : Below w2.heap.size w2 (w2.alloc (.cells #[] 9)) := (Below.refl _ _).alloc (Nat.le_refl _) _
    have hB := (S0.out.2.2.below hb (by simp)).below hba (by omega)
    obtain ⟨b0, b1, f0, f1⟩ := blkPair9 hB
    have K := Lib.hid (And.intro (ho.below hba) (And.intro ((S0.out.2.1.trans (hb.mono (by simp))).trans (hba.mono (by omega))) hB)); clear ho hb hB S0 hba
    go_wp2
    obtain ⟨c0, c1, _, _⟩ := blkPair9 ((K.out.2.2.set 0 (.slice B y0.length d)).set 1 (.slice (some ⟨w2.heap.size, 0, none⟩) 0 0))
    refine bodyPost_ret (v := .agg #[.slice B y0.length d, .slice (some ⟨w2.heap.size, 0, none⟩) 0 0]) (by simp [results, Tryz.results47, go_sem, c0, c1]) rfl ?_
    refine ⟨_, _, rfl, ?_, (K.out.2.1.setCell (Nat.le_refl _) _).setCell (Nat.le_refl _) _⟩
    have h := (K.out.1.apart (within_setCell _ w.heap.size 0 (.slice B y0.length d)) (.inr (by simp))).apart (within_setCell _ w.heap.size 1 (.slice (some ⟨w2.heap.size, 0, none⟩) 0 0)) (.inr (by simp))
    rw [World.size_alloc] at h
    exact ⟨h.own.mono (by omega), fun k hk => by have := h.lt k hk; simp [World.setCell]; omega⟩

end Go.Proofs.YtjblecinkedppaaGreatDoor
