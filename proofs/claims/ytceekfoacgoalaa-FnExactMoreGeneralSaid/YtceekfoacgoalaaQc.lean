/- Terms compared: equals of the program. -/
import Derived.Test.YtceekfoacgoalaaQb
namespace Go.Proofs.Ytceekfoacgoalaa
set_option maxRecDepth 100000
open Go.RowKit Go.WideShapes Go.Deep

theorem equals_no (d e : Nat) (k k' n n' : Int) (c2 c3 c4 d2 d3 d4 : Value) (w : World) (hd : Blk w d #[.int .i64 k, .int .i64 n, c2, c3, c4] 86) (he : Blk w e #[.int .i64 k', .int .i64 n', d2, d3, d4] 86) (h : k ≠ k' ∨ n ≠ n') :
    Calls Try.prog 59 #[.pointer (some ⟨d, 0, none⟩), .pointer (some ⟨e, 0, none⟩)] w fun e w' => e = .returned (.bool false) ∧ Below w.heap.size w w' := by
  have a0 := hd.cell 0
  have a1 := hd.cell 1
  have b0 := he.cell 0
  have b1 := he.cell 1
  simp only [List.getElem?_toArray, List.getElem?_cons_zero, List.getElem?_cons_succ] at a0 a1 b0 b1
  clear hd he
  by_cases hk : k = k'
  · subst hk
    have hn : (n == n') = false := by
      rcases h with h | h
      · exact absurd rfl h
      · simpa using h
    have hkk : (k == k) = true := by simp
    clear h
    go_enter Try.func59, Try.ntmps59
    go_wp2
    first
      | (go_quiet (fail))
      | (go_region_held3 (fun w' => w'.cell? ⟨d, 0, none⟩ = some (.int .i64 k) ∧ w'.cell? ⟨e, 0, none⟩ = some (.int .i64 k) ∧ w'.cell? ⟨d, 1, none⟩ = some (.int .i64 n) ∧ w'.cell? ⟨e, 1, none⟩ = some (.int .i64 n')) (repeat' (first | with_reducible exact a0 | with_reducible exact a1 | with_reducible exact b0 | with_reducible exact b1 | apply And.intro | rw [World.cell?_drew])) (fail))
      | fail
    go_wp2
    go_ret
    exact ⟨rfl, by first | exact below_drewN (Below.refl _ _) _ | exact (Below.refl _ _).drew | exact Below.refl _ _⟩
  · have hkk : (k == k') = false := by simpa using hk
    clear h hk
    go_enter Try.func59, Try.ntmps59
    go_wp2
    first
      | (go_quiet (fail))
      | (go_region_held3 (fun w' => w'.cell? ⟨d, 0, none⟩ = some (.int .i64 k) ∧ w'.cell? ⟨e, 0, none⟩ = some (.int .i64 k')) (repeat' (first | with_reducible exact a0 | with_reducible exact b0 | apply And.intro | rw [World.cell?_drew])) (fail))
      | fail
    go_wp2
    go_ret
    exact ⟨rfl, by first | exact below_drewN (Below.refl _ _) _ | exact (Below.refl _ _).drew | exact Below.refl _ _⟩
theorem equals_yes (d e : Nat) (k n : Int) (A A' : Option Addr) (m m' c c' : Nat) (c3 c4 d3 d4 : Value) (y : Bool) (w : World) (hd : Blk w d #[.int .i64 k, .int .i64 n, .slice A m c, c3, c4] 86) (he : Blk w e #[.int .i64 k, .int .i64 n, .slice A' m' c', d3, d4] 86)
    (H : ∀ X, Below w.heap.size w X → Calls Try.prog 60 #[.slice A m c, .slice A' m' c', .func (.func 59) #[] #[]] X fun e w' => e = .returned (.bool y) ∧ Below X.heap.size X w') :
    Calls Try.prog 59 #[.pointer (some ⟨d, 0, none⟩), .pointer (some ⟨e, 0, none⟩)] w fun e w' => e = .returned (.bool y) ∧ Below w.heap.size w w' := by
  have a0 := hd.cell 0
  have a1 := hd.cell 1
  have a2 := hd.cell 2
  have b0 := he.cell 0
  have b1 := he.cell 1
  have b2 := he.cell 2
  have kd := hd.lt
  have ke := he.lt
  simp only [List.getElem?_toArray, List.getElem?_cons_zero, List.getElem?_cons_succ] at a0 a1 a2 b0 b1 b2
  have hkk : (k == k) = true := by simp
  have hnn : (n == n) = true := by simp
  have bD : Below w.heap.size w w.drew := (Below.refl _ _).drew
  have HC := Lib.hid H
  clear hd he H
  go_enter Try.func59, Try.ntmps59
  go_wp2
  go_region_held3 (fun w' => w'.cell? ⟨d, 0, none⟩ = some (.int .i64 k) ∧ w'.cell? ⟨e, 0, none⟩ = some (.int .i64 k) ∧ w'.cell? ⟨d, 1, none⟩ = some (.int .i64 n) ∧ w'.cell? ⟨e, 1, none⟩ = some (.int .i64 n) ∧ w'.cell? ⟨d, 2, none⟩ = some (.slice A m c) ∧ w'.cell? ⟨e, 2, none⟩ = some (.slice A' m' c')) (repeat' (first | with_reducible exact a0 | with_reducible exact a1 | with_reducible exact a2 | with_reducible exact b0 | with_reducible exact b1 | with_reducible exact b2 | with_reducible exact l0 | with_reducible exact l1 | with_reducible exact l2 | with_reducible exact m0 | with_reducible exact m1 | with_reducible exact m2 | apply And.intro | rw [World.cell?_drew])) (first
    | (go_at_call 60; refine (HC.out _ (by first | exact bD | exact Below.refl _ _)).mono ?_; rintro e9 w1 ⟨rfl, hb⟩; have b9 : Below w.heap.size w w1 := (by first | exact bD.trans hb | exact hb); have l0 := (b9.cell (p := ⟨d, 0, none⟩) kd).trans a0; have l1 := (b9.cell (p := ⟨d, 1, none⟩) kd).trans a1; have l2 := (b9.cell (p := ⟨d, 2, none⟩) kd).trans a2; have m0 := (b9.cell (p := ⟨e, 0, none⟩) ke).trans b0; have m1 := (b9.cell (p := ⟨e, 1, none⟩) ke).trans b1; have m2 := (b9.cell (p := ⟨e, 2, none⟩) ke).trans b2; have BB := Lib.hid b9; clear hb b9)
    | fail)
  go_wp2
  go_ret
  exact ⟨rfl, BB.out⟩
end Go.Proofs.Ytceekfoacgoalaa
