/- covers of the program: its first step. -/
import Derived.Test.YtceekfoacgoalaaQd
namespace Go.Proofs.Ytceekfoacgoalaa
set_option maxRecDepth 100000
open Go.RowKit Go.WideShapes Go.Deep

theorem isLetter_any (d : Nat) (k n : Int) (c2 c3 c4 : Value) (y : Bool) (w : World) (hd : Blk w d #[.int .i64 k, .int .i64 n, c2, c3, c4] 86) (hy : (k = 1 ∨ k = 3) ↔ y = true) :
    Calls Try.prog 58 #[.pointer (some ⟨d, 0, none⟩)] w fun e w' => e = .returned (.bool y) ∧ Below w.heap.size w w' := by
  have a0 := hd.cell 0
  simp only [List.getElem?_toArray, List.getElem?_cons_zero] at a0
  clear hd
  by_cases h1 : k = 1
  · obtain rfl : y = true := hy.1 (.inl h1)
    have hb : (k == 1) = true := by simpa using h1
    clear hy h1
    go_enter Try.func58, Try.ntmps58
    go_wp2
    first
      | (go_quiet (fail); go_wp2; go_ret; exact ⟨rfl, below_drewN (Below.refl _ _) _⟩)
      | (go_ret; exact ⟨rfl, Below.refl _ _⟩)
      | fail
  · have hb : (k == 1) = false := by simpa using h1
    by_cases h3 : k = 3
    · obtain rfl : y = true := hy.1 (.inr h3)
      have hb3 : (k == 3) = true := by simpa using h3
      clear hy h1 h3
      go_enter Try.func58, Try.ntmps58
      go_wp2
      first
        | (go_quiet (fail); go_wp2; go_ret; exact ⟨rfl, below_drewN (Below.refl _ _) _⟩)
        | (go_ret; exact ⟨rfl, Below.refl _ _⟩)
        | fail
    · obtain rfl : y = false := by
        cases y with
        | false => rfl
        | true => rcases hy.2 rfl with h | h
                  · exact absurd h h1
                  · exact absurd h h3
      have hb3 : (k == 3) = false := by simpa using h3
      clear hy h1 h3
      go_enter Try.func58, Try.ntmps58
      go_wp2
      first
        | (go_quiet (fail); go_wp2; go_ret; exact ⟨rfl, below_drewN (Below.refl _ _) _⟩)
        | (go_ret; exact ⟨rfl, Below.refl _ _⟩)
        | fail
theorem covers_no (d e : Nat) (k k' n n' : Int) (c2 c3 c4 d2 d3 d4 : Value) (w : World) (hd : Blk w d #[.int .i64 k, .int .i64 n, c2, c3, c4] 86) (he : Blk w e #[.int .i64 k', .int .i64 n', d2, d3, d4] 86) (hk : ¬ (k = 1 ∨ k = 3)) (h : k ≠ k') :
    Calls Try.prog 39 #[.pointer (some ⟨d, 0, none⟩), .pointer (some ⟨e, 0, none⟩)] w fun e w' => e = .returned (.bool false) ∧ Below w.heap.size w w' := by
  have HI := Lib.hid (isLetter_any d k n c2 c3 c4 false w hd (by simp [hk]))
  have hkk : (k == k') = false := by simpa using h
  have HB := Lib.hid (And.intro hd he); clear hd he h hk
  go_enter Try.func39, Try.ntmps39
  go_wp2_with fail
  refine HI.out.mono ?_
  rintro e9 w1 ⟨rfl, hb⟩
  have hd := HB.out.1.below hb HB.out.1.lt
  have he := HB.out.2.below hb HB.out.2.lt
  have a0 := hd.cell 0
  have b0 := he.cell 0
  simp only [List.getElem?_toArray, List.getElem?_cons_zero] at a0 b0
  have B := Lib.hid hb; clear hb hd he HB HI
  go_wp2
  first
    | (go_quiet (fail))
    | (go_region_held3 (fun w' => w'.cell? ⟨d, 0, none⟩ = some (.int .i64 k) ∧ w'.cell? ⟨e, 0, none⟩ = some (.int .i64 k')) (repeat' (first | with_reducible exact a0 | with_reducible exact b0 | apply And.intro | rw [World.cell?_drew])) (fail))
    | fail
  go_wp2
  go_ret
  exact ⟨rfl, by first | exact below_drewN B.out _ | exact B.out.drew | exact B.out⟩
set_option maxHeartbeats 1000000 in
theorem covers_yes (d e : Nat) (k n n' : Int) (A A' : Option Addr) (m m' c c' : Nat) (c3 c4 d3 d4 : Value) (Q : Bool → World → Prop) (w : World) (hd : Blk w d #[.int .i64 k, .int .i64 n, .slice A m c, c3, c4] 86) (he : Blk w e #[.int .i64 k, .int .i64 n', .slice A' m' c', d3, d4] 86) (hk : ¬ (k = 1 ∨ k = 3))
    (H : ∀ X, Below w.heap.size w X → Calls Try.prog 60 #[.slice A m c, .slice A' m' c', .func (.func 39) #[] #[]] X fun e9 w' => ∃ y, e9 = .returned (.bool y) ∧ Q y w' ∧ w'.cell? ⟨d, 0, none⟩ = some (.int .i64 k) ∧ w'.cell? ⟨d, 2, none⟩ = some (.slice A m c) ∧ w'.cell? ⟨e, 0, none⟩ = some (.int .i64 k) ∧ w'.cell? ⟨e, 2, none⟩ = some (.slice A' m' c')) :
    Calls Try.prog 39 #[.pointer (some ⟨d, 0, none⟩), .pointer (some ⟨e, 0, none⟩)] w fun e w' => ∃ y, e = .returned (.bool y) ∧ Q y w' := by
  have HI := Lib.hid (isLetter_any d k n (.slice A m c) c3 c4 false w hd (by simp [hk]))
  have hkk : (k == k) = true := by simp
  have HB := Lib.hid (And.intro hd he)
  have HC := Lib.hid H; clear hd he hk H
  go_enter Try.func39, Try.ntmps39
  go_wp2_with fail
  refine HI.out.mono ?_
  rintro e9 w1 ⟨rfl, hb⟩
  have hd := HB.out.1.below hb HB.out.1.lt
  have he := HB.out.2.below hb HB.out.2.lt
  have a0 := hd.cell 0
  have a2 := hd.cell 2
  have b0 := he.cell 0
  have b2 := he.cell 2
  simp only [List.getElem?_toArray, List.getElem?_cons_zero, List.getElem?_cons_succ] at a0 a2 b0 b2
  have HD := Lib.hid (And.intro hd.lt he.lt)
  have B := Lib.hid hb; clear hb hd he HB HI
  have hdl : d < w1.heap.size := HD.out.1
  have hel : e < w1.heap.size := HD.out.2
  go_wp2
  go_region_held3 (fun w' => w'.cell? ⟨d, 0, none⟩ = some (.int .i64 k) ∧ w'.cell? ⟨e, 0, none⟩ = some (.int .i64 k) ∧ w'.cell? ⟨d, 2, none⟩ = some (.slice A m c) ∧ w'.cell? ⟨e, 2, none⟩ = some (.slice A' m' c')) (repeat' (first | with_reducible exact a0 | with_reducible exact a2 | with_reducible exact b0 | with_reducible exact b2 | with_reducible exact l0 | with_reducible exact l2 | with_reducible exact m0 | with_reducible exact m2 | apply And.intro | rw [World.cell?_drew])) (first
    | (go_at_call 60; refine (HC.out _ (by first | exact B.out.drew | exact B.out | exact below_drewN B.out _)).mono ?_; rintro e9 w2 ⟨y, rfl, hq, l0, l2, m0, m2⟩; have HQ := Lib.hid hq; clear hq)
    | fail)
  go_wp2
  go_ret
  exact ⟨_, rfl, HQ.out⟩
/-- A letter that stands for nothing yet. -/
theorem covers_new (d e : Nat) (k n : Int) (c2 c4 : Value) (P : World → Prop) (w : World) (hd : Blk w d #[.int .i64 k, .int .i64 n, c2, .pointer none, c4] 86) (hk : k = 1 ∨ k = 3)
    (H : ∀ X, Below w.heap.size w X → Calls Try.prog 59 #[.pointer (some ⟨e, 0, none⟩), .pointer (some ⟨e, 0, none⟩)] (X.setCell ⟨d, 3, none⟩ (.pointer (some ⟨e, 0, none⟩))) fun e w' => e = .returned (.bool true) ∧ P w') :
    Calls Try.prog 39 #[.pointer (some ⟨d, 0, none⟩), .pointer (some ⟨e, 0, none⟩)] w fun e w' => e = .returned (.bool true) ∧ P w' := by
  have HI := Lib.hid (isLetter_any d k n c2 (.pointer none) c4 true w hd (by simp [hk]))
  have HB := Lib.hid hd
  have HC := Lib.hid H; clear hd hk H
  go_enter Try.func39, Try.ntmps39
  go_wp2_with fail
  refine HI.out.mono ?_
  rintro e9 w1 ⟨rfl, hb⟩
  have hd := HB.out.below hb HB.out.lt
  have a3 := hd.cell 3
  have f3 := hd.free 3
  have g3 := (hd.set 3 (.pointer (some ⟨e, 0, none⟩))).cell 3
  simp only [List.getElem?_toArray, List.getElem?_cons_zero, List.getElem?_cons_succ, List.setIfInBounds_toArray, List.set_cons_succ, List.set_cons_zero] at a3 g3
  have B := Lib.hid hb; clear hb hd HB HI
  go_wp2_with fail
  refine (HC.out _ B.out).mono ?_
  rintro e9 w2 ⟨rfl, hq⟩
  have HQ := Lib.hid hq; clear hq
  go_wp2
  go_ret
  exact ⟨rfl, HQ.out⟩
/-- A letter that stands for a term already. -/
theorem covers_old (d : Nat) (a : Addr) (q : Option Addr) (k n : Int) (c2 c4 : Value) (y : Bool) (w : World) (hd : Blk w d #[.int .i64 k, .int .i64 n, c2, .pointer (some a), c4] 86) (hk : k = 1 ∨ k = 3)
    (H : ∀ X, Below w.heap.size w X → Calls Try.prog 59 #[.pointer (some a), .pointer q] X fun e w' => e = .returned (.bool y) ∧ Below X.heap.size X w') :
    Calls Try.prog 39 #[.pointer (some ⟨d, 0, none⟩), .pointer q] w fun e w' => e = .returned (.bool y) ∧ Below w.heap.size w w' := by
  have HI := Lib.hid (isLetter_any d k n c2 (.pointer (some a)) c4 true w hd (by simp [hk]))
  have HB := Lib.hid hd
  have HC := Lib.hid H; clear hd hk H
  go_enter Try.func39, Try.ntmps39
  go_wp2_with fail
  refine HI.out.mono ?_
  rintro e9 w1 ⟨rfl, hb⟩
  have hd := HB.out.below hb HB.out.lt
  have a3 := hd.cell 3
  simp only [List.getElem?_toArray, List.getElem?_cons_zero, List.getElem?_cons_succ] at a3
  have B := Lib.hid hb; clear hb hd HB HI
  go_wp2_with fail
  refine (HC.out _ B.out).mono ?_
  rintro e9 w2 ⟨rfl, hb⟩
  have HQ := Lib.hid (B.out.trans (hb.mono B.out.size)); clear hb
  go_wp2
  go_ret
  exact ⟨rfl, HQ.out⟩
end Go.Proofs.Ytceekfoacgoalaa
