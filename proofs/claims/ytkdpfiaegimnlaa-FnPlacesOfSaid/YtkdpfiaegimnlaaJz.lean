/- The draw of a shuffle and a number: DrawPlacesOf. -/
import Derived.Test.YtkdpfiaegimnlaaI
import Derived.Test.YtkdpfiaegimnlaaJd
import Derived.Test.YtkdpfiaegimnlaaJn
import Derived.IntWalk
namespace Go.Proofs.Ytkdpfiaegimnlaa
set_option maxRecDepth 100000
open Go.RowKit Go.WideShapes

def DrawnPO (w : World) (e : Ending) (w' : World) : Prop :=
  ∃ (u : Value) (za : List Int) (m : Int), e = .returned (.tuple #[u, .int .i64 m]) ∧ OwnI w' w.heap.size w'.heap.size u za ∧ za.length ≤ 190 ∧ -1 ≤ m ∧ m ≤ 7 ∧ Below w.heap.size w w'
theorem five_cell {w : World} {b lo hi : Nat} {x : Int} (h : OwnI w lo hi (.slice (some ⟨b, 0, none⟩) 5 5) [5, 5, 3, 2, x - 1]) (q : Nat) (hq : q < 5) (hx : 0 ≤ x ∧ x < 8) : ∃ z : Int, w.cell? ⟨b, q, none⟩ = some (.int .i64 z) ∧ -1 ≤ z ∧ z ≤ 7 := by
  rw [h.own.own.cellAt q (by simp; omega)]
  rcases q with _ | _ | _ | _ | _ | q
  · exact ⟨5, rfl, by omega, by omega⟩
  · exact ⟨5, rfl, by omega, by omega⟩
  · exact ⟨3, rfl, by omega, by omega⟩
  · exact ⟨2, rfl, by omega, by omega⟩
  · exact ⟨x - 1, rfl, by omega, by omega⟩
  · omega
theorem five_lit (w : World) (x : Int) (hx : 0 ≤ x ∧ x < 8) : OwnI (w.alloc (.cells #[.int .i64 5, .int .i64 5, .int .i64 3, .int .i64 2, .int .i64 (x - 1)] 3)) w.heap.size (w.heap.size + 1) (.slice (some ⟨w.heap.size, 0, none⟩) 5 5) [5, 5, 3, 2, x - 1] :=
  lits_own w [5, 5, 3, 2, x - 1] (by simp) (by intro z hz; simp only [List.mem_cons, List.not_mem_nil, or_false] at hz; apply wf_near; omega)
set_option maxHeartbeats 4000000 in
theorem DrawPlacesOf_any (v : Value) (zs : List Int) (w : World) (h : RdC w v zs) : Calls Try.prog 29 #[v] w (DrawnPO w) := by
  have H := Lib.hid h; clear h
  go_enter Try.func29, Try.ntmps29
  go_wp2_with fail
  refine (l20Open_any v zs _ H.out).mono ?_
  rintro e w1 ⟨g, bs, rfl, hr, hg, hb⟩
  have hs := hb.size
  have hgw := hr.lt
  have BD : Below w1.heap.size w1 w1.drew := below_drewN (Below.refl _ _) 1
  have X := Lib.hid (And.intro ((RS.refl hr).below BD (Nat.le_refl _)) (hb.trans (BD.mono (by omega)))); clear hr hb H BD
  have hdz : w1.drew.heap.size = w1.heap.size := rfl
  go_wp2_with fail
  go_region_with (first
    | (go_at_call 76; refine (shufA 9 w1 g 0 bs _ (by omega) X.out.1 (by omega)).mono ?_; rintro e w2 ⟨u, za, p2, rfl, ho, hl, hr2, hp2, hg2⟩; have hz2 : w1.heap.size ≤ w2.heap.size := hg2.size; have A1 := Lib.hid (And.intro hr2 (And.intro (below_of_within X.out.2 hg hg2) ho)); clear ho hr2 hg2 X)
    | (go_at_call 72; refine (pick w1 g p2 8 bs _ A1.out.1 (by omega) (by omega)).mono ?_; rintro e w3 ⟨x, rfl, hx0, hx1, hr3, hg3⟩; have hz3 : w2.heap.size ≤ w3.heap.size := hg3.size; have A2 := Lib.hid (And.intro hr3 (And.intro (below_of_within A1.out.2.1 hg hg3) (A1.out.2.2.apart hg3 (.inr (by omega))))); have hwx : IntKind.i64.wrap (x - 1) = x - 1 := IntWalk.i64_in _ (by omega); clear hr3 hg3 A1)
    | (go_at_call 72; refine (pick w1 g (p2 + 1) 5 bs w3 A2.out.1 (by omega) (by omega)).mono ?_; rintro e w4 ⟨y, rfl, hy0, hy1, hr4, hg4⟩; have hz4 : w3.heap.size ≤ w4.heap.size := hg4.size; have BL : Below w4.heap.size w4 (w4.alloc (.cells #[.int .i64 5, .int .i64 5, .int .i64 3, .int .i64 2, .int .i64 (x - 1)] 3)) := (Below.refl _ _).alloc (Nat.le_refl _) _; have T := Lib.hid (And.intro ((A2.out.2.2.apart hg4 (.inr (by omega))).belowB BL (by omega)) ((below_of_within A2.out.2.1 hg hg4).trans (BL.mono (by omega)))); have hzT : w2.heap.size ≤ (w4.alloc (.cells #[.int .i64 5, .int .i64 5, .int .i64 3, .int .i64 2, .int .i64 (x - 1)] 3)).heap.size := (by simp; omega); obtain ⟨q, rfl⟩ := Int.eq_ofNat_of_zero_le hy0; obtain ⟨z, hz, hza, hzb⟩ := five_cell (five_lit w4 x ⟨hx0, hx1⟩) q (by omega) ⟨hx0, hx1⟩; clear hr4 hg4 A2 BL)
    | (go_at_call 72; have BL : Below w3.heap.size w3 (w3.alloc (.cells #[.int .i64 5, .int .i64 5, .int .i64 3, .int .i64 2, .int .i64 (x - 1)] 3)) := (Below.refl _ _).alloc (Nat.le_refl _) _; have hzl : w3.heap.size + 1 = (w3.alloc (.cells #[.int .i64 5, .int .i64 5, .int .i64 3, .int .i64 2, .int .i64 (x - 1)] 3)).heap.size := (by simp); refine (pick w1 g (p2 + 1) 5 bs (w3.alloc (.cells #[.int .i64 5, .int .i64 5, .int .i64 3, .int .i64 2, .int .i64 (x - 1)] 3)) (A2.out.1.below BL (by omega)) (by omega) (by omega)).mono ?_; rintro e w4 ⟨y, rfl, hy0, hy1, hr4, hg4⟩; have hz4 : w3.heap.size ≤ w4.heap.size := (by have := hg4.size; omega); have T := Lib.hid (And.intro ((A2.out.2.2.belowB BL (by omega)).apart hg4 (.inr (by omega))) (below_of_within (A2.out.2.1.trans (BL.mono (by omega))) hg hg4)); have hzT : w2.heap.size ≤ w4.heap.size := (by omega); obtain ⟨q, rfl⟩ := Int.eq_ofNat_of_zero_le hy0; obtain ⟨z, hz, hza, hzb⟩ := five_cell ((five_lit w3 x ⟨hx0, hx1⟩).apart hg4 (.inr (by omega))) q (by omega) ⟨hx0, hx1⟩; clear hr4 hg4 A2 BL hzl))
  all_goals
    go_wp2
    go_ret2
    exact ⟨u, za, z, rfl, ⟨T.out.1.own.mono (by omega), fun k hk => by have := T.out.1.lt k hk; omega⟩, hl, hza, hzb, T.out.2⟩
end Go.Proofs.Ytkdpfiaegimnlaa
