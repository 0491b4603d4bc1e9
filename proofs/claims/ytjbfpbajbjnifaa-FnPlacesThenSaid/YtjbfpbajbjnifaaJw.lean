/- The draw of two rows of places: DrawPlacesThen. -/
import Derived.Test.YtjbfpbajbjnifaaJp
namespace Go.Proofs.Ytjbfpbajbjnifaa
set_option maxRecDepth 100000
open Go.RowKit Go.WideShapes

def DrawnPT (w : World) (e : Ending) (w' : World) : Prop :=
  ∃ u za v zb n, e = .returned (.tuple #[u, v]) ∧ w.heap.size ≤ n ∧ n ≤ w'.heap.size ∧ OwnI w' w.heap.size n u za ∧ OwnI w' n w'.heap.size v zb ∧ za.length ≤ 5 ∧ (∀ z ∈ za, -1 ≤ z ∧ z ≤ 9) ∧ zb.length ≤ 4 ∧ Below w.heap.size w w'
set_option maxHeartbeats 4000000 in
theorem DrawPlacesThen_any (v : Value) (zs : List Int) (w : World) (h : RdC w v zs) : Calls Try.prog 39 #[v] w (DrawnPT w) := by
  have H := Lib.hid h; clear h
  go_enter Try.func39, Try.ntmps39
  go_wp2_with fail
  refine (l20Open_any v zs _ H.out).mono ?_
  rintro e w1 ⟨g, bs, rfl, hr, hg, hb⟩
  have hs := hb.size
  have hgw := hr.lt
  have X := Lib.hid (And.intro hr hb); clear hr hb H
  go_wp2_with fail
  refine (places_any w1 g 0 bs _ (RS.refl X.out.1) (by omega)).mono ?_
  rintro e w2 ⟨m, va, za, p2, rfl, hm4, ho, hzl, hzb, hr2, hp2, hg2⟩
  have hz2 : w1.heap.size ≤ w2.heap.size := hg2.size
  obtain ⟨Aa, ca, rfl, _⟩ := ho.rd
  have HZ := Lib.hid hzb; clear hzb
  have B0 : Below w2.heap.size w2 (w2.alloc (.cells #[] 3)) := (Below.refl _ _).alloc (Nat.le_refl _) _
  have L0 := (nilLit w2).1
  have Y : Hid (RS w1 (w2.alloc (.cells #[] 3)) g bs p2 ∧ Below w.heap.size w (w2.alloc (.cells #[] 3)) ∧ OwnI (w2.alloc (.cells #[] 3)) w1.heap.size w2.heap.size (.slice Aa za.length ca) za ∧ OwnI (w2.alloc (.cells #[] 3)) w2.heap.size (w2.alloc (.cells #[] 3)).heap.size (.slice (some ⟨w2.heap.size, 0, none⟩) 0 0) []) := Lib.hid ⟨hr2.below B0 (by omega), (below_of_within X.out.2 hg hg2).trans (B0.mono (by omega)), ho.belowB B0 (Nat.le_refl _), ⟨L0.own, L0.lt⟩⟩
  clear hr2 hg2 ho B0 L0 X
  have hz3 : w2.heap.size + 1 ≤ (w2.alloc (.cells #[] 3)).heap.size := by simp
  go_wp2_with fail
  refine (pick w1 g p2 5 bs _ Y.out.1 (by omega) (by omega)).mono ?_
  rintro e w3 ⟨y, rfl, hy0, hy1, hr3, hg3⟩
  have hz4 : w2.heap.size + 1 ≤ w3.heap.size := by have := hg3.size; omega
  obtain ⟨j0, rfl⟩ := Int.eq_ofNat_of_zero_le hy0
  have Z : Hid (RS w1 w3 g bs (p2 + 1) ∧ Below w.heap.size w w3 ∧ OwnI w3 w1.heap.size w2.heap.size (.slice Aa za.length ca) za ∧ OwnI w3 w2.heap.size w3.heap.size (.slice (some ⟨w2.heap.size, 0, none⟩) 0 0) []) := Lib.hid ⟨hr3, below_of_within Y.out.2.1 hg hg3, Y.out.2.2.1.apart hg3 (.inr (by omega)), by
    have h2 := Y.out.2.2.2.apart (lo' := g) (hi' := g + 1) hg3 (.inr (by omega))
    exact ⟨h2.own, fun k hk => by have := h2.lt k hk; have := hg3.size; omega⟩⟩
  clear hr3 hg3 Y hz3
  go_wp2
  go_loopw [7, 8] (fun v kv wr => ∃ (j p' : Nat) (zb : List Int), kv = .int .i64 j ∧ j ≤ 4 ∧ w2.heap.size + 1 ≤ wr.heap.size ∧ zb.length + j ≤ 4 ∧ p' + 2 * j ≤ p2 + 20 ∧ RS w1 wr g bs p' ∧ Below w.heap.size w wr ∧ OwnI wr w1.heap.size w2.heap.size (.slice Aa za.length ca) za ∧ OwnI wr w2.heap.size wr.heap.size v zb ∧ (∀ z ∈ zb, -1 ≤ z ∧ z ≤ 9)) (fun _ kv _ => (intOf kv).toNat)
  case atStart => exact ⟨j0, p2 + 1, [], rfl, by omega, hz4, by simp; omega, by omega, Z.out.1, Z.out.2.1, Z.out.2.2.1, Z.out.2.2.2, by simp⟩
  case round =>
    clear Z hz4 hy0 hy1
    obtain ⟨j, p', zb, rfl, hj, hsz, hlen, hpc, q1, q2, q3, q4, q5⟩ := hrel
    have X := Lib.hid (And.intro q1 (And.intro q2 (And.intro q3 (And.intro q4 q5)))); clear q1 q2 q3 q4 q5
    rcases j with _ | j
    · go_wp2
      go_ret2
      exact ⟨_, za, _, zb, w2.heap.size, rfl, by omega, by omega, ⟨X.out.2.2.1.own.mono (by omega), X.out.2.2.1.lt⟩, X.out.2.2.2.1, hzl, HZ.out, by omega, X.out.2.1⟩
    · have hjI : (0 : Int) < ((j + 1 : Nat) : Int) := by omega
      go_wp2_with fail
      case inl =>
        refine (pick w1 g p' (1) bs _ X.out.1 (by omega) (by omega)).mono ?_
        rintro e w4 ⟨x, rfl, hx0, hx1, hr4, hg4⟩
        have hzz4 : w2.heap.size + 1 ≤ w4.heap.size := by have := hg4.size; omega
        have hzy4 : wr.heap.size ≤ w4.heap.size := hg4.size
        have hx9 : x ≤ 5 := by omega
        have Y := Lib.hid (And.intro hr4 (And.intro (below_of_within X.out.2.1 hg hg4) (And.intro (X.out.2.2.1.apart hg4 (.inr (by omega))) (And.intro (X.out.2.2.2.1.apart hg4 (.inr (by omega))) X.out.2.2.2.2)))); clear hr4 hg4 X
        go_wp2_with fail
        refine (pick w1 g (p' + 1) 40 bs _ Y.out.1 (by omega) (by omega)).mono ?_
        rintro e w5 ⟨y, rfl, hy0, hy1, hr5, hg5⟩
        have hzz5 : w2.heap.size + 1 ≤ w5.heap.size := by have := hg5.size; omega
        have hzy5 : wr.heap.size ≤ w5.heap.size := by have := hg5.size; omega
        have Z := Lib.hid (And.intro hr5 (And.intro (below_of_within Y.out.2.1 hg hg5) (And.intro (Y.out.2.2.1.apart hg5 (.inr (by omega))) (And.intro (Y.out.2.2.2.1.apart hg5 (.inr (by omega))) Y.out.2.2.2.2)))); clear hr5 hg5 Y
        obtain ⟨q, hq, hq0, hq1⟩ : ∃ q : Int, y.tdiv 39 = q ∧ 0 ≤ q ∧ q ≤ 1 := ⟨_, rfl, by rw [Int.tdiv_eq_ediv_of_nonneg hy0]; omega, by rw [Int.tdiv_eq_ediv_of_nonneg hy0]; omega⟩
        have hwq : IntKind.i64.wrap q = q := IntWalk.i64_in _ (by omega)
        have hwx : IntKind.i64.wrap (x - q) = x - q := IntWalk.i64_in _ (by omega)
        go_wp2_with (at_builtin; refine wpList_append_z rfl _ _ _ rfl Try.underlying23 intInfo (x - q) rfl (wf_near _ (by omega)) w2.heap.size wr.heap.size _ zb rfl Z.out.2.2.2.1 (by omega) rfl (by omega) ?_)
        intro v6 w6 ho6 hb6 hw6
        have hzz6 : w2.heap.size + 1 ≤ w6.heap.size := by have := hb6.size; omega
        have V := Lib.hid (And.intro (Z.out.1.below hb6 (by omega)) (And.intro (Z.out.2.1.trans (hb6.mono (by omega))) (And.intro (Z.out.2.2.1.belowB hb6 (Nat.le_refl _)) (And.intro ho6 (show ∀ z ∈ zb ++ [x - q], -1 ≤ z ∧ z ≤ 9 from fun z hz => by
          rcases List.mem_append.1 hz with h | h
          · exact Z.out.2.2.2.2 z h
          · have : z = x - q := by simpa using h
            omega))))); clear ho6 hb6 hw6 Z
        go_wp2
        go_roundw
        case rel => exact ⟨j, p' + 1 + 1, zb ++ [x - q], by first | rfl | go_num, by omega, hzz6, by simp; omega, by omega, V.out⟩
        case measure => simp [intOf]
      case inr =>
        refine (pick w1 g p' ((za.length : Int)) bs _ X.out.1 (by omega) (by omega)).mono ?_
        rintro e w4 ⟨x, rfl, hx0, hx1, hr4, hg4⟩
        have hzz4 : w2.heap.size + 1 ≤ w4.heap.size := by have := hg4.size; omega
        have hzy4 : wr.heap.size ≤ w4.heap.size := hg4.size
        have hx9 : x ≤ 5 := by omega
        have Y := Lib.hid (And.intro hr4 (And.intro (below_of_within X.out.2.1 hg hg4) (And.intro (X.out.2.2.1.apart hg4 (.inr (by omega))) (And.intro (X.out.2.2.2.1.apart hg4 (.inr (by omega))) X.out.2.2.2.2)))); clear hr4 hg4 X
        go_wp2_with fail
        refine (pick w1 g (p' + 1) 40 bs _ Y.out.1 (by omega) (by omega)).mono ?_
        rintro e w5 ⟨y, rfl, hy0, hy1, hr5, hg5⟩
        have hzz5 : w2.heap.size + 1 ≤ w5.heap.size := by have := hg5.size; omega
        have hzy5 : wr.heap.size ≤ w5.heap.size := by have := hg5.size; omega
        have Z := Lib.hid (And.intro hr5 (And.intro (below_of_within Y.out.2.1 hg hg5) (And.intro (Y.out.2.2.1.apart hg5 (.inr (by omega))) (And.intro (Y.out.2.2.2.1.apart hg5 (.inr (by omega))) Y.out.2.2.2.2)))); clear hr5 hg5 Y
        obtain ⟨q, hq, hq0, hq1⟩ : ∃ q : Int, y.tdiv 39 = q ∧ 0 ≤ q ∧ q ≤ 1 := ⟨_, rfl, by rw [Int.tdiv_eq_ediv_of_nonneg hy0]; omega, by rw [Int.tdiv_eq_ediv_of_nonneg hy0]; omega⟩
        have hwq : IntKind.i64.wrap q = q := IntWalk.i64_in _ (by omega)
        have hwx : IntKind.i64.wrap (x - q) = x - q := IntWalk.i64_in _ (by omega)
        go_wp2_with (at_builtin; refine wpList_append_z rfl _ _ _ rfl Try.underlying23 intInfo (x - q) rfl (wf_near _ (by omega)) w2.heap.size wr.heap.size _ zb rfl Z.out.2.2.2.1 (by omega) rfl (by omega) ?_)
        intro v6 w6 ho6 hb6 hw6
        have hzz6 : w2.heap.size + 1 ≤ w6.heap.size := by have := hb6.size; omega
        have V := Lib.hid (And.intro (Z.out.1.below hb6 (by omega)) (And.intro (Z.out.2.1.trans (hb6.mono (by omega))) (And.intro (Z.out.2.2.1.belowB hb6 (Nat.le_refl _)) (And.intro ho6 (show ∀ z ∈ zb ++ [x - q], -1 ≤ z ∧ z ≤ 9 from fun z hz => by
          rcases List.mem_append.1 hz with h | h
          · exact Z.out.2.2.2.2 z h
          · have : z = x - q := by simpa using h
            omega))))); clear ho6 hb6 hw6 Z
        go_wp2
        go_roundw
        case rel => exact ⟨j, p' + 1 + 1, zb ++ [x - q], by first | rfl | go_num, by omega, hzz6, by simp; omega, by omega, V.out⟩
        case measure => simp [intOf]
end Go.Proofs.Ytjbfpbajbjnifaa
