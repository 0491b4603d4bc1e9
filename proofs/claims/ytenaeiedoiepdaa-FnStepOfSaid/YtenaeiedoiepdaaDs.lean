/- The draws of states: l20Run with its program in memory of its own, l20State, DrawStepOf. -/
import Derived.Test.YtenaeiedoiepdaaDr
namespace Go.Proofs.Ytenaeiedoiepdaa
set_option maxRecDepth 100000
open Go.RowKit Go.WideShapes

/-- A drawn program in memory of its own, and a drawn stack behind it. -/
def RunPostO (w0 : World) (g p : Nat) (bs : List Int) (w : World) (e : Ending) (w' : World) : Prop :=
  ∃ v zs u zss p' m, e = .returned (.tuple #[v, u]) ∧ OwnI w' w.heap.size m v zs ∧ w.heap.size ≤ m ∧ m ≤ w'.heap.size ∧ zs.length ≤ 61 ∧ RdGS m w' u zss ∧ zss.length ≤ 26 ∧ (∀ ys ∈ zss, ys.length ≤ 200) ∧ RS w0 w' g bs p' ∧ p' ≤ p + 60000 ∧ Within g (g + 1) w w'
set_option maxHeartbeats 2000000 in
theorem runOwn (w0 : World) (g p : Nat) (bs : List Int) (w : World) (h : RS w0 w g bs p) (hp : p ≤ 300000000000) :
    Calls Try.prog 26 #[.pointer (some ⟨g, 0, none⟩)] w (RunPostO w0 g p bs w) := by
  have hgw := h.rdr.lt
  have hs0 : w0.heap.size ≤ w.heap.size := h.size
  have H := Lib.hid (And.intro h (Within.of_below (lo := g) (hi := g + 1) (Below.refl w.heap.size w))); clear h
  go_enter Try.func26, Try.ntmps26
  go_wp2_with fail
  refine (pick w0 g p 4 bs _ H.out.1 (by omega) (by omega)).mono ?_
  rintro e w1 ⟨x, rfl, hx0, hx1, hr1, hg1⟩
  have hz1 : w.heap.size ≤ w1.heap.size := hg1.size
  have S1 := Lib.hid (And.intro hr1 hg1); clear hr1 hg1 H
  by_cases hx : x = 0
  · subst hx
    go_wp2_with fail
    refine (prog 5 12 w0 g (p + 1) bs _ (by omega) (by omega) S1.out.1 (by omega)).mono ?_
    rintro e w2 ⟨v, zs, p2, rfl, ho, hl, hr2, hp2, hg2⟩
    have hz2 : w1.heap.size ≤ w2.heap.size := hg2.size
    have S2 := Lib.hid (And.intro hr2 (And.intro (S1.out.2.trans hg2) (OwnI.mk (ho.own.mono hz1) ho.lt))); clear hr2 hg2 ho S1
    go_wp2_with fail
    refine (stack 4 12 w0 g p2 bs _ (by omega) (by omega) S2.out.1 (by omega)).mono ?_
    rintro e w3 ⟨u, zss, p3, rfl, ho, hl3, hy3, hr3, hp3, hg3⟩
    have hg3s : w2.heap.size ≤ w3.heap.size := hg3.size
    have S3 := Lib.hid (And.intro hr3 (And.intro (S2.out.2.1.trans hg3) (And.intro (S2.out.2.2.apart hg3 (by omega)) (And.intro ho.rdG hy3)))); clear hr3 hg3 ho hy3 S2
    go_wp2_with fail
    go_ret2
    exact ⟨v, zs, u, zss, p3, w2.heap.size, rfl, S3.out.2.2.1, by omega, hg3s, hl, S3.out.2.2.2.1, by omega, S3.out.2.2.2.2, S3.out.1, by omega, S3.out.2.1⟩
  · have hxb : (x == 0) = false := by simpa using hx
    clear hx hx0 hx1
    go_wp2_with fail
    refine (pick w0 g (p + 1) 4 bs _ S1.out.1 (by omega) (by omega)).mono ?_
    rintro e w2 ⟨y, rfl, hy0, hy1, hr2, hg2⟩
    have hz2 : w1.heap.size ≤ w2.heap.size := hg2.size
    have S2 := Lib.hid (And.intro hr2 (S1.out.2.trans hg2)); clear hr2 hg2 S1
    obtain ⟨m, rfl⟩ := Int.eq_ofNat_of_zero_le hy0
    have hm3 : m ≤ 3 := by omega
    clear hy0 hy1
    go_wp2_with fail
    refine (goodOk w0 g (p + 1 + 1) bs _ (m : Int) 3 (by omega) (by omega) S2.out.1 (by omega)).mono ?_
    rintro e w3 ⟨v, zs, p3, x3, rfl, ho, hl, hr3, hp3, hg3, hx3, hx4⟩
    have hz3 : w2.heap.size ≤ w3.heap.size := hg3.size
    obtain ⟨A, c, rfl, _⟩ := ho.rd
    have hvl := ho.lt
    have S3 := Lib.hid (And.intro hr3 (And.intro (S2.out.2.trans hg3) (OwnI.mk (ho.own.mono (show w.heap.size ≤ w2.heap.size by omega)) ho.lt))); clear hr3 hg3 ho S2
    have HVL := Lib.hid hvl; clear hvl
    by_cases h60 : zs.length ≤ 60
    · have hg60 : ¬ ((60 : Int) < (zs.length : Int)) := by omega
      have S3b := Lib.hid (And.intro S3.out.1 (And.intro S3.out.2.1 (And.intro S3.out.2.2 HVL.out))); clear S3
      go_wp2_with fail
      refine (stack 2 0 w0 g p3 bs _ (by omega) (by omega) S3b.out.1 (by omega)).mono ?_
      rintro e w4 ⟨u, zss, p4, rfl, ho, hl4, hy4, hr4, hp4, hg4⟩
      have hz4 : w3.heap.size ≤ w4.heap.size := by have := hg4.size; first | omega | (simp at this; omega)
      have hzx : w3.heap.size ≤ w4.heap.size := hg4.size
      have S4 := Lib.hid (And.intro hr4 (And.intro (S3b.out.2.1.trans hg4) (And.intro (S3b.out.2.2.1.apart hg4 (by omega)) (And.intro S3b.out.2.2.2 (And.intro ho hy4))))); clear hr4 hg4 ho hy4 S3b
      go_wp2_with fail
      refine (numbers m w0 g p4 bs _ (by omega) S4.out.1 (by omega)).mono ?_
      rintro e w5 ⟨u5, yss, p5, rfl, ho, hl5, hy5, hr5, hp5, hg5⟩
      have hz5 : w4.heap.size ≤ w5.heap.size := hg5.size
      obtain ⟨A5, c5, rfl, _⟩ := ho.rd
      have S5 := Lib.hid (And.intro hr5 (And.intro (S4.out.2.1.trans hg5) (And.intro (S4.out.2.2.1.apart hg5 (by omega)) (And.intro S4.out.2.2.2.1 (And.intro (S4.out.2.2.2.2.1.apart hg5 (.inr (by first | omega | (simp; done) | (simp; omega)))) (And.intro S4.out.2.2.2.2.2 (And.intro ho.rdG hy5))))))); clear hr5 hg5 ho hy5 S4
      obtain ⟨vs, hvs⟩ := S5.out.2.2.2.2.1
      have HVS := Lib.hid hvs; clear hvs
      go_wp2_with (at_builtin; refine wpList_append_rows rfl _ _ _ rfl Try.underlying24 rowInfo w3.heap.size w3.heap.size (Nat.le_refl _) u vs zss rfl (by omega) HVS.out.len HVS.out.row (fun j q zs hq hz => (HVS.out.apart_rows j q zs hq hz).weak (by first | omega | (simp; done) | (simp; omega))) A5 c5 yss rfl (by omega) (S5.out.2.2.2.2.2.2.1.apart_rows (fun k hk => HVS.out.lt k hk) (by omega)) ?_)
      intro v6 w6 ho6 hg6
      have hb6 : Below w3.heap.size w5 w6 := below_of_only hg6 (by omega) (fun k hk => (HVS.out.row.lt k hk).1)
      have hVn : Hid ((Value.slice A zs.length c).ownBlock = none ∨ (Value.slice A zs.length c).ownBlock ≠ u.ownBlock) := Lib.hid (by
        rcases e : (Value.slice A zs.length c).ownBlock with _ | k
        · exact .inl rfl
        · refine .inr fun e2 => ?_
          have h1 := S5.out.2.2.2.1 k e
          have h2 := (HVS.out.row.lt k e2.symm).1
          omega)
      have S6 := Lib.hid (And.intro (S5.out.1.below hb6 (by first | omega | (simp; done) | (simp; omega))) (And.intro (S5.out.2.1.then_below hb6 (by first | omega | (simp; done) | (simp; omega))) (And.intro (OwnI.mk (S5.out.2.2.1.own.only hg6 hVn.out) S5.out.2.2.1.lt) (And.intro ho6 (lens_append S5.out.2.2.2.2.2.1 S5.out.2.2.2.2.2.2.2))))); have hz6 : w5.heap.size ≤ w6.heap.size := hb6.size; clear S5 HVS ho6 hg6 hb6 hVn
      obtain ⟨A6, n6, c6, rfl⟩ := rdS_form S6.out.2.2.2.1.rd
      go_wp2
      go_ret2
      exact ⟨_, zs, _, zss ++ yss, p5, w3.heap.size, rfl, S6.out.2.2.1, by omega, by omega, by first | omega | (simp; done) | (simp; omega), (by first | exact S6.out.2.2.2.1 | simpa using S6.out.2.2.2.1), by simp; omega, S6.out.2.2.2.2, S6.out.1, by omega, S6.out.2.1⟩
    · have hg60 : (60 : Int) < (zs.length : Int) := by omega
      have hbl : Below w3.heap.size w3 (w3.alloc (.cells #[.int .i64 1001, .int .i64 1006] 3)) := (Below.refl _ _).alloc (Nat.le_refl _) _
      have ho2 := lits_own w3 [1001, 1006] (by simp) (by intro z hz; simp only [List.mem_cons, List.not_mem_nil, or_false] at hz; apply wf_near; omega)
      have S3b := Lib.hid (And.intro (S3.out.1.below hbl (by omega)) (And.intro (S3.out.2.1.then_below hbl (by omega)) (And.intro (OwnI.mk (ho2.own.mono (show w.heap.size ≤ w3.heap.size by omega)) (fun q hq => by have := ho2.lt q hq; simpa using this) : OwnI (w3.alloc (.cells #[.int .i64 1001, .int .i64 1006] 3)) w.heap.size (w3.heap.size + 1) (.slice (some ⟨w3.heap.size, 0, none⟩) 2 2) [1001, 1006]) (show ∀ k, (Value.slice (some ⟨w3.heap.size, 0, none⟩) 2 2).ownBlock = some k → k < (w3.alloc (.cells #[.int .i64 1001, .int .i64 1006] 3)).heap.size from fun k hk => by simp [Value.ownBlock] at hk; simp; omega)))); clear S3 hbl ho2
      go_wp2_with fail
      refine (stack 2 0 w0 g p3 bs _ (by omega) (by omega) S3b.out.1 (by omega)).mono ?_
      rintro e w4 ⟨u, zss, p4, rfl, ho, hl4, hy4, hr4, hp4, hg4⟩
      have hz4 : w3.heap.size ≤ w4.heap.size := by have := hg4.size; first | omega | (simp at this; omega)
      have hzx : (w3.alloc (.cells #[.int .i64 1001, .int .i64 1006] 3)).heap.size ≤ w4.heap.size := hg4.size
      have S4 := Lib.hid (And.intro hr4 (And.intro (S3b.out.2.1.trans hg4) (And.intro (S3b.out.2.2.1.apart hg4 (by omega)) (And.intro S3b.out.2.2.2 (And.intro ho hy4))))); clear hr4 hg4 ho hy4 S3b
      go_wp2_with fail
      refine (numbers m w0 g p4 bs _ (by omega) S4.out.1 (by omega)).mono ?_
      rintro e w5 ⟨u5, yss, p5, rfl, ho, hl5, hy5, hr5, hp5, hg5⟩
      have hz5 : w4.heap.size ≤ w5.heap.size := hg5.size
      obtain ⟨A5, c5, rfl, _⟩ := ho.rd
      have S5 := Lib.hid (And.intro hr5 (And.intro (S4.out.2.1.trans hg5) (And.intro (S4.out.2.2.1.apart hg5 (by omega)) (And.intro S4.out.2.2.2.1 (And.intro (S4.out.2.2.2.2.1.apart hg5 (.inr (by first | omega | (simp; done) | (simp; omega)))) (And.intro S4.out.2.2.2.2.2 (And.intro ho.rdG hy5))))))); clear hr5 hg5 ho hy5 S4
      obtain ⟨vs, hvs⟩ := S5.out.2.2.2.2.1
      have HVS := Lib.hid hvs; clear hvs
      go_wp2_with (at_builtin; refine wpList_append_rows rfl _ _ _ rfl Try.underlying24 rowInfo (w3.alloc (.cells #[.int .i64 1001, .int .i64 1006] 3)).heap.size (w3.alloc (.cells #[.int .i64 1001, .int .i64 1006] 3)).heap.size (Nat.le_refl _) u vs zss rfl (by omega) HVS.out.len HVS.out.row (fun j q zs hq hz => (HVS.out.apart_rows j q zs hq hz).weak (by first | omega | (simp; done) | (simp; omega))) A5 c5 yss rfl (by omega) (S5.out.2.2.2.2.2.2.1.apart_rows (fun k hk => HVS.out.lt k hk) (by omega)) ?_)
      intro v6 w6 ho6 hg6
      have hb6 : Below (w3.alloc (.cells #[.int .i64 1001, .int .i64 1006] 3)).heap.size w5 w6 := below_of_only hg6 (by omega) (fun k hk => (HVS.out.row.lt k hk).1)
      have hVn : Hid ((Value.slice (some ⟨w3.heap.size, 0, none⟩) 2 2).ownBlock = none ∨ (Value.slice (some ⟨w3.heap.size, 0, none⟩) 2 2).ownBlock ≠ u.ownBlock) := Lib.hid (by
        rcases e : (Value.slice (some ⟨w3.heap.size, 0, none⟩) 2 2).ownBlock with _ | k
        · exact .inl rfl
        · refine .inr fun e2 => ?_
          have h1 := S5.out.2.2.2.1 k e
          have h2 := (HVS.out.row.lt k e2.symm).1
          omega)
      have S6 := Lib.hid (And.intro (S5.out.1.below hb6 (by first | omega | (simp; done) | (simp; omega))) (And.intro (S5.out.2.1.then_below hb6 (by first | omega | (simp; done) | (simp; omega))) (And.intro (OwnI.mk (S5.out.2.2.1.own.only hg6 hVn.out) S5.out.2.2.1.lt) (And.intro ho6 (lens_append S5.out.2.2.2.2.2.1 S5.out.2.2.2.2.2.2.2))))); have hz6 : w5.heap.size ≤ w6.heap.size := hb6.size; clear S5 HVS ho6 hg6 hb6 hVn
      obtain ⟨A6, n6, c6, rfl⟩ := rdS_form S6.out.2.2.2.1.rd
      go_wp2
      go_ret2
      exact ⟨_, [1001, 1006], _, zss ++ yss, p5, w3.heap.size + 1, rfl, S6.out.2.2.1, by omega, by have := hzx; simp at this; omega, by first | omega | (simp; done) | (simp; omega), (by first | exact S6.out.2.2.2.1 | simpa using S6.out.2.2.2.1), by simp; omega, S6.out.2.2.2.2, S6.out.1, by omega, S6.out.2.1⟩


end Go.Proofs.Ytenaeiedoiepdaa
