/- The draw of two shuffles: DrawSameShuffle. -/
import Derived.Test.YtkdpfiaegimnlaaI
import Derived.Test.YtkdpfiaegimnlaaJd
import Derived.Test.YtkdpfiaegimnlaaJu
import Derived.Test.YtkdpfiaegimnlaaJv
namespace Go.Proofs.Ytkdpfiaegimnlaa
set_option maxRecDepth 100000
open Go.RowKit Go.WideShapes

def DrawnSS (w : World) (e : Ending) (w' : World) : Prop :=
  ∃ u za v zb, e = .returned (.tuple #[u, v]) ∧ OwnI w' w.heap.size w'.heap.size u za ∧ OwnI w' w.heap.size w'.heap.size v zb ∧ za.length ≤ 119 ∧ zb.length ≤ 119 ∧ Below w.heap.size w w'
set_option maxHeartbeats 4000000 in
theorem DrawSameShuffle_any (v : Value) (zs : List Int) (w : World) (h : RdC w v zs) : Calls Try.prog 32 #[v] w (DrawnSS w) := by
  have H := Lib.hid h; clear h
  go_enter Try.func32, Try.ntmps32
  go_wp2_with fail
  refine (l20Open_any v zs _ H.out).mono ?_
  rintro e w1 ⟨g, bs, rfl, hr, hg, hb⟩
  have hs := hb.size
  have hgw := hr.lt
  have X := Lib.hid (And.intro hr hb); clear hr hb H
  go_wp2_with fail
  refine (shufC 12 w1 g 0 bs _ (by omega) (RS.refl X.out.1) (by omega)).mono ?_
  rintro e w2 ⟨u, za, p2, rfl, ho, hl, hr2, hp2, hg2⟩
  have hz2 : w1.heap.size ≤ w2.heap.size := hg2.size
  have Y := Lib.hid (And.intro hr2 (And.intro (below_of_within X.out.2 hg hg2) ho)); clear ho hr2 hg2 X
  rcases hpl : placesR za 3 with ⟨zp, yp⟩
  rcases hq : shuffleForR 3 zp with ⟨zq, yq⟩
  have hlp : zp.length ≤ 20 := by have := placesR_len za 3; rw [hpl] at this; exact this
  have hlq : zq.length ≤ 60 := by have := shuffleForR_len 3 zp; rw [hq] at this; exact this
  have HP := Lib.hid hpl; clear hpl
  have HQ := Lib.hid hq; clear hq
  go_wp2_with fail
  refine (PlacesOf_S _ za 3 _ Y.out.2.2.rd (by omega) (wf_near _ (by omega)) zp yp HP.out).mono ?_
  rintro e w3 ⟨vp, rfl, hop, hb3⟩
  have hz3 : w2.heap.size ≤ w3.heap.size := hb3.size
  have Z := Lib.hid (And.intro (Y.out.1.below hb3 (by omega)) (And.intro (Y.out.2.1.trans (hb3.mono (by omega))) (And.intro (Y.out.2.2.belowB hb3 (Nat.le_refl _)) hop))); clear hop hb3 Y
  go_wp2_with fail
  refine (ShuffleFor_S 3 _ zp _ (wf_near _ (by omega)) Z.out.2.2.2.rd (by omega) zq yq HQ.out).mono ?_
  rintro e w4 ⟨vq, rfl, hoq, hb4⟩
  have hz4 : w3.heap.size ≤ w4.heap.size := hb4.size
  have V := Lib.hid (And.intro (Z.out.1.below hb4 (by omega)) (And.intro (Z.out.2.1.trans (hb4.mono (by omega))) (And.intro (Z.out.2.2.1.belowB hb4 (by omega)) hoq))); clear hoq hb4 Z
  rcases yp with _ | _
  · go_wp2_with fail
    refine (shufC 12 w1 g p2 bs _ (by omega) V.out.1 (by omega)).mono ?_
    rintro e w6 ⟨u6, zz, p6, rfl, ho6, hl6, hr6, hp6, hg6⟩
    have hz6 : w4.heap.size ≤ w6.heap.size := hg6.size
    have T := Lib.hid (And.intro (V.out.2.2.1.apart hg6 (.inr (by omega))) (And.intro ho6 (below_of_within V.out.2.1 hg hg6))); clear ho6 hr6 hg6 V
    go_wp2
    go_ret2
    exact ⟨_, za, _, zz, rfl, ⟨T.out.1.own.mono (by omega), fun k hk => by have := T.out.1.lt k hk; omega⟩, ⟨T.out.2.1.own.mono (by omega), T.out.2.1.lt⟩, hl, hl6, T.out.2.2⟩
  · rcases yq with _ | _
    · go_wp2_with fail
      refine (shufC 12 w1 g p2 bs _ (by omega) V.out.1 (by omega)).mono ?_
      rintro e w6 ⟨u6, zz, p6, rfl, ho6, hl6, hr6, hp6, hg6⟩
      have hz6 : w4.heap.size ≤ w6.heap.size := hg6.size
      have T := Lib.hid (And.intro (V.out.2.2.1.apart hg6 (.inr (by omega))) (And.intro ho6 (below_of_within V.out.2.1 hg hg6))); clear ho6 hr6 hg6 V
      go_wp2
      go_ret2
      exact ⟨_, za, _, zz, rfl, ⟨T.out.1.own.mono (by omega), fun k hk => by have := T.out.1.lt k hk; omega⟩, ⟨T.out.2.1.own.mono (by omega), T.out.2.1.lt⟩, hl, hl6, T.out.2.2⟩
    · go_wp2_with fail
      refine (pick w1 g p2 2 bs _ V.out.1 (by omega) (by omega)).mono ?_
      rintro e w5 ⟨x, rfl, hx0, hx1, hr5, hg5⟩
      have hz5 : w4.heap.size ≤ w5.heap.size := hg5.size
      have U := Lib.hid (And.intro hr5 (And.intro (below_of_within V.out.2.1 hg hg5) (And.intro (V.out.2.2.1.apart hg5 (.inr (by omega))) (V.out.2.2.2.apart hg5 (.inr (by omega)))))); clear hr5 hg5 V
      rcases (show x = 0 ∨ x = 1 by omega) with rfl | rfl
      · go_wp2
        go_ret2
        exact ⟨_, za, _, zq, rfl, ⟨U.out.2.2.1.own.mono (by omega), fun k hk => by have := U.out.2.2.1.lt k hk; omega⟩, ⟨U.out.2.2.2.own.mono (by omega), fun k hk => by have := U.out.2.2.2.lt k hk; omega⟩, hl, by omega, U.out.2.1⟩
      · go_wp2_with fail
        refine (shufC 12 w1 g (p2 + 1) bs _ (by omega) U.out.1 (by omega)).mono ?_
        rintro e w6 ⟨u6, zz, p6, rfl, ho6, hl6, hr6, hp6, hg6⟩
        have hz6 : w5.heap.size ≤ w6.heap.size := hg6.size
        have T := Lib.hid (And.intro (U.out.2.2.1.apart hg6 (.inr (by omega))) (And.intro ho6 (below_of_within U.out.2.1 hg hg6))); clear ho6 hr6 hg6 U
        go_wp2
        go_ret2
        exact ⟨_, za, _, zz, rfl, ⟨T.out.1.own.mono (by omega), fun k hk => by have := T.out.1.lt k hk; omega⟩, ⟨T.out.2.1.own.mono (by omega), T.out.2.1.lt⟩, hl, hl6, T.out.2.2⟩
end Go.Proofs.Ytkdpfiaegimnlaa
