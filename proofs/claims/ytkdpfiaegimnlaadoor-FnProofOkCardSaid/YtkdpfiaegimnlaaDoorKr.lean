/- The draw of two programs and moves: DrawProofOk. -/
import Derived.Test.YtkdpfiaegimnlaaDoorKq
import Derived.Test.YtkdpfiaegimnlaaDoorB9
namespace Go.Proofs.YtkdpfiaegimnlaaDoor
set_option maxRecDepth 100000
open Go.RowKit Go.WideShapes Go.Deep

def DrawnPk (w : World) (e : Ending) (w' : World) : Prop := ∃ v zp u zq A c ms, e = .returned (.tuple #[v, u, .slice A ms.length c]) ∧ RdI w' v zp ∧ zp.length ≤ 61 ∧ RdI w' u zq ∧ zq.length ≤ 61 ∧ RdM w' (.slice A ms.length c) ms ∧ ms.length ≤ 101 ∧ Below w.heap.size w w'
theorem proofRunR_short {p y : List Int} {ms : List (Int × Int)} {ok : Bool} (h : proofRunR p ms = (y, ok)) : y.length ≤ 60 := by
  unfold proofRunR at h
  split at h
  · rename_i hc
    rcases hq : movedR p ms with _ | q
    · rw [hq] at h; cases h; simp
    · rw [hq] at h; cases h; exact validB_len (movedR_valid hc.1 hq)
  · cases h; simp
theorem rdM_apart {w w' : World} {T : TypeId} {lo hi lo' hi' : Nat} {v : Value} {ms : List (Int × Int)} (h : OwnP T w lo' hi' v ms) (hw : Within lo hi w w') (hd : hi' ≤ lo ∨ hi ≤ lo') : RdM w' v ms := (h.apart hw hd).rd
set_option maxHeartbeats 4000000 in
theorem DrawProofOk_any (v : Value) (zs : List Int) (w : World) (h : RdC w v zs) : Calls Tryd.prog 5 #[v] w (DrawnPk w) := by
  have H := Lib.hid h; clear h
  go_enter Tryd.func5, Tryd.ntmps5
  go_wp2_with fail
  refine (l20Open_any v zs _ H.out).mono ?_
  rintro e w1 ⟨g, bs, rfl, hr, hg, hb⟩
  have X := Lib.hid (And.intro hr hb); clear hr hb
  have hs := X.out.2.size
  have hgw1 := X.out.1.lt
  go_wp2_with fail
  refine (moved w1 g 0 bs _ (RS.refl X.out.1) (by omega)).mono ?_
  rintro e w2 ⟨p, zp, A, c, ms, p2, m, rfl, ho, hl, hm1, hm2, hmv, hml, hr2, hp2, hg2⟩
  obtain ⟨Ap, cp, rfl, _⟩ := ho.rd
  have Y := Lib.hid (And.intro hr2 (And.intro hg2 (And.intro ho hmv))); clear hr2 hg2 ho hmv
  rcases hR : proofRunR zp ms with ⟨y, ok⟩
  have hyl := proofRunR_short hR
  have HR := Lib.hid hR; clear hR
  go_wp2_with fail
  refine (ProofRun_S _ zp _ ms _ Y.out.2.2.1.rd (by omega) Y.out.2.2.2.rd y ok HR.out).mono ?_
  rintro e w3 ⟨u, rfl, hu, hb3⟩
  have hz3 := hb3.size
  obtain ⟨Au, cu, rfl, _⟩ := hu.rd
  have hw2 := Y.out.1.size
  have Z := Lib.hid (And.intro (Y.out.1.below hb3 (by omega)) (And.intro (Y.out.2.1.then_below hb3 (by omega)) (And.intro (Y.out.2.2.1.below hb3) (And.intro (Y.out.2.2.2.below hb3) hu)))); clear hb3 hu Y
  rcases ok with _ | _
  · go_wp2_with fail
    refine (known w1 g p2 bs _ Z.out.1 (by omega)).mono ?_
    rintro e w4 ⟨q, zq, p4, rfl, hq, hql, hr4, hp4, hg4⟩
    have hz4 := hg4.size
    have T := Lib.hid (And.intro (below_of_within X.out.2 hg (Z.out.2.1.trans hg4)) (And.intro (Z.out.2.2.1.apart hg4 (by omega)) (And.intro (Z.out.2.2.2.1.apart hg4 (by omega)) hq))); clear hq hr4 hg4
    go_wp2
    go_ret3
    exact ⟨_, zp, _, zq, A, c, ms, rfl, T.out.2.1.rd, hl, T.out.2.2.2.rd, hql, T.out.2.2.1.rd, hml, T.out.1⟩
  · go_wp2_with fail
    refine (pick w1 g p2 5 bs _ Z.out.1 (by omega) (by omega)).mono ?_
    rintro e w4 ⟨x, rfl, hx0, hx1, hr4, hg4⟩
    have hz4 := hg4.size
    have V := Lib.hid (And.intro hr4 (And.intro (Z.out.2.1.trans hg4) (And.intro (Z.out.2.2.1.apart hg4 (by omega)) (And.intro (Z.out.2.2.2.1.apart hg4 (by omega)) (Z.out.2.2.2.2.apart hg4 (by omega)))))); clear hr4 hg4 Z
    by_cases hx : x = 0
    · subst hx
      go_wp2_with fail
      refine (known w1 g (p2 + 1) bs _ V.out.1 (by omega)).mono ?_
      rintro e w5 ⟨q, zq, p4, rfl, hq, hql, hr5, hp4, hg5⟩
      have hz5 := hg5.size
      have T := Lib.hid (And.intro (below_of_within X.out.2 hg (V.out.2.1.trans hg5)) (And.intro (V.out.2.2.1.apart hg5 (by omega)) (And.intro (V.out.2.2.2.1.apart hg5 (by omega)) hq))); clear hq hr5 hg5
      go_wp2
      go_ret3
      exact ⟨_, zp, _, zq, A, c, ms, rfl, T.out.2.1.rd, hl, T.out.2.2.2.rd, hql, T.out.2.2.1.rd, hml, T.out.1⟩
    · have hxb : (x == 0) = false := by simpa using hx
      have T := Lib.hid (below_of_within X.out.2 hg V.out.2.1)
      go_wp2
      go_ret3
      exact ⟨_, zp, _, y, A, c, ms, rfl, V.out.2.2.1.rd, hl, V.out.2.2.2.2.rd, by omega, V.out.2.2.2.1.rd, hml, T.out⟩
end Go.Proofs.YtkdpfiaegimnlaaDoor
