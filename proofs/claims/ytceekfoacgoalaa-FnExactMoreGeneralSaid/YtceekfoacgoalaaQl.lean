/- MoreGeneral of the model. -/
import Derived.Test.YtceekfoacgoalaaQk
namespace Go.Proofs.Ytceekfoacgoalaa
set_option maxRecDepth 100000
open Go.RowKit Go.WideShapes Go.Deep

set_option maxHeartbeats 2000000 in
theorem MoreGeneral_S (v0 v1 v2 v3 : Value) (a b c d : List Int) (w : World) (h0 : RdI w v0 a) (h1 : RdI w v1 b) (h2 : RdI w v2 c) (h3 : RdI w v3 d) (la : a.length ≤ 1048576) (lb : b.length ≤ 1048576) (lc : c.length ≤ 1048576) (ld : d.length ≤ 1048576) (y : Bool) (hR : IsMore a b c d y) :
    Calls Try.prog 17 #[.agg #[v0, v1], .agg #[v2, v3]] w fun e w' => e = .returned (.bool y) ∧ Below w.heap.size w w' := by
  obtain ⟨W, hW⟩ : ∃ W, (w.alloc (.cells #[v0, v1] 25)).alloc (.cells #[v2, v3] 25) = W := ⟨_, rfl⟩
  have hb : Below w.heap.size w W := by rw [← hW]; exact ((Below.refl _ _).alloc (Nat.le_refl _) _).alloc (by simp) _
  have hz : W.heap.size = w.heap.size + 2 := by rw [← hW]; simp
  have k2 : Blk W (w.heap.size + 1) #[v2, v3] 25 := by
    have := Blk.new (w.alloc (.cells #[v0, v1] 25)) #[v2, v3] 25
    rw [World.size_alloc, hW] at this
    exact this
  have k1 : Blk W w.heap.size #[v0, v1] 25 := by rw [← hW]; exact (Blk.new w #[v0, v1] 25).below ((Below.refl (w.heap.size + 1) _).alloc (by simp) _) (by omega)
  have S := Lib.hid (And.intro (h0.step hb) (And.intro (h1.step hb) (And.intro (h2.step hb) (And.intro (h3.step hb) (And.intro hb (And.intro k1 k2))))))
  obtain ⟨A0, c0, rfl, _⟩ := id h0
  obtain ⟨A1, c1, rfl, _⟩ := id h1
  obtain ⟨A2, c2, rfl, _⟩ := id h2
  obtain ⟨A3, c3, rfl, _⟩ := id h3
  clear h0 h1 h2 h3 hb k1 k2
  obtain ⟨g0, g1⟩ := blk_two2 S.out.2.2.2.2.2.1
  obtain ⟨e0, e1⟩ := blk_two2 S.out.2.2.2.2.2.2
  have hlw : w.heap.size < W.heap.size := by omega
  have hlw1 : w.heap.size + 1 < W.heap.size := by omega
  rcases hab : effB a b with _ | _
  · obtain rfl : y = false := by
      rcases hR with ⟨_, h⟩ | ⟨h, _⟩
      · exact h
      · rw [hab] at h; cases h
    have HA := Lib.hid hab; clear hab hR
    go_enter Try.func17, Try.ntmps17
    go_wp2_with fail
    try rw [hW]
    refine (EffectOk_S _ _ a b _ S.out.1 S.out.2.1 la lb false HA.out).mono ?_
    rintro e w1 ⟨rfl, hb⟩
    have B := Lib.hid (S.out.2.2.2.2.1.trans (hb.mono (by omega))); clear hb S
    go_wp2
    go_ret
    exact ⟨rfl, B.out⟩
  rcases hcd : effB c d with _ | _
  · obtain rfl : y = false := by
      rcases hR with ⟨_, h⟩ | ⟨_, h, _⟩
      · exact h
      · rw [hcd] at h; cases h
    have HA := Lib.hid hab; have HC := Lib.hid hcd; clear hab hcd hR
    go_enter Try.func17, Try.ntmps17
    go_wp2_with fail
    try rw [hW]
    refine (EffectOk_S _ _ a b _ S.out.1 S.out.2.1 la lb true HA.out).mono ?_
    rintro e w1 ⟨rfl, hb⟩
    have f0 := (hb.cell (p := ⟨w.heap.size + 1, 0, none⟩) hlw1).trans e0
    have f1 := (hb.cell (p := ⟨w.heap.size + 1, 1, none⟩) hlw1).trans e1
    have T := Lib.hid (And.intro (S.out.2.2.1.step hb) (And.intro (S.out.2.2.2.1.step hb) (S.out.2.2.2.2.1.trans (hb.mono (by omega))))); clear hb S e0 e1 g0 g1
    go_wp2_with fail
    refine (EffectOk_S _ _ c d _ T.out.1 T.out.2.1 lc ld false HC.out).mono ?_
    rintro e w2 ⟨rfl, hb⟩
    have B := Lib.hid (T.out.2.2.trans (hb.mono T.out.2.2.size)); clear hb T
    go_wp2
    go_ret
    exact ⟨rfl, B.out⟩
  have HA := Lib.hid hab; have HC := Lib.hid hcd
  obtain ⟨A, B, C, D, hAB, hCD, hy⟩ : ∃ A B C D : Ty, (A.ok true ∧ B.ok true ∧ a = A.nums ∧ b = B.nums ∧ A.nums.length ≤ 150 ∧ B.nums.length ≤ 150 ∧ nameB 0 0 (B.lets (A.lets [])) = true) ∧ (C.ok true ∧ D.ok true ∧ c = C.nums ∧ d = D.nums ∧ C.nums.length ≤ 150 ∧ D.nums.length ≤ 150 ∧ nameB 0 0 (D.lets (C.lets [])) = true) ∧ y = moreB A B C D := by
    rcases hR with ⟨h | h, _⟩ | ⟨_, _, h⟩
    · rw [hab] at h; cases h
    · rw [hcd] at h; cases h
    · exact h
  have HY := Lib.hid (And.intro hAB (And.intro hCD hy)); clear hab hcd hR hAB hCD hy
  go_enter Try.func17, Try.ntmps17
  go_wp2_with fail
  try rw [hW]
  refine (EffectOk_S _ _ a b _ S.out.1 S.out.2.1 la lb true HA.out).mono ?_
  rintro e w1 ⟨rfl, hb⟩
  have f0 := (hb.cell (p := ⟨w.heap.size + 1, 0, none⟩) hlw1).trans e0
  have f1 := (hb.cell (p := ⟨w.heap.size + 1, 1, none⟩) hlw1).trans e1
  have hs1 := hb.size
  have T := Lib.hid (And.intro (S.out.1.step hb) (And.intro (S.out.2.1.step hb) (And.intro (S.out.2.2.1.step hb) (And.intro (S.out.2.2.2.1.step hb) (And.intro (S.out.2.2.2.2.1.trans (hb.mono (by omega))) (And.intro (S.out.2.2.2.2.2.1.below hb hlw) (S.out.2.2.2.2.2.2.below hb hlw1))))))); clear hb S e0 e1 g0 g1
  go_wp2_with fail
  refine (EffectOk_S _ _ c d _ T.out.2.2.1 T.out.2.2.2.1 lc ld true HC.out).mono ?_
  rintro e w2 ⟨rfl, hb⟩
  have hs2 := hb.size
  have hbl : Below w2.heap.size w2 (w2.alloc (.cells #[] 23)) := (Below.refl _ _).alloc (Nat.le_refl _) _
  have kl := Blk.new w2 #[] 23
  obtain ⟨V, hV⟩ : ∃ V, w2.alloc (.cells #[] 23) = V := ⟨_, rfl⟩
  rw [hV] at hbl kl
  have hbV : Below w1.heap.size w1 V := hb.trans (hbl.mono hs2)
  obtain ⟨e0, e1⟩ := blk_two2 (T.out.2.2.2.2.2.1.below hbV (by omega))
  obtain ⟨f0', f1'⟩ := blk_two2 (T.out.2.2.2.2.2.2.below hbV (by omega))
  have hu : RdS V (.slice (some ⟨w2.heap.size, 0, none⟩) 0 0) [] := ⟨_, 0, rfl, by simp, fun h => by simp at h⟩
  have hsV1 : w1.heap.size ≤ V.heap.size := hbV.size
  have d0 := (T.out.2.2.2.2.2.1.below hb (by omega)).cell 0
  have d1 := (T.out.2.2.2.2.2.2.below hb (by omega)).cell 0
  simp only [List.getElem?_toArray, List.getElem?_cons_zero] at d0 d1
  have R := Lib.hid (And.intro (T.out.1.step hbV) (And.intro (T.out.2.1.step hbV) (And.intro (T.out.2.2.1.step hbV) (And.intro (T.out.2.2.2.1.step hbV) (And.intro (T.out.2.2.2.2.1.trans (hbV.mono T.out.2.2.2.2.1.size)) (And.intro (T.out.2.2.2.2.2.1.below hbV (by omega)) (And.intro (T.out.2.2.2.2.2.2.below hbV (by omega)) hu))))))); clear hb hbl kl hbV hu T f0 f1
  have hsV : w.heap.size ≤ V.heap.size := R.out.2.2.2.2.1.size
  have hsW : W.heap.size ≤ V.heap.size := by omega
  have hM := match_ty A C true (.slice (some ⟨w2.heap.size, 0, none⟩) 0 0) (.slice A0 a.length c0) (.slice A2 c.length c2) (fun _ => none) [] V HY.out.1.1 HY.out.2.1.1 HY.out.1.2.2.2.2.1 HY.out.2.1.2.2.2.2.1 Sbt.ok_none Rep.none (by simp) R.out.2.2.2.2.2.2.2 (by rw [← HY.out.1.2.2.1]; exact R.out.1) (by rw [← HY.out.2.1.2.2.1]; exact R.out.2.2.1)
  have HM := Lib.hid hM; clear hM
  go_wp2_with fail
  try rw [hV]
  refine HM.out.mono ?_
  rintro e w3 ⟨u1, y1, rfl, hb3, hq0, hq1⟩
  have hs3 := hb3.size
  have Q := Lib.hid (And.intro hb3 (And.intro hq0 hq1)); clear hb3 hq0 hq1 HM
  rcases y1 with _ | _
  · have h9 : covT A C (fun _ => none) = none := Q.out.2.1 rfl
    obtain rfl : y = false := by rw [HY.out.2.2, moreB, h9]; rfl
    have B3 := Lib.hid (R.out.2.2.2.2.1.trans (Q.out.1.mono hsV))
    go_wp2
    go_ret
    exact ⟨rfl, B3.out⟩
  obtain ⟨τ, zss, hτ, hrep, hl, hu⟩ := Q.out.2.2 rfl
  have hτo := covT_ok HY.out.1.1 HY.out.2.1.1 HY.out.2.1.2.2.2.2.1 Sbt.ok_none hτ
  have hM2 := match_ty B D true u1 (.slice A1 b.length c1) (.slice A3 d.length c3) τ zss w3 HY.out.1.2.1 HY.out.2.1.2.1 HY.out.1.2.2.2.2.2.1 HY.out.2.1.2.2.2.2.2.1 hτo hrep hl hu (by rw [← HY.out.1.2.2.2.1]; exact R.out.2.1.step Q.out.1) (by rw [← HY.out.2.1.2.2.2.1]; exact R.out.2.2.2.1.step Q.out.1)
  have HM2 := Lib.hid (And.intro hM2 hτ); clear hM2 hτ hτo hrep hl hu
  clear e0 e1 f0' f1' d0 d1
  have e1 := (R.out.2.2.2.2.2.1.below Q.out.1 (by omega)).cell 1
  have f1 := (R.out.2.2.2.2.2.2.1.below Q.out.1 (by omega)).cell 1
  simp only [List.getElem?_toArray, List.getElem?_cons_zero, List.getElem?_cons_succ] at e1 f1
  go_wp2_with fail
  refine HM2.out.1.mono ?_
  rintro e w4 ⟨u2, y2, rfl, hb4, hq0, hq1⟩
  have hyy : y = y2 := by
    rw [HY.out.2.2, moreB, HM2.out.2]
    rcases y2 with _ | _
    · show (covT B D τ).isSome = false; rw [hq0 rfl]; rfl
    · obtain ⟨ρ, zs9, hρ, _⟩ := hq1 rfl; show (covT B D τ).isSome = true; rw [hρ]; rfl
  subst hyy
  have B4 := Lib.hid ((R.out.2.2.2.2.1.trans (Q.out.1.mono hsV)).trans (hb4.mono (by omega))); clear hb4 hq0 hq1 HM2
  go_wp2
  go_ret
  exact ⟨rfl, B4.out⟩
end Go.Proofs.Ytceekfoacgoalaa
