/- MoreGeneral of the program. -/
import Derived.Test.YtceekfoacgoalaaQg
namespace Go.Proofs.Ytceekfoacgoalaa
set_option maxRecDepth 100000
open Go.RowKit Go.WideShapes Go.Deep

/-- What MoreGeneral answers. -/
def IsMore (a b c d : List Int) (y : Bool) : Prop :=
  ((effB a b = false ∨ effB c d = false) ∧ y = false) ∨
  (effB a b = true ∧ effB c d = true ∧ ∃ A B C D : Ty, (A.ok true ∧ B.ok true ∧ a = A.nums ∧ b = B.nums ∧ A.nums.length ≤ 150 ∧ B.nums.length ≤ 150 ∧ nameB 0 0 (B.lets (A.lets [])) = true) ∧
    (C.ok true ∧ D.ok true ∧ c = C.nums ∧ d = D.nums ∧ C.nums.length ≤ 150 ∧ D.nums.length ≤ 150 ∧ nameB 0 0 (D.lets (C.lets [])) = true) ∧ y = moreB A B C D)
theorem isMore_ex (a b c d : List Int) : ∃ y, IsMore a b c d y := by
  rcases h1 : effB a b with _ | _
  · exact ⟨false, .inl ⟨.inl h1, rfl⟩⟩
  rcases h2 : effB c d with _ | _
  · exact ⟨false, .inl ⟨.inr h2, rfl⟩⟩
  obtain ⟨A, B, hA⟩ := eff_ty h1
  obtain ⟨C, D, hC⟩ := eff_ty h2
  exact ⟨_, .inr ⟨h1, h2, A, B, C, D, hA, hC, rfl⟩⟩
theorem Two.cov {X : World} {lo lo2 : Nat} {M N : Int × Int → Nat → Prop} {A B C D : Ty} {p q r s : Option Addr} (h : Two X lo M A B p q) (h2 : Two X lo2 N C D r s) : Cov M N (fun _ => none) X :=
  ⟨fun kn b hm => ⟨none, (h.lt kn b hm).2, fun _ => rfl, fun T hT => by cases hT⟩, fun kn b hm => (h2.lt kn b hm).2⟩
set_option maxHeartbeats 2000000 in
theorem MoreGeneral_I (v0 v1 v2 v3 : Value) (a b c d : List Int) (w : World) (h0 : RdI w v0 a) (h1 : RdI w v1 b) (h2 : RdI w v2 c) (h3 : RdI w v3 d) (y : Bool) (hR : IsMore a b c d y) :
    Calls Try.prog 19 #[.agg #[v0, v1], .agg #[v2, v3]] w fun e w' => e = .returned (.bool y) ∧ Below w.heap.size w w' := by
  obtain ⟨W, hW⟩ : ∃ W, (w.alloc (.cells #[v0, v1] 25)).alloc (.cells #[v2, v3] 25) = W := ⟨_, rfl⟩
  have hb : Below w.heap.size w W := by rw [← hW]; exact ((Below.refl _ _).alloc (Nat.le_refl _) _).alloc (by simp) _
  have hz : W.heap.size = w.heap.size + 2 := by rw [← hW]; simp
  have k2 : Blk W (w.heap.size + 1) #[v2, v3] 25 := by
    have := Blk.new (w.alloc (.cells #[v0, v1] 25)) #[v2, v3] 25
    rw [World.size_alloc, hW] at this
    exact this
  have k1 : Blk W w.heap.size #[v0, v1] 25 := by rw [← hW]; exact (Blk.new w #[v0, v1] 25).below ((Below.refl (w.heap.size + 1) _).alloc (by simp) _) (by omega)
  have S := Lib.hid (And.intro (h0.step hb) (And.intro (h1.step hb) (And.intro (h2.step hb) (And.intro (h3.step hb) (And.intro hb (And.intro k1 k2))))))
  obtain ⟨A0, c0, rfl, _⟩ := id h0
  obtain ⟨A1, c1, rfl, _⟩ := id h1
  obtain ⟨A2, c2, rfl, _⟩ := id h2
  obtain ⟨A3, c3, rfl, _⟩ := id h3
  clear h0 h1 h2 h3 hb k1 k2
  obtain ⟨g0, g1⟩ := blk_two2 S.out.2.2.2.2.2.1
  obtain ⟨e0, e1⟩ := blk_two2 S.out.2.2.2.2.2.2
  have hlw : w.heap.size < W.heap.size := by omega
  have hlw1 : w.heap.size + 1 < W.heap.size := by omega
  rcases hab : effB a b with _ | _
  · -- the first one is none
    obtain rfl : y = false := by
      rcases hR with ⟨_, h⟩ | ⟨h, _⟩
      · exact h
      · rw [hab] at h; cases h
    have HA := Lib.hid hab; clear hab hR
    go_enter Try.func19, Try.ntmps19
    go_wp2_with fail
    try rw [hW]
    refine (readEffect_any _ _ a b _ S.out.1 S.out.2.1).mono ?_
    rintro e w1 ⟨p, q, x, n, cc, he, hb⟩
    rw [HA.out] at he
    subst he
    have hs1 := hb.size
    have e0' := (hb.cell (p := ⟨w.heap.size + 1, 0, none⟩) hlw1).trans e0
    have e1' := (hb.cell (p := ⟨w.heap.size + 1, 1, none⟩) hlw1).trans e1
    have ha1 : Below w1.heap.size w1 (w1.alloc (.cells #[.pointer p, .pointer q, .slice x n cc] 52)) := (Below.refl _ _).alloc (Nat.le_refl _) _
    obtain ⟨V, hV⟩ : ∃ V, w1.alloc (.cells #[.pointer p, .pointer q, .slice x n cc] 52) = V := ⟨_, rfl⟩
    rw [hV] at ha1
    have hbV : Below W.heap.size W V := hb.trans (ha1.mono hs1)
    have f0 := (hbV.cell (p := ⟨w.heap.size + 1, 0, none⟩) hlw1).trans e0
    have f1 := (hbV.cell (p := ⟨w.heap.size + 1, 1, none⟩) hlw1).trans e1
    have T := Lib.hid (And.intro (S.out.2.2.1.step hbV) (And.intro (S.out.2.2.2.1.step hbV) (S.out.2.2.2.2.1.trans (hbV.mono (by omega))))); clear hb hbV ha1 S e0 e1 g0 g1 e0' e1'
    go_wp2_with fail
    try rw [hV]
    refine (readEffect_any _ _ c d _ T.out.1 T.out.2.1).mono ?_
    rintro e w2 ⟨p', q', x', n', cc', rfl, hb⟩
    have hsV : w.heap.size ≤ V.heap.size := T.out.2.2.size
    have hs2 := hb.size
    have B := Lib.hid ((T.out.2.2.trans (hb.mono hsV)).alloc (by omega) (.cells #[.pointer p', .pointer q', .slice x' n' cc'] 52)); clear hb T
    go_wp2
    go_ret
    exact ⟨rfl, B.out⟩
  obtain ⟨A, B, hA, hB, rfl, rfl, la, lb, hN⟩ := eff_ty hab
  rcases hcd : effB c d with _ | _
  · obtain rfl : y = false := by
      rcases hR with ⟨_, h⟩ | ⟨_, h, _⟩
      · exact h
      · rw [hcd] at h; cases h
    have HA := Lib.hid (And.intro hA (And.intro hB hN)); have HC := Lib.hid hcd; clear hab hcd hR hA hB hN
    go_enter Try.func19, Try.ntmps19
    go_wp2_with fail
    try rw [hW]
    refine (readEffect_ty _ _ A B _ S.out.1 S.out.2.1 HA.out.1 HA.out.2.1 la lb HA.out.2.2).mono ?_
    rintro e w1 ⟨p, q, v, M, rfl, ⟨x, n, cc, rfl⟩, _, hb⟩
    have hs1 := hb.size
    have ha1 : Below w1.heap.size w1 (w1.alloc (.cells #[.pointer p, .pointer q, .slice x n cc] 52)) := (Below.refl _ _).alloc (Nat.le_refl _) _
    obtain ⟨V, hV⟩ : ∃ V, w1.alloc (.cells #[.pointer p, .pointer q, .slice x n cc] 52) = V := ⟨_, rfl⟩
    rw [hV] at ha1
    have hbV : Below W.heap.size W V := hb.trans (ha1.mono hs1)
    have f0 := (hbV.cell (p := ⟨w.heap.size + 1, 0, none⟩) hlw1).trans e0
    have f1 := (hbV.cell (p := ⟨w.heap.size + 1, 1, none⟩) hlw1).trans e1
    have e0' := (hb.cell (p := ⟨w.heap.size + 1, 0, none⟩) hlw1).trans e0
    have e1' := (hb.cell (p := ⟨w.heap.size + 1, 1, none⟩) hlw1).trans e1
    have T := Lib.hid (And.intro (S.out.2.2.1.step hbV) (And.intro (S.out.2.2.2.1.step hbV) (S.out.2.2.2.2.1.trans (hbV.mono (by omega))))); clear hb hbV ha1 S e0 e1 g0 g1
    go_wp2_with fail
    try rw [hV]
    refine (readEffect_any _ _ c d _ T.out.1 T.out.2.1).mono ?_
    rintro e w2 ⟨p', q', x', n', cc', he, hb⟩
    rw [HC.out] at he
    subst he
    have hsV : w.heap.size ≤ V.heap.size := T.out.2.2.size
    have hs2 := hb.size
    have B := Lib.hid ((T.out.2.2.trans (hb.mono hsV)).alloc (by omega) (.cells #[.pointer p', .pointer q', .slice x' n' cc'] 52)); clear hb T
    go_wp2
    go_ret
    exact ⟨rfl, B.out⟩
  obtain ⟨C, D, hC, hD, rfl, rfl, lc, ld, hN2⟩ := eff_ty hcd
  have hy : y = moreB A B C D := by
    rcases hR with ⟨h | h, _⟩ | ⟨_, _, A', B', C', D', ⟨k1, k2, k3, k4, _⟩, ⟨j1, j2, j3, j4, _⟩, h⟩
    · rw [hab] at h; cases h
    · rw [hcd] at h; cases h
    · obtain rfl := nums_inj hA k1 k3
      obtain rfl := nums_inj hB k2 k4
      obtain rfl := nums_inj hC j1 j3
      obtain rfl := nums_inj hD j2 j4
      exact h
  have HO := Lib.hid (And.intro (And.intro hA (And.intro hB hN)) (And.intro hC (And.intro hD hN2)))
  have HY := Lib.hid hy; clear hab hcd hR hA hB hN hC hD hN2 hy
  go_enter Try.func19, Try.ntmps19
  go_wp2_with fail
  try rw [hW]
  refine (readEffect_ty _ _ A B _ S.out.1 S.out.2.1 HO.out.1.1 HO.out.1.2.1 la lb HO.out.1.2.2).mono ?_
  rintro e w1 ⟨p, q, v, M, rfl, ⟨x, n, cc, rfl⟩, hT, hb⟩
  have hs1 := hb.size
  have ha1 : Below w1.heap.size w1 (w1.alloc (.cells #[.pointer p, .pointer q, .slice x n cc] 52)) := (Below.refl _ _).alloc (Nat.le_refl _) _
  have kv := Blk.new w1 #[.pointer p, .pointer q, .slice x n cc] 52
  obtain ⟨V, hV⟩ : ∃ V, w1.alloc (.cells #[.pointer p, .pointer q, .slice x n cc] 52) = V := ⟨_, rfl⟩
  rw [hV] at ha1 kv
  have hbV : Below W.heap.size W V := hb.trans (ha1.mono hs1)
  have hsV1 := kv.lt
  have hgM : ∀ kn j, M kn j → j < w1.heap.size := fun kn j hm => (hT.lt kn j hm).2.lt
  have f0 := (hbV.cell (p := ⟨w.heap.size + 1, 0, none⟩) hlw1).trans e0
  have f1 := (hbV.cell (p := ⟨w.heap.size + 1, 1, none⟩) hlw1).trans e1
  have e0' := (hb.cell (p := ⟨w.heap.size + 1, 0, none⟩) hlw1).trans e0
  have e1' := (hb.cell (p := ⟨w.heap.size + 1, 1, none⟩) hlw1).trans e1
  obtain ⟨g5, hg5⟩ : ∃ g, w1.heap.size = g := ⟨_, rfl⟩
  have T := Lib.hid (And.intro (S.out.2.2.1.step hbV) (And.intro (S.out.2.2.2.1.step hbV) (And.intro (S.out.2.2.2.2.1.trans (hbV.mono (by omega))) (And.intro (hT.step ha1) (And.intro kv hgM))))); clear hb hbV ha1 S e0 e1 g0 g1 hT kv hgM
  rw [hg5] at T hsV1
  go_wp2_with fail
  try rw [hV]
  try rw [hg5]
  refine (readEffect_ty _ _ C D _ T.out.1 T.out.2.1 HO.out.2.1 HO.out.2.2.1 lc ld HO.out.2.2.2).mono ?_
  rintro e w2 ⟨p', q', v', N, rfl, ⟨x', n', cc', rfl⟩, hT2, hb⟩
  have hs2 := hb.size
  have ha2 : Below w2.heap.size w2 (w2.alloc (.cells #[.pointer p', .pointer q', .slice x' n' cc'] 52)) := (Below.refl _ _).alloc (Nat.le_refl _) _
  have kv := Blk.new w2 #[.pointer p', .pointer q', .slice x' n' cc'] 52
  obtain ⟨U, hU⟩ : ∃ V, w2.alloc (.cells #[.pointer p', .pointer q', .slice x' n' cc'] 52) = V := ⟨_, rfl⟩
  rw [hU] at ha2 kv
  have hbU : Below V.heap.size V U := hb.trans (ha2.mono hs2)
  have hsU1 := kv.lt
  obtain ⟨g7, hg7⟩ : ∃ g, w2.heap.size = g := ⟨_, rfl⟩
  have hkd : ∀ kn j, M kn j → W.heap.size ≤ j ∧ (kn.1 = 1 ∨ kn.1 = 3) := fun kn j hm => ⟨(T.out.2.2.2.1.lt kn j hm).1, T.out.2.2.2.1.kd kn j hm⟩
  have hdis : ∀ kn kn' j, M kn j → ¬ N kn' j := fun kn kn' j hm hn => by
    have h1 := T.out.2.2.2.2.2 kn j hm
    have h2 := (hT2.lt kn' j hn).1
    omega
  have R := Lib.hid (And.intro (T.out.2.2.1.trans (hbU.mono T.out.2.2.1.size)) (And.intro (T.out.2.2.2.1.step hbU) (And.intro (hT2.step ha2) (And.intro (T.out.2.2.2.2.1.below hbU T.out.2.2.2.2.1.lt) (And.intro kv (And.intro hkd (And.intro T.out.2.2.2.1.fn hdis))))))); clear hb hbU ha2 hT2 kv hkd hdis T f0 f1 e0' e1'
  rw [hg7] at R hsU1
  have hlo : W.heap.size ≤ U.heap.size := by omega
  have HC1 := Lib.hid (covers_ty W.heap.size M N R.out.2.2.2.2.2.1 R.out.2.2.2.2.2.2.1 R.out.2.2.2.2.2.2.2 A C true p p' _ U HO.out.1.1 HO.out.2.1 lc Sbt.ok_none hlo R.out.2.1.sa R.out.2.2.1.sa (R.out.2.1.cov R.out.2.2.1))
  have r0 := R.out.2.2.2.1.cell 0
  have r1 := R.out.2.2.2.1.cell 1
  have s0 := R.out.2.2.2.2.1.cell 0
  have s1 := R.out.2.2.2.2.1.cell 1
  simp only [List.getElem?_toArray, List.getElem?_cons_zero, List.getElem?_cons_succ] at r0 r1 s0 s1
  go_wp2_with fail
  try rw [hU]
  try rw [hg7]
  refine HC1.out.mono ?_
  rintro e w3 ⟨y1, rfl, hF, hq0, hq1⟩
  have hs3 := hF.low.size
  rcases y1 with _ | _
  · obtain rfl : y = false := by rw [HY.out, moreB, hq0 rfl]; rfl
    have B3 := Lib.hid (R.out.1.trans (hF.low.mono (by omega))); clear hF hq0 hq1 HC1
    go_wp2
    go_ret
    exact ⟨rfl, B3.out⟩
  obtain ⟨τ, hτ, hcov⟩ := hq1 rfl
  have hLM : LetM M U := (R.out.2.1.cov R.out.2.2.1).letM fun kn j hm => (R.out.2.2.2.2.2.1 kn j hm).2
  have off : ∀ {j : Nat} {cs : Array Value}, Blk U j cs 52 → Blk w3 j cs 52 := fun hj => (hF.keep _ hj.lt (fun kn hm => by
    obtain ⟨_, q9, h9⟩ := hLM kn _ hm
    exact blk_kind h9 hj (by decide) rfl)).trans hj
  have k5 := off R.out.2.2.2.1
  have k7 := off R.out.2.2.2.2.1
  have hτo := covT_ok HO.out.1.1 HO.out.2.1 lc Sbt.ok_none hτ
  have HC2 := Lib.hid (covers_ty W.heap.size M N R.out.2.2.2.2.2.1 R.out.2.2.2.2.2.2.1 R.out.2.2.2.2.2.2.2 B D true q q' τ w3 HO.out.1.2.1 HO.out.2.2.1 ld hτo (by omega) (R.out.2.1.sb.frm hF hLM) (R.out.2.2.1.sb.frm hF hLM) hcov)
  have B3 := Lib.hid (And.intro (R.out.1.trans (hF.low.mono (by omega))) hτ); clear hF hq0 hq1 HC1 hLM off hτo hcov hτ
  clear r0 s0
  have r0 := k5.cell 1
  have s0 := k7.cell 1
  simp only [List.getElem?_toArray, List.getElem?_cons_zero, List.getElem?_cons_succ] at r0 s0
  clear k5 k7
  go_wp2_with fail
  refine HC2.out.mono ?_
  rintro e w4 ⟨y2, rfl, hF, hq0, hq1⟩
  have hyy : y = y2 := by
    rw [HY.out, moreB, B3.out.2]
    rcases y2 with _ | _
    · show (covT B D τ).isSome = false; rw [hq0 rfl]; rfl
    · obtain ⟨ρ, hρ, _⟩ := hq1 rfl; show (covT B D τ).isSome = true; rw [hρ]; rfl
  subst hyy
  have B4 := Lib.hid (B3.out.1.trans (hF.low.mono (by omega))); clear hF hq0 hq1 HC2
  go_wp2
  go_ret
  exact ⟨rfl, B4.out⟩
end Go.Proofs.Ytceekfoacgoalaa
