/- StateOk answers at every argument as its model, and leaves the argument as it was. For every input. -/
import Derived.Test.YtmhhmdakilecoaaSt
import Derived.Test.YtmhhmdakilecoaaLs
import Derived.Test.YtmhhmdakilecoaaLift
import Derived.Deep.RegionWith
namespace Go.Proofs.Ytmhhmdakilecoaa
set_option maxRecDepth 100000
open Go.RowKit Go.WideShapes Go.ChangeShapes

set_option maxHeartbeats 2000000 in
theorem exStateOk_any (A0 : Option Addr) (c0 : Nat) (r : List Int) (A1 : Option Addr) (c1 : Nat) (s : List (List Int)) (w0 : World) (h0 : RdI w0 (.slice A0 r.length c0) r) (h1 : RdS w0 (.slice A1 s.length c1) s) :
    Calls Try.prog 15 #[.agg #[.slice A0 r.length c0, .slice A1 s.length c1]] w0 fun e w' => e = .returned (.bool true) ∧ Below w0.heap.size w0 w' := by
  have hb0 : Below w0.heap.size w0 (w0.alloc (.cells #[.slice A0 r.length c0, .slice A1 s.length c1] 59)) := (Below.refl _ _).alloc (Nat.le_refl _) _
  have S0 := Lib.hid (And.intro (RdI.at_ (h0.step hb0)) (And.intro (RdS.at_ (h1.step hb0)) hb0)); clear h0 h1 hb0
  by_cases hq : leftT 1048576 r s < 0
  · go_enter Try.func15, Try.ntmps15
    go_wp2_with fail
    refine (szT_any _ _ r s 1048576 _ S0.out.1 S0.out.2.1 (by omega)).mono ?_
    rintro e w1 ⟨rfl, hb⟩
    have X := Lib.hid (S0.out.2.2.trans (hb.mono (by simp))); clear hb
    go_wp2
    go_ret
    exact ⟨rfl, X.out⟩
  · have hq2 : r.length ≤ 1048576 ∧ s.length ≤ 1048576 ∧ szS s ≤ 1048576 := by
      unfold leftT at hq
      split at hq
      · omega
      · have := leftS_ok hq; omega
    obtain ⟨hl, hn, hs⟩ := hq2
    generalize hR : stateB r s = b
    have HR := Lib.hid hR; clear hR
    go_enter Try.func15, Try.ntmps15
    go_wp2_with fail
    refine (szT_any _ _ r s 1048576 _ S0.out.1 S0.out.2.1 (by omega)).mono ?_
    rintro e w1 ⟨rfl, hb⟩
    have hz1 : w0.heap.size + 1 ≤ w1.heap.size := by have := hb.size; simpa using this
    have b0 := (Blk.new w0 #[.slice A0 r.length c0, .slice A1 s.length c1] 59).below hb (by simp)
    have c10 := b0.cell 0
    have c11 := b0.cell 1
    simp only [List.getElem?_toArray, List.getElem?_cons_zero, List.getElem?_cons_succ] at c10 c11
    have S1 := Lib.hid (And.intro (S0.out.1.below hb) (And.intro (S0.out.2.1.below hb) (And.intro (S0.out.2.2.trans (hb.mono (by simp))) b0))); clear hb S0 b0
    go_wp2_with fail
    refine (toT _ _ r s _ (S1.out.1.rd (by simpa using hz1)) (S1.out.2.1.rd (by simpa using hz1)) hl hn hs).mono ?_
    rintro e w2 ⟨u0, u1, m, rfl, hm1, hm2, ho0, ho1, hb⟩
    have hz2 := hb.size
    have b0 := S1.out.2.2.2.below hb (by omega)
    have c20 := b0.cell 0
    have c21 := b0.cell 1
    simp only [List.getElem?_toArray, List.getElem?_cons_zero, List.getElem?_cons_succ] at c20 c21
    clear c10 c11
    have S2 := Lib.hid (And.intro (S1.out.1.below (hb.mono (by simpa using hz1))) (And.intro (S1.out.2.1.below (hb.mono (by simpa using hz1))) (And.intro (S1.out.2.2.1.trans (hb.mono (by omega))) (And.intro b0 (And.intro ho0.rd ho1.rd))))); clear hb ho0 ho1 S1 b0
    go_wp2_with fail
    refine (specStateOk_any _ _ r s _ S2.out.2.2.2.2.1 S2.out.2.2.2.2.2).mono ?_
    rw [HR.out]
    rintro e w3 ⟨rfl, hb⟩
    have hz3 := hb.size
    have b0 := S2.out.2.2.2.1.below hb (by omega)
    have c30 := b0.cell 0
    have c31 := b0.cell 1
    simp only [List.getElem?_toArray, List.getElem?_cons_zero, List.getElem?_cons_succ] at c30 c31
    clear c20 c21
    have S3 := Lib.hid (And.intro (S2.out.1.below (hb.mono (by simp; omega))) (And.intro (S2.out.2.1.below (hb.mono (by simp; omega))) (And.intro (S2.out.2.2.1.trans (hb.mono (by omega))) b0))); clear hb S2 b0
    go_wp2_with fail
    refine (toT _ _ r s _ (S3.out.1.rd (by simp; omega)) (S3.out.2.1.rd (by simp; omega)) hl hn hs).mono ?_
    rintro e w4 ⟨v0, v1, m', rfl, hm3, hm4, ho0, ho1, hb⟩
    have hz4 := hb.size
    have r0 := ho0.rd
    have r1 := ho1.rd
    obtain ⟨B0, d0, rfl, _⟩ := ho0.rd
    obtain ⟨B1, d1, rfl, _⟩ := ho1.rd
    have b0 := S3.out.2.2.2.below hb (by omega)
    have c40 := b0.cell 0
    have c41 := b0.cell 1
    simp only [List.getElem?_toArray, List.getElem?_cons_zero, List.getElem?_cons_succ] at c40 c41
    clear c30 c31
    have S4 := Lib.hid (And.intro (S3.out.1.below (hb.mono (by simp; omega))) (And.intro (S3.out.2.1.below (hb.mono (by simp; omega))) (And.intro (S3.out.2.2.1.trans (hb.mono (by omega))) (And.intro b0 (And.intro r0.at_ r1.at_))))); clear hb S3 b0 ho0 ho1 r0 r1
    go_wp2_with fail
    have bx := Blk.new w4 #[.slice B0 r.length d0, .slice B1 s.length d1] 41
    have hba : Below w4.heap.size w4 (w4.alloc (.cells #[.slice B0 r.length d0, .slice B1 s.length d1] 41)) := (Below.refl _ _).alloc (Nat.le_refl _) _
    refine (StateOk_any _ _ r s _ ((S4.out.2.2.2.2.1.below hba).rd hba.size) ((S4.out.2.2.2.2.2.below hba).rd hba.size)).mono ?_
    rw [HR.out]
    rintro e w5 ⟨rfl, hb⟩
    have hz5 : w4.heap.size + 1 ≤ w5.heap.size := by have := hb.size; simpa using this
    have hb5 : Below w4.heap.size w4 w5 := hba.trans (hb.mono (by simp))
    replace bx := bx.below hb (by simp)
    have b0 := S4.out.2.2.2.1.below hb5 (by omega)
    clear c40 c41
    have S5 := Lib.hid (And.intro (S4.out.1.below (hb5.mono (by simp; omega))) (And.intro (S4.out.2.1.below (hb5.mono (by simp; omega))) (And.intro (S4.out.2.2.1.trans (hb5.mono (by omega))) (And.intro b0 (And.intro bx (And.intro (S4.out.2.2.2.2.1.below hb5) (S4.out.2.2.2.2.2.below hb5))))))); clear hb S4 b0 bx hba hb5
    have c50 := S5.out.2.2.2.1.cell 0
    have c51 := S5.out.2.2.2.1.cell 1
    have x50 := S5.out.2.2.2.2.1.cell 0
    have x51 := S5.out.2.2.2.2.1.cell 1
    simp only [List.getElem?_toArray, List.getElem?_cons_zero, List.getElem?_cons_succ] at c50 c51 x50 x51
    have hbb : (b != b) = false := by simp
    go_wp2_with fail
    have hd5 : Below w5.heap.size w5 w5.drew := (Below.refl _ _).drew
    have S6 := Lib.hid (And.intro (S5.out.1.below (hd5.mono (by simp; omega))) (And.intro (S5.out.2.1.below (hd5.mono (by simp; omega))) (And.intro (S5.out.2.2.1.trans (hd5.mono (by omega))) (And.intro (S5.out.2.2.2.2.1.below hd5 (by omega)) (And.intro (S5.out.2.2.2.2.2.1.below (hd5.mono (by omega))) (S5.out.2.2.2.2.2.2.below (hd5.mono (by omega)))))))); clear hd5
    have hzd : w5.drew.heap.size = w5.heap.size := rfl
    have HZ := Lib.hid hzd; clear hzd
    go_region_with (first
      | (go_at_call 60; refine (toT _ _ r s _ (S6.out.1.rd (by rw [HZ.out]; simp; omega)) (S6.out.2.1.rd (by rw [HZ.out]; simp; omega)) hl hn hs).mono ?_; rintro e w6 ⟨q0, q1, m6, rfl, hm5, hm6, ho0, ho1, hb⟩; have x60 := (S6.out.2.2.2.1.below hb (by rw [HZ.out]; omega)).cell 0; have x61 := (S6.out.2.2.2.1.below hb (by rw [HZ.out]; omega)).cell 1; simp only [List.getElem?_toArray, List.getElem?_cons_zero, List.getElem?_cons_succ] at x60 x61; obtain ⟨C0, f0, rfl, _⟩ := ho0.rd; obtain ⟨C1, f1, rfl, _⟩ := ho1.rd)
      | (go_at_call 61; refine (eqT _ _ _ _ r r s s _ ((S6.out.2.2.2.2.1.below (hb.mono (by rw [HZ.out]; omega))).rd (by have := hb.size; rw [HZ.out] at this; omega)) ((S6.out.2.2.2.2.2.below (hb.mono (by rw [HZ.out]; omega))).rd (by have := hb.size; rw [HZ.out] at this; omega)) ho0.rd ho1.rd true (by simp)).mono ?_; rintro e w7 ⟨rfl, hb7⟩))
    all_goals go_wp2
    all_goals go_ret
    all_goals exact ⟨rfl, S6.out.2.2.1.trans ((hb.mono (by rw [HZ.out]; omega)).trans (hb7.mono (by have := hb.size; rw [HZ.out] at this; omega)))⟩

theorem exStateOk_walk : LawWalk 15 Try.f15 := by
  intro H enc W base args ds ps hval hA
  rw [Try.params15] at hA hval
  obtain ⟨v0, d0, rfl, rfl, h0⟩ := trodAll_one hA
  obtain ⟨A0, c0, zs0, B0, d0, ss0, rfl, hi0, hj0⟩ := state_of_trod (hval 0 _ _ rfl rfl) h0
  exact exStateOk_any A0 c0 zs0 B0 d0 ss0 W hi0 hj0

set_option maxRecDepth 100000 in
theorem exStateOk_lifted (os : Os) (started : os.Started) (H : Type) (enc : TypeId × Value → H) :
    ReturnsInHanded {} Try.checked os 15 .any (Rows.fnExactStateOkSpec.pre6 enc Try.prog Try.f15 Rows.fnExactStateOkRow.domain false) (Rows.fnExactStateOkSpec.post enc Try.prog Try.f15 false true false false) := by
  refine returnsInHanded_of_change (C := Try.checked) own started (by kernel_rfl) Try.func15
    (ChangeSpec.witness6 (enc := enc) (C := Try.checked) false ⟨#[], #[.agg #[.slice none 0 0, .slice none 0 0]], []⟩ 8 (by kernel_rfl) (by kernel_rfl) (by kernel_rfl) (by kernel_rfl)) ?_
  intro W base args ds gs before hval hW _ _
  exact law_contract laidOut rfl (by kernel_rfl) rfl (fun H ds hd => by
    match ds, hd with
    | [d0], _ => exact ⟨rfl, rfl, rfl⟩) exStateOk_walk W base args ds gs before hval hW

/-- FnExactStateOk: the row as it is given. -/
theorem exStateOk_holds : Rows.FnExactStateOkSaid :=
  OpenClaim.holds_of_wide 15 Try.f15 rfl rfl rfl rfl rfl rfl rfl ⟨rfl, rfl, rfl, rfl, rfl⟩ rfl rfl rfl rfl rfl (by kernel_rfl) Try.func15 (by unfold joinedFacts; rw [pf_enter, pf_lifts, pf_make]; kernel_rfl)
    (of_decide_eq_true (by kernel_rfl)) (by unfold Func.isWrapper; first | (rw [if_pos (by decide +kernel)]; kernel_rfl) | (rw [if_neg (by decide +kernel)]; exact ⟨rfl, rfl⟩))
    (fun os started H enc _ => exStateOk_lifted os started H enc)

end Go.Proofs.Ytmhhmdakilecoaa
