/- NeedsOf answers at every effect as its model, and writes into no argument. For every input. -/
import Derived.Test.YtjbfpbajbjnifaaNe
import Derived.Test.YtjbfpbajbjnifaaEg
import Derived.Test.YtjbfpbajbjnifaaEf
import Derived.Test.YtjbfpbajbjnifaaLift
import Derived.Test.YtjbfpbajbjnifaaF1
import Derived.Test.YtjbfpbajbjnifaaF2
import Derived.Test.YtjbfpbajbjnifaaF3
import Derived.Deep.RegionWith
namespace Go.Proofs.Ytjbfpbajbjnifaa
set_option maxRecDepth 100000
open Go.RowKit Go.WideShapes Go.ChangeShapes Go.Deep

theorem blk_two4 {w : World} {g : Nat} {a b : Value} {T : TypeId} (h : Blk w g #[a, b] T) : w.cell? ⟨g, 0, none⟩ = some a ∧ w.cell? ⟨g, 1, none⟩ = some b ∧ w.frozen? ⟨g, 0, none⟩ = false ∧ w.frozen? ⟨g, 1, none⟩ = false :=
  ⟨h.cell 0, h.cell 1, h.free 0, h.free 1⟩
set_option maxHeartbeats 4000000 in
theorem exNeedsOf_any (A0 : Option Addr) (c0 : Nat) (r : List Int) (A1 : Option Addr) (c1 : Nat) (s : List Int) (w0 : World) (h0 : RdI w0 (.slice A0 r.length c0) r) (h1 : RdI w0 (.slice A1 s.length c1) s) :
    Calls Try.prog 10 #[.agg #[.slice A0 r.length c0, .slice A1 s.length c1]] w0 fun e w' => e = .returned (.bool true) ∧ Below w0.heap.size w0 w' := by
  have hb0 : Below w0.heap.size w0 (w0.alloc (.cells #[.slice A0 r.length c0, .slice A1 s.length c1] 55)) := (Below.refl _ _).alloc (Nat.le_refl _) _
  have S0 := Lib.hid (And.intro (h0.step hb0) (And.intro (h1.step hb0) (And.intro hb0 (Blk.new w0 #[.slice A0 r.length c0, .slice A1 s.length c1] 55)))); clear h0 h1 hb0
  by_cases hq : leftE 1048576 r s < 0
  · go_enter Try.func10, Try.ntmps10
    go_wp2_with fail
    refine (szE_any _ _ r s 1048576 _ S0.out.1 S0.out.2.1 (by omega)).mono ?_
    rintro e w1 ⟨rfl, hb⟩
    have X := Lib.hid (S0.out.2.2.1.trans (hb.mono (by simp))); clear hb
    go_wp2
    go_ret
    exact ⟨rfl, X.out⟩
  obtain ⟨hl, hn⟩ := leftE_ok hq
  rcases hR : needsR r s with ⟨y, y'⟩
  have HR := Lib.hid hR; clear hR
  have hbb : (y != y) = false := by simp
  have hbb' : (y' != y') = false := by simp
  go_enter Try.func10, Try.ntmps10
  go_wp2_with fail
  refine (szE_any _ _ r s 1048576 _ S0.out.1 S0.out.2.1 (by omega)).mono ?_
  rintro e w1 ⟨rfl, hb⟩
  have hs1 : w0.heap.size + 1 ≤ w1.heap.size := by have := hb.size; simpa using this
  have hS := S0.out.1.at_
  have hT := S0.out.2.1.at_
  simp only [World.size_alloc] at hS hT
  have S1 := Lib.hid (And.intro (hS.below (hb.mono (by simp))) (And.intro (hT.below (hb.mono (by simp))) (And.intro (S0.out.2.2.1.trans (hb.mono (by simp))) (S0.out.2.2.2.below hb (by simp))))); clear hb S0 hS hT
  obtain ⟨a0, a1, _, _⟩ := blk_two4 S1.out.2.2.2
  go_wp2_with fail
  refine (toE _ _ r s _ (S1.out.1.rd (by omega)) (S1.out.2.1.rd (by omega)) hl hn).mono ?_
  rintro e w2 ⟨t0, t1, tm, rfl, hm1, hm2, ho0, ho1, hb⟩
  have hs2 := hb.size
  obtain ⟨T0, d0, rfl, _⟩ := ho0.rd
  obtain ⟨T1, d1, rfl, _⟩ := ho1.rd
  have S2 := Lib.hid (And.intro (S1.out.1.below (hb.mono (by omega))) (And.intro (S1.out.2.1.below (hb.mono (by omega))) (And.intro (S1.out.2.2.1.trans (hb.mono (by omega))) (And.intro (S1.out.2.2.2.below hb (by omega)) (And.intro ho0.rd ho1.rd))))); clear hb S1 ho0 ho1 a0 a1
  go_wp2_with fail
  refine (NeedsOf_S _ _ r s _ S2.out.2.2.2.2.1 S2.out.2.2.2.2.2 hl hn y y' HR.out).mono ?_
  rintro e w3 ⟨rfl, hb⟩
  have hs3 := hb.size
  have S3 := Lib.hid (And.intro (S2.out.1.below (hb.mono (by omega))) (And.intro (S2.out.2.1.below (hb.mono (by omega))) (And.intro (S2.out.2.2.1.trans (hb.mono (by omega))) (S2.out.2.2.2.1.below hb (by omega))))); clear hb S2
  obtain ⟨a0, a1, _, _⟩ := blk_two4 S3.out.2.2.2
  go_wp2_with fail
  refine (toE _ _ r s _ (S3.out.1.rd (by omega)) (S3.out.2.1.rd (by omega)) hl hn).mono ?_
  rintro e w4 ⟨x0, x1, xm, rfl, hx1, hx2, ho0, ho1, hb⟩
  have hs4 := hb.size
  obtain ⟨X0, e0, rfl, _⟩ := ho0.rd
  obtain ⟨X1, e1, rfl, _⟩ := ho1.rd
  have hba : Below w4.heap.size w4 (w4.alloc (.cells #[.slice X0 r.length e0, .slice X1 s.length e1] 33)) := (Below.refl _ _).alloc (Nat.le_refl _) _
  have bx := Blk.new w4 #[.slice X0 r.length e0, .slice X1 s.length e1] 33
  have S4 := Lib.hid (And.intro ((S3.out.1.below (hb.mono (by omega))).below (hba.mono (by omega))) (And.intro ((S3.out.2.1.below (hb.mono (by omega))).below (hba.mono (by omega))) (And.intro ((S3.out.2.2.1.trans (hb.mono (by omega))).trans (hba.mono (by omega))) (And.intro ((S3.out.2.2.2.below hb (by omega)).below hba (by omega)) (And.intro (ho0.below hba) (And.intro (ho1.below hba) bx)))))); clear hb S3 ho0 ho1 a0 a1 hba bx
  go_wp2_with fail
  refine (NeedsOf_I _ _ r s _ S4.out.2.2.2.2.1.rd S4.out.2.2.2.2.2.1.rd y y' HR.out).mono ?_
  rintro e w5 ⟨rfl, hb⟩
  have hs5 : w4.heap.size + 1 ≤ w5.heap.size := by have := hb.size; simpa using this
  have S5 := Lib.hid (And.intro (S4.out.1.below (hb.mono (by simp; omega))) (And.intro (S4.out.2.1.below (hb.mono (by simp; omega))) (And.intro (S4.out.2.2.1.trans (hb.mono (by simp; omega))) (And.intro (S4.out.2.2.2.1.below hb (by simp; omega)) (And.intro (S4.out.2.2.2.2.1.below hb) (And.intro (S4.out.2.2.2.2.2.1.below hb) (S4.out.2.2.2.2.2.2.below hb (by simp)))))))); clear hb S4
  obtain ⟨a0, a1, _, _⟩ := blk_two4 S5.out.2.2.2.1
  obtain ⟨b0, b1, _, _⟩ := blk_two4 S5.out.2.2.2.2.2.2
  have hd : Below w5.heap.size w5 w5.drew := (Below.refl _ _).drew
  have HZ : Hid (w5.drew.heap.size = w5.heap.size) := Lib.hid rfl
  go_wp2_with fail
  go_region_with (first
    | (go_at_call 46; refine (eqE _ _ _ _ r r s s _ ((S5.out.2.2.2.2.1.below hd).below hbA).rd ((S5.out.2.2.2.2.2.1.below hd).below hbA).rd hoA0.rd hoA1.rd true (by simp)).mono ?_; rintro e w6 ⟨rfl, hbB⟩)
    | (go_at_call 45; refine (toE _ _ r s _ ((S5.out.1.below (hd.mono (by omega))).rd (by rw [HZ.out]; omega)) ((S5.out.2.1.below (hd.mono (by omega))).rd (by rw [HZ.out]; omega)) hl hn).mono ?_; rintro e wA ⟨q0, q1, mA, rfl, hmA1, hmA2, hoA0, hoA1, hbA⟩; obtain ⟨x60, x61, _, _⟩ := blk_two4 ((S5.out.2.2.2.2.2.2.below hd (by omega)).below hbA (by rw [HZ.out]; omega)); obtain ⟨C0, f0, rfl, _⟩ := hoA0.rd; obtain ⟨C1, f1, rfl, _⟩ := hoA1.rd))
  all_goals
    have hb : Below w5.heap.size w5 w6 := hd.trans ((hbA.mono (by rw [HZ.out]; omega)).trans (hbB.mono (by have := hbA.size; rw [HZ.out] at this; omega)))
    have V := Lib.hid (S5.out.2.2.1.trans (hb.mono (by omega))); clear hb hbA hbB
    go_wp2
    go_ret
    exact ⟨rfl, V.out⟩
theorem exNeedsOf_walk : LawWalk 10 Try.f10 := by
  intro H enc W base args ds ps hval hA
  rw [Try.params10] at hA hval
  obtain ⟨v0, d0, rfl, rfl, h0⟩ := trodAll_one hA
  obtain ⟨A0, c0, zs0, B0, d0, ss0, rfl, hi0, hj0⟩ := effect_of_trod (hval 0 _ _ rfl rfl) h0
  exact exNeedsOf_any A0 c0 zs0 B0 d0 ss0 W hi0 hj0

set_option maxRecDepth 100000 in
theorem exNeedsOf_lifted (os : Os) (started : os.Started) (H : Type) (enc : TypeId × Value → H) :
    ReturnsInHanded {} Try.checked os 10 .any (Rows.fnExactNeedsOfSpec.pre6 enc Try.prog Try.f10 Rows.fnExactNeedsOfRow.domain false) (Rows.fnExactNeedsOfSpec.post enc Try.prog Try.f10 false true false false) := by
  refine returnsInHanded_of_change (C := Try.checked) own started (by kernel_rfl) Try.func10
    (ChangeSpec.witness6 (enc := enc) (C := Try.checked) false ⟨#[], #[.agg #[.slice none 0 0, .slice none 0 0]], []⟩ 8 (by kernel_rfl) (by kernel_rfl) (by kernel_rfl) (by kernel_rfl)) ?_
  intro W base args ds gs before hval hW _ _
  exact law_contract laidOut rfl (by kernel_rfl) rfl (fun H ds hd => by
    match ds, hd with
    | [d0], _ => exact ⟨rfl, rfl, rfl⟩) exNeedsOf_walk W base args ds gs before hval hW

/-- FnExactNeedsOf: the row as it is given. -/
theorem exNeedsOf_holds : Rows.FnExactNeedsOfSaid :=
  OpenClaim.holds_of_wide 10 Try.f10 rfl rfl rfl rfl rfl rfl rfl ⟨rfl, rfl, rfl, rfl, rfl⟩ rfl rfl rfl rfl rfl (by kernel_rfl) Try.func10 (by unfold joinedFacts; rw [pf_enter, pf_lifts, pf_make]; kernel_rfl)
    (of_decide_eq_true (by kernel_rfl)) (by unfold Func.isWrapper; first | (rw [if_pos (by decide +kernel)]; kernel_rfl) | (rw [if_neg (by decide +kernel)]; exact ⟨rfl, rfl⟩))
    (fun os started H enc _ => exNeedsOf_lifted os started H enc)

end Go.Proofs.Ytjbfpbajbjnifaa
