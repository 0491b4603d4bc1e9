/- RegsValid answers at all registers as its model, and writes into no argument. For every input. -/
import Derived.Test.YtklndkhnpbjhoaaOe
import Derived.Test.YtklndkhnpbjhoaaOf
import Derived.Test.YtklndkhnpbjhoaaOc
import Derived.Test.YtklndkhnpbjhoaaLift
import Derived.Test.YtklndkhnpbjhoaaF1
import Derived.Test.YtklndkhnpbjhoaaF2
import Derived.Test.YtklndkhnpbjhoaaF3
import Derived.Deep.RegionWith
namespace Go.Proofs.Ytklndkhnpbjhoaa
set_option maxRecDepth 100000
open Go.RowKit Go.WideShapes Go.ChangeShapes Go.Deep

theorem regs_of_trod {H : Type} {enc : TypeId × Value → H} {W : World} {v : Value} {d : DataW H} {ps : List MemPlace} {base : Nat}
    (hval : Value.okWide Try.prog W .any base 45 v) (h : DataW.Trod enc Try.prog W 0 (fun _ => true) true 45 v d ps) : ∃ t A c ms B c' zs, v = .agg #[.int .i64 t, .slice A ms.length c, .slice B zs.length c'] ∧ Rd3 W (.slice A ms.length c) ms ∧ RdI W (.slice B zs.length c') zs := by
  obtain ⟨v0, v1, v2, y0, y1, y2, n, rfl, _, _, h0, h1, h2⟩ := Go.Joins.open_agg3 Try.underlying45 (by kernel_rfl) (by kernel_rfl) hval h
  obtain ⟨z0, hz0, _⟩ := DataW.trod_int Try.underlying3 h0
  obtain rfl : v0 = .int .i64 z0 := by simpa using hz0
  obtain ⟨A, c, ms, rfl, hm⟩ := trips_of_fuel Try.underlying43 Try.underlying99 Try.underlying3 Try.underlying3 Try.underlying3 (rfl : 0 = 0) (by kernel_rfl) (by kernel_rfl) h1
  obtain ⟨B, c', zs, rfl, hi⟩ := ints_of_fuel Try.underlying24 Try.underlying3 cells_int' h2
  exact ⟨z0, A, c, ms, B, c', zs, rfl, hm, hi⟩

set_option maxHeartbeats 4000000 in
theorem exRegsValid_any (t : Int) (A0 : Option Addr) (c0 : Nat) (r : List (Int × Int × Int)) (A1 : Option Addr) (c1 : Nat) (s : List Int) (w0 : World) (h0 : Rd3 w0 (.slice A0 r.length c0) r) (h1 : RdI w0 (.slice A1 s.length c1) s) :
    Calls Try.prog 6 #[.agg #[.int .i64 t, .slice A0 r.length c0, .slice A1 s.length c1]] w0 fun e w' => e = .returned (.bool true) ∧ Below w0.heap.size w0 w' := by
  have hb0 : Below w0.heap.size w0 (w0.alloc (.cells #[.int .i64 t, .slice A0 r.length c0, .slice A1 s.length c1] 45)) := (Below.refl _ _).alloc (Nat.le_refl _) _
  have S0 := Lib.hid (And.intro (h0.step hb0) (And.intro (h1.step hb0) (And.intro hb0 (Blk.new w0 #[.int .i64 t, .slice A0 r.length c0, .slice A1 s.length c1] 45)))); clear h0 h1 hb0
  by_cases hq : leftG 1048576 r s < 0
  · go_enter Try.func6, Try.ntmps6
    go_wp2_with fail
    refine (szG_any t _ _ r s 1048576 _ S0.out.1 S0.out.2.1 (by omega)).mono ?_
    rintro e w1 ⟨rfl, hb⟩
    have X := Lib.hid (S0.out.2.2.1.trans (hb.mono (by simp))); clear hb
    go_wp2
    go_ret
    exact ⟨rfl, X.out⟩
  obtain ⟨hl, hn, _⟩ := leftG_ok hq
  generalize hR : regsB t r s = y
  have HR := Lib.hid hR; clear hR
  have hbb : (y != y) = false := by simp
  go_enter Try.func6, Try.ntmps6
  go_wp2_with fail
  refine (szG_any t _ _ r s 1048576 _ S0.out.1 S0.out.2.1 (by omega)).mono ?_
  rintro e w1 ⟨rfl, hb⟩
  have hs1 : w0.heap.size + 1 ≤ w1.heap.size := by have := hb.size; simpa using this
  have hS := S0.out.1.at_
  have hT := S0.out.2.1.at_
  simp only [World.size_alloc] at hS hT
  have S1 := Lib.hid (And.intro (hS.below (hb.mono (by simp))) (And.intro (hT.below (hb.mono (by simp))) (And.intro (S0.out.2.2.1.trans (hb.mono (by simp))) (S0.out.2.2.2.below hb (by simp))))); clear hb S0 hS hT
  obtain ⟨a0, a1, a2, _, _, _⟩ := blkThree S1.out.2.2.2
  go_wp2_with fail
  refine (toG t _ _ r s _ (S1.out.1.rd (by omega)) (S1.out.2.1.rd (by omega)) hl hn).mono ?_
  rintro e w2 ⟨t0, t1, tm, rfl, hm1, hm2, ho0, ho1, hb⟩
  have hs2 := hb.size
  obtain ⟨T0, d0, rfl, _⟩ := ho0.rd
  obtain ⟨T1, d1, rfl, _⟩ := ho1.rd
  have S2 := Lib.hid (And.intro (S1.out.1.below (hb.mono (by omega))) (And.intro (S1.out.2.1.below (hb.mono (by omega))) (And.intro (S1.out.2.2.1.trans (hb.mono (by omega))) (And.intro (S1.out.2.2.2.below hb (by omega)) (And.intro ho0.rd ho1.rd))))); clear hb S1 ho0 ho1 a0 a1 a2
  go_wp2_with fail
  refine (RegsValid_S t _ _ r _ _ s _ S2.out.2.2.2.2.1 hl S2.out.2.2.2.2.2 hn y HR.out).mono ?_
  rintro e w3 ⟨rfl, hb⟩
  have hs3 := hb.size
  have S3 := Lib.hid (And.intro (S2.out.1.below (hb.mono (by omega))) (And.intro (S2.out.2.1.below (hb.mono (by omega))) (And.intro (S2.out.2.2.1.trans (hb.mono (by omega))) (S2.out.2.2.2.1.below hb (by omega))))); clear hb S2
  obtain ⟨a0, a1, a2, _, _, _⟩ := blkThree S3.out.2.2.2
  go_wp2_with fail
  refine (toG t _ _ r s _ (S3.out.1.rd (by omega)) (S3.out.2.1.rd (by omega)) hl hn).mono ?_
  rintro e w4 ⟨x0, x1, xm, rfl, hx1, hx2, ho0, ho1, hb⟩
  have hs4 := hb.size
  obtain ⟨X0, e0, rfl, _⟩ := ho0.rd
  obtain ⟨X1, e1, rfl, _⟩ := ho1.rd
  have hba : Below w4.heap.size w4 (w4.alloc (.cells #[.int .i64 t, .slice X0 r.length e0, .slice X1 s.length e1] 26)) := (Below.refl _ _).alloc (Nat.le_refl _) _
  have bx := Blk.new w4 #[.int .i64 t, .slice X0 r.length e0, .slice X1 s.length e1] 26
  have S4 := Lib.hid (And.intro ((S3.out.1.below (hb.mono (by omega))).below (hba.mono (by omega))) (And.intro ((S3.out.2.1.below (hb.mono (by omega))).below (hba.mono (by omega))) (And.intro ((S3.out.2.2.1.trans (hb.mono (by omega))).trans (hba.mono (by omega))) (And.intro ((S3.out.2.2.2.below hb (by omega)).below hba (by omega)) (And.intro (ho0.below hba) (And.intro (ho1.below hba) bx)))))); clear hb S3 ho0 ho1 a0 a1 a2 hba bx
  go_wp2_with fail
  refine (RegsValid_I t _ _ r _ _ s _ S4.out.2.2.2.2.1.rd S4.out.2.2.2.2.2.1.rd y HR.out).mono ?_
  rintro e w5 ⟨rfl, hb⟩
  have hs5 : w4.heap.size + 1 ≤ w5.heap.size := by have := hb.size; simpa using this
  have S5 := Lib.hid (And.intro (S4.out.1.below (hb.mono (by simp; omega))) (And.intro (S4.out.2.1.below (hb.mono (by simp; omega))) (And.intro (S4.out.2.2.1.trans (hb.mono (by simp; omega))) (And.intro (S4.out.2.2.2.1.below hb (by simp; omega)) (And.intro (S4.out.2.2.2.2.1.below hb) (And.intro (S4.out.2.2.2.2.2.1.below hb) (S4.out.2.2.2.2.2.2.below hb (by simp)))))))); clear hb S4
  obtain ⟨a0, a1, a2, _, _, _⟩ := blkThree S5.out.2.2.2.1
  obtain ⟨b0, b1, b2, _, _, _⟩ := blkThree S5.out.2.2.2.2.2.2
  have hd : Below w5.heap.size w5 w5.drew := (Below.refl _ _).drew
  have HZ : Hid (w5.drew.heap.size = w5.heap.size) := Lib.hid rfl
  go_wp2_with fail
  go_region_with (first
    | (go_at_call 21; refine (eqG t t _ _ _ _ r r s s _ ((S5.out.2.2.2.2.1.below hd).below hbA).rd ((S5.out.2.2.2.2.2.1.below hd).below hbA).rd hoA0.rd hoA1.rd true (by simp)).mono ?_; rintro e w6 ⟨rfl, hbB⟩)
    | (go_at_call 27; refine (toG t _ _ r s _ ((S5.out.1.below (hd.mono (by omega))).rd (by rw [HZ.out]; omega)) ((S5.out.2.1.below (hd.mono (by omega))).rd (by rw [HZ.out]; omega)) hl hn).mono ?_; rintro e wA ⟨q0, q1, mA, rfl, hmA1, hmA2, hoA0, hoA1, hbA⟩; obtain ⟨x60, x61, x62, _, _, _⟩ := blkThree ((S5.out.2.2.2.2.2.2.below hd (by omega)).below hbA (by rw [HZ.out]; omega)); obtain ⟨C0, f0, rfl, _⟩ := hoA0.rd; obtain ⟨C1, f1, rfl, _⟩ := hoA1.rd))
  all_goals
    have hb : Below w5.heap.size w5 w6 := hd.trans ((hbA.mono (by rw [HZ.out]; omega)).trans (hbB.mono (by have := hbA.size; rw [HZ.out] at this; omega)))
    have V := Lib.hid (S5.out.2.2.1.trans (hb.mono (by omega))); clear hb hbA hbB
    go_wp2
    go_ret
    exact ⟨rfl, V.out⟩
theorem exRegsValid_walk : LawWalk 6 Try.f6 := by
  intro H enc W base args ds ps hval hA
  rw [Try.params6] at hA hval
  obtain ⟨v0, d0, rfl, rfl, h0⟩ := trodAll_one hA
  obtain ⟨t0, A0, c0, zs0, B0, d0, ss0, rfl, hi0, hj0⟩ := regs_of_trod (hval 0 _ _ rfl rfl) h0
  exact exRegsValid_any t0 A0 c0 zs0 B0 d0 ss0 W hi0 hj0

set_option maxRecDepth 100000 in
theorem exRegsValid_lifted (os : Os) (started : os.Started) (H : Type) (enc : TypeId × Value → H) :
    ReturnsInHanded {} Try.checked os 6 .any (Rows.fnExactRegsValidSpec.pre6 enc Try.prog Try.f6 Rows.fnExactRegsValidRow.domain false) (Rows.fnExactRegsValidSpec.post enc Try.prog Try.f6 false true false false) := by
  refine returnsInHanded_of_change (C := Try.checked) own started (by kernel_rfl) Try.func6
    (ChangeSpec.witness6 (enc := enc) (C := Try.checked) false ⟨#[], #[.agg #[.int .i64 0, .slice none 0 0, .slice none 0 0]], []⟩ 8 (by kernel_rfl) (by kernel_rfl) (by kernel_rfl) (by kernel_rfl)) ?_
  intro W base args ds gs before hval hW _ _
  exact law_contract laidOut rfl (by kernel_rfl) rfl (fun H ds hd => by
    match ds, hd with
    | [d0], _ => exact ⟨rfl, rfl, rfl⟩) exRegsValid_walk W base args ds gs before hval hW

/-- FnExactRegsValid: the row as it is given. -/
theorem exRegsValid_holds : Rows.FnExactRegsValidSaid :=
  OpenClaim.holds_of_wide 6 Try.f6 rfl rfl rfl rfl rfl rfl rfl ⟨rfl, rfl, rfl, rfl, rfl⟩ rfl rfl rfl rfl rfl (by kernel_rfl) Try.func6 (by unfold joinedFacts; rw [pf_enter, pf_lifts, pf_make]; kernel_rfl)
    (of_decide_eq_true (by kernel_rfl)) (by unfold Func.isWrapper; first | (rw [if_pos (by decide +kernel)]; kernel_rfl) | (rw [if_neg (by decide +kernel)]; exact ⟨rfl, rfl⟩))
    (fun os started H enc _ => exRegsValid_lifted os started H enc)

end Go.Proofs.Ytklndkhnpbjhoaa
