/- BenchNew answers at every stack as its model, writes into no argument, and its answer owns its memory. For every input. -/
import Derived.Test.YtdabbjlefpgkmaaAq
import Derived.Test.YtdabbjlefpgkmaaLift
import Derived.Test.YtdabbjlefpgkmaaF1
import Derived.Test.YtdabbjlefpgkmaaF2
import Derived.Test.YtdabbjlefpgkmaaF3
namespace Go.Proofs.Ytdabbjlefpgkmaa
set_option maxRecDepth 100000
open Go.RowKit Go.WideShapes Go.ChangeShapes

set_option maxHeartbeats 2000000 in
theorem exBenchNew_any (A0 : Option Addr) (c0 : Nat) (x0 : List (List Int)) (w0 : World) (h0 : RdS w0 (.slice A0 x0.length c0) x0) :
    Calls Try.prog 3 #[.slice A0 x0.length c0] w0 fun e w' => e = .returned (.bool true) ∧ Below w0.heap.size w0 w' := by
  have HH0 := Lib.hid h0; clear h0
  by_cases hs0 : leftS 1048576 x0 < 0
  case pos =>
    go_enter Try.func3, Try.ntmps3
    go_wp2_with fail
    refine (szS_any _ x0 _ _ HH0.out (by omega)).mono ?_
    rintro e w' ⟨rfl, rfl⟩
    go_wp2
    go_ret
    exact ⟨rfl, Below.refl _ _⟩
  have hn0 : x0.length ≤ 1048576 := by have := (leftS_ok hs0).1; omega
  have hl0 : szS x0 ≤ 1048576 := by have := (leftS_ok hs0).2; omega
  generalize hR : stackProgR x0 = R
  obtain ⟨y0, y1⟩ := R
  have hy0 : szI y0 ≤ 1000000 := by have := stackProgR_len x0; rw [hR] at this; exact this
  have Hy0 := Lib.hid hy0; clear hy0
  have HR := Lib.hid hR; clear hR
  have hpos : ¬ (1 + (y0.length : Int)) < 0 := by omega
  have hposS : ¬ (1 + (szS x0 : Int)) < 0 := by omega
  have hnn : ((1 + (y0.length : Int)) != (1 + (y0.length : Int))) = false := by simp
  go_enter Try.func3, Try.ntmps3
  go_wp2_with fail
  refine (szS_any _ x0 _ _ HH0.out (by omega)).mono ?_
  rintro e w' ⟨rfl, rfl⟩
  go_wp2_with fail
  refine (toS _ x0 _ HH0.out hn0 (fun zs h => Nat.le_trans (szS_mem h) hl0)).mono ?_
  rintro e w1 ⟨ut0, rfl, ho, hb⟩
  have hs1 := hb.size
  have H1 := Lib.hid (And.intro (HH0.out.at_.below hb) (And.intro hb ho)); clear hb ho
  go_wp2_with fail
  refine (BenchNew_S _ x0 _ H1.out.2.2.rd hn0 hl0 _ _ HR.out).mono ?_
  rintro e w2 ⟨uw, Aw, rfl, ho, hb⟩
  have hs2 := hb.size
  obtain ⟨Bw, dw, rfl, _⟩ := ho.rd
  have hba : Below w2.heap.size w2 (w2.alloc (.cells #[.slice Bw y0.length dw, .slice Aw 0 0] 27)) := (Below.refl _ _).alloc (Nat.le_refl _) _
  have H2 := Lib.hid (And.intro ((H1.out.1.below (hb.mono (by omega))).below (hba.mono (by omega))) (And.intro ((H1.out.2.1.trans (hb.mono (by omega))).trans (hba.mono (by omega))) (And.intro (ho.below hba) (Blk.new w2 #[.slice Bw y0.length dw, .slice Aw 0 0] 27)))); clear hb ho hba H1
  go_wp2_with fail
  refine (toS _ x0 _ (H2.out.1.rd (by rw [World.size_alloc]; omega)) hn0 (fun zs h => Nat.le_trans (szS_mem h) hl0)).mono ?_
  rintro e w3 ⟨ux, rfl, ho, hb⟩
  have hs3 := hb.size
  rw [World.size_alloc] at hs3 ho
  have H3 := Lib.hid (And.intro (H2.out.1.below (hb.mono (by rw [World.size_alloc]; omega))) (And.intro (H2.out.2.1.trans (hb.mono (by rw [World.size_alloc]; omega))) (And.intro (H2.out.2.2.1.below hb) (And.intro (H2.out.2.2.2.below hb (by simp)) ho)))); clear hb ho H2
  go_wp2_with fail
  refine (BenchNew_I _ x0 _ H3.out.2.2.2.2.rd hn0 hl0 _ _ HR.out).mono ?_
  rintro e w4 ⟨ug, rfl, ho, hb⟩
  have hs4 := hb.size
  obtain ⟨Bg, dg, rfl, _⟩ := ho.rd
  have hba : Below w4.heap.size w4 (w4.alloc (.cells #[.slice Bg y0.length dg, .slice none 0 0] 27)) := (Below.refl _ _).alloc (Nat.le_refl _) _
  have H4 := Lib.hid (And.intro ((H3.out.1.below (hb.mono (by omega))).below (hba.mono (by omega))) (And.intro ((H3.out.2.1.trans (hb.mono (by omega))).trans (hba.mono (by omega))) (And.intro ((H3.out.2.2.1.below hb).below hba) (And.intro ((H3.out.2.2.2.1.below hb (by omega)).below hba (by omega)) (And.intro ((H3.out.2.2.2.2.below hb).below hba) (And.intro (ho.below hba) (Blk.new w4 #[.slice Bg y0.length dg, .slice none 0 0] 27))))))); clear hb ho hba H3
  obtain ⟨p0, p1, _, _⟩ := blkPair9 H4.out.2.2.2.1
  go_wp2_with fail
  refine (eqB9_any _ _ _ _ y0 _ H4.out.2.2.2.2.2.1.rd H4.out.2.2.1.rd).mono ?_
  rintro e w5 ⟨rfl, hb⟩
  have hs5 := hb.size
  rw [World.size_alloc] at hs5
  have H5 := Lib.hid (And.intro (H4.out.1.below (hb.mono (by rw [World.size_alloc]; omega))) (And.intro (H4.out.2.1.trans (hb.mono (by rw [World.size_alloc]; omega))) (And.intro (H4.out.2.2.1.below hb) (And.intro (H4.out.2.2.2.1.below hb (by rw [World.size_alloc]; omega)) (And.intro (H4.out.2.2.2.2.1.below hb) (And.intro (H4.out.2.2.2.2.2.1.below hb) (H4.out.2.2.2.2.2.2.below hb (by simp)))))))); clear hb H4 p0 p1
  go_wp2_with fail
  refine (toS _ x0 _ (H5.out.1.rd (by omega)) hn0 (fun zs h => Nat.le_trans (szS_mem h) hl0)).mono ?_
  rintro e w6 ⟨ut1, rfl, ho, hb⟩
  have hs6 := hb.size
  have H6 := Lib.hid (And.intro (H5.out.1.below (hb.mono (by omega))) (And.intro (H5.out.2.1.trans (hb.mono (by omega))) (And.intro (H5.out.2.2.1.below hb) (And.intro (H5.out.2.2.2.1.below hb (by omega)) (And.intro (H5.out.2.2.2.2.1.below hb) (And.intro (H5.out.2.2.2.2.2.1.below hb) (And.intro (H5.out.2.2.2.2.2.2.below hb (by omega)) ho))))))); clear hb ho H5
  go_wp2_with fail
  refine (eqS _ _ _ _ _ H6.out.2.2.2.2.1.rd H6.out.2.2.2.2.2.2.2.rd true (decide_eq_true rfl)).mono ?_
  rintro e w7 ⟨rfl, hb⟩
  have hs7 := hb.size
  have H7 := Lib.hid (And.intro (H6.out.1.below (hb.mono (by omega))) (And.intro (H6.out.2.1.trans (hb.mono (by omega))) (And.intro (H6.out.2.2.1.below hb) (And.intro (H6.out.2.2.2.1.below hb (by omega)) (And.intro (H6.out.2.2.2.2.1.below hb) (And.intro (H6.out.2.2.2.2.2.1.below hb) (H6.out.2.2.2.2.2.2.1.below hb (by omega)))))))); clear hb H6
  go_wp2_with fail
  refine (markS _ _ _ _ _ _ (by omega) (Nat.le_trans hl0 (by omega)) H7.out.2.2.2.2.1).mono ?_
  rintro e w8 ⟨rfl, _, hb⟩
  have hs8 := hb.size
  have H8 := Lib.hid (And.intro (H7.out.1.below (hb.below (by omega) (by omega))) (And.intro (H7.out.2.1.trans (hb.below (by omega) (by omega))) (And.intro (H7.out.2.2.1.apart hb (by omega)) (And.intro (show Blk w8 w2.heap.size _ _ from (hb.block _ (by omega) (by omega)).trans H7.out.2.2.2.1) (And.intro (H7.out.2.2.2.2.2.1.apart hb (by omega)) (show Blk w8 w4.heap.size _ _ from (hb.block _ (by omega) (by omega)).trans H7.out.2.2.2.2.2.2)))))); clear hb H7
  obtain ⟨p0, p1, _, _⟩ := blkPair9 H8.out.2.2.2.1
  obtain ⟨q0, q1, _, _⟩ := blkPair9 H8.out.2.2.2.2.2
  go_wp2_with fail
  refine (eqB9_any _ _ _ _ y0 _ H8.out.2.2.2.2.1.rd H8.out.2.2.1.rd).mono ?_
  rintro e w9 ⟨rfl, hb⟩
  have hs9 := hb.size
  have H9 := Lib.hid (And.intro (H8.out.1.below (hb.mono (by omega))) (And.intro (H8.out.2.1.trans (hb.mono (by omega))) (And.intro (H8.out.2.2.1.below hb) (And.intro (H8.out.2.2.2.1.below hb (by omega)) (And.intro (H8.out.2.2.2.2.1.below hb) (H8.out.2.2.2.2.2.below hb (by omega))))))); clear hb H8 p0 p1 q0 q1
  obtain ⟨q0, q1, _, _⟩ := blkPair9 H9.out.2.2.2.2.2
  go_wp2_with fail
  refine (markB9 _ _ y0 _ _ _ Hy0.out H9.out.2.2.2.2.1 (by omega)).mono ?_
  rintro e w10 ⟨rfl, hom, hb⟩
  have hs10 := hb.size
  have H10 := Lib.hid (And.intro (H9.out.1.below (hb.below (by omega) (by omega))) (And.intro (H9.out.2.1.trans (hb.below (by omega) (by omega))) (And.intro (H9.out.2.2.1.apart hb (by omega)) (And.intro (show Blk w10 w2.heap.size _ _ from (hb.block _ (by omega) (by omega)).trans H9.out.2.2.2.1) (And.intro hom (show Blk w10 w4.heap.size _ _ from (hb.block _ (by omega) (by omega)).trans H9.out.2.2.2.2.2)))))); clear hb hom H9 q0 q1
  obtain ⟨q0, q1, _, _⟩ := blkPair9 H10.out.2.2.2.2.2
  go_wp2_with fail
  refine (heldB9 _ _ y0 _ Hy0.out H10.out.2.2.2.2.1.rd).mono ?_
  rintro e w11 ⟨rfl, hb⟩
  have hs11 := hb.size
  have H11 := Lib.hid (And.intro (H10.out.1.below (hb.mono (by omega))) (And.intro (H10.out.2.1.trans (hb.mono (by omega))) (And.intro (H10.out.2.2.1.below hb) (And.intro (H10.out.2.2.2.1.below hb (by omega)) (And.intro (H10.out.2.2.2.2.1.below hb) (H10.out.2.2.2.2.2.below hb (by omega))))))); clear hb H10 q0 q1
  go_wp2_with fail
  refine (toS _ x0 _ (H11.out.1.rd (by omega)) hn0 (fun zs h => Nat.le_trans (szS_mem h) hl0)).mono ?_
  rintro e w12 ⟨uz, rfl, ho, hb⟩
  have hs12 := hb.size
  have H12 := Lib.hid (And.intro (H11.out.2.1.trans (hb.mono (by omega))) (And.intro (H11.out.2.2.1.below hb) (And.intro (H11.out.2.2.2.1.below hb (by omega)) (And.intro (H11.out.2.2.2.2.1.below hb) (And.intro (H11.out.2.2.2.2.2.below hb (by omega)) ho))))); clear hb ho H11
  go_wp2_with fail
  refine (BenchNew_I _ x0 _ H12.out.2.2.2.2.2.rd hn0 hl0 _ _ HR.out).mono ?_
  rintro e w13 ⟨uh, rfl, ho, hb⟩
  have hs13 := hb.size
  obtain ⟨Bh, dh, rfl, _⟩ := ho.rd
  have hba : Below w13.heap.size w13 (w13.alloc (.cells #[.slice Bh y0.length dh, .slice none 0 0] 27)) := (Below.refl _ _).alloc (Nat.le_refl _) _
  have H13 := Lib.hid (And.intro ((H12.out.1.trans (hb.mono (by omega))).trans (hba.mono (by omega))) (And.intro ((H12.out.2.1.below hb).below hba) (And.intro ((H12.out.2.2.1.below hb (by omega)).below hba (by omega)) (And.intro ((H12.out.2.2.2.1.below hb).below hba) (And.intro ((H12.out.2.2.2.2.1.below hb (by omega)).below hba (by omega)) (ho.below hba)))))); clear hb ho hba H12
  obtain ⟨p0, p1, _, _⟩ := blkPair9 H13.out.2.2.1
  go_wp2_with fail
  refine (eqB9_any _ _ _ _ y0 _ H13.out.2.2.2.2.2.rd H13.out.2.1.rd).mono ?_
  rintro e w14 ⟨rfl, hb⟩
  have hs14 := hb.size
  rw [World.size_alloc] at hs14
  have H14 := Lib.hid (And.intro (H13.out.1.trans (hb.mono (by rw [World.size_alloc]; omega))) (And.intro (H13.out.2.2.2.1.below hb) (H13.out.2.2.2.2.1.below hb (by rw [World.size_alloc]; omega)))); clear hb H13 p0 p1
  obtain ⟨q0, q1, _, _⟩ := blkPair9 H14.out.2.2
  go_wp2_with fail
  refine (heldB9 _ _ y0 _ Hy0.out H14.out.2.1.rd).mono ?_
  rintro e w15 ⟨rfl, hb⟩
  have H15 := Lib.hid (H14.out.1.trans (hb.mono (by omega))); clear hb H14
  go_wp2
  go_ret
  exact ⟨rfl, H15.out⟩
theorem exBenchNew_walk : LawWalk 3 Try.f3 := by
  intro H enc W base args ds ps hval hA
  rw [Try.params3] at hA hval
  obtain ⟨v0, d0, rfl, rfl, h0⟩ := trodAll_one hA
  obtain ⟨A0, c0, zs0, rfl, hi0⟩ := rows_of_trod (hval 0 _ _ rfl rfl) h0
  exact exBenchNew_any A0 c0 zs0 W hi0

set_option maxRecDepth 100000 in
theorem exBenchNew_lifted (os : Os) (started : os.Started) (H : Type) (enc : TypeId × Value → H) :
    ReturnsInHanded {} Try.checked os 3 .any (Rows.fnExactBenchNewSpec.pre6 enc Try.prog Try.f3 Rows.fnExactBenchNewRow.domain false) (Rows.fnExactBenchNewSpec.post enc Try.prog Try.f3 false true false false) := by
  refine returnsInHanded_of_change (C := Try.checked) own started (by kernel_rfl) Try.func3
    (ChangeSpec.witness6 (enc := enc) (C := Try.checked) false ⟨#[], #[.slice none 0 0], []⟩ 8 (by kernel_rfl) (by kernel_rfl) (by kernel_rfl) (by kernel_rfl)) ?_
  intro W base args ds gs before hval hW _ _
  exact law_contract laidOut rfl (by kernel_rfl) rfl (fun H ds hd => by
    match ds, hd with
    | [d0], _ => exact ⟨rfl, rfl, rfl⟩) exBenchNew_walk W base args ds gs before hval hW

/-- FnExactBenchNew: the row as it is given. -/
theorem exBenchNew_holds : Rows.FnExactBenchNewSaid :=
  OpenClaim.holds_of_wide 3 Try.f3 rfl rfl rfl rfl rfl rfl rfl ⟨rfl, rfl, rfl, rfl, rfl⟩ rfl rfl rfl rfl rfl (by kernel_rfl) Try.func3 (by unfold joinedFacts; rw [pf_enter, pf_lifts, pf_make]; kernel_rfl)
    (of_decide_eq_true (by kernel_rfl)) (by unfold Func.isWrapper; first | (rw [if_pos (by decide +kernel)]; kernel_rfl) | (rw [if_neg (by decide +kernel)]; exact ⟨rfl, rfl⟩))
    (fun os started H enc _ => exBenchNew_lifted os started H enc)

end Go.Proofs.Ytdabbjlefpgkmaa
