/- FnSameRegs: of every code and every other bytes: SameRegs is its model at the drawn programs; if it holds, both leave the same of the numbers, where it is told. For every input. -/
import Derived.Test.YtpdhdiidkjgjmaaGreatI
import Derived.Test.YtpdhdiidkjgjmaaGreatBt
import Derived.Test.YtpdhdiidkjgjmaaGreatBu
import Derived.Test.YtpdhdiidkjgjmaaGreatZo
import Derived.Test.YtpdhdiidkjgjmaaGreatZz
import Derived.Test.YtpdhdiidkjgjmaaGreatCp
import Derived.Test.YtpdhdiidkjgjmaaGreatLift
namespace Go.Proofs.YtpdhdiidkjgjmaaGreat
set_option maxRecDepth 100000
open Go.RowKit Go.WideShapes Go.ChangeShapes

set_option maxHeartbeats 4000000 in
theorem fnSameRegs_any (A0 : Option Addr) (c0 : Nat) (x0 : List Int) (A1 : Option Addr) (c1 : Nat) (x1 : List Int) (w0 : World) (h0 : RdC w0 (.slice A0 x0.length c0) x0) (h1 : RdC w0 (.slice A1 x1.length c1) x1) :
    Calls Tryz.prog 4 #[.slice A0 x0.length c0, .slice A1 x1.length c1] w0 fun e w' => e = .returned (.bool true) ∧ Below w0.heap.size w0 w' := by
  have hm := h0.len_le
  have hm1 := h1.len_le
  have HH := Lib.hid h0; clear h0 h1
  by_cases hl : x0.length ≤ 1048576
  case neg =>
    go_enter Tryz.func4, Tryz.ntmps4
    go_wp2
    go_ret
    exact ⟨rfl, Below.refl _ _⟩
  by_cases hl1 : x1.length ≤ 1048576
  case neg =>
    go_enter Tryz.func4, Tryz.ntmps4
    go_wp2
    go_ret
    exact ⟨rfl, Below.refl _ _⟩
  go_enter Tryz.func4, Tryz.ntmps4
  go_wp2_with fail
  refine (DrawSameRegs_any _ x0 _ HH.out).mono ?_
  rintro e w1 ⟨p, zp, q, zq, rfl, hop, hoq, hlp, hlq, hb⟩
  have hz1 := hb.size
  have S1 := Lib.hid (And.intro hb (And.intro hop hoq)); clear hop hoq hb HH
  rcases hs : sameRegsR zp zq with _ | _ <;> have HS := Lib.hid hs <;> clear hs
  · go_wp2_with fail
    refine (SameRegs_I _ zp _ zq _ S1.out.2.1 (by omega) S1.out.2.2 (by omega) false HS.out).mono ?_
    rintro e w2 ⟨rfl, hb⟩
    have hz2 := hb.size
    have S2 := Lib.hid (And.intro (S1.out.1.trans (hb.mono hz1)) (And.intro (S1.out.2.1.step hb) (S1.out.2.2.step hb))); clear hb S1
    go_wp2_with fail
    refine (SameRegs_S _ zp _ zq _ S2.out.2.1 (by omega) S2.out.2.2 (by omega) false HS.out).mono ?_
    rintro e w3 ⟨rfl, hb⟩
    have hz3 := hb.size
    have S3 := Lib.hid (S2.out.1.trans (hb.mono (by omega))); clear hb S2
    go_wp2_with fail
    refine (alive_any _).mono ?_
    rintro e w4 ⟨rfl, hb⟩
    have S4 := Lib.hid (S3.out.trans (hb.mono (by omega))); clear hb S3
    go_wp2
    go_ret
    exact ⟨rfl, S4.out⟩
  · obtain ⟨T, ms, row, hp, hq⟩ := sameRegs_parts HS.out
    have hc := regs_countOf hp
    have hT := regs_T60 hp (by omega)
    obtain ⟨tn, rfl⟩ := Int.eq_ofNat_of_zero_le hT.1
    have hT2 : tn ≤ 120 := by omega
    have HC := Lib.hid hc
    have HW := Lib.hid (sameRegs_swap HS.out)
    clear hp hq hc hT
    go_wp2_with fail
    refine (SameRegs_I _ zp _ zq _ S1.out.2.1 (by omega) S1.out.2.2 (by omega) true HS.out).mono ?_
    rintro e w2 ⟨rfl, hb⟩
    have hz2 := hb.size
    have S2 := Lib.hid (And.intro (S1.out.1.trans (hb.mono hz1)) (And.intro (S1.out.2.1.step hb) (S1.out.2.2.step hb))); clear hb S1
    go_wp2_with fail
    refine (SameRegs_S _ zp _ zq _ S2.out.2.1 (by omega) S2.out.2.2 (by omega) true HS.out).mono ?_
    rintro e w3 ⟨rfl, hb⟩
    have hz3 := hb.size
    have S3 := Lib.hid (And.intro (S2.out.1.trans (hb.mono (by omega))) (And.intro (S2.out.2.1.step hb) (S2.out.2.2.step hb))); clear hb S2
    go_wp2_with fail
    refine (CountOf_S _ zp _ S3.out.2.1 (by omega) (tn : Int) (row.length : Int) HC.out).mono ?_
    rintro e w4 ⟨rfl, hb⟩
    have hz4 := hb.size
    have S4 := Lib.hid (And.intro (S3.out.1.trans (hb.mono (by omega))) (And.intro (S3.out.2.1.step hb) (S3.out.2.2.step hb))); clear hb S3
    go_wp2_with fail
    refine (numbers_any tn (x1.length : Int) _ hT2 (by omega)).mono ?_
    rintro e w5 ⟨ur, us, inn, rfl, hin, hr, hst, hb⟩
    have hz5 := hb.size
    have HN := Lib.hid (show inn.length = (countR zp).1.toNat by rw [HC.out]; simpa using hin); clear hin
    have S5 := Lib.hid (And.intro (S4.out.1.trans (hb.mono (by omega))) (And.intro (S4.out.2.1.step hb) (And.intro (S4.out.2.2.step hb) hst))); clear hb S4 hst hr
    rcases hr1 : runOfR zp (inn.map fun z => [z]) with ⟨l1, n1, b1⟩
    rcases hr2 : runOfR zq (inn.map fun z => [z]) with ⟨l2, n2, b2⟩
    have HF := Lib.hid (fun h1 : b1 = true => fun h2 : b2 = true => sameRegs_left HS.out HN.out (by rw [hr1, h1]) (by rw [hr2, h2]))
    have HR1 := Lib.hid hr1; clear hr1
    have HR2 := Lib.hid hr2; clear hr2
    generalize (inn.map fun z => [z]) = zss at *
    go_wp2_with fail
    refine (RunOf_I _ zp _ zss _ S5.out.2.1 (by omega) S5.out.2.2.2 l1 n1 b1 HR1.out).mono ?_
    rintro e w6 ⟨u6, rfl, ho6, hb⟩
    have hz6 := hb.size
    have S6 := Lib.hid (And.intro (S5.out.1.trans (hb.mono (by omega))) (And.intro (S5.out.2.1.step hb) (And.intro (S5.out.2.2.1.step hb) (And.intro (S5.out.2.2.2.step hb) ho6)))); clear hb S5 ho6
    go_wp2_with fail
    refine (RunOf_I _ zq _ zss _ S6.out.2.2.1 (by omega) S6.out.2.2.2.1 l2 n2 b2 HR2.out).mono ?_
    rintro e w7 ⟨u7, rfl, ho7, hb⟩
    have hz7 := hb.size
    have S7 := Lib.hid (And.intro (S6.out.1.trans (hb.mono (by omega))) (And.intro (S6.out.2.1.step hb) (And.intro (S6.out.2.2.1.step hb) (And.intro (S6.out.2.2.2.2.below hb) ho7)))); clear hb S6 ho7
    have HX : Hid (∀ wx, Below w7.heap.size w7 wx → Calls Tryz.prog 16 #[q, p] wx fun e w' => e = .returned (.bool true) ∧ Below w0.heap.size w0 w') := Lib.hid fun wx hx => by
      refine (SameRegs_I _ zq _ zp _ (S7.out.2.2.1.step hx) (by omega) (S7.out.2.1.step hx) (by omega) true HW.out).mono ?_
      rintro e w' ⟨rfl, hb⟩
      exact ⟨rfl, (S7.out.1.trans (hx.mono (by omega))).trans (hb.mono (by have := hx.size; omega))⟩
    rcases b1 with _ | _
    · go_wp2_with fail
      refine (HX.out _ (Below.refl _ _)).mono ?_
      rintro e w8 ⟨rfl, hb⟩
      have S8 := Lib.hid hb; clear hb
      go_wp2
      go_ret
      exact ⟨rfl, S8.out⟩
    · rcases b2 with _ | _
      · go_wp2_with fail
        refine (HX.out _ (Below.refl _ _)).mono ?_
        rintro e w8 ⟨rfl, hb⟩
        have S8 := Lib.hid hb; clear hb
        go_wp2
        go_ret
        exact ⟨rfl, S8.out⟩
      · have HE := Lib.hid (HF.out rfl rfl)
        go_wp2_with fail
        refine (smS _ _ l1 l2 _ S7.out.2.2.2.1.rd S7.out.2.2.2.2.rd true (by rw [HE.out]; simp)).mono ?_
        rintro e w8 ⟨rfl, hb8⟩
        have S8 := Lib.hid hb8; clear hb8
        go_wp2_with fail
        refine (HX.out _ S8.out).mono ?_
        rintro e w9 ⟨rfl, hb⟩
        have S9 := Lib.hid hb; clear hb
        go_wp2
        go_ret
        exact ⟨rfl, S9.out⟩

theorem fnSameRegs_walk : LawWalk 4 Tryz.f4 := by
  intro H enc W base args ds ps hval hA
  rw [Tryz.params4] at hA hval
  obtain ⟨v0, v1, d0, d1, p0, p1, rfl, rfl, rfl, h0, h1⟩ := trodAll_two hA
  obtain ⟨A0, c0, zs0, rfl, hi0, hc0⟩ := ints_of_trod Tryz.underlying22 Tryz.underlying5 cells_byte (hval 0 _ _ rfl rfl) h0
  obtain ⟨A1, c1, zs1, rfl, hi1, hc1⟩ := ints_of_trod Tryz.underlying22 Tryz.underlying5 cells_byte (hval 1 _ _ rfl rfl) h1
  exact fnSameRegs_any A0 c0 zs0 A1 c1 zs1 W (RdC.mk hi0 hc0) (RdC.mk hi1 hc1)

set_option maxRecDepth 100000 in
theorem fnSameRegs_lifted (os : Os) (started : os.Started) (H : Type) (enc : TypeId × Value → H) :
    ReturnsInHanded {} Tryz.checked os 4 .any (Rows.fnSameRegsSpec.pre6 enc Tryz.prog Tryz.f4 Rows.fnSameRegsRow.domain false) (Rows.fnSameRegsSpec.post enc Tryz.prog Tryz.f4 false true false false) := by
  refine returnsInHanded_of_change (C := Tryz.checked) own started (by kernel_rfl) Tryz.func4
    (ChangeSpec.witness6 (enc := enc) (C := Tryz.checked) false ⟨#[], #[.slice none 0 0, .slice none 0 0], []⟩ 8 (by kernel_rfl) (by kernel_rfl) (by kernel_rfl) (by kernel_rfl)) ?_
  intro W base args ds gs before hval hW _ _
  exact law_contract laidOut rfl (by kernel_rfl) rfl (fun H ds hd => by
    match ds, hd with
    | [d0, d1], _ => exact ⟨rfl, rfl, rfl⟩) fnSameRegs_walk W base args ds gs before hval hW

/-- FnSameRegs: the row as it is given. -/
theorem fnSameRegs_holds : Rows.FnSameRegsSaid :=
  OpenClaim.holds_of_wide 4 Tryz.f4 rfl rfl rfl rfl rfl rfl rfl ⟨rfl, rfl, rfl, rfl, rfl⟩ rfl rfl rfl rfl rfl (by kernel_rfl) Tryz.func4 (by unfold joinedFacts; rw [pf_enter, pf_lifts, pf_make]; kernel_rfl)
    (of_decide_eq_true (by kernel_rfl)) (by unfold Func.isWrapper; first | (rw [if_pos (by decide +kernel)]; kernel_rfl) | (rw [if_neg (by decide +kernel)]; exact ⟨rfl, rfl⟩))
    (fun os started H enc _ => fnSameRegs_lifted os started H enc)

end Go.Proofs.YtpdhdiidkjgjmaaGreat
