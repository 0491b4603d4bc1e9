/- DictValid answers at every argument as its model, and writes into no argument. For every input. -/
import Derived.Test.YtiaidkhkcbamaaaYd
import Derived.Test.YtiaidkhkcbamaaaYe
import Derived.Test.YtiaidkhkcbamaaaLift
namespace Go.Proofs.Ytiaidkhkcbamaaa
set_option maxRecDepth 100000
open Go.RowKit Go.WideShapes Go.ChangeShapes

set_option maxHeartbeats 1000000 in
theorem exDictValid_any (A0 : Option Addr) (c0 : Nat) (x0 : List (List Int)) (w0 : World) (h0 : RdS w0 (.slice A0 x0.length c0) x0) :
    Calls Try.prog 8 #[.slice A0 x0.length c0] w0 fun e w' => e = .returned (.bool true) ∧ Below w0.heap.size w0 w' := by
  have HH0 := Lib.hid h0; clear h0
  by_cases hs0 : leftS 1048576 x0 < 0
  case pos =>
    go_enter Try.func8, Try.ntmps8
    go_wp2_with fail
    refine (szS_any _ x0 _ _ HH0.out (by omega)).mono ?_
    rintro e w' ⟨rfl, rfl⟩
    go_wp2
    go_ret
    exact ⟨rfl, Below.refl _ _⟩
  have hn0 : x0.length ≤ 1048576 := by have := (leftS_ok hs0).1; omega
  have hl0 : szS x0 ≤ 1048576 := by have := (leftS_ok hs0).2; omega
  generalize hR : dictB x0 = y0
  have HR := Lib.hid hR; clear hR
  have hbb0 : (y0 != y0) = false := by simp
  have H0 : Hid (RdBS w0 w0.heap.size (.slice A0 x0.length c0) x0 ∧ Below w0.heap.size w0 w0) := Lib.hid ⟨HH0.out.at_, Below.refl _ _⟩
  clear HH0
  have hs0 : w0.heap.size ≤ w0.heap.size := Nat.le_refl _
  go_enter Try.func8, Try.ntmps8
  go_wp2_with fail
  refine (szS_any _ x0 _ _ ((H0.out.1).rd (by omega)) (by omega)).mono ?_
  rintro e w' ⟨rfl, rfl⟩
  go_wp2_with fail
  refine (toS _ x0 _ ((H0.out.1).rd (by omega)) hn0 (fun zs h => Nat.le_trans (szS_mem h) hl0)).mono ?_
  rintro e w1 ⟨ut0, rfl, ho, hb⟩
  have hs1 := hb.size
  have hq1_t0 : w0.heap.size ≤ w1.heap.size := hb.size
  have H1 : Hid (RdBS w1 w0.heap.size (.slice A0 x0.length c0) x0 ∧ Below w0.heap.size w0 w1 ∧ OwnS w1 w0.heap.size w1.heap.size ut0 x0) := Lib.hid ⟨(H0.out.1).below (hb.mono (by omega)), (H0.out.2).trans (hb.mono (by omega)), ho⟩
  clear hb H0 ho
  go_wp2_with fail
  refine (DictValid_S _ x0 _ ((H1.out.2.2).rd) hn0 hl0 _ HR.out).mono ?_
  rintro e w2 ⟨rfl, hb⟩
  have hs2 := hb.size
  have H2 : Hid (RdBS w2 w0.heap.size (.slice A0 x0.length c0) x0 ∧ Below w0.heap.size w0 w2) := Lib.hid ⟨(H1.out.1).below (hb.mono (by omega)), (H1.out.2.1).trans (hb.mono (by omega))⟩
  clear hb H1
  go_wp2_with fail
  refine (toS _ x0 _ ((H2.out.1).rd (by omega)) hn0 (fun zs h => Nat.le_trans (szS_mem h) hl0)).mono ?_
  rintro e w3 ⟨ux0, rfl, ho, hb⟩
  have hs3 := hb.size
  have hq3_x0 : w2.heap.size ≤ w3.heap.size := hb.size
  have H3 : Hid (RdBS w3 w0.heap.size (.slice A0 x0.length c0) x0 ∧ Below w0.heap.size w0 w3 ∧ OwnS w3 w2.heap.size w3.heap.size ux0 x0) := Lib.hid ⟨(H2.out.1).below (hb.mono (by omega)), (H2.out.2).trans (hb.mono (by omega)), ho⟩
  clear hb H2 ho
  go_wp2_with fail
  refine (DictValid_I _ x0 _ ((H3.out.2.2).rd) hn0 hl0 _ HR.out).mono ?_
  rintro e w4 ⟨rfl, hb⟩
  have hs4 := hb.size
  have H4 : Hid (RdBS w4 w0.heap.size (.slice A0 x0.length c0) x0 ∧ Below w0.heap.size w0 w4 ∧ OwnS w4 w2.heap.size w3.heap.size ux0 x0) := Lib.hid ⟨(H3.out.1).below (hb.mono (by omega)), (H3.out.2.1).trans (hb.mono (by omega)), (H3.out.2.2).below hb⟩
  clear hb H3
  go_wp2_with fail
  refine (toS _ x0 _ ((H4.out.1).rd (by omega)) hn0 (fun zs h => Nat.le_trans (szS_mem h) hl0)).mono ?_
  rintro e w5 ⟨ut0, rfl, ho, hb⟩
  have hs5 := hb.size
  have hq5_t0 : w4.heap.size ≤ w5.heap.size := hb.size
  have H5 : Hid (RdBS w5 w0.heap.size (.slice A0 x0.length c0) x0 ∧ Below w0.heap.size w0 w5 ∧ OwnS w5 w2.heap.size w3.heap.size ux0 x0 ∧ OwnS w5 w4.heap.size w5.heap.size ut0 x0) := Lib.hid ⟨(H4.out.1).below (hb.mono (by omega)), (H4.out.2.1).trans (hb.mono (by omega)), (H4.out.2.2).below hb, ho⟩
  clear hb H4 ho
  go_wp2_with fail
  refine (eqS _ _ _ _ _ ((H5.out.2.2.1).rd) ((H5.out.2.2.2).rd) true (decide_eq_true rfl)).mono ?_
  rintro e w6 ⟨rfl, hb⟩
  have hs6 := hb.size
  have H6 : Hid (RdBS w6 w0.heap.size (.slice A0 x0.length c0) x0 ∧ Below w0.heap.size w0 w6 ∧ OwnS w6 w2.heap.size w3.heap.size ux0 x0 ∧ OwnS w6 w4.heap.size w5.heap.size ut0 x0) := Lib.hid ⟨(H5.out.1).below (hb.mono (by omega)), (H5.out.2.1).trans (hb.mono (by omega)), (H5.out.2.2.1).below hb, (H5.out.2.2.2).below hb⟩
  clear hb H5
  go_wp2
  go_ret
  exact ⟨rfl, H6.out.2.1⟩

theorem exDictValid_walk : LawWalk 8 Try.f8 := by
  intro H enc W base args ds ps hval hA
  rw [Try.params8] at hA hval
  obtain ⟨v0, d0, rfl, rfl, h0⟩ := trodAll_one hA
  obtain ⟨A0, c0, zs0, rfl, hi0⟩ := rows_of_trod (hval 0 _ _ rfl rfl) h0
  exact exDictValid_any A0 c0 zs0 W hi0

set_option maxRecDepth 100000 in
theorem exDictValid_lifted (os : Os) (started : os.Started) (H : Type) (enc : TypeId × Value → H) :
    ReturnsInHanded {} Try.checked os 8 .any (Rows.fnExactDictValidSpec.pre6 enc Try.prog Try.f8 Rows.fnExactDictValidRow.domain false) (Rows.fnExactDictValidSpec.post enc Try.prog Try.f8 false true false false) := by
  refine returnsInHanded_of_change (C := Try.checked) own started (by kernel_rfl) Try.func8
    (ChangeSpec.witness6 (enc := enc) (C := Try.checked) false ⟨#[], #[.slice none 0 0], []⟩ 8 (by kernel_rfl) (by kernel_rfl) (by kernel_rfl) (by kernel_rfl)) ?_
  intro W base args ds gs before hval hW _ _
  exact law_contract laidOut rfl (by kernel_rfl) rfl (fun H ds hd => by
    match ds, hd with
    | [d0], _ => exact ⟨rfl, rfl, rfl⟩) exDictValid_walk W base args ds gs before hval hW

/-- FnExactDictValid: the row as it is given. -/
theorem exDictValid_holds : Rows.FnExactDictValidSaid :=
  OpenClaim.holds_of_wide 8 Try.f8 rfl rfl rfl rfl rfl rfl rfl ⟨rfl, rfl, rfl, rfl, rfl⟩ rfl rfl rfl rfl rfl (by kernel_rfl) Try.func8 (by unfold joinedFacts; rw [pf_enter, pf_lifts, pf_make]; kernel_rfl)
    (of_decide_eq_true (by kernel_rfl)) (by unfold Func.isWrapper; first | (rw [if_pos (by decide +kernel)]; kernel_rfl) | (rw [if_neg (by decide +kernel)]; exact ⟨rfl, rfl⟩))
    (fun os started H enc _ => exDictValid_lifted os started H enc)

end Go.Proofs.Ytiaidkhkcbamaaa
