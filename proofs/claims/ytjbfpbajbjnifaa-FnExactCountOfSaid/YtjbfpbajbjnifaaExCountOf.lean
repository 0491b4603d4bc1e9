/- CountOf answers at every program as its model, and writes into no argument. For every input. -/
import Derived.Test.YtjbfpbajbjnifaaCo
import Derived.Test.YtjbfpbajbjnifaaCp
import Derived.Test.YtjbfpbajbjnifaaLift
import Derived.Test.YtjbfpbajbjnifaaF1
import Derived.Test.YtjbfpbajbjnifaaF2
import Derived.Test.YtjbfpbajbjnifaaF3
namespace Go.Proofs.Ytjbfpbajbjnifaa
set_option maxRecDepth 100000
open Go.RowKit Go.WideShapes Go.ChangeShapes Go.Deep

set_option maxHeartbeats 1000000 in
theorem exCountOf_any (A0 : Option Addr) (c0 : Nat) (x0 : List Int) (w0 : World) (h0 : RdI w0 (.slice A0 x0.length c0) x0) :
    Calls Try.prog 11 #[.slice A0 x0.length c0] w0 fun e w' => e = .returned (.bool true) ∧ Below w0.heap.size w0 w' := by
  have hm0 := h0.len_le
  have HH0 := Lib.hid h0; clear h0
  by_cases hl0 : x0.length ≤ 1048576
  case neg =>
    go_enter Try.func11, Try.ntmps11
    go_wp2
    go_ret
    exact ⟨rfl, Below.refl _ _⟩
  generalize hR : countR x0 = R
  obtain ⟨y0, y1⟩ := R
  have HR := Lib.hid hR; clear hR
  have hbb0 : (y0 != y0) = false := by simp
  have hbb1 : (y1 != y1) = false := by simp
  have H0 : Hid (RdBI w0 w0.heap.size (.slice A0 x0.length c0) x0 ∧ Below w0.heap.size w0 w0) := Lib.hid ⟨HH0.out.at_, Below.refl _ _⟩
  clear HH0
  have hs0 : w0.heap.size ≤ w0.heap.size := Nat.le_refl _
  go_enter Try.func11, Try.ntmps11
  go_wp2_with fail
  refine (toI _ x0 _ ((H0.out.1).rd (by omega)) hl0).mono ?_
  rintro e w1 ⟨ut0, rfl, ho, hb⟩
  have hs1 := hb.size
  have hq1_t0 : w0.heap.size ≤ w1.heap.size := hb.size
  have H1 : Hid (RdBI w1 w0.heap.size (.slice A0 x0.length c0) x0 ∧ Below w0.heap.size w0 w1 ∧ OwnI w1 w0.heap.size w1.heap.size ut0 x0) := Lib.hid ⟨(H0.out.1).below (hb.mono (by omega)), (H0.out.2).trans (hb.mono (by omega)), ho⟩
  clear hb H0 ho
  go_wp2_with fail
  refine (CountOf_S _ x0 _ ((H1.out.2.2).rd) hl0 _ _ HR.out).mono ?_
  rintro e w2 ⟨rfl, hb⟩
  have hs2 := hb.size
  have H2 : Hid (RdBI w2 w0.heap.size (.slice A0 x0.length c0) x0 ∧ Below w0.heap.size w0 w2) := Lib.hid ⟨(H1.out.1).below (hb.mono (by omega)), (H1.out.2.1).trans (hb.mono (by omega))⟩
  clear hb H1
  go_wp2_with fail
  refine (toI _ x0 _ ((H2.out.1).rd (by omega)) hl0).mono ?_
  rintro e w3 ⟨ux0, rfl, ho, hb⟩
  have hs3 := hb.size
  have hq3_x0 : w2.heap.size ≤ w3.heap.size := hb.size
  have H3 : Hid (RdBI w3 w0.heap.size (.slice A0 x0.length c0) x0 ∧ Below w0.heap.size w0 w3 ∧ OwnI w3 w2.heap.size w3.heap.size ux0 x0) := Lib.hid ⟨(H2.out.1).below (hb.mono (by omega)), (H2.out.2).trans (hb.mono (by omega)), ho⟩
  clear hb H2 ho
  go_wp2_with fail
  refine (CountOf_I _ x0 _ ((H3.out.2.2).rd) hl0 _ _ HR.out).mono ?_
  rintro e w4 ⟨rfl, hb⟩
  have hs4 := hb.size
  have H4 : Hid (RdBI w4 w0.heap.size (.slice A0 x0.length c0) x0 ∧ Below w0.heap.size w0 w4 ∧ OwnI w4 w2.heap.size w3.heap.size ux0 x0) := Lib.hid ⟨(H3.out.1).below (hb.mono (by omega)), (H3.out.2.1).trans (hb.mono (by omega)), (H3.out.2.2).below hb⟩
  clear hb H3
  go_wp2_with fail
  refine (toI _ x0 _ ((H4.out.1).rd (by omega)) hl0).mono ?_
  rintro e w5 ⟨ut0, rfl, ho, hb⟩
  have hs5 := hb.size
  have hq5_t0 : w4.heap.size ≤ w5.heap.size := hb.size
  have H5 : Hid (RdBI w5 w0.heap.size (.slice A0 x0.length c0) x0 ∧ Below w0.heap.size w0 w5 ∧ OwnI w5 w2.heap.size w3.heap.size ux0 x0 ∧ OwnI w5 w4.heap.size w5.heap.size ut0 x0) := Lib.hid ⟨(H4.out.1).below (hb.mono (by omega)), (H4.out.2.1).trans (hb.mono (by omega)), (H4.out.2.2).below hb, ho⟩
  clear hb H4 ho
  go_wp2_with fail
  refine (eqI _ _ _ _ _ ((H5.out.2.2.1).rd) ((H5.out.2.2.2).rd) true (decide_eq_true rfl)).mono ?_
  rintro e w6 ⟨rfl, hb⟩
  have hs6 := hb.size
  have H6 : Hid (RdBI w6 w0.heap.size (.slice A0 x0.length c0) x0 ∧ Below w0.heap.size w0 w6 ∧ OwnI w6 w2.heap.size w3.heap.size ux0 x0 ∧ OwnI w6 w4.heap.size w5.heap.size ut0 x0) := Lib.hid ⟨(H5.out.1).below (hb.mono (by omega)), (H5.out.2.1).trans (hb.mono (by omega)), (H5.out.2.2.1).below hb, (H5.out.2.2.2).below hb⟩
  clear hb H5
  go_wp2
  go_ret
  exact ⟨rfl, H6.out.2.1⟩

theorem exCountOf_walk : LawWalk 11 Try.f11 := by
  intro H enc W base args ds ps hval hA
  rw [Try.params11] at hA hval
  obtain ⟨v0, d0, rfl, rfl, h0⟩ := trodAll_one hA
  obtain ⟨A0, c0, zs0, rfl, hi0, hc0⟩ := ints_of_trod Try.underlying23 Try.underlying3 cells_int (hval 0 _ _ rfl rfl) h0
  exact exCountOf_any A0 c0 zs0 W (RdI.mk hi0 hc0)

set_option maxRecDepth 100000 in
theorem exCountOf_lifted (os : Os) (started : os.Started) (H : Type) (enc : TypeId × Value → H) :
    ReturnsInHanded {} Try.checked os 11 .any (Rows.fnExactCountOfSpec.pre6 enc Try.prog Try.f11 Rows.fnExactCountOfRow.domain false) (Rows.fnExactCountOfSpec.post enc Try.prog Try.f11 false true false false) := by
  refine returnsInHanded_of_change (C := Try.checked) own started (by kernel_rfl) Try.func11
    (ChangeSpec.witness6 (enc := enc) (C := Try.checked) false ⟨#[], #[.slice none 0 0], []⟩ 8 (by kernel_rfl) (by kernel_rfl) (by kernel_rfl) (by kernel_rfl)) ?_
  intro W base args ds gs before hval hW _ _
  exact law_contract laidOut rfl (by kernel_rfl) rfl (fun H ds hd => by
    match ds, hd with
    | [d0], _ => exact ⟨rfl, rfl, rfl⟩) exCountOf_walk W base args ds gs before hval hW

/-- FnExactCountOf: the row as it is given. -/
theorem exCountOf_holds : Rows.FnExactCountOfSaid :=
  OpenClaim.holds_of_wide 11 Try.f11 rfl rfl rfl rfl rfl rfl rfl ⟨rfl, rfl, rfl, rfl, rfl⟩ rfl rfl rfl rfl rfl (by kernel_rfl) Try.func11 (by unfold joinedFacts; rw [pf_enter, pf_lifts, pf_make]; kernel_rfl)
    (of_decide_eq_true (by kernel_rfl)) (by unfold Func.isWrapper; first | (rw [if_pos (by decide +kernel)]; kernel_rfl) | (rw [if_neg (by decide +kernel)]; exact ⟨rfl, rfl⟩))
    (fun os started H enc _ => exCountOf_lifted os started H enc)

end Go.Proofs.Ytjbfpbajbjnifaa
