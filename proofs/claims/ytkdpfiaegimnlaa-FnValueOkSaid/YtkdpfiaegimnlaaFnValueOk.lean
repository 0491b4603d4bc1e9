/- FnValueOk: of every code: ValueOk is its model at the drawn program; a value is put on the empty stack by its own words, in one step; every program in brackets that fits is one. For every input. -/
import Derived.Test.YtkdpfiaegimnlaaB8
import Derived.Test.YtkdpfiaegimnlaaRy
import Derived.Test.YtkdpfiaegimnlaaB5
import Derived.Test.YtkdpfiaegimnlaaLift
namespace Go.Proofs.Ytkdpfiaegimnlaa
set_option maxRecDepth 100000
open Go.RowKit Go.WideShapes Go.ChangeShapes

set_option maxHeartbeats 2000000 in
theorem fnValueOk_any (A0 : Option Addr) (c0 : Nat) (x0 : List Int) (w0 : World) (h0 : RdC w0 (.slice A0 x0.length c0) x0) :
    Calls Try.prog 8 #[.slice A0 x0.length c0] w0 fun e w' => e = .returned (.bool true) ∧ Below w0.heap.size w0 w' := by
  have hm := h0.len_le
  have HH := Lib.hid h0; clear h0
  by_cases hl : x0.length ≤ 1048576
  case neg =>
    go_enter Try.func8, Try.ntmps8
    go_wp2
    go_ret
    exact ⟨rfl, Below.refl _ _⟩
  have S0 : Hid (Below w0.heap.size w0 w0 ∧ RdBC w0 w0.heap.size (.slice A0 x0.length c0) x0) := Lib.hid ⟨Below.refl _ _, HH.out⟩
  clear HH
  go_enter Try.func8, Try.ntmps8
  go_wp2_with fail
  refine (DrawValueOk_any (.slice A0 x0.length c0) x0 _ ((S0.out.2).rd (by first | omega | (simp <;> omega)))).mono ?_
  rintro e w_1 ⟨v, zv, rfl, ho1, hl_v, hb1⟩
  have hz1 : w0.heap.size ≤ w_1.heap.size := by have := hb1.size; simpa using this
  replace hb1 : Below (w0.heap.size) w0 w_1 := by simpa using hb1
  have S1 : Hid (Below w0.heap.size w0 w_1 ∧ RdBC w_1 w0.heap.size (.slice A0 x0.length c0) (x0) ∧ OwnI w_1 (w0.heap.size) (w_1.heap.size) v (zv)) := Lib.hid ⟨(S0.out.1).trans (hb1.mono (by omega)), (S0.out.2).below (hb1.mono (by omega)), (by simpa using ho1)⟩
  clear S0
  clear ho1 hb1
  -- at w_1: S1: base code v
  generalize hb : valueB zv = b
  have HB := Lib.hid hb; clear hb
  rcases hR : quoteR zv with ⟨zq, fits⟩
  have HR := Lib.hid hR; clear hR
  go_wp2_with fail
  refine (ValueOk_B _ zv _ ((S1.out.2.2).rd) b HB.out).mono ?_
  rintro e w_2 ⟨rfl, hb2⟩
  have hz2 : w_1.heap.size ≤ w_2.heap.size := by have := hb2.size; simpa using this
  replace hb2 : Below (w_1.heap.size) w_1 w_2 := by simpa using hb2
  have S2 : Hid (Below w0.heap.size w0 w_2 ∧ RdBC w_2 w0.heap.size (.slice A0 x0.length c0) (x0) ∧ OwnI w_2 (w0.heap.size) (w_1.heap.size) v (zv)) := Lib.hid ⟨(S1.out.1).trans (hb2.mono (by omega)), (S1.out.2.1).below (hb2.mono (by omega)), (S1.out.2.2).belowB hb2 (by omega)⟩
  clear S1
  clear hb2
  go_wp2_with fail
  refine (specValueOk_B _ zv _ ((S2.out.2.2).rd) b HB.out).mono ?_
  rintro e w_3 ⟨rfl, hb3⟩
  have hz3 : w_2.heap.size ≤ w_3.heap.size := by have := hb3.size; simpa using this
  replace hb3 : Below (w_2.heap.size) w_2 w_3 := by simpa using hb3
  have S3 : Hid (Below w0.heap.size w0 w_3 ∧ RdBC w_3 w0.heap.size (.slice A0 x0.length c0) (x0) ∧ OwnI w_3 (w0.heap.size) (w_1.heap.size) v (zv)) := Lib.hid ⟨(S2.out.1).trans (hb3.mono (by omega)), (S2.out.2.1).below (hb3.mono (by omega)), (S2.out.2.2).belowB hb3 (by omega)⟩
  clear S2
  clear hb3
  go_wp2_with fail
  refine (ProgQuote_I _ zv _ ((S3.out.2.2).rd) (by omega) zq fits HR.out).mono ?_
  rintro e w_4 ⟨q, rfl, ho4, hb4⟩
  have hz4 : w_3.heap.size ≤ w_4.heap.size := by have := hb4.size; simpa using this
  replace hb4 : Below (w_3.heap.size) w_3 w_4 := by simpa using hb4
  have S4 : Hid (Below w0.heap.size w0 w_4 ∧ RdBC w_4 w0.heap.size (.slice A0 x0.length c0) (x0) ∧ OwnI w_4 (w0.heap.size) (w_1.heap.size) v (zv) ∧ OwnI w_4 (w_3.heap.size) (w_4.heap.size) q (zq)) := Lib.hid ⟨(S3.out.1).trans (hb4.mono (by omega)), (S3.out.2.1).below (hb4.mono (by omega)), (S3.out.2.2).belowB hb4 (by omega), (by simpa using ho4)⟩
  clear S3
  clear ho4 hb4
  -- at w_4: S4: base code v q
  rcases fits with _ | _
  · clear HR
    rcases b with _ | _
    · go_wp2_with fail
      refine (alive_any _).mono ?_
      rintro e w_9 ⟨rfl, hb9⟩
      have T9 := Lib.hid (S4.out.1.trans (hb9.mono (by omega))); clear hb9
      go_wp2_with fail
      go_ret
      exact ⟨rfl, T9.out⟩
    · have Hk := Lib.hid (value_run HB.out)
      go_wp2_with fail
      refine (RunOf_I _ zv _ [] _ ((S4.out.2.2.1).rd) (by omega) (OwnS.nil _ 0 0).rd [zv] 1 true Hk.out).mono ?_
      rintro e w_5 ⟨s, rfl, ho5, hb5⟩
      have hz5 : w_4.heap.size ≤ w_5.heap.size := by have := hb5.size; simpa using this
      replace hb5 : Below (w_4.heap.size) w_4 w_5 := by simpa using hb5
      have S5 : Hid (Below w0.heap.size w0 w_5 ∧ RdBC w_5 w0.heap.size (.slice A0 x0.length c0) (x0) ∧ OwnI w_5 (w0.heap.size) (w_1.heap.size) v (zv) ∧ OwnI w_5 (w_3.heap.size) (w_4.heap.size) q (zq) ∧ OwnS w_5 (w_4.heap.size) (w_5.heap.size) s ([zv])) := Lib.hid ⟨(S4.out.1).trans (hb5.mono (by omega)), (S4.out.2.1).below (hb5.mono (by omega)), (S4.out.2.2.1).belowB hb5 (by omega), (S4.out.2.2.2).belowB hb5 (by omega), (by simpa using ho5)⟩
      clear S4
      clear ho5 hb5
      -- at w_5: S5: base code v q s
      obtain ⟨As, cs, rfl, hAs⟩ := (S5.out.2.2.2.2).rd
      obtain ⟨bb, off, u, rfl, hbb, hcell, hu⟩ := (RdBS.get (zss := [zv]) ⟨As, cs, rfl, hAs⟩ (j := 0) (zs := zv) rfl)
      rw [Nat.add_zero] at hcell
      have HU := Lib.hid hu; clear hu hAs
      go_wp2_with fail
      refine (smI u v zv zv _ HU.out (S5.out.2.2.1).rd true (decide_eq_true rfl)).mono ?_
      rintro e w_9 ⟨rfl, hb9⟩
      have T9 := Lib.hid (S5.out.1.trans (hb9.mono (by omega))); clear hb9
      go_wp2_with fail
      go_ret
      exact ⟨rfl, T9.out⟩
  · have Hq := Lib.hid (quote_value HR.out)
    go_wp2_with fail
    refine (ValueOk_B _ zq _ ((S4.out.2.2.2).rd) true Hq.out).mono ?_
    rintro e w_5 ⟨rfl, hb5⟩
    have hz5 : w_4.heap.size ≤ w_5.heap.size := by have := hb5.size; simpa using this
    replace hb5 : Below (w_4.heap.size) w_4 w_5 := by simpa using hb5
    have S5 : Hid (Below w0.heap.size w0 w_5 ∧ RdBC w_5 w0.heap.size (.slice A0 x0.length c0) (x0) ∧ OwnI w_5 (w0.heap.size) (w_1.heap.size) v (zv) ∧ OwnI w_5 (w_3.heap.size) (w_4.heap.size) q (zq)) := Lib.hid ⟨(S4.out.1).trans (hb5.mono (by omega)), (S4.out.2.1).below (hb5.mono (by omega)), (S4.out.2.2.1).belowB hb5 (by omega), (S4.out.2.2.2).belowB hb5 (by omega)⟩
    clear S4
    clear hb5
    -- at w_5: S5: base code v q
    rcases b with _ | _
    · go_wp2_with fail
      refine (alive_any _).mono ?_
      rintro e w_9 ⟨rfl, hb9⟩
      have T9 := Lib.hid (S5.out.1.trans (hb9.mono (by omega))); clear hb9
      go_wp2_with fail
      go_ret
      exact ⟨rfl, T9.out⟩
    · have Hk := Lib.hid (value_run HB.out)
      go_wp2_with fail
      refine (RunOf_I _ zv _ [] _ ((S5.out.2.2.1).rd) (by omega) (OwnS.nil _ 0 0).rd [zv] 1 true Hk.out).mono ?_
      rintro e w_6 ⟨s, rfl, ho6, hb6⟩
      have hz6 : w_5.heap.size ≤ w_6.heap.size := by have := hb6.size; simpa using this
      replace hb6 : Below (w_5.heap.size) w_5 w_6 := by simpa using hb6
      have S6 : Hid (Below w0.heap.size w0 w_6 ∧ RdBC w_6 w0.heap.size (.slice A0 x0.length c0) (x0) ∧ OwnI w_6 (w0.heap.size) (w_1.heap.size) v (zv) ∧ OwnI w_6 (w_3.heap.size) (w_4.heap.size) q (zq) ∧ OwnS w_6 (w_5.heap.size) (w_6.heap.size) s ([zv])) := Lib.hid ⟨(S5.out.1).trans (hb6.mono (by omega)), (S5.out.2.1).below (hb6.mono (by omega)), (S5.out.2.2.1).belowB hb6 (by omega), (S5.out.2.2.2).belowB hb6 (by omega), (by simpa using ho6)⟩
      clear S5
      clear ho6 hb6
      -- at w_6: S6: base code v q s
      obtain ⟨As, cs, rfl, hAs⟩ := (S6.out.2.2.2.2).rd
      obtain ⟨bb, off, u, rfl, hbb, hcell, hu⟩ := (RdBS.get (zss := [zv]) ⟨As, cs, rfl, hAs⟩ (j := 0) (zs := zv) rfl)
      rw [Nat.add_zero] at hcell
      have HU := Lib.hid hu; clear hu hAs
      go_wp2_with fail
      refine (smI u v zv zv _ HU.out (S6.out.2.2.1).rd true (decide_eq_true rfl)).mono ?_
      rintro e w_9 ⟨rfl, hb9⟩
      have T9 := Lib.hid (S6.out.1.trans (hb9.mono (by omega))); clear hb9
      go_wp2_with fail
      go_ret
      exact ⟨rfl, T9.out⟩

theorem fnValueOk_walk : LawWalk 8 Try.f8 := by
  intro H enc W base args ds ps hval hA
  rw [Try.params8] at hA hval
  obtain ⟨v0, d0, rfl, rfl, h0⟩ := trodAll_one hA
  obtain ⟨A0, c0, zs0, rfl, hi0, hc0⟩ := ints_of_trod Try.underlying22 Try.underlying5 cells_byte (hval 0 _ _ rfl rfl) h0
  exact fnValueOk_any A0 c0 zs0 W (RdC.mk hi0 hc0)

set_option maxRecDepth 100000 in
theorem fnValueOk_lifted (os : Os) (started : os.Started) (H : Type) (enc : TypeId × Value → H) :
    ReturnsInHanded {} Try.checked os 8 .any (Rows.fnValueOkSpec.pre6 enc Try.prog Try.f8 Rows.fnValueOkRow.domain false) (Rows.fnValueOkSpec.post enc Try.prog Try.f8 false true false false) := by
  refine returnsInHanded_of_change (C := Try.checked) own started (by kernel_rfl) Try.func8
    (ChangeSpec.witness6 (enc := enc) (C := Try.checked) false ⟨#[], #[.slice none 0 0], []⟩ 8 (by kernel_rfl) (by kernel_rfl) (by kernel_rfl) (by kernel_rfl)) ?_
  intro W base args ds gs before hval hW _ _
  exact law_contract laidOut rfl (by kernel_rfl) rfl (fun H ds hd => by
    match ds, hd with
    | [d0], _ => exact ⟨rfl, rfl, rfl⟩) fnValueOk_walk W base args ds gs before hval hW

/-- FnValueOk: the row as it is given. -/
theorem fnValueOk_holds : Rows.FnValueOkSaid :=
  OpenClaim.holds_of_wide 8 Try.f8 rfl rfl rfl rfl rfl rfl rfl ⟨rfl, rfl, rfl, rfl, rfl⟩ rfl rfl rfl rfl rfl (by kernel_rfl) Try.func8 (by unfold joinedFacts; rw [pf_enter, pf_lifts, pf_make]; kernel_rfl)
    (of_decide_eq_true (by kernel_rfl)) (by unfold Func.isWrapper; first | (rw [if_pos (by decide +kernel)]; kernel_rfl) | (rw [if_neg (by decide +kernel)]; exact ⟨rfl, rfl⟩))
    (fun os started H enc _ => fnValueOk_lifted os started H enc)

end Go.Proofs.Ytkdpfiaegimnlaa
