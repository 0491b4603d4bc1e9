/- FnStackProg: of every code: StackProg is its model at the drawn stack; the program leaves the stack of the empty one, in as many steps as there are values; ProgStack of it is the stack. For every input. -/
import Derived.Test.YtkdpfiaegimnlaaB8
import Derived.Test.YtkdpfiaegimnlaaRy
import Derived.Test.YtkdpfiaegimnlaaB5
import Derived.Test.YtkdpfiaegimnlaaLift
namespace Go.Proofs.Ytkdpfiaegimnlaa
set_option maxRecDepth 100000
open Go.RowKit Go.WideShapes Go.ChangeShapes

set_option maxHeartbeats 2000000 in
theorem fnStackProg_any (A0 : Option Addr) (c0 : Nat) (x0 : List Int) (w0 : World) (h0 : RdC w0 (.slice A0 x0.length c0) x0) :
    Calls Try.prog 3 #[.slice A0 x0.length c0] w0 fun e w' => e = .returned (.bool true) ∧ Below w0.heap.size w0 w' := by
  have hm := h0.len_le
  have HH := Lib.hid h0; clear h0
  by_cases hl : x0.length ≤ 1048576
  case neg =>
    go_enter Try.func3, Try.ntmps3
    go_wp2
    go_ret
    exact ⟨rfl, Below.refl _ _⟩
  have S0 : Hid (Below w0.heap.size w0 w0 ∧ RdBC w0 w0.heap.size (.slice A0 x0.length c0) x0) := Lib.hid ⟨Below.refl _ _, HH.out⟩
  clear HH
  go_enter Try.func3, Try.ntmps3
  go_wp2_with fail
  refine (DrawStackProg_any (.slice A0 x0.length c0) x0 _ ((S0.out.2).rd (by first | omega | (simp <;> omega)))).mono ?_
  rintro e w_1 ⟨s, zss, rfl, ho1, hl_s, hb1⟩
  have hz1 : w0.heap.size ≤ w_1.heap.size := by have := hb1.size; simpa using this
  replace hb1 : Below (w0.heap.size) w0 w_1 := by simpa using hb1
  have S1 : Hid (Below w0.heap.size w0 w_1 ∧ RdBC w_1 w0.heap.size (.slice A0 x0.length c0) (x0) ∧ OwnS w_1 (w0.heap.size) (w_1.heap.size) s (zss)) := Lib.hid ⟨(S0.out.1).trans (hb1.mono (by omega)), (S0.out.2).below (hb1.mono (by omega)), (by simpa using ho1)⟩
  clear S0
  clear ho1 hb1
  -- at w_1: S1: base code s
  have hsz := szS_200 hl_s.2
  have hln := hl_s.1
  clear hl_s
  rcases hR : stackProgR zss with ⟨zp, ok⟩
  have HR := Lib.hid hR; clear hR
  go_wp2_with fail
  refine (StackProg_I _ zss _ ((S1.out.2.2).rd) (by omega) (by omega) zp ok HR.out).mono ?_
  rintro e w_2 ⟨p, rfl, ho2, hb2⟩
  have hz2 : w_1.heap.size ≤ w_2.heap.size := by have := hb2.size; simpa using this
  replace hb2 : Below (w_1.heap.size) w_1 w_2 := by simpa using hb2
  have S2 : Hid (Below w0.heap.size w0 w_2 ∧ RdBC w_2 w0.heap.size (.slice A0 x0.length c0) (x0) ∧ OwnS w_2 (w0.heap.size) (w_1.heap.size) s (zss) ∧ OwnI w_2 (w_1.heap.size) (w_2.heap.size) p (zp)) := Lib.hid ⟨(S1.out.1).trans (hb2.mono (by omega)), (S1.out.2.1).below (hb2.mono (by omega)), (S1.out.2.2).belowB hb2 (by omega), (by simpa using ho2)⟩
  clear S1
  clear ho2 hb2
  go_wp2_with fail
  refine (StackProg_S _ zss _ ((S2.out.2.2.1).rd) (by omega) (by omega) zp ok HR.out).mono ?_
  rintro e w_3 ⟨x, rfl, ho3, hb3⟩
  have hz3 : w_2.heap.size ≤ w_3.heap.size := by have := hb3.size; simpa using this
  replace hb3 : Below (w_2.heap.size) w_2 w_3 := by simpa using hb3
  have S3 : Hid (Below w0.heap.size w0 w_3 ∧ RdBC w_3 w0.heap.size (.slice A0 x0.length c0) (x0) ∧ OwnS w_3 (w0.heap.size) (w_1.heap.size) s (zss) ∧ OwnI w_3 (w_1.heap.size) (w_2.heap.size) p (zp) ∧ RdBI w_3 (w_3.heap.size) x (zp)) := Lib.hid ⟨(S2.out.1).trans (hb3.mono (by omega)), (S2.out.2.1).below (hb3.mono (by omega)), (S2.out.2.2.1).belowB hb3 (by omega), (S2.out.2.2.2).belowB hb3 (by omega), ho3⟩
  clear S2
  clear ho3 hb3
  go_wp2_with fail
  refine (smI _ _ _ _ _ ((S3.out.2.2.2.1).rd) ((S3.out.2.2.2.2).rd (by first | omega | (simp <;> omega))) true (decide_eq_true rfl)).mono ?_
  rintro e w_4 ⟨rfl, hb4⟩
  have hz4 : w_3.heap.size ≤ w_4.heap.size := by have := hb4.size; simpa using this
  replace hb4 : Below (w_3.heap.size) w_3 w_4 := by simpa using hb4
  have S4 : Hid (Below w0.heap.size w0 w_4 ∧ RdBC w_4 w0.heap.size (.slice A0 x0.length c0) (x0) ∧ OwnS w_4 (w0.heap.size) (w_1.heap.size) s (zss) ∧ OwnI w_4 (w_1.heap.size) (w_2.heap.size) p (zp) ∧ RdBI w_4 (w_3.heap.size) x (zp)) := Lib.hid ⟨(S3.out.1).trans (hb4.mono (by omega)), (S3.out.2.1).below (hb4.mono (by omega)), (S3.out.2.2.1).belowB hb4 (by omega), (S3.out.2.2.2.1).belowB hb4 (by omega), (S3.out.2.2.2.2).below (hb4.mono (by omega))⟩
  clear S3
  clear hb4
  -- at w_4: S4: base code s p x
  obtain ⟨As, cs, rfl, _⟩ := (S4.out.2.2.1).rd
  obtain ⟨Ap, cp, rfl, _⟩ := (S4.out.2.2.2.1).rd
  rcases ok with _ | _
  · have hnil := stackProg_no HR.out
    have hz0 : ((zp.length : Int) == 0) = true := by rw [hnil]; rfl
    clear hnil
    go_wp2_with fail
    refine (alive_any _).mono ?_
    rintro e w_5 ⟨rfl, hb5⟩
    have T5 := Lib.hid (S4.out.1.trans (hb5.mono (by omega))); clear hb5
    go_wp2_with fail
    go_ret
    exact ⟨rfl, T5.out⟩
  · obtain ⟨k1, k2, k3, k4, k5⟩ := stackProg_back HR.out
    have Hk := Lib.hid (And.intro k3 k4); clear k1 k3 k4
    go_wp2_with fail
    refine (RunOf_I _ zp _ [] _ ((S4.out.2.2.2.1).rd) (by omega) (OwnS.nil _ 0 0).rd zss (zss.length:Int) true Hk.out.1).mono ?_
    rintro e w_5 ⟨left, rfl, ho5, hb5⟩
    have hz5 : w_4.heap.size ≤ w_5.heap.size := by have := hb5.size; simpa using this
    replace hb5 : Below (w_4.heap.size) w_4 w_5 := by simpa using hb5
    have S5 : Hid (Below w0.heap.size w0 w_5 ∧ RdBC w_5 w0.heap.size (.slice A0 x0.length c0) (x0) ∧ OwnS w_5 (w0.heap.size) (w_1.heap.size) (.slice As zss.length cs) (zss) ∧ OwnI w_5 (w_1.heap.size) (w_2.heap.size) (.slice Ap zp.length cp) (zp) ∧ RdBI w_5 (w_3.heap.size) x (zp) ∧ OwnS w_5 (w_4.heap.size) (w_5.heap.size) left (zss)) := Lib.hid ⟨(S4.out.1).trans (hb5.mono (by omega)), (S4.out.2.1).below (hb5.mono (by omega)), (S4.out.2.2.1).belowB hb5 (by omega), (S4.out.2.2.2.1).belowB hb5 (by omega), (S4.out.2.2.2.2).below (hb5.mono (by omega)), (by simpa using ho5)⟩
    clear S4
    clear ho5 hb5
    go_wp2_with fail
    refine (ProgStack_I _ zp _ ((S5.out.2.2.2.1).rd) (by omega) zss true Hk.out.2).mono ?_
    rintro e w_6 ⟨back, rfl, ho6, hb6⟩
    have hz6 : w_5.heap.size ≤ w_6.heap.size := by have := hb6.size; simpa using this
    replace hb6 : Below (w_5.heap.size) w_5 w_6 := by simpa using hb6
    have S6 : Hid (Below w0.heap.size w0 w_6 ∧ RdBC w_6 w0.heap.size (.slice A0 x0.length c0) (x0) ∧ OwnS w_6 (w0.heap.size) (w_1.heap.size) (.slice As zss.length cs) (zss) ∧ OwnI w_6 (w_1.heap.size) (w_2.heap.size) (.slice Ap zp.length cp) (zp) ∧ RdBI w_6 (w_3.heap.size) x (zp) ∧ OwnS w_6 (w_4.heap.size) (w_5.heap.size) left (zss) ∧ OwnS w_6 (w_5.heap.size) (w_6.heap.size) back (zss)) := Lib.hid ⟨(S5.out.1).trans (hb6.mono (by omega)), (S5.out.2.1).below (hb6.mono (by omega)), (S5.out.2.2.1).belowB hb6 (by omega), (S5.out.2.2.2.1).belowB hb6 (by omega), (S5.out.2.2.2.2.1).below (hb6.mono (by omega)), (S5.out.2.2.2.2.2).belowB hb6 (by omega), (by simpa using ho6)⟩
    clear S5
    clear ho6 hb6
    go_wp2_with fail
    refine (smS _ _ _ _ _ ((S6.out.2.2.2.2.2.1).rd) ((S6.out.2.2.1).rd) true (decide_eq_true rfl)).mono ?_
    rintro e w_7 ⟨rfl, hb7⟩
    have hz7 : w_6.heap.size ≤ w_7.heap.size := by have := hb7.size; simpa using this
    replace hb7 : Below (w_6.heap.size) w_6 w_7 := by simpa using hb7
    have S7 : Hid (Below w0.heap.size w0 w_7 ∧ RdBC w_7 w0.heap.size (.slice A0 x0.length c0) (x0) ∧ OwnS w_7 (w0.heap.size) (w_1.heap.size) (.slice As zss.length cs) (zss) ∧ OwnI w_7 (w_1.heap.size) (w_2.heap.size) (.slice Ap zp.length cp) (zp) ∧ RdBI w_7 (w_3.heap.size) x (zp) ∧ OwnS w_7 (w_4.heap.size) (w_5.heap.size) left (zss) ∧ OwnS w_7 (w_5.heap.size) (w_6.heap.size) back (zss)) := Lib.hid ⟨(S6.out.1).trans (hb7.mono (by omega)), (S6.out.2.1).below (hb7.mono (by omega)), (S6.out.2.2.1).belowB hb7 (by omega), (S6.out.2.2.2.1).belowB hb7 (by omega), (S6.out.2.2.2.2.1).below (hb7.mono (by omega)), (S6.out.2.2.2.2.2.1).belowB hb7 (by omega), (S6.out.2.2.2.2.2.2).belowB hb7 (by omega)⟩
    clear S6
    clear hb7
    go_wp2_with fail
    refine (smS _ _ _ _ _ ((S7.out.2.2.2.2.2.2).rd) ((S7.out.2.2.1).rd) true (decide_eq_true rfl)).mono ?_
    rintro e w_8 ⟨rfl, hb8⟩
    have hz8 : w_7.heap.size ≤ w_8.heap.size := by have := hb8.size; simpa using this
    replace hb8 : Below (w_7.heap.size) w_7 w_8 := by simpa using hb8
    have S8 : Hid (Below w0.heap.size w0 w_8 ∧ RdBC w_8 w0.heap.size (.slice A0 x0.length c0) (x0) ∧ OwnS w_8 (w0.heap.size) (w_1.heap.size) (.slice As zss.length cs) (zss) ∧ OwnI w_8 (w_1.heap.size) (w_2.heap.size) (.slice Ap zp.length cp) (zp) ∧ RdBI w_8 (w_3.heap.size) x (zp) ∧ OwnS w_8 (w_4.heap.size) (w_5.heap.size) left (zss) ∧ OwnS w_8 (w_5.heap.size) (w_6.heap.size) back (zss)) := Lib.hid ⟨(S7.out.1).trans (hb8.mono (by omega)), (S7.out.2.1).below (hb8.mono (by omega)), (S7.out.2.2.1).belowB hb8 (by omega), (S7.out.2.2.2.1).belowB hb8 (by omega), (S7.out.2.2.2.2.1).below (hb8.mono (by omega)), (S7.out.2.2.2.2.2.1).belowB hb8 (by omega), (S7.out.2.2.2.2.2.2).belowB hb8 (by omega)⟩
    clear S7
    clear hb8
    -- at w_8: S8: base code s p x left back
    go_wp2_with fail
    go_ret
    exact ⟨rfl, S8.out.1⟩

theorem fnStackProg_walk : LawWalk 3 Try.f3 := by
  intro H enc W base args ds ps hval hA
  rw [Try.params3] at hA hval
  obtain ⟨v0, d0, rfl, rfl, h0⟩ := trodAll_one hA
  obtain ⟨A0, c0, zs0, rfl, hi0, hc0⟩ := ints_of_trod Try.underlying22 Try.underlying5 cells_byte (hval 0 _ _ rfl rfl) h0
  exact fnStackProg_any A0 c0 zs0 W (RdC.mk hi0 hc0)

set_option maxRecDepth 100000 in
theorem fnStackProg_lifted (os : Os) (started : os.Started) (H : Type) (enc : TypeId × Value → H) :
    ReturnsInHanded {} Try.checked os 3 .any (Rows.fnStackProgSpec.pre6 enc Try.prog Try.f3 Rows.fnStackProgRow.domain false) (Rows.fnStackProgSpec.post enc Try.prog Try.f3 false true false false) := by
  refine returnsInHanded_of_change (C := Try.checked) own started (by kernel_rfl) Try.func3
    (ChangeSpec.witness6 (enc := enc) (C := Try.checked) false ⟨#[], #[.slice none 0 0], []⟩ 8 (by kernel_rfl) (by kernel_rfl) (by kernel_rfl) (by kernel_rfl)) ?_
  intro W base args ds gs before hval hW _ _
  exact law_contract laidOut rfl (by kernel_rfl) rfl (fun H ds hd => by
    match ds, hd with
    | [d0], _ => exact ⟨rfl, rfl, rfl⟩) fnStackProg_walk W base args ds gs before hval hW

/-- FnStackProg: the row as it is given. -/
theorem fnStackProg_holds : Rows.FnStackProgSaid :=
  OpenClaim.holds_of_wide 3 Try.f3 rfl rfl rfl rfl rfl rfl rfl ⟨rfl, rfl, rfl, rfl, rfl⟩ rfl rfl rfl rfl rfl (by kernel_rfl) Try.func3 (by unfold joinedFacts; rw [pf_enter, pf_lifts, pf_make]; kernel_rfl)
    (of_decide_eq_true (by kernel_rfl)) (by unfold Func.isWrapper; first | (rw [if_pos (by decide +kernel)]; kernel_rfl) | (rw [if_neg (by decide +kernel)]; exact ⟨rfl, rfl⟩))
    (fun os started H enc _ => fnStackProg_lifted os started H enc)

end Go.Proofs.Ytkdpfiaegimnlaa
