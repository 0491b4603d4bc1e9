/- FnTwiceOf: of every code: TwiceOf is its model at the drawn dictionary and program; the words are a program with names, two at least, at most half of the program's. For every input. -/
import Derived.Test.YtiaidkhkcbamaaaI
import Derived.Test.YtiaidkhkcbamaaaB2
import Derived.Test.YtiaidkhkcbamaaaYq
import Derived.Test.YtiaidkhkcbamaaaYr
import Derived.Test.YtiaidkhkcbamaaaLift
namespace Go.Proofs.Ytiaidkhkcbamaaa
set_option maxRecDepth 100000
open Go.RowKit Go.WideShapes Go.ChangeShapes

set_option maxHeartbeats 4000000 in
theorem fnTwiceOf_any (A0 : Option Addr) (c0 : Nat) (x0 : List Int) (w0 : World) (h0 : RdC w0 (.slice A0 x0.length c0) x0) :
    Calls Try.prog 7 #[.slice A0 x0.length c0] w0 fun e w' => e = .returned (.bool true) ∧ Below w0.heap.size w0 w' := by
  have hm := h0.len_le
  have HH := Lib.hid h0; clear h0
  by_cases hl : x0.length ≤ 1048576
  case neg =>
    go_enter Try.func7, Try.ntmps7
    go_wp2
    go_ret
    exact ⟨rfl, Below.refl _ _⟩
  have S0 : Hid (Below w0.heap.size w0 w0 ∧ RdBC w0 w0.heap.size (.slice A0 x0.length c0) x0) := Lib.hid ⟨Below.refl _ _, HH.out⟩
  clear HH
  go_enter Try.func7, Try.ntmps7
  go_wp2_with fail
  refine (DrawTwiceOf_any (.slice A0 x0.length c0) x0 _ ((S0.out.2).rd (by first | omega | (simp <;> omega)))).mono ?_
  rintro e w_1 ⟨d, zd, p, zp, m1, rfl, ho1, hl_d, hp1, hl_p, ha1, hm1, hb1⟩
  have hz1 : w0.heap.size ≤ w_1.heap.size := by have := hb1.size; simpa using this
  replace hb1 : Below (w0.heap.size) w0 w_1 := by simpa using hb1
  have S1 : Hid (Below w0.heap.size w0 w_1 ∧ RdBC w_1 w0.heap.size (.slice A0 x0.length c0) (x0) ∧ OwnS w_1 (w0.heap.size) (m1) d (zd) ∧ OwnI w_1 (m1) (w_1.heap.size) p (zp)) := Lib.hid ⟨(S0.out.1).trans (hb1.mono (by omega)), (S0.out.2).below (hb1.mono (by omega)), (by simpa using ho1), (by simpa using hp1)⟩
  clear S0
  clear ho1 hp1 hb1
  -- at w_1: S1: base code d p
  have hd7 := hl_d.1
  have hds := szS_small hl_d
  clear hl_d
  obtain ⟨Ap, cp, rfl, _⟩ := S1.out.2.2.2.rd
  rcases hR : twiceR zd zp with ⟨y0, y1⟩
  have hyl : y0.length ≤ 60 := by
    have := twiceR_sz zd zp
    rw [hR] at this
    rcases y1 with _ | _
    · rw [twice_no hR]; simp
    · have := (twice_yes hR).2.2.2.1; omega
  rcases y1 with _ | _
  · have hy := twice_no hR
    subst hy
    have HR := Lib.hid hR; clear hR
    go_wp2_with fail
    refine (TwiceOf_I _ zd _ zp _ ((S1.out.2.2.1).rd) (by omega) hds ((S1.out.2.2.2).rd) (by omega) [] false HR.out).mono ?_
    rintro e w_2 ⟨u, rfl, ho2, hb2⟩
    have hz2 : w_1.heap.size ≤ w_2.heap.size := by have := hb2.size; simpa using this
    replace hb2 : Below (w_1.heap.size) w_1 w_2 := by simpa using hb2
    have S2 : Hid (Below w0.heap.size w0 w_2 ∧ RdBC w_2 w0.heap.size (.slice A0 x0.length c0) (x0) ∧ OwnS w_2 (w0.heap.size) (m1) d (zd) ∧ OwnI w_2 (m1) (w_1.heap.size) (.slice Ap zp.length cp) (zp) ∧ OwnI w_2 (w_1.heap.size) (w_2.heap.size) u ([])) := Lib.hid ⟨(S1.out.1).trans (hb2.mono (by omega)), (S1.out.2.1).below (hb2.mono (by omega)), (S1.out.2.2.1).belowB hb2 (by omega), (S1.out.2.2.2).belowB hb2 (by omega), (by simpa using ho2)⟩
    clear S1
    clear ho2 hb2
    go_wp2_with fail
    refine (TwiceOf_S _ zd _ zp _ ((S2.out.2.2.1).rd) (by omega) hds ((S2.out.2.2.2.1).rd) (by omega) [] false HR.out).mono ?_
    rintro e w_3 ⟨v, rfl, ho3, hb3⟩
    have hz3 : w_2.heap.size ≤ w_3.heap.size := by have := hb3.size; simpa using this
    replace hb3 : Below (w_2.heap.size) w_2 w_3 := by simpa using hb3
    have S3 : Hid (Below w0.heap.size w0 w_3 ∧ RdBC w_3 w0.heap.size (.slice A0 x0.length c0) (x0) ∧ OwnS w_3 (w0.heap.size) (m1) d (zd) ∧ OwnI w_3 (m1) (w_1.heap.size) (.slice Ap zp.length cp) (zp) ∧ OwnI w_3 (w_1.heap.size) (w_2.heap.size) u ([]) ∧ OwnI w_3 (w_2.heap.size) (w_3.heap.size) v ([])) := Lib.hid ⟨(S2.out.1).trans (hb3.mono (by omega)), (S2.out.2.1).below (hb3.mono (by omega)), (S2.out.2.2.1).belowB hb3 (by omega), (S2.out.2.2.2.1).belowB hb3 (by omega), (S2.out.2.2.2.2).belowB hb3 (by omega), (by simpa using ho3)⟩
    clear S2
    clear ho3 hb3
    go_wp2_with fail
    refine (smI _ _ [] [] _ ((S3.out.2.2.2.2.1).rd) ((S3.out.2.2.2.2.2).rd) true (by simp)).mono ?_
    rintro e w_4 ⟨rfl, hb4⟩
    have hz4 : w_3.heap.size ≤ w_4.heap.size := by have := hb4.size; simpa using this
    replace hb4 : Below (w_3.heap.size) w_3 w_4 := by simpa using hb4
    have S4 : Hid (Below w0.heap.size w0 w_4 ∧ RdBC w_4 w0.heap.size (.slice A0 x0.length c0) (x0) ∧ OwnS w_4 (w0.heap.size) (m1) d (zd) ∧ OwnI w_4 (m1) (w_1.heap.size) (.slice Ap zp.length cp) (zp) ∧ OwnI w_4 (w_1.heap.size) (w_2.heap.size) u ([]) ∧ OwnI w_4 (w_2.heap.size) (w_3.heap.size) v ([])) := Lib.hid ⟨(S3.out.1).trans (hb4.mono (by omega)), (S3.out.2.1).below (hb4.mono (by omega)), (S3.out.2.2.1).belowB hb4 (by omega), (S3.out.2.2.2.1).belowB hb4 (by omega), (S3.out.2.2.2.2.1).belowB hb4 (by omega), (S3.out.2.2.2.2.2).belowB hb4 (by omega)⟩
    clear S3
    clear hb4
    -- at w_4: S4: base code d p u v
    obtain ⟨Au, cu, rfl, _⟩ := S4.out.2.2.2.2.1.rd
    go_wp2_with fail
    refine (alive_any _).mono ?_
    rintro e w_5 ⟨rfl, hb5⟩
    have hz5 : w_4.heap.size ≤ w_5.heap.size := by have := hb5.size; simpa using this
    replace hb5 : Below (w_4.heap.size) w_4 w_5 := by simpa using hb5
    have S5 : Hid (Below w0.heap.size w0 w_5 ∧ RdBC w_5 w0.heap.size (.slice A0 x0.length c0) (x0) ∧ OwnS w_5 (w0.heap.size) (m1) d (zd) ∧ OwnI w_5 (m1) (w_1.heap.size) (.slice Ap zp.length cp) (zp) ∧ OwnI w_5 (w_1.heap.size) (w_2.heap.size) (.slice Au [].length cu) ([]) ∧ OwnI w_5 (w_2.heap.size) (w_3.heap.size) v ([])) := Lib.hid ⟨(S4.out.1).trans (hb5.mono (by omega)), (S4.out.2.1).below (hb5.mono (by omega)), (S4.out.2.2.1).belowB hb5 (by omega), (S4.out.2.2.2.1).belowB hb5 (by omega), (S4.out.2.2.2.2.1).belowB hb5 (by omega), (S4.out.2.2.2.2.2).belowB hb5 (by omega)⟩
    clear S4
    clear hb5
    -- at w_5: S5: base code d p u v
    go_wp2
    go_ret
    exact ⟨rfl, S5.out.1⟩
  · obtain ⟨_, hu, h2, h2p, _⟩ := twice_yes hR
    have HR := Lib.hid (And.intro hR hu); clear hR hu
    go_wp2_with fail
    refine (TwiceOf_I _ zd _ zp _ ((S1.out.2.2.1).rd) (by omega) hds ((S1.out.2.2.2).rd) (by omega) y0 true HR.out.1).mono ?_
    rintro e w_2 ⟨u, rfl, ho2, hb2⟩
    have hz2 : w_1.heap.size ≤ w_2.heap.size := by have := hb2.size; simpa using this
    replace hb2 : Below (w_1.heap.size) w_1 w_2 := by simpa using hb2
    have S2 : Hid (Below w0.heap.size w0 w_2 ∧ RdBC w_2 w0.heap.size (.slice A0 x0.length c0) (x0) ∧ OwnS w_2 (w0.heap.size) (m1) d (zd) ∧ OwnI w_2 (m1) (w_1.heap.size) (.slice Ap zp.length cp) (zp) ∧ OwnI w_2 (w_1.heap.size) (w_2.heap.size) u (y0)) := Lib.hid ⟨(S1.out.1).trans (hb2.mono (by omega)), (S1.out.2.1).below (hb2.mono (by omega)), (S1.out.2.2.1).belowB hb2 (by omega), (S1.out.2.2.2).belowB hb2 (by omega), (by simpa using ho2)⟩
    clear S1
    clear ho2 hb2
    go_wp2_with fail
    refine (TwiceOf_S _ zd _ zp _ ((S2.out.2.2.1).rd) (by omega) hds ((S2.out.2.2.2.1).rd) (by omega) y0 true HR.out.1).mono ?_
    rintro e w_3 ⟨v, rfl, ho3, hb3⟩
    have hz3 : w_2.heap.size ≤ w_3.heap.size := by have := hb3.size; simpa using this
    replace hb3 : Below (w_2.heap.size) w_2 w_3 := by simpa using hb3
    have S3 : Hid (Below w0.heap.size w0 w_3 ∧ RdBC w_3 w0.heap.size (.slice A0 x0.length c0) (x0) ∧ OwnS w_3 (w0.heap.size) (m1) d (zd) ∧ OwnI w_3 (m1) (w_1.heap.size) (.slice Ap zp.length cp) (zp) ∧ OwnI w_3 (w_1.heap.size) (w_2.heap.size) u (y0) ∧ OwnI w_3 (w_2.heap.size) (w_3.heap.size) v (y0)) := Lib.hid ⟨(S2.out.1).trans (hb3.mono (by omega)), (S2.out.2.1).below (hb3.mono (by omega)), (S2.out.2.2.1).belowB hb3 (by omega), (S2.out.2.2.2.1).belowB hb3 (by omega), (S2.out.2.2.2.2).belowB hb3 (by omega), (by simpa using ho3)⟩
    clear S2
    clear ho3 hb3
    go_wp2_with fail
    refine (smI _ _ y0 y0 _ ((S3.out.2.2.2.2.1).rd) ((S3.out.2.2.2.2.2).rd) true (by simp)).mono ?_
    rintro e w_4 ⟨rfl, hb4⟩
    have hz4 : w_3.heap.size ≤ w_4.heap.size := by have := hb4.size; simpa using this
    replace hb4 : Below (w_3.heap.size) w_3 w_4 := by simpa using hb4
    have S4 : Hid (Below w0.heap.size w0 w_4 ∧ RdBC w_4 w0.heap.size (.slice A0 x0.length c0) (x0) ∧ OwnS w_4 (w0.heap.size) (m1) d (zd) ∧ OwnI w_4 (m1) (w_1.heap.size) (.slice Ap zp.length cp) (zp) ∧ OwnI w_4 (w_1.heap.size) (w_2.heap.size) u (y0) ∧ OwnI w_4 (w_2.heap.size) (w_3.heap.size) v (y0)) := Lib.hid ⟨(S3.out.1).trans (hb4.mono (by omega)), (S3.out.2.1).below (hb4.mono (by omega)), (S3.out.2.2.1).belowB hb4 (by omega), (S3.out.2.2.2.1).belowB hb4 (by omega), (S3.out.2.2.2.2.1).belowB hb4 (by omega), (S3.out.2.2.2.2.2).belowB hb4 (by omega)⟩
    clear S3
    clear hb4
    -- at w_4: S4: base code d p u v
    obtain ⟨Au, cu, rfl, _⟩ := S4.out.2.2.2.2.1.rd
    have h2I : (2 : Int) ≤ y0.length := by omega
    have h2pI : 2 * (y0.length : Int) ≤ zp.length := by omega
    go_wp2_with fail
    refine (UsesOk_I _ zd _ y0 _ ((S4.out.2.2.1).rd) (by omega) hds ((S4.out.2.2.2.2.1).rd) (by omega) true HR.out.2).mono ?_
    rintro e w_5 ⟨rfl, hb5⟩
    have hz5 : w_4.heap.size ≤ w_5.heap.size := by have := hb5.size; simpa using this
    replace hb5 : Below (w_4.heap.size) w_4 w_5 := by simpa using hb5
    have S5 : Hid (Below w0.heap.size w0 w_5 ∧ RdBC w_5 w0.heap.size (.slice A0 x0.length c0) (x0) ∧ OwnS w_5 (w0.heap.size) (m1) d (zd) ∧ OwnI w_5 (m1) (w_1.heap.size) (.slice Ap zp.length cp) (zp) ∧ OwnI w_5 (w_1.heap.size) (w_2.heap.size) (.slice Au y0.length cu) (y0) ∧ OwnI w_5 (w_2.heap.size) (w_3.heap.size) v (y0)) := Lib.hid ⟨(S4.out.1).trans (hb5.mono (by omega)), (S4.out.2.1).below (hb5.mono (by omega)), (S4.out.2.2.1).belowB hb5 (by omega), (S4.out.2.2.2.1).belowB hb5 (by omega), (S4.out.2.2.2.2.1).belowB hb5 (by omega), (S4.out.2.2.2.2.2).belowB hb5 (by omega)⟩
    clear S4
    clear hb5
    -- at w_5: S5: base code d p u v
    go_wp2
    go_ret
    exact ⟨rfl, S5.out.1⟩

theorem fnTwiceOf_walk : LawWalk 7 Try.f7 := by
  intro H enc W base args ds ps hval hA
  rw [Try.params7] at hA hval
  obtain ⟨v0, d0, rfl, rfl, h0⟩ := trodAll_one hA
  obtain ⟨A0, c0, zs0, rfl, hi0, hc0⟩ := ints_of_trod Try.underlying22 Try.underlying5 cells_byte (hval 0 _ _ rfl rfl) h0
  exact fnTwiceOf_any A0 c0 zs0 W (RdC.mk hi0 hc0)

set_option maxRecDepth 100000 in
theorem fnTwiceOf_lifted (os : Os) (started : os.Started) (H : Type) (enc : TypeId × Value → H) :
    ReturnsInHanded {} Try.checked os 7 .any (Rows.fnTwiceOfSpec.pre6 enc Try.prog Try.f7 Rows.fnTwiceOfRow.domain false) (Rows.fnTwiceOfSpec.post enc Try.prog Try.f7 false true false false) := by
  refine returnsInHanded_of_change (C := Try.checked) own started (by kernel_rfl) Try.func7
    (ChangeSpec.witness6 (enc := enc) (C := Try.checked) false ⟨#[], #[.slice none 0 0], []⟩ 8 (by kernel_rfl) (by kernel_rfl) (by kernel_rfl) (by kernel_rfl)) ?_
  intro W base args ds gs before hval hW _ _
  exact law_contract laidOut rfl (by kernel_rfl) rfl (fun H ds hd => by
    match ds, hd with
    | [d0], _ => exact ⟨rfl, rfl, rfl⟩) fnTwiceOf_walk W base args ds gs before hval hW

/-- FnTwiceOf: the row as it is given. -/
theorem fnTwiceOf_holds : Rows.FnTwiceOfSaid :=
  OpenClaim.holds_of_wide 7 Try.f7 rfl rfl rfl rfl rfl rfl rfl ⟨rfl, rfl, rfl, rfl, rfl⟩ rfl rfl rfl rfl rfl (by kernel_rfl) Try.func7 (by unfold joinedFacts; rw [pf_enter, pf_lifts, pf_make]; kernel_rfl)
    (of_decide_eq_true (by kernel_rfl)) (by unfold Func.isWrapper; first | (rw [if_pos (by decide +kernel)]; kernel_rfl) | (rw [if_neg (by decide +kernel)]; exact ⟨rfl, rfl⟩))
    (fun os started H enc _ => fnTwiceOf_lifted os started H enc)

end Go.Proofs.Ytiaidkhkcbamaaa
