/- FnGiveName: of every code: GiveName is its model at the drawn dictionary and program; the new program means what the old one means, it is shorter, and putting the name back leads to what there was. For every input. -/
import Derived.Test.YtaehaalaeikloaaI
import Derived.Test.YtaehaalaeikloaaB2
import Derived.Test.YtaehaalaeikloaaYq
import Derived.Test.YtaehaalaeikloaaYx
import Derived.Test.YtaehaalaeikloaaLift
namespace Go.Proofs.Ytaehaalaeikloaa
set_option maxRecDepth 100000
open Go.RowKit Go.WideShapes Go.ChangeShapes

set_option maxHeartbeats 4000000 in
theorem fnGiveName_any (A0 : Option Addr) (c0 : Nat) (x0 : List Int) (w0 : World) (h0 : RdC w0 (.slice A0 x0.length c0) x0) :
    Calls Try.prog 9 #[.slice A0 x0.length c0] w0 fun e w' => e = .returned (.bool true) ∧ Below w0.heap.size w0 w' := by
  have hm := h0.len_le
  have HH := Lib.hid h0; clear h0
  by_cases hl : x0.length ≤ 1048576
  case neg =>
    go_enter Try.func9, Try.ntmps9
    go_wp2
    go_ret
    exact ⟨rfl, Below.refl _ _⟩
  have S0 : Hid (Below w0.heap.size w0 w0 ∧ RdBC w0 w0.heap.size (.slice A0 x0.length c0) x0) := Lib.hid ⟨Below.refl _ _, HH.out⟩
  clear HH
  go_enter Try.func9, Try.ntmps9
  go_wp2_with fail
  refine (DrawGiveName_any (.slice A0 x0.length c0) x0 _ ((S0.out.2).rd (by first | omega | (simp <;> omega)))).mono ?_
  rintro e w_1 ⟨d, zd, p, zp, m1, rfl, ho1, hl_d, hp1, hl_p, ha1, hm1, hb1⟩
  have hz1 : w0.heap.size ≤ w_1.heap.size := by have := hb1.size; simpa using this
  replace hb1 : Below (w0.heap.size) w0 w_1 := by simpa using hb1
  have S1 : Hid (Below w0.heap.size w0 w_1 ∧ RdBC w_1 w0.heap.size (.slice A0 x0.length c0) (x0) ∧ OwnS w_1 (w0.heap.size) (m1) d (zd) ∧ OwnI w_1 (m1) (w_1.heap.size) p (zp)) := Lib.hid ⟨(S0.out.1).trans (hb1.mono (by omega)), (S0.out.2).below (hb1.mono (by omega)), (by simpa using ho1), (by simpa using hp1)⟩
  clear S0
  clear ho1 hp1 hb1
  -- at w_1: S1: base code d p
  have hd7 := hl_d.1
  have hds := szS_small hl_d
  clear hl_d
  have hcd := Lib.hid S1.out.2.2.1.capV
  obtain ⟨Ad, cd, rfl, _⟩ := S1.out.2.2.1.rd
  obtain ⟨Ap, cp, rfl, _⟩ := S1.out.2.2.2.rd
  rcases hR : giveR zd zp with ⟨y0, y1, y2⟩
  rcases y2 with _ | _
  · obtain ⟨rfl, rfl⟩ := gave_no hR
    have HR := Lib.hid hR; clear hR
    go_wp2_with fail
    refine (GiveName_I _ zd _ zp _ ((S1.out.2.2.1).rd) (by omega) hds ((S1.out.2.2.2).rd) (by omega) [] [] false HR.out).mono ?_
    rintro e w_2 ⟨e, q, rfl, ho2, hb2⟩
    have hz2 : w_1.heap.size ≤ w_2.heap.size := by have := hb2.size; simpa using this
    replace hb2 : Below (w_1.heap.size) w_1 w_2 := by simpa using hb2
    have hcap_e := Lib.hid (ho2).capV
    have S2 : Hid (Below w0.heap.size w0 w_2 ∧ RdBC w_2 w0.heap.size (.slice A0 x0.length c0) (x0) ∧ OwnS w_2 (w0.heap.size) (m1) (.slice Ad zd.length cd) (zd) ∧ OwnI w_2 (m1) (w_1.heap.size) (.slice Ap zp.length cp) (zp) ∧ RdBS w_2 (w_2.heap.size) e ([]) ∧ RdBI w_2 (w_2.heap.size) q ([])) := Lib.hid ⟨(S1.out.1).trans (hb2.mono (by omega)), (S1.out.2.1).below (hb2.mono (by omega)), (S1.out.2.2.1).belowB hb2 (by omega), (S1.out.2.2.2).belowB hb2 (by omega), ho2.rdS, ho2.rdI⟩
    clear S1
    clear ho2 hb2
    go_wp2_with fail
    refine (GiveName_S _ zd _ zp _ ((S2.out.2.2.1).rd) (by omega) hds ((S2.out.2.2.2.1).rd) (by omega) [] [] false HR.out).mono ?_
    rintro e w_3 ⟨x, y, rfl, ho3, hb3⟩
    have hz3 : w_2.heap.size ≤ w_3.heap.size := by have := hb3.size; simpa using this
    replace hb3 : Below (w_2.heap.size) w_2 w_3 := by simpa using hb3
    have hcap_x := Lib.hid (ho3).capV
    have S3 : Hid (Below w0.heap.size w0 w_3 ∧ RdBC w_3 w0.heap.size (.slice A0 x0.length c0) (x0) ∧ OwnS w_3 (w0.heap.size) (m1) (.slice Ad zd.length cd) (zd) ∧ OwnI w_3 (m1) (w_1.heap.size) (.slice Ap zp.length cp) (zp) ∧ RdBS w_3 (w_2.heap.size) e ([]) ∧ RdBI w_3 (w_2.heap.size) q ([]) ∧ RdBS w_3 (w_3.heap.size) x ([]) ∧ RdBI w_3 (w_3.heap.size) y ([])) := Lib.hid ⟨(S2.out.1).trans (hb3.mono (by omega)), (S2.out.2.1).below (hb3.mono (by omega)), (S2.out.2.2.1).belowB hb3 (by omega), (S2.out.2.2.2.1).belowB hb3 (by omega), (S2.out.2.2.2.2.1).below (hb3.mono (by omega)), (S2.out.2.2.2.2.2).below (hb3.mono (by omega)), ho3.rdS, ho3.rdI⟩
    clear S2
    clear ho3 hb3
    go_wp2_with fail
    refine (smS _ _ [] [] _ ((S3.out.2.2.2.2.1).rd (by first | omega | (simp <;> omega))) ((S3.out.2.2.2.2.2.2.1).rd (by first | omega | (simp <;> omega))) true (by simp)).mono ?_
    rintro e w_4 ⟨rfl, hb4⟩
    have hz4 : w_3.heap.size ≤ w_4.heap.size := by have := hb4.size; simpa using this
    replace hb4 : Below (w_3.heap.size) w_3 w_4 := by simpa using hb4
    have S4 : Hid (Below w0.heap.size w0 w_4 ∧ RdBC w_4 w0.heap.size (.slice A0 x0.length c0) (x0) ∧ OwnS w_4 (w0.heap.size) (m1) (.slice Ad zd.length cd) (zd) ∧ OwnI w_4 (m1) (w_1.heap.size) (.slice Ap zp.length cp) (zp) ∧ RdBS w_4 (w_2.heap.size) e ([]) ∧ RdBI w_4 (w_2.heap.size) q ([]) ∧ RdBS w_4 (w_3.heap.size) x ([]) ∧ RdBI w_4 (w_3.heap.size) y ([])) := Lib.hid ⟨(S3.out.1).trans (hb4.mono (by omega)), (S3.out.2.1).below (hb4.mono (by omega)), (S3.out.2.2.1).belowB hb4 (by omega), (S3.out.2.2.2.1).belowB hb4 (by omega), (S3.out.2.2.2.2.1).below (hb4.mono (by omega)), (S3.out.2.2.2.2.2.1).below (hb4.mono (by omega)), (S3.out.2.2.2.2.2.2.1).below (hb4.mono (by omega)), (S3.out.2.2.2.2.2.2.2).below (hb4.mono (by omega))⟩
    clear S3
    clear hb4
    go_wp2_with fail
    refine (smI _ _ [] [] _ ((S4.out.2.2.2.2.2.1).rd (by first | omega | (simp <;> omega))) ((S4.out.2.2.2.2.2.2.2).rd (by first | omega | (simp <;> omega))) true (by simp)).mono ?_
    rintro e w_5 ⟨rfl, hb5⟩
    have hz5 : w_4.heap.size ≤ w_5.heap.size := by have := hb5.size; simpa using this
    replace hb5 : Below (w_4.heap.size) w_4 w_5 := by simpa using hb5
    have S5 : Hid (Below w0.heap.size w0 w_5 ∧ RdBC w_5 w0.heap.size (.slice A0 x0.length c0) (x0) ∧ OwnS w_5 (w0.heap.size) (m1) (.slice Ad zd.length cd) (zd) ∧ OwnI w_5 (m1) (w_1.heap.size) (.slice Ap zp.length cp) (zp) ∧ RdBS w_5 (w_2.heap.size) e ([]) ∧ RdBI w_5 (w_2.heap.size) q ([]) ∧ RdBS w_5 (w_3.heap.size) x ([]) ∧ RdBI w_5 (w_3.heap.size) y ([])) := Lib.hid ⟨(S4.out.1).trans (hb5.mono (by omega)), (S4.out.2.1).below (hb5.mono (by omega)), (S4.out.2.2.1).belowB hb5 (by omega), (S4.out.2.2.2.1).belowB hb5 (by omega), (S4.out.2.2.2.2.1).below (hb5.mono (by omega)), (S4.out.2.2.2.2.2.1).below (hb5.mono (by omega)), (S4.out.2.2.2.2.2.2.1).below (hb5.mono (by omega)), (S4.out.2.2.2.2.2.2.2).below (hb5.mono (by omega))⟩
    clear S4
    clear hb5
    -- at w_5: S5: base code d p e q x y
    obtain ⟨Ae, ce, rfl, _⟩ := S5.out.2.2.2.2.1
    obtain ⟨Aq, cq, rfl, _⟩ := S5.out.2.2.2.2.2.1
    go_wp2_with fail
    refine (alive_any _).mono ?_
    rintro e w_6 ⟨rfl, hb6⟩
    have hz6 : w_5.heap.size ≤ w_6.heap.size := by have := hb6.size; simpa using this
    replace hb6 : Below (w_5.heap.size) w_5 w_6 := by simpa using hb6
    have S6 : Hid (Below w0.heap.size w0 w_6 ∧ RdBC w_6 w0.heap.size (.slice A0 x0.length c0) (x0) ∧ OwnS w_6 (w0.heap.size) (m1) (.slice Ad zd.length cd) (zd) ∧ OwnI w_6 (m1) (w_1.heap.size) (.slice Ap zp.length cp) (zp) ∧ RdBS w_6 (w_2.heap.size) (.slice Ae ([] : List (List Int)).length ce) ([]) ∧ RdBI w_6 (w_2.heap.size) (.slice Aq ([] : List Int).length cq) ([]) ∧ RdBS w_6 (w_3.heap.size) x ([]) ∧ RdBI w_6 (w_3.heap.size) y ([])) := Lib.hid ⟨(S5.out.1).trans (hb6.mono (by omega)), (S5.out.2.1).below (hb6.mono (by omega)), (S5.out.2.2.1).belowB hb6 (by omega), (S5.out.2.2.2.1).belowB hb6 (by omega), (S5.out.2.2.2.2.1).below (hb6.mono (by omega)), (S5.out.2.2.2.2.2.1).below (hb6.mono (by omega)), (S5.out.2.2.2.2.2.2.1).below (hb6.mono (by omega)), (S5.out.2.2.2.2.2.2.2).below (hb6.mono (by omega))⟩
    clear S5
    clear hb6
    -- at w_6: S6: base code d p e q x y
    go_wp2
    go_ret
    exact ⟨rfl, S6.out.1⟩
  · obtain ⟨hu, hue, hme, hlt, hpb, he6, hp60, hr60⟩ := gave_yes hR
    have hes := rows_small he6 hr60
    rcases hM : meansR zd zp with ⟨a0, a1⟩
    rw [hM] at hme
    have HR := Lib.hid (And.intro hR (And.intro hue (And.intro hM (And.intro hme hpb)))); clear hR hue hM hme hu hpb hr60
    go_wp2_with fail
    refine (GiveName_I _ zd _ zp _ ((S1.out.2.2.1).rd) (by omega) hds ((S1.out.2.2.2).rd) (by omega) y0 y1 true HR.out.1).mono ?_
    rintro e w_2 ⟨e, q, rfl, ho2, hb2⟩
    have hz2 : w_1.heap.size ≤ w_2.heap.size := by have := hb2.size; simpa using this
    replace hb2 : Below (w_1.heap.size) w_1 w_2 := by simpa using hb2
    have hcap_e := Lib.hid (ho2).capV
    have S2 : Hid (Below w0.heap.size w0 w_2 ∧ RdBC w_2 w0.heap.size (.slice A0 x0.length c0) (x0) ∧ OwnS w_2 (w0.heap.size) (m1) (.slice Ad zd.length cd) (zd) ∧ OwnI w_2 (m1) (w_1.heap.size) (.slice Ap zp.length cp) (zp) ∧ RdBS w_2 (w_2.heap.size) e (y0) ∧ RdBI w_2 (w_2.heap.size) q (y1)) := Lib.hid ⟨(S1.out.1).trans (hb2.mono (by omega)), (S1.out.2.1).below (hb2.mono (by omega)), (S1.out.2.2.1).belowB hb2 (by omega), (S1.out.2.2.2).belowB hb2 (by omega), ho2.rdS, ho2.rdI⟩
    clear S1
    clear ho2 hb2
    go_wp2_with fail
    refine (GiveName_S _ zd _ zp _ ((S2.out.2.2.1).rd) (by omega) hds ((S2.out.2.2.2.1).rd) (by omega) y0 y1 true HR.out.1).mono ?_
    rintro e w_3 ⟨x, y, rfl, ho3, hb3⟩
    have hz3 : w_2.heap.size ≤ w_3.heap.size := by have := hb3.size; simpa using this
    replace hb3 : Below (w_2.heap.size) w_2 w_3 := by simpa using hb3
    have hcap_x := Lib.hid (ho3).capV
    have S3 : Hid (Below w0.heap.size w0 w_3 ∧ RdBC w_3 w0.heap.size (.slice A0 x0.length c0) (x0) ∧ OwnS w_3 (w0.heap.size) (m1) (.slice Ad zd.length cd) (zd) ∧ OwnI w_3 (m1) (w_1.heap.size) (.slice Ap zp.length cp) (zp) ∧ RdBS w_3 (w_2.heap.size) e (y0) ∧ RdBI w_3 (w_2.heap.size) q (y1) ∧ RdBS w_3 (w_3.heap.size) x (y0) ∧ RdBI w_3 (w_3.heap.size) y (y1)) := Lib.hid ⟨(S2.out.1).trans (hb3.mono (by omega)), (S2.out.2.1).below (hb3.mono (by omega)), (S2.out.2.2.1).belowB hb3 (by omega), (S2.out.2.2.2.1).belowB hb3 (by omega), (S2.out.2.2.2.2.1).below (hb3.mono (by omega)), (S2.out.2.2.2.2.2).below (hb3.mono (by omega)), ho3.rdS, ho3.rdI⟩
    clear S2
    clear ho3 hb3
    go_wp2_with fail
    refine (smS _ _ y0 y0 _ ((S3.out.2.2.2.2.1).rd (by first | omega | (simp <;> omega))) ((S3.out.2.2.2.2.2.2.1).rd (by first | omega | (simp <;> omega))) true (by simp)).mono ?_
    rintro e w_4 ⟨rfl, hb4⟩
    have hz4 : w_3.heap.size ≤ w_4.heap.size := by have := hb4.size; simpa using this
    replace hb4 : Below (w_3.heap.size) w_3 w_4 := by simpa using hb4
    have S4 : Hid (Below w0.heap.size w0 w_4 ∧ RdBC w_4 w0.heap.size (.slice A0 x0.length c0) (x0) ∧ OwnS w_4 (w0.heap.size) (m1) (.slice Ad zd.length cd) (zd) ∧ OwnI w_4 (m1) (w_1.heap.size) (.slice Ap zp.length cp) (zp) ∧ RdBS w_4 (w_2.heap.size) e (y0) ∧ RdBI w_4 (w_2.heap.size) q (y1) ∧ RdBS w_4 (w_3.heap.size) x (y0) ∧ RdBI w_4 (w_3.heap.size) y (y1)) := Lib.hid ⟨(S3.out.1).trans (hb4.mono (by omega)), (S3.out.2.1).below (hb4.mono (by omega)), (S3.out.2.2.1).belowB hb4 (by omega), (S3.out.2.2.2.1).belowB hb4 (by omega), (S3.out.2.2.2.2.1).below (hb4.mono (by omega)), (S3.out.2.2.2.2.2.1).below (hb4.mono (by omega)), (S3.out.2.2.2.2.2.2.1).below (hb4.mono (by omega)), (S3.out.2.2.2.2.2.2.2).below (hb4.mono (by omega))⟩
    clear S3
    clear hb4
    go_wp2_with fail
    refine (smI _ _ y1 y1 _ ((S4.out.2.2.2.2.2.1).rd (by first | omega | (simp <;> omega))) ((S4.out.2.2.2.2.2.2.2).rd (by first | omega | (simp <;> omega))) true (by simp)).mono ?_
    rintro e w_5 ⟨rfl, hb5⟩
    have hz5 : w_4.heap.size ≤ w_5.heap.size := by have := hb5.size; simpa using this
    replace hb5 : Below (w_4.heap.size) w_4 w_5 := by simpa using hb5
    have S5 : Hid (Below w0.heap.size w0 w_5 ∧ RdBC w_5 w0.heap.size (.slice A0 x0.length c0) (x0) ∧ OwnS w_5 (w0.heap.size) (m1) (.slice Ad zd.length cd) (zd) ∧ OwnI w_5 (m1) (w_1.heap.size) (.slice Ap zp.length cp) (zp) ∧ RdBS w_5 (w_2.heap.size) e (y0) ∧ RdBI w_5 (w_2.heap.size) q (y1) ∧ RdBS w_5 (w_3.heap.size) x (y0) ∧ RdBI w_5 (w_3.heap.size) y (y1)) := Lib.hid ⟨(S4.out.1).trans (hb5.mono (by omega)), (S4.out.2.1).below (hb5.mono (by omega)), (S4.out.2.2.1).belowB hb5 (by omega), (S4.out.2.2.2.1).belowB hb5 (by omega), (S4.out.2.2.2.2.1).below (hb5.mono (by omega)), (S4.out.2.2.2.2.2.1).below (hb5.mono (by omega)), (S4.out.2.2.2.2.2.2.1).below (hb5.mono (by omega)), (S4.out.2.2.2.2.2.2.2).below (hb5.mono (by omega))⟩
    clear S4
    clear hb5
    go_wp2_with fail
    refine (MeansOf_I _ zd _ zp _ ((S5.out.2.2.1).rd) (by omega) hds ((S5.out.2.2.2.1).rd) (by omega) a0 a1 HR.out.2.2.1).mono ?_
    rintro e w_6 ⟨a, rfl, ho6, hb6⟩
    have hz6 : w_5.heap.size ≤ w_6.heap.size := by have := hb6.size; simpa using this
    replace hb6 : Below (w_5.heap.size) w_5 w_6 := by simpa using hb6
    have S6 : Hid (Below w0.heap.size w0 w_6 ∧ RdBC w_6 w0.heap.size (.slice A0 x0.length c0) (x0) ∧ OwnS w_6 (w0.heap.size) (m1) (.slice Ad zd.length cd) (zd) ∧ OwnI w_6 (m1) (w_1.heap.size) (.slice Ap zp.length cp) (zp) ∧ RdBS w_6 (w_2.heap.size) e (y0) ∧ RdBI w_6 (w_2.heap.size) q (y1) ∧ RdBS w_6 (w_3.heap.size) x (y0) ∧ RdBI w_6 (w_3.heap.size) y (y1) ∧ OwnI w_6 (w_5.heap.size) (w_6.heap.size) a (a0)) := Lib.hid ⟨(S5.out.1).trans (hb6.mono (by omega)), (S5.out.2.1).below (hb6.mono (by omega)), (S5.out.2.2.1).belowB hb6 (by omega), (S5.out.2.2.2.1).belowB hb6 (by omega), (S5.out.2.2.2.2.1).below (hb6.mono (by omega)), (S5.out.2.2.2.2.2.1).below (hb6.mono (by omega)), (S5.out.2.2.2.2.2.2.1).below (hb6.mono (by omega)), (S5.out.2.2.2.2.2.2.2).below (hb6.mono (by omega)), (by simpa using ho6)⟩
    clear S5
    clear ho6 hb6
    go_wp2_with fail
    refine (MeansOf_I _ y0 _ y1 _ ((S6.out.2.2.2.2.1).rd (by first | omega | (simp <;> omega))) (by omega) hes ((S6.out.2.2.2.2.2.1).rd (by first | omega | (simp <;> omega))) (by omega) a0 a1 HR.out.2.2.2.1).mono ?_
    rintro e w_7 ⟨b, rfl, ho7, hb7⟩
    have hz7 : w_6.heap.size ≤ w_7.heap.size := by have := hb7.size; simpa using this
    replace hb7 : Below (w_6.heap.size) w_6 w_7 := by simpa using hb7
    have S7 : Hid (Below w0.heap.size w0 w_7 ∧ RdBC w_7 w0.heap.size (.slice A0 x0.length c0) (x0) ∧ OwnS w_7 (w0.heap.size) (m1) (.slice Ad zd.length cd) (zd) ∧ OwnI w_7 (m1) (w_1.heap.size) (.slice Ap zp.length cp) (zp) ∧ RdBS w_7 (w_2.heap.size) e (y0) ∧ RdBI w_7 (w_2.heap.size) q (y1) ∧ RdBS w_7 (w_3.heap.size) x (y0) ∧ RdBI w_7 (w_3.heap.size) y (y1) ∧ OwnI w_7 (w_5.heap.size) (w_6.heap.size) a (a0) ∧ OwnI w_7 (w_6.heap.size) (w_7.heap.size) b (a0)) := Lib.hid ⟨(S6.out.1).trans (hb7.mono (by omega)), (S6.out.2.1).below (hb7.mono (by omega)), (S6.out.2.2.1).belowB hb7 (by omega), (S6.out.2.2.2.1).belowB hb7 (by omega), (S6.out.2.2.2.2.1).below (hb7.mono (by omega)), (S6.out.2.2.2.2.2.1).below (hb7.mono (by omega)), (S6.out.2.2.2.2.2.2.1).below (hb7.mono (by omega)), (S6.out.2.2.2.2.2.2.2.1).below (hb7.mono (by omega)), (S6.out.2.2.2.2.2.2.2.2).belowB hb7 (by omega), (by simpa using ho7)⟩
    clear S6
    clear ho7 hb7
    go_wp2_with fail
    refine (PutBack_I _ y0 _ y1 _ ((S7.out.2.2.2.2.1).rd (by first | omega | (simp <;> omega))) (by omega) hes ((S7.out.2.2.2.2.2.1).rd (by first | omega | (simp <;> omega))) (by omega) zd zp true HR.out.2.2.2.2 hcap_e.out).mono ?_
    rintro e w_8 ⟨bk, ol, rfl, ho8, hb8⟩
    have hz8 : w_7.heap.size ≤ w_8.heap.size := by have := hb8.size; simpa using this
    replace hb8 : Below (w_7.heap.size) w_7 w_8 := by simpa using hb8
    have hcap_bk := Lib.hid (ho8).capV
    have S8 : Hid (Below w0.heap.size w0 w_8 ∧ RdBC w_8 w0.heap.size (.slice A0 x0.length c0) (x0) ∧ OwnS w_8 (w0.heap.size) (m1) (.slice Ad zd.length cd) (zd) ∧ OwnI w_8 (m1) (w_1.heap.size) (.slice Ap zp.length cp) (zp) ∧ RdBS w_8 (w_2.heap.size) e (y0) ∧ RdBI w_8 (w_2.heap.size) q (y1) ∧ RdBS w_8 (w_3.heap.size) x (y0) ∧ RdBI w_8 (w_3.heap.size) y (y1) ∧ OwnI w_8 (w_5.heap.size) (w_6.heap.size) a (a0) ∧ OwnI w_8 (w_6.heap.size) (w_7.heap.size) b (a0) ∧ RdBS w_8 (w_8.heap.size) bk (zd) ∧ RdBI w_8 (w_8.heap.size) ol (zp)) := Lib.hid ⟨(S7.out.1).trans (hb8.mono (by omega)), (S7.out.2.1).below (hb8.mono (by omega)), (S7.out.2.2.1).belowB hb8 (by omega), (S7.out.2.2.2.1).belowB hb8 (by omega), (S7.out.2.2.2.2.1).below (hb8.mono (by omega)), (S7.out.2.2.2.2.2.1).below (hb8.mono (by omega)), (S7.out.2.2.2.2.2.2.1).below (hb8.mono (by omega)), (S7.out.2.2.2.2.2.2.2.1).below (hb8.mono (by omega)), (S7.out.2.2.2.2.2.2.2.2.1).belowB hb8 (by omega), (S7.out.2.2.2.2.2.2.2.2.2).belowB hb8 (by omega), ho8.rdS, ho8.rdI⟩
    clear S7
    clear ho8 hb8
    go_wp2_with fail
    refine (UsesOk_I _ y0 _ y1 _ ((S8.out.2.2.2.2.1).rd (by first | omega | (simp <;> omega))) (by omega) hes ((S8.out.2.2.2.2.2.1).rd (by first | omega | (simp <;> omega))) (by omega) true HR.out.2.1).mono ?_
    rintro e w_9 ⟨rfl, hb9⟩
    have hz9 : w_8.heap.size ≤ w_9.heap.size := by have := hb9.size; simpa using this
    replace hb9 : Below (w_8.heap.size) w_8 w_9 := by simpa using hb9
    have S9 : Hid (Below w0.heap.size w0 w_9 ∧ RdBC w_9 w0.heap.size (.slice A0 x0.length c0) (x0) ∧ OwnS w_9 (w0.heap.size) (m1) (.slice Ad zd.length cd) (zd) ∧ OwnI w_9 (m1) (w_1.heap.size) (.slice Ap zp.length cp) (zp) ∧ RdBS w_9 (w_2.heap.size) e (y0) ∧ RdBI w_9 (w_2.heap.size) q (y1) ∧ RdBS w_9 (w_3.heap.size) x (y0) ∧ RdBI w_9 (w_3.heap.size) y (y1) ∧ OwnI w_9 (w_5.heap.size) (w_6.heap.size) a (a0) ∧ OwnI w_9 (w_6.heap.size) (w_7.heap.size) b (a0) ∧ RdBS w_9 (w_8.heap.size) bk (zd) ∧ RdBI w_9 (w_8.heap.size) ol (zp)) := Lib.hid ⟨(S8.out.1).trans (hb9.mono (by omega)), (S8.out.2.1).below (hb9.mono (by omega)), (S8.out.2.2.1).belowB hb9 (by omega), (S8.out.2.2.2.1).belowB hb9 (by omega), (S8.out.2.2.2.2.1).below (hb9.mono (by omega)), (S8.out.2.2.2.2.2.1).below (hb9.mono (by omega)), (S8.out.2.2.2.2.2.2.1).below (hb9.mono (by omega)), (S8.out.2.2.2.2.2.2.2.1).below (hb9.mono (by omega)), (S8.out.2.2.2.2.2.2.2.2.1).belowB hb9 (by omega), (S8.out.2.2.2.2.2.2.2.2.2.1).belowB hb9 (by omega), (S8.out.2.2.2.2.2.2.2.2.2.2.1).below (hb9.mono (by omega)), (S8.out.2.2.2.2.2.2.2.2.2.2.2).below (hb9.mono (by omega))⟩
    clear S8
    clear hb9
    -- at w_9: S9: base code d p e q x y a b bk ol
    obtain ⟨Aq, cq, rfl, _⟩ := S9.out.2.2.2.2.2.1
    have hltI : (y1.length : Int) < (zp.length : Int) := by omega
    go_wp2_with fail
    refine (smI _ _ a0 a0 _ ((S9.out.2.2.2.2.2.2.2.2.1).rd) ((S9.out.2.2.2.2.2.2.2.2.2.1).rd) true (by simp)).mono ?_
    rintro e w_10 ⟨rfl, hb10⟩
    have hz10 : w_9.heap.size ≤ w_10.heap.size := by have := hb10.size; simpa using this
    replace hb10 : Below (w_9.heap.size) w_9 w_10 := by simpa using hb10
    have S10 : Hid (Below w0.heap.size w0 w_10 ∧ RdBC w_10 w0.heap.size (.slice A0 x0.length c0) (x0) ∧ OwnS w_10 (w0.heap.size) (m1) (.slice Ad zd.length cd) (zd) ∧ OwnI w_10 (m1) (w_1.heap.size) (.slice Ap zp.length cp) (zp) ∧ RdBS w_10 (w_2.heap.size) e (y0) ∧ RdBI w_10 (w_2.heap.size) (.slice Aq y1.length cq) (y1) ∧ RdBS w_10 (w_3.heap.size) x (y0) ∧ RdBI w_10 (w_3.heap.size) y (y1) ∧ OwnI w_10 (w_5.heap.size) (w_6.heap.size) a (a0) ∧ OwnI w_10 (w_6.heap.size) (w_7.heap.size) b (a0) ∧ RdBS w_10 (w_8.heap.size) bk (zd) ∧ RdBI w_10 (w_8.heap.size) ol (zp)) := Lib.hid ⟨(S9.out.1).trans (hb10.mono (by omega)), (S9.out.2.1).below (hb10.mono (by omega)), (S9.out.2.2.1).belowB hb10 (by omega), (S9.out.2.2.2.1).belowB hb10 (by omega), (S9.out.2.2.2.2.1).below (hb10.mono (by omega)), (S9.out.2.2.2.2.2.1).below (hb10.mono (by omega)), (S9.out.2.2.2.2.2.2.1).below (hb10.mono (by omega)), (S9.out.2.2.2.2.2.2.2.1).below (hb10.mono (by omega)), (S9.out.2.2.2.2.2.2.2.2.1).belowB hb10 (by omega), (S9.out.2.2.2.2.2.2.2.2.2.1).belowB hb10 (by omega), (S9.out.2.2.2.2.2.2.2.2.2.2.1).below (hb10.mono (by omega)), (S9.out.2.2.2.2.2.2.2.2.2.2.2).below (hb10.mono (by omega))⟩
    clear S9
    clear hb10
    go_wp2_with fail
    refine (smS _ _ zd zd _ ((S10.out.2.2.2.2.2.2.2.2.2.2.1).rd (by first | omega | (simp <;> omega))) ((S10.out.2.2.1).rd) true (by simp)).mono ?_
    rintro e w_11 ⟨rfl, hb11⟩
    have hz11 : w_10.heap.size ≤ w_11.heap.size := by have := hb11.size; simpa using this
    replace hb11 : Below (w_10.heap.size) w_10 w_11 := by simpa using hb11
    have S11 : Hid (Below w0.heap.size w0 w_11 ∧ RdBC w_11 w0.heap.size (.slice A0 x0.length c0) (x0) ∧ OwnS w_11 (w0.heap.size) (m1) (.slice Ad zd.length cd) (zd) ∧ OwnI w_11 (m1) (w_1.heap.size) (.slice Ap zp.length cp) (zp) ∧ RdBS w_11 (w_2.heap.size) e (y0) ∧ RdBI w_11 (w_2.heap.size) (.slice Aq y1.length cq) (y1) ∧ RdBS w_11 (w_3.heap.size) x (y0) ∧ RdBI w_11 (w_3.heap.size) y (y1) ∧ OwnI w_11 (w_5.heap.size) (w_6.heap.size) a (a0) ∧ OwnI w_11 (w_6.heap.size) (w_7.heap.size) b (a0) ∧ RdBS w_11 (w_8.heap.size) bk (zd) ∧ RdBI w_11 (w_8.heap.size) ol (zp)) := Lib.hid ⟨(S10.out.1).trans (hb11.mono (by omega)), (S10.out.2.1).below (hb11.mono (by omega)), (S10.out.2.2.1).belowB hb11 (by omega), (S10.out.2.2.2.1).belowB hb11 (by omega), (S10.out.2.2.2.2.1).below (hb11.mono (by omega)), (S10.out.2.2.2.2.2.1).below (hb11.mono (by omega)), (S10.out.2.2.2.2.2.2.1).below (hb11.mono (by omega)), (S10.out.2.2.2.2.2.2.2.1).below (hb11.mono (by omega)), (S10.out.2.2.2.2.2.2.2.2.1).belowB hb11 (by omega), (S10.out.2.2.2.2.2.2.2.2.2.1).belowB hb11 (by omega), (S10.out.2.2.2.2.2.2.2.2.2.2.1).below (hb11.mono (by omega)), (S10.out.2.2.2.2.2.2.2.2.2.2.2).below (hb11.mono (by omega))⟩
    clear S10
    clear hb11
    go_wp2_with fail
    refine (smI _ _ zp zp _ ((S11.out.2.2.2.2.2.2.2.2.2.2.2).rd (by first | omega | (simp <;> omega))) ((S11.out.2.2.2.1).rd) true (by simp)).mono ?_
    rintro e w_12 ⟨rfl, hb12⟩
    have hz12 : w_11.heap.size ≤ w_12.heap.size := by have := hb12.size; simpa using this
    replace hb12 : Below (w_11.heap.size) w_11 w_12 := by simpa using hb12
    have S12 : Hid (Below w0.heap.size w0 w_12 ∧ RdBC w_12 w0.heap.size (.slice A0 x0.length c0) (x0) ∧ OwnS w_12 (w0.heap.size) (m1) (.slice Ad zd.length cd) (zd) ∧ OwnI w_12 (m1) (w_1.heap.size) (.slice Ap zp.length cp) (zp) ∧ RdBS w_12 (w_2.heap.size) e (y0) ∧ RdBI w_12 (w_2.heap.size) (.slice Aq y1.length cq) (y1) ∧ RdBS w_12 (w_3.heap.size) x (y0) ∧ RdBI w_12 (w_3.heap.size) y (y1) ∧ OwnI w_12 (w_5.heap.size) (w_6.heap.size) a (a0) ∧ OwnI w_12 (w_6.heap.size) (w_7.heap.size) b (a0) ∧ RdBS w_12 (w_8.heap.size) bk (zd) ∧ RdBI w_12 (w_8.heap.size) ol (zp)) := Lib.hid ⟨(S11.out.1).trans (hb12.mono (by omega)), (S11.out.2.1).below (hb12.mono (by omega)), (S11.out.2.2.1).belowB hb12 (by omega), (S11.out.2.2.2.1).belowB hb12 (by omega), (S11.out.2.2.2.2.1).below (hb12.mono (by omega)), (S11.out.2.2.2.2.2.1).below (hb12.mono (by omega)), (S11.out.2.2.2.2.2.2.1).below (hb12.mono (by omega)), (S11.out.2.2.2.2.2.2.2.1).below (hb12.mono (by omega)), (S11.out.2.2.2.2.2.2.2.2.1).belowB hb12 (by omega), (S11.out.2.2.2.2.2.2.2.2.2.1).belowB hb12 (by omega), (S11.out.2.2.2.2.2.2.2.2.2.2.1).below (hb12.mono (by omega)), (S11.out.2.2.2.2.2.2.2.2.2.2.2).below (hb12.mono (by omega))⟩
    clear S11
    clear hb12
    -- at w_12: S12: base code d p e q x y a b bk ol
    go_wp2
    go_ret
    exact ⟨rfl, S12.out.1⟩

theorem fnGiveName_walk : LawWalk 9 Try.f9 := by
  intro H enc W base args ds ps hval hA
  rw [Try.params9] at hA hval
  obtain ⟨v0, d0, rfl, rfl, h0⟩ := trodAll_one hA
  obtain ⟨A0, c0, zs0, rfl, hi0, hc0⟩ := ints_of_trod Try.underlying22 Try.underlying5 cells_byte (hval 0 _ _ rfl rfl) h0
  exact fnGiveName_any A0 c0 zs0 W (RdC.mk hi0 hc0)

set_option maxRecDepth 100000 in
theorem fnGiveName_lifted (os : Os) (started : os.Started) (H : Type) (enc : TypeId × Value → H) :
    ReturnsInHanded {} Try.checked os 9 .any (Rows.fnGiveNameSpec.pre6 enc Try.prog Try.f9 Rows.fnGiveNameRow.domain false) (Rows.fnGiveNameSpec.post enc Try.prog Try.f9 false true false false) := by
  refine returnsInHanded_of_change (C := Try.checked) own started (by kernel_rfl) Try.func9
    (ChangeSpec.witness6 (enc := enc) (C := Try.checked) false ⟨#[], #[.slice none 0 0], []⟩ 8 (by kernel_rfl) (by kernel_rfl) (by kernel_rfl) (by kernel_rfl)) ?_
  intro W base args ds gs before hval hW _ _
  exact law_contract laidOut rfl (by kernel_rfl) rfl (fun H ds hd => by
    match ds, hd with
    | [d0], _ => exact ⟨rfl, rfl, rfl⟩) fnGiveName_walk W base args ds gs before hval hW

/-- FnGiveName: the row as it is given. -/
theorem fnGiveName_holds : Rows.FnGiveNameSaid :=
  OpenClaim.holds_of_wide 9 Try.f9 rfl rfl rfl rfl rfl rfl rfl ⟨rfl, rfl, rfl, rfl, rfl⟩ rfl rfl rfl rfl rfl (by kernel_rfl) Try.func9 (by unfold joinedFacts; rw [pf_enter, pf_lifts, pf_make]; kernel_rfl)
    (of_decide_eq_true (by kernel_rfl)) (by unfold Func.isWrapper; first | (rw [if_pos (by decide +kernel)]; kernel_rfl) | (rw [if_neg (by decide +kernel)]; exact ⟨rfl, rfl⟩))
    (fun os started H enc _ => fnGiveName_lifted os started H enc)

end Go.Proofs.Ytaehaalaeikloaa
