/- FnShuffleFor: of every code: ShuffleFor is its model at the drawn number and row; what it gives is a shuffle, whose places are the row, and which takes no more. For every input. -/
import Derived.Test.YtjbfpbajbjnifaaI
import Derived.Test.YtjbfpbajbjnifaaB2
import Derived.Test.YtjbfpbajbjnifaaJp
import Derived.Test.YtjbfpbajbjnifaaJb
import Derived.Test.YtjbfpbajbjnifaaJi
import Derived.Test.YtjbfpbajbjnifaaJn
import Derived.Test.YtjbfpbajbjnifaaJu
import Derived.Test.YtjbfpbajbjnifaaJv
import Derived.Test.YtjbfpbajbjnifaaLift
namespace Go.Proofs.Ytjbfpbajbjnifaa
set_option maxRecDepth 100000
open Go.RowKit Go.WideShapes Go.ChangeShapes

set_option maxHeartbeats 4000000 in
theorem fnShuffleFor_any (A0 : Option Addr) (c0 : Nat) (x0 : List Int) (w0 : World) (h0 : RdC w0 (.slice A0 x0.length c0) x0) :
    Calls Try.prog 7 #[.slice A0 x0.length c0] w0 fun e w' => e = .returned (.bool true) ∧ Below w0.heap.size w0 w' := by
  have hm := h0.len_le
  have HH := Lib.hid h0; clear h0
  by_cases hl : x0.length ≤ 1048576
  case neg =>
    go_enter Try.func7, Try.ntmps7
    go_wp2
    go_ret
    exact ⟨rfl, Below.refl _ _⟩
  go_enter Try.func7, Try.ntmps7
  go_wp2_with fail
  refine (DrawShuffleFor_any _ x0 _ HH.out).mono ?_
  rintro e w1 ⟨m, v, zp, rfl, hm4, ho, hzl, hb⟩
  have S1 : Hid (Below w0.heap.size w0 w1 ∧ OwnI w1 w0.heap.size w1.heap.size v zp) := Lib.hid ⟨hb, ho⟩
  have hz1 : w0.heap.size ≤ w1.heap.size := hb.size
  clear ho hb HH
  have hmI : -1000 ≤ (m : Int) ∧ (m : Int) ≤ 1000 := by omega
  rcases hs : shuffleForR m zp with ⟨y0, y1⟩
  have hyl : y0.length ≤ 60 := by have := shuffleForR_len m zp; rw [hs] at this; exact this
  rcases y1 with _ | _
  · have hy := shuffleForR_no hs
    have HS := Lib.hid hs; clear hs
    subst hy
    go_wp2_with fail
    refine (ShuffleFor_I (m:Int) _ zp _ (wf_near _ (by omega)) ((S1.out.2).rd) (by omega) [] false HS.out).mono ?_
    rintro e w_2 ⟨q, rfl, ho2, hb2⟩
    have hz2 : w1.heap.size ≤ w_2.heap.size := by have := hb2.size; simpa using this
    replace hb2 : Below (w1.heap.size) w1 w_2 := by simpa using hb2
    have S2 : Hid (Below w0.heap.size w0 w_2 ∧ OwnI w_2 (w0.heap.size) (w1.heap.size) v (zp) ∧ OwnI w_2 (w1.heap.size) (w_2.heap.size) q ([])) := Lib.hid ⟨(S1.out.1).trans (hb2.mono (by omega)), (S1.out.2).belowB hb2 (by omega), (by simpa using ho2)⟩
    clear S1
    clear ho2 hb2
    go_wp2_with fail
    refine (ShuffleFor_S (m:Int) _ zp _ (wf_near _ (by omega)) ((S2.out.2.1).rd) (by omega) [] false HS.out).mono ?_
    rintro e w_3 ⟨x, rfl, ho3, hb3⟩
    have hz3 : w_2.heap.size ≤ w_3.heap.size := by have := hb3.size; simpa using this
    replace hb3 : Below (w_2.heap.size) w_2 w_3 := by simpa using hb3
    have S3 : Hid (Below w0.heap.size w0 w_3 ∧ OwnI w_3 (w0.heap.size) (w1.heap.size) v (zp) ∧ OwnI w_3 (w1.heap.size) (w_2.heap.size) q ([]) ∧ OwnI w_3 (w_2.heap.size) (w_3.heap.size) x ([])) := Lib.hid ⟨(S2.out.1).trans (hb3.mono (by omega)), (S2.out.2.1).belowB hb3 (by omega), (S2.out.2.2).belowB hb3 (by omega), (by simpa using ho3)⟩
    clear S2
    clear ho3 hb3
    go_wp2_with fail
    refine (smI _ _ [] [] _ ((S3.out.2.2.1).rd) ((S3.out.2.2.2).rd) true (by simp)).mono ?_
    rintro e w_4 ⟨rfl, hb4⟩
    have hz4 : w_3.heap.size ≤ w_4.heap.size := by have := hb4.size; simpa using this
    replace hb4 : Below (w_3.heap.size) w_3 w_4 := by simpa using hb4
    have S4 : Hid (Below w0.heap.size w0 w_4 ∧ OwnI w_4 (w0.heap.size) (w1.heap.size) v (zp) ∧ OwnI w_4 (w1.heap.size) (w_2.heap.size) q ([]) ∧ OwnI w_4 (w_2.heap.size) (w_3.heap.size) x ([])) := Lib.hid ⟨(S3.out.1).trans (hb4.mono (by omega)), (S3.out.2.1).belowB hb4 (by omega), (S3.out.2.2.1).belowB hb4 (by omega), (S3.out.2.2.2).belowB hb4 (by omega)⟩
    clear S3
    clear hb4
    -- at w_4: S4: base p q x
    obtain ⟨Aq, cq, rfl, _⟩ := S4.out.2.2.1.rd
    go_wp2_with fail
    refine (alive_any _).mono ?_
    rintro e w_5 ⟨rfl, hb5⟩
    have hz5 : w_4.heap.size ≤ w_5.heap.size := by have := hb5.size; simpa using this
    replace hb5 : Below (w_4.heap.size) w_4 w_5 := by simpa using hb5
    have S5 : Hid (Below w0.heap.size w0 w_5 ∧ OwnI w_5 (w0.heap.size) (w1.heap.size) v (zp) ∧ OwnI w_5 (w1.heap.size) (w_2.heap.size) (.slice Aq [].length cq) ([]) ∧ OwnI w_5 (w_2.heap.size) (w_3.heap.size) x ([])) := Lib.hid ⟨(S4.out.1).trans (hb5.mono (by omega)), (S4.out.2.1).belowB hb5 (by omega), (S4.out.2.2.1).belowB hb5 (by omega), (S4.out.2.2.2).belowB hb5 (by omega)⟩
    clear S4
    clear hb5
    -- at w_5: S5: base p q x
    go_wp2
    go_ret
    exact ⟨rfl, S5.out.1⟩
  · have HP := Lib.hid (shuffleForR_ok hs)
    have HS := Lib.hid hs; clear hs
    have htk : takesR y0 ≤ (m : Int) := HP.out.2.2.1
    obtain ⟨tk, htk2⟩ : ∃ t, takesR y0 = t := ⟨_, rfl⟩
    rw [htk2] at htk
    have HT := Lib.hid htk2; clear htk2
    go_wp2_with fail
    refine (ShuffleFor_I (m:Int) _ zp _ (wf_near _ (by omega)) ((S1.out.2).rd) (by omega) y0 true HS.out).mono ?_
    rintro e w_2 ⟨q, rfl, ho2, hb2⟩
    have hz2 : w1.heap.size ≤ w_2.heap.size := by have := hb2.size; simpa using this
    replace hb2 : Below (w1.heap.size) w1 w_2 := by simpa using hb2
    have S2 : Hid (Below w0.heap.size w0 w_2 ∧ OwnI w_2 (w0.heap.size) (w1.heap.size) v (zp) ∧ OwnI w_2 (w1.heap.size) (w_2.heap.size) q (y0)) := Lib.hid ⟨(S1.out.1).trans (hb2.mono (by omega)), (S1.out.2).belowB hb2 (by omega), (by simpa using ho2)⟩
    clear S1
    clear ho2 hb2
    go_wp2_with fail
    refine (ShuffleFor_S (m:Int) _ zp _ (wf_near _ (by omega)) ((S2.out.2.1).rd) (by omega) y0 true HS.out).mono ?_
    rintro e w_3 ⟨x, rfl, ho3, hb3⟩
    have hz3 : w_2.heap.size ≤ w_3.heap.size := by have := hb3.size; simpa using this
    replace hb3 : Below (w_2.heap.size) w_2 w_3 := by simpa using hb3
    have S3 : Hid (Below w0.heap.size w0 w_3 ∧ OwnI w_3 (w0.heap.size) (w1.heap.size) v (zp) ∧ OwnI w_3 (w1.heap.size) (w_2.heap.size) q (y0) ∧ OwnI w_3 (w_2.heap.size) (w_3.heap.size) x (y0)) := Lib.hid ⟨(S2.out.1).trans (hb3.mono (by omega)), (S2.out.2.1).belowB hb3 (by omega), (S2.out.2.2).belowB hb3 (by omega), (by simpa using ho3)⟩
    clear S2
    clear ho3 hb3
    go_wp2_with fail
    refine (smI _ _ y0 y0 _ ((S3.out.2.2.1).rd) ((S3.out.2.2.2).rd) true (by simp)).mono ?_
    rintro e w_4 ⟨rfl, hb4⟩
    have hz4 : w_3.heap.size ≤ w_4.heap.size := by have := hb4.size; simpa using this
    replace hb4 : Below (w_3.heap.size) w_3 w_4 := by simpa using hb4
    have S4 : Hid (Below w0.heap.size w0 w_4 ∧ OwnI w_4 (w0.heap.size) (w1.heap.size) v (zp) ∧ OwnI w_4 (w1.heap.size) (w_2.heap.size) q (y0) ∧ OwnI w_4 (w_2.heap.size) (w_3.heap.size) x (y0)) := Lib.hid ⟨(S3.out.1).trans (hb4.mono (by omega)), (S3.out.2.1).belowB hb4 (by omega), (S3.out.2.2.1).belowB hb4 (by omega), (S3.out.2.2.2).belowB hb4 (by omega)⟩
    clear S3
    clear hb4
    go_wp2_with fail
    refine (PlacesOf_I _ y0 (m:Int) _ ((S4.out.2.2.1).rd) (by omega) (wf_near _ (by omega)) zp true HP.out.2.1).mono ?_
    rintro e w_5 ⟨b, rfl, ho5, hb5⟩
    have hz5 : w_4.heap.size ≤ w_5.heap.size := by have := hb5.size; simpa using this
    replace hb5 : Below (w_4.heap.size) w_4 w_5 := by simpa using hb5
    have S5 : Hid (Below w0.heap.size w0 w_5 ∧ OwnI w_5 (w0.heap.size) (w1.heap.size) v (zp) ∧ OwnI w_5 (w1.heap.size) (w_2.heap.size) q (y0) ∧ OwnI w_5 (w_2.heap.size) (w_3.heap.size) x (y0) ∧ OwnI w_5 (w_4.heap.size) (w_5.heap.size) b (zp)) := Lib.hid ⟨(S4.out.1).trans (hb5.mono (by omega)), (S4.out.2.1).belowB hb5 (by omega), (S4.out.2.2.1).belowB hb5 (by omega), (S4.out.2.2.2).belowB hb5 (by omega), (by simpa using ho5)⟩
    clear S4
    clear ho5 hb5
    go_wp2_with fail
    refine (IsShuffle_I _ y0 _ ((S5.out.2.2.1).rd) (by omega) true HP.out.1).mono ?_
    rintro e w_6 ⟨rfl, hb6⟩
    have hz6 : w_5.heap.size ≤ w_6.heap.size := by have := hb6.size; simpa using this
    replace hb6 : Below (w_5.heap.size) w_5 w_6 := by simpa using hb6
    have S6 : Hid (Below w0.heap.size w0 w_6 ∧ OwnI w_6 (w0.heap.size) (w1.heap.size) v (zp) ∧ OwnI w_6 (w1.heap.size) (w_2.heap.size) q (y0) ∧ OwnI w_6 (w_2.heap.size) (w_3.heap.size) x (y0) ∧ OwnI w_6 (w_4.heap.size) (w_5.heap.size) b (zp)) := Lib.hid ⟨(S5.out.1).trans (hb6.mono (by omega)), (S5.out.2.1).belowB hb6 (by omega), (S5.out.2.2.1).belowB hb6 (by omega), (S5.out.2.2.2.1).belowB hb6 (by omega), (S5.out.2.2.2.2).belowB hb6 (by omega)⟩
    clear S5
    clear hb6
    go_wp2_with fail
    refine (smI _ _ zp zp _ ((S6.out.2.2.2.2).rd) ((S6.out.2.1).rd) true (by simp)).mono ?_
    rintro e w_7 ⟨rfl, hb7⟩
    have hz7 : w_6.heap.size ≤ w_7.heap.size := by have := hb7.size; simpa using this
    replace hb7 : Below (w_6.heap.size) w_6 w_7 := by simpa using hb7
    have S7 : Hid (Below w0.heap.size w0 w_7 ∧ OwnI w_7 (w0.heap.size) (w1.heap.size) v (zp) ∧ OwnI w_7 (w1.heap.size) (w_2.heap.size) q (y0) ∧ OwnI w_7 (w_2.heap.size) (w_3.heap.size) x (y0) ∧ OwnI w_7 (w_4.heap.size) (w_5.heap.size) b (zp)) := Lib.hid ⟨(S6.out.1).trans (hb7.mono (by omega)), (S6.out.2.1).belowB hb7 (by omega), (S6.out.2.2.1).belowB hb7 (by omega), (S6.out.2.2.2.1).belowB hb7 (by omega), (S6.out.2.2.2.2).belowB hb7 (by omega)⟩
    clear S6
    clear hb7
    go_wp2_with fail
    refine (TakesOf_I _ y0 _ ((S7.out.2.2.1).rd) (by omega) tk HT.out).mono ?_
    rintro e w_8 ⟨rfl, hb8⟩
    have hz8 : w_7.heap.size ≤ w_8.heap.size := by have := hb8.size; simpa using this
    replace hb8 : Below (w_7.heap.size) w_7 w_8 := by simpa using hb8
    have S8 : Hid (Below w0.heap.size w0 w_8 ∧ OwnI w_8 (w0.heap.size) (w1.heap.size) v (zp) ∧ OwnI w_8 (w1.heap.size) (w_2.heap.size) q (y0) ∧ OwnI w_8 (w_2.heap.size) (w_3.heap.size) x (y0) ∧ OwnI w_8 (w_4.heap.size) (w_5.heap.size) b (zp)) := Lib.hid ⟨(S7.out.1).trans (hb8.mono (by omega)), (S7.out.2.1).belowB hb8 (by omega), (S7.out.2.2.1).belowB hb8 (by omega), (S7.out.2.2.2.1).belowB hb8 (by omega), (S7.out.2.2.2.2).belowB hb8 (by omega)⟩
    clear S7
    clear hb8
    -- at w_8: S8: base p q x b
    go_wp2
    go_ret
    exact ⟨rfl, S8.out.1⟩

theorem fnShuffleFor_walk : LawWalk 7 Try.f7 := by
  intro H enc W base args ds ps hval hA
  rw [Try.params7] at hA hval
  obtain ⟨v0, d0, rfl, rfl, h0⟩ := trodAll_one hA
  obtain ⟨A0, c0, zs0, rfl, hi0, hc0⟩ := ints_of_trod Try.underlying22 Try.underlying5 cells_byte (hval 0 _ _ rfl rfl) h0
  exact fnShuffleFor_any A0 c0 zs0 W (RdC.mk hi0 hc0)

set_option maxRecDepth 100000 in
theorem fnShuffleFor_lifted (os : Os) (started : os.Started) (H : Type) (enc : TypeId × Value → H) :
    ReturnsInHanded {} Try.checked os 7 .any (Rows.fnShuffleForSpec.pre6 enc Try.prog Try.f7 Rows.fnShuffleForRow.domain false) (Rows.fnShuffleForSpec.post enc Try.prog Try.f7 false true false false) := by
  refine returnsInHanded_of_change (C := Try.checked) own started (by kernel_rfl) Try.func7
    (ChangeSpec.witness6 (enc := enc) (C := Try.checked) false ⟨#[], #[.slice none 0 0], []⟩ 8 (by kernel_rfl) (by kernel_rfl) (by kernel_rfl) (by kernel_rfl)) ?_
  intro W base args ds gs before hval hW _ _
  exact law_contract laidOut rfl (by kernel_rfl) rfl (fun H ds hd => by
    match ds, hd with
    | [d0], _ => exact ⟨rfl, rfl, rfl⟩) fnShuffleFor_walk W base args ds gs before hval hW

/-- FnShuffleFor: the row as it is given. -/
theorem fnShuffleFor_holds : Rows.FnShuffleForSaid :=
  OpenClaim.holds_of_wide 7 Try.f7 rfl rfl rfl rfl rfl rfl rfl ⟨rfl, rfl, rfl, rfl, rfl⟩ rfl rfl rfl rfl rfl (by kernel_rfl) Try.func7 (by unfold joinedFacts; rw [pf_enter, pf_lifts, pf_make]; kernel_rfl)
    (of_decide_eq_true (by kernel_rfl)) (by unfold Func.isWrapper; first | (rw [if_pos (by decide +kernel)]; kernel_rfl) | (rw [if_neg (by decide +kernel)]; exact ⟨rfl, rfl⟩))
    (fun os started H enc _ => fnShuffleFor_lifted os started H enc)

end Go.Proofs.Ytjbfpbajbjnifaa
