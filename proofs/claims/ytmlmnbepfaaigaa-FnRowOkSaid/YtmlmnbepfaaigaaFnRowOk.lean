/- FnRowOk: of every code: RowOk is its model at the drawn row; a row with a number on its top, if it isn't too long, is a row; the empty row is none. For every input. -/
import Derived.Test.YtmlmnbepfaaigaaI
import Derived.Test.YtmlmnbepfaaigaaB2
import Derived.Test.YtmlmnbepfaaigaaId
import Derived.Test.YtmlmnbepfaaigaaBq
import Derived.Test.YtmlmnbepfaaigaaLift
namespace Go.Proofs.Ytmlmnbepfaaigaa
set_option maxRecDepth 100000
open Go.RowKit Go.WideShapes Go.ChangeShapes

theorem row_more {t : List Int} (h : rowB t = true) (hl : t.length + 2 ≤ 150) : rowB ([4] ++ t ++ [0]) = true := by
  unfold rowB wholeR at h ⊢
  split at h
  · rename_i h0
    obtain ⟨p, hp, _, hs, _⟩ := eat_pre h0.2
    rw [List.append_nil] at hp
    subst hp
    have e1 := hs [0]
    have hlen : ([4] ++ t ++ [0]).length = t.length + 2 := by simp
    have e2 : eat (t.length + 2) true ([4] ++ t ++ [0]) = some [] := by
      show eat (t.length + 1 + 1) true (4 :: (t ++ [0])) = some []
      rw [eat_t, if_neg (by decide), if_pos rfl, eat_mono e1 (Nat.le_succ _)]
      rfl
    rw [hlen, if_pos ⟨hl, e2⟩]
    rfl
  · cases h
theorem RdI.nil0 (w : World) : RdI w (.slice none 0 0) [] := ⟨none, 0, rfl, IntsK.nil _ _ _ _, Nat.le_refl _⟩
theorem row_none : rowB [] = false := by decide
set_option maxHeartbeats 4000000 in
theorem fnRowOk_any (A0 : Option Addr) (c0 : Nat) (x0 : List Int) (w0 : World) (h0 : RdC w0 (.slice A0 x0.length c0) x0) :
    Calls Try.prog 3 #[.slice A0 x0.length c0] w0 fun e w' => e = .returned (.bool true) ∧ Below w0.heap.size w0 w' := by
  have hm := h0.len_le
  have HH := Lib.hid h0; clear h0
  by_cases hl : x0.length ≤ 1048576
  case neg =>
    go_enter Try.func3, Try.ntmps3
    go_wp2
    go_ret
    exact ⟨rfl, Below.refl _ _⟩
  go_enter Try.func3, Try.ntmps3
  go_wp2_with fail
  refine (DrawRowOk_any _ x0 _ HH.out).mono ?_
  rintro e w1 ⟨v, zp, rfl, ho, hzl, hb⟩
  have S1 : Hid (Below w0.heap.size w0 w1 ∧ OwnI w1 w0.heap.size w1.heap.size v zp) := Lib.hid ⟨hb, ho⟩
  have hz1 : w0.heap.size ≤ w1.heap.size := hb.size
  clear hb ho HH
  rcases hB : rowB zp with _ | _
  · have HB := Lib.hid hB; clear hB
    go_wp2_with fail
    refine (RowOk_I _ zp _ ((S1.out.2).rd) (by omega) false HB.out).mono ?_
    rintro e w_2 ⟨rfl, hb2⟩
    have hz2 : w1.heap.size ≤ w_2.heap.size := by have := hb2.size; simpa using this
    replace hb2 : Below (w1.heap.size) w1 w_2 := by simpa using hb2
    have S2 : Hid (Below w0.heap.size w0 w_2 ∧ OwnI w_2 (w0.heap.size) (w1.heap.size) v (zp)) := Lib.hid ⟨(S1.out.1).trans (hb2.mono (by omega)), (S1.out.2).belowB hb2 (by omega)⟩
    clear S1
    clear hb2
    go_wp2_with fail
    refine (RowOk_S _ zp _ ((S2.out.2).rd) (by omega) false HB.out).mono ?_
    rintro e w_3 ⟨rfl, hb3⟩
    have hz3 : w_2.heap.size ≤ w_3.heap.size := by have := hb3.size; simpa using this
    replace hb3 : Below (w_2.heap.size) w_2 w_3 := by simpa using hb3
    have S3 : Hid (Below w0.heap.size w0 w_3 ∧ OwnI w_3 (w0.heap.size) (w1.heap.size) v (zp)) := Lib.hid ⟨(S2.out.1).trans (hb3.mono (by omega)), (S2.out.2).belowB hb3 (by omega)⟩
    clear S2
    clear hb3
    have hb4 : Below (w_3.heap.size) w_3 (w_3.alloc (.cells #[.int .i64 (4)] 3)) := (Below.refl _ _).alloc (by first | omega | simp) _
    have ho4 := lits_own w_3 [4] (by simp) (by intro z hz; simp only [List.mem_cons, List.not_mem_nil, or_false] at hz; apply wf_near; omega)
    have S4 : Hid (Below w0.heap.size w0 (w_3.alloc (.cells #[.int .i64 (4)] 3)) ∧ OwnI (w_3.alloc (.cells #[.int .i64 (4)] 3)) (w0.heap.size) (w1.heap.size) v (zp) ∧ OwnI (w_3.alloc (.cells #[.int .i64 (4)] 3)) (w_3.heap.size) (w_3.heap.size + 1) (.slice (some ⟨w_3.heap.size, 0, none⟩) 1 1) ([4])) := Lib.hid ⟨(S3.out.1).trans (hb4.mono (by omega)), (S3.out.2).belowB hb4 (by omega), (by simpa using ho4)⟩
    clear S3
    clear hb4 ho4
    go_wp2_with (at_builtin; refine wpList_append_V rfl _ _ _ rfl Try.underlying23 intInfo (w_3.heap.size) (w_3.heap.size + 1) (.slice (some ⟨w_3.heap.size, 0, none⟩) 1 1) ([4]) rfl S4.out.2.2 (by first | omega | (simp <;> omega)) v (zp) rfl ((S4.out.2.1).rd) (by first | omega | (simp <;> omega)) ?_)
    intro c w_5 ho5 hb5
    have hz5 : w_3.heap.size + 1 ≤ w_5.heap.size := by have := hb5.size; simpa using this
    have S5 : Hid (Below w0.heap.size w0 w_5 ∧ OwnI w_5 (w0.heap.size) (w1.heap.size) v (zp) ∧ OwnI w_5 (w_3.heap.size) (w_5.heap.size) c (([4]) ++ (zp))) := Lib.hid ⟨(S4.out.1).trans (hb5.mono (by omega)), (S4.out.2.1).belowB hb5 (by omega), (by simpa using ho5)⟩
    clear S4
    clear ho5 hb5
    have hb6 : Below (w_5.heap.size) w_5 (w_5.alloc (.cells #[.int .i64 (0)] 3)) := (Below.refl _ _).alloc (by first | omega | simp) _
    have ho6 := lits_own w_5 [0] (by simp) (by intro z hz; simp only [List.mem_cons, List.not_mem_nil, or_false] at hz; apply wf_near; omega)
    have S6 : Hid (Below w0.heap.size w0 (w_5.alloc (.cells #[.int .i64 (0)] 3)) ∧ OwnI (w_5.alloc (.cells #[.int .i64 (0)] 3)) (w0.heap.size) (w1.heap.size) v (zp) ∧ OwnI (w_5.alloc (.cells #[.int .i64 (0)] 3)) (w_3.heap.size) (w_5.heap.size) c (([4]) ++ (zp)) ∧ OwnI (w_5.alloc (.cells #[.int .i64 (0)] 3)) (w_5.heap.size) (w_5.heap.size + 1) (.slice (some ⟨w_5.heap.size, 0, none⟩) 1 1) ([0])) := Lib.hid ⟨(S5.out.1).trans (hb6.mono (by omega)), (S5.out.2.1).belowB hb6 (by omega), (S5.out.2.2).belowB hb6 (by omega), (by simpa using ho6)⟩
    clear S5
    clear hb6 ho6
    go_wp2_with (at_builtin; refine wpList_append_V rfl _ _ _ rfl Try.underlying23 intInfo (w_3.heap.size) (w_5.heap.size) c (([4]) ++ (zp)) rfl S6.out.2.2.1 (by first | omega | (simp <;> omega)) (.slice (some ⟨w_5.heap.size, 0, none⟩) 1 1) ([0]) rfl ((S6.out.2.2.2).rd) (by first | omega | (simp <;> omega)) ?_)
    intro f w_7 ho7 hb7
    have hz7 : w_5.heap.size + 1 ≤ w_7.heap.size := by have := hb7.size; simpa using this
    have S7 : Hid (Below w0.heap.size w0 w_7 ∧ OwnI w_7 (w0.heap.size) (w1.heap.size) v (zp) ∧ OwnI w_7 (w_3.heap.size) (w_7.heap.size) f ((([4]) ++ (zp)) ++ ([0]))) := Lib.hid ⟨(S6.out.1).trans (hb7.mono (by omega)), (S6.out.2.1).belowB hb7 (by omega), (by simpa using ho7)⟩
    clear S6
    clear ho7 hb7
    go_wp2_with fail
    refine (RowOk_I _ [] _ (RdI.nil0 _) (by simp) false row_none).mono ?_
    rintro e w_8 ⟨rfl, hb8⟩
    have hz8 : w_7.heap.size ≤ w_8.heap.size := by have := hb8.size; simpa using this
    replace hb8 : Below (w_7.heap.size) w_7 w_8 := by simpa using hb8
    have S8 : Hid (Below w0.heap.size w0 w_8 ∧ OwnI w_8 (w0.heap.size) (w1.heap.size) v (zp) ∧ OwnI w_8 (w_3.heap.size) (w_7.heap.size) f ((([4]) ++ (zp)) ++ ([0]))) := Lib.hid ⟨(S7.out.1).trans (hb8.mono (by omega)), (S7.out.2.1).belowB hb8 (by omega), (S7.out.2.2).belowB hb8 (by omega)⟩
    clear S7
    clear hb8
    go_wp2_with fail
    refine (alive_any _).mono ?_
    rintro e w_9 ⟨rfl, hb9⟩
    have hz9 : w_8.heap.size ≤ w_9.heap.size := by have := hb9.size; simpa using this
    replace hb9 : Below (w_8.heap.size) w_8 w_9 := by simpa using hb9
    have S9 : Hid (Below w0.heap.size w0 w_9 ∧ OwnI w_9 (w0.heap.size) (w1.heap.size) v (zp) ∧ OwnI w_9 (w_3.heap.size) (w_7.heap.size) f ((([4]) ++ (zp)) ++ ([0]))) := Lib.hid ⟨(S8.out.1).trans (hb9.mono (by omega)), (S8.out.2.1).belowB hb9 (by omega), (S8.out.2.2).belowB hb9 (by omega)⟩
    clear S8
    clear hb9
    -- at w_9: S9: base p f
    go_wp2
    go_ret
    exact ⟨rfl, S9.out.1⟩
  · have HB := Lib.hid hB; clear hB
    go_wp2_with fail
    refine (RowOk_I _ zp _ ((S1.out.2).rd) (by omega) true HB.out).mono ?_
    rintro e w_2 ⟨rfl, hb2⟩
    have hz2 : w1.heap.size ≤ w_2.heap.size := by have := hb2.size; simpa using this
    replace hb2 : Below (w1.heap.size) w1 w_2 := by simpa using hb2
    have S2 : Hid (Below w0.heap.size w0 w_2 ∧ OwnI w_2 (w0.heap.size) (w1.heap.size) v (zp)) := Lib.hid ⟨(S1.out.1).trans (hb2.mono (by omega)), (S1.out.2).belowB hb2 (by omega)⟩
    clear S1
    clear hb2
    go_wp2_with fail
    refine (RowOk_S _ zp _ ((S2.out.2).rd) (by omega) true HB.out).mono ?_
    rintro e w_3 ⟨rfl, hb3⟩
    have hz3 : w_2.heap.size ≤ w_3.heap.size := by have := hb3.size; simpa using this
    replace hb3 : Below (w_2.heap.size) w_2 w_3 := by simpa using hb3
    have S3 : Hid (Below w0.heap.size w0 w_3 ∧ OwnI w_3 (w0.heap.size) (w1.heap.size) v (zp)) := Lib.hid ⟨(S2.out.1).trans (hb3.mono (by omega)), (S2.out.2).belowB hb3 (by omega)⟩
    clear S2
    clear hb3
    have hb4 : Below (w_3.heap.size) w_3 (w_3.alloc (.cells #[.int .i64 (4)] 3)) := (Below.refl _ _).alloc (by first | omega | simp) _
    have ho4 := lits_own w_3 [4] (by simp) (by intro z hz; simp only [List.mem_cons, List.not_mem_nil, or_false] at hz; apply wf_near; omega)
    have S4 : Hid (Below w0.heap.size w0 (w_3.alloc (.cells #[.int .i64 (4)] 3)) ∧ OwnI (w_3.alloc (.cells #[.int .i64 (4)] 3)) (w0.heap.size) (w1.heap.size) v (zp) ∧ OwnI (w_3.alloc (.cells #[.int .i64 (4)] 3)) (w_3.heap.size) (w_3.heap.size + 1) (.slice (some ⟨w_3.heap.size, 0, none⟩) 1 1) ([4])) := Lib.hid ⟨(S3.out.1).trans (hb4.mono (by omega)), (S3.out.2).belowB hb4 (by omega), (by simpa using ho4)⟩
    clear S3
    clear hb4 ho4
    go_wp2_with (at_builtin; refine wpList_append_V rfl _ _ _ rfl Try.underlying23 intInfo (w_3.heap.size) (w_3.heap.size + 1) (.slice (some ⟨w_3.heap.size, 0, none⟩) 1 1) ([4]) rfl S4.out.2.2 (by first | omega | (simp <;> omega)) v (zp) rfl ((S4.out.2.1).rd) (by first | omega | (simp <;> omega)) ?_)
    intro c w_5 ho5 hb5
    have hz5 : w_3.heap.size + 1 ≤ w_5.heap.size := by have := hb5.size; simpa using this
    have S5 : Hid (Below w0.heap.size w0 w_5 ∧ OwnI w_5 (w0.heap.size) (w1.heap.size) v (zp) ∧ OwnI w_5 (w_3.heap.size) (w_5.heap.size) c (([4]) ++ (zp))) := Lib.hid ⟨(S4.out.1).trans (hb5.mono (by omega)), (S4.out.2.1).belowB hb5 (by omega), (by simpa using ho5)⟩
    clear S4
    clear ho5 hb5
    have hb6 : Below (w_5.heap.size) w_5 (w_5.alloc (.cells #[.int .i64 (0)] 3)) := (Below.refl _ _).alloc (by first | omega | simp) _
    have ho6 := lits_own w_5 [0] (by simp) (by intro z hz; simp only [List.mem_cons, List.not_mem_nil, or_false] at hz; apply wf_near; omega)
    have S6 : Hid (Below w0.heap.size w0 (w_5.alloc (.cells #[.int .i64 (0)] 3)) ∧ OwnI (w_5.alloc (.cells #[.int .i64 (0)] 3)) (w0.heap.size) (w1.heap.size) v (zp) ∧ OwnI (w_5.alloc (.cells #[.int .i64 (0)] 3)) (w_3.heap.size) (w_5.heap.size) c (([4]) ++ (zp)) ∧ OwnI (w_5.alloc (.cells #[.int .i64 (0)] 3)) (w_5.heap.size) (w_5.heap.size + 1) (.slice (some ⟨w_5.heap.size, 0, none⟩) 1 1) ([0])) := Lib.hid ⟨(S5.out.1).trans (hb6.mono (by omega)), (S5.out.2.1).belowB hb6 (by omega), (S5.out.2.2).belowB hb6 (by omega), (by simpa using ho6)⟩
    clear S5
    clear hb6 ho6
    go_wp2_with (at_builtin; refine wpList_append_V rfl _ _ _ rfl Try.underlying23 intInfo (w_3.heap.size) (w_5.heap.size) c (([4]) ++ (zp)) rfl S6.out.2.2.1 (by first | omega | (simp <;> omega)) (.slice (some ⟨w_5.heap.size, 0, none⟩) 1 1) ([0]) rfl ((S6.out.2.2.2).rd) (by first | omega | (simp <;> omega)) ?_)
    intro f w_7 ho7 hb7
    have hz7 : w_5.heap.size + 1 ≤ w_7.heap.size := by have := hb7.size; simpa using this
    have S7 : Hid (Below w0.heap.size w0 w_7 ∧ OwnI w_7 (w0.heap.size) (w1.heap.size) v (zp) ∧ OwnI w_7 (w_3.heap.size) (w_7.heap.size) f ((([4]) ++ (zp)) ++ ([0]))) := Lib.hid ⟨(S6.out.1).trans (hb7.mono (by omega)), (S6.out.2.1).belowB hb7 (by omega), (by simpa using ho7)⟩
    clear S6
    clear ho7 hb7
    -- at w_7: S7: base p f
    have hr7 := S7.out.2.2.rd
    have hl7 : ([4] ++ zp ++ [0]).length = zp.length + 2 := by simp
    have hmo : zp.length + 2 ≤ 150 → rowB ([4] ++ zp ++ [0]) = true := row_more HB.out
    have B7 := Lib.hid S7.out.1
    obtain ⟨ms, hms⟩ : ∃ ms, ([4] ++ zp ++ [0]) = ms := ⟨_, rfl⟩
    rw [hms] at hr7 hl7 hmo
    have hl8 : ms.length ≤ 402 := by omega
    have HMO := Lib.hid hmo; have HL7 := Lib.hid hl7; clear hmo hl7 hms S7
    obtain ⟨Af, cf, rfl, _⟩ := id hr7
    have R7 := Lib.hid hr7; clear hr7
    have hw7 := B7.out.size
    by_cases h150 : (150 : Int) < (ms.length : Int)
    · go_wp2_with fail
      refine (RowOk_I _ [] _ (RdI.nil0 _) (by simp) false row_none).mono ?_
      rintro e w8 ⟨rfl, hb⟩
      have B8 := Lib.hid (B7.out.trans (hb.mono hw7)); clear hb B7
      have hw8 := B8.out.size
      go_wp2_with fail
      refine (alive_any _).mono ?_
      rintro e w9 ⟨rfl, hb⟩
      have B9 := Lib.hid (B8.out.trans (hb.mono hw8)); clear hb B8
      go_wp2
      go_ret
      exact ⟨rfl, B9.out⟩
    · go_wp2_with fail
      refine (RowOk_I _ ms _ R7.out (by omega) true (HMO.out (by have := HL7.out; omega))).mono ?_
      rintro e w8 ⟨rfl, hb⟩
      have B8 := Lib.hid (B7.out.trans (hb.mono hw7)); clear hb B7
      have hw8 := B8.out.size
      go_wp2_with fail
      refine (RowOk_I _ [] _ (RdI.nil0 _) (by simp) false row_none).mono ?_
      rintro e w9 ⟨rfl, hb⟩
      have B9 := Lib.hid (B8.out.trans (hb.mono hw8)); clear hb B8
      have hw9 := B9.out.size
      go_wp2_with fail
      refine (alive_any _).mono ?_
      rintro e w10 ⟨rfl, hb⟩
      have B10 := Lib.hid (B9.out.trans (hb.mono hw9)); clear hb B9
      go_wp2
      go_ret
      exact ⟨rfl, B10.out⟩

theorem fnRowOk_walk : LawWalk 3 Try.f3 := by
  intro H enc W base args ds ps hval hA
  rw [Try.params3] at hA hval
  obtain ⟨v0, d0, rfl, rfl, h0⟩ := trodAll_one hA
  obtain ⟨A0, c0, zs0, rfl, hi0, hc0⟩ := ints_of_trod Try.underlying22 Try.underlying5 cells_byte (hval 0 _ _ rfl rfl) h0
  exact fnRowOk_any A0 c0 zs0 W (RdC.mk hi0 hc0)

set_option maxRecDepth 100000 in
theorem fnRowOk_lifted (os : Os) (started : os.Started) (H : Type) (enc : TypeId × Value → H) :
    ReturnsInHanded {} Try.checked os 3 .any (Rows.fnRowOkSpec.pre6 enc Try.prog Try.f3 Rows.fnRowOkRow.domain false) (Rows.fnRowOkSpec.post enc Try.prog Try.f3 false true false false) := by
  refine returnsInHanded_of_change (C := Try.checked) own started (by kernel_rfl) Try.func3
    (ChangeSpec.witness6 (enc := enc) (C := Try.checked) false ⟨#[], #[.slice none 0 0], []⟩ 8 (by kernel_rfl) (by kernel_rfl) (by kernel_rfl) (by kernel_rfl)) ?_
  intro W base args ds gs before hval hW _ _
  exact law_contract laidOut rfl (by kernel_rfl) rfl (fun H ds hd => by
    match ds, hd with
    | [d0], _ => exact ⟨rfl, rfl, rfl⟩) fnRowOk_walk W base args ds gs before hval hW

/-- FnRowOk: the row as it is given. -/
theorem fnRowOk_holds : Rows.FnRowOkSaid :=
  OpenClaim.holds_of_wide 3 Try.f3 rfl rfl rfl rfl rfl rfl rfl ⟨rfl, rfl, rfl, rfl, rfl⟩ rfl rfl rfl rfl rfl (by kernel_rfl) Try.func3 (by unfold joinedFacts; rw [pf_enter, pf_lifts, pf_make]; kernel_rfl)
    (of_decide_eq_true (by kernel_rfl)) (by unfold Func.isWrapper; first | (rw [if_pos (by decide +kernel)]; kernel_rfl) | (rw [if_neg (by decide +kernel)]; exact ⟨rfl, rfl⟩))
    (fun os started H enc _ => fnRowOk_lifted os started H enc)

end Go.Proofs.Ytmlmnbepfaaigaa
