/- FnUsesOk: of every code: UsesOk is its model at the drawn dictionary and program; every valid program is one with names of a valid dictionary, and every name of it is. For every input. -/
import Derived.Test.YtiaidkhkcbamaaaI
import Derived.Test.YtiaidkhkcbamaaaB2
import Derived.Test.YtiaidkhkcbamaaaYq
import Derived.Test.YtiaidkhkcbamaaaYr
import Derived.Test.YtiaidkhkcbamaaaLift
namespace Go.Proofs.Ytiaidkhkcbamaaa
set_option maxRecDepth 100000
open Go.RowKit Go.WideShapes Go.ChangeShapes

set_option maxHeartbeats 4000000 in
theorem fnUsesOk_any (A0 : Option Addr) (c0 : Nat) (x0 : List Int) (w0 : World) (h0 : RdC w0 (.slice A0 x0.length c0) x0) :
    Calls Try.prog 4 #[.slice A0 x0.length c0] w0 fun e w' => e = .returned (.bool true) ∧ Below w0.heap.size w0 w' := by
  have hm := h0.len_le
  have HH := Lib.hid h0; clear h0
  by_cases hl : x0.length ≤ 1048576
  case neg =>
    go_enter Try.func4, Try.ntmps4
    go_wp2
    go_ret
    exact ⟨rfl, Below.refl _ _⟩
  have S0 : Hid (Below w0.heap.size w0 w0 ∧ RdBC w0 w0.heap.size (.slice A0 x0.length c0) x0) := Lib.hid ⟨Below.refl _ _, HH.out⟩
  clear HH
  go_enter Try.func4, Try.ntmps4
  go_wp2_with fail
  refine (DrawUsesOk_any (.slice A0 x0.length c0) x0 _ ((S0.out.2).rd (by first | omega | (simp <;> omega)))).mono ?_
  rintro e w_1 ⟨d, zd, p, zp, m1, rfl, ho1, hl_d, hp1, hl_p, ha1, hm1, hb1⟩
  have hz1 : w0.heap.size ≤ w_1.heap.size := by have := hb1.size; simpa using this
  replace hb1 : Below (w0.heap.size) w0 w_1 := by simpa using hb1
  have S1 : Hid (Below w0.heap.size w0 w_1 ∧ RdBC w_1 w0.heap.size (.slice A0 x0.length c0) (x0) ∧ OwnS w_1 (w0.heap.size) (m1) d (zd) ∧ OwnI w_1 (m1) (w_1.heap.size) p (zp)) := Lib.hid ⟨(S0.out.1).trans (hb1.mono (by omega)), (S0.out.2).below (hb1.mono (by omega)), (by simpa using ho1), (by simpa using hp1)⟩
  clear S0
  clear ho1 hp1 hb1
  -- at w_1: S1: base code d p
  have hd7 := hl_d.1
  have hds := szS_small hl_d
  clear hl_d
  obtain ⟨Ad, cd, rfl, _⟩ := S1.out.2.2.1.rd
  generalize hb : usesOkB zd zp = b
  generalize hd : dictB zd = bd
  generalize hv : validB zp = bv
  have himp : bd = true → bv = true → b = true := by
    intro h1 h2
    subst h1; subst h2
    rw [← hb, usesOkB, hd, uses_of_valid hv]; rfl
  have HR := Lib.hid (And.intro hb (And.intro hd hv)); clear hb hd hv
  go_wp2_with fail
  refine (UsesOk_I _ zd _ zp _ ((S1.out.2.2.1).rd) (by omega) hds ((S1.out.2.2.2).rd) (by omega) b HR.out.1).mono ?_
  rintro e w_2 ⟨rfl, hb2⟩
  have hz2 : w_1.heap.size ≤ w_2.heap.size := by have := hb2.size; simpa using this
  replace hb2 : Below (w_1.heap.size) w_1 w_2 := by simpa using hb2
  have S2 : Hid (Below w0.heap.size w0 w_2 ∧ RdBC w_2 w0.heap.size (.slice A0 x0.length c0) (x0) ∧ OwnS w_2 (w0.heap.size) (m1) (.slice Ad zd.length cd) (zd) ∧ OwnI w_2 (m1) (w_1.heap.size) p (zp)) := Lib.hid ⟨(S1.out.1).trans (hb2.mono (by omega)), (S1.out.2.1).below (hb2.mono (by omega)), (S1.out.2.2.1).belowB hb2 (by omega), (S1.out.2.2.2).belowB hb2 (by omega)⟩
  clear S1
  clear hb2
  go_wp2_with fail
  refine (UsesOk_S _ zd _ zp _ ((S2.out.2.2.1).rd) (by omega) hds ((S2.out.2.2.2).rd) (by omega) b HR.out.1).mono ?_
  rintro e w_3 ⟨rfl, hb3⟩
  have hz3 : w_2.heap.size ≤ w_3.heap.size := by have := hb3.size; simpa using this
  replace hb3 : Below (w_2.heap.size) w_2 w_3 := by simpa using hb3
  have S3 : Hid (Below w0.heap.size w0 w_3 ∧ RdBC w_3 w0.heap.size (.slice A0 x0.length c0) (x0) ∧ OwnS w_3 (w0.heap.size) (m1) (.slice Ad zd.length cd) (zd) ∧ OwnI w_3 (m1) (w_1.heap.size) p (zp)) := Lib.hid ⟨(S2.out.1).trans (hb3.mono (by omega)), (S2.out.2.1).below (hb3.mono (by omega)), (S2.out.2.2.1).belowB hb3 (by omega), (S2.out.2.2.2).belowB hb3 (by omega)⟩
  clear S2
  clear hb3
  go_wp2_with fail
  refine (ProgValid_I _ zp _ ((S3.out.2.2.2).rd) (by omega) bv HR.out.2.2).mono ?_
  rintro e w_4 ⟨rfl, hb4⟩
  have hz4 : w_3.heap.size ≤ w_4.heap.size := by have := hb4.size; simpa using this
  replace hb4 : Below (w_3.heap.size) w_3 w_4 := by simpa using hb4
  have S4 : Hid (Below w0.heap.size w0 w_4 ∧ RdBC w_4 w0.heap.size (.slice A0 x0.length c0) (x0) ∧ OwnS w_4 (w0.heap.size) (m1) (.slice Ad zd.length cd) (zd) ∧ OwnI w_4 (m1) (w_1.heap.size) p (zp)) := Lib.hid ⟨(S3.out.1).trans (hb4.mono (by omega)), (S3.out.2.1).below (hb4.mono (by omega)), (S3.out.2.2.1).belowB hb4 (by omega), (S3.out.2.2.2).belowB hb4 (by omega)⟩
  clear S3
  clear hb4
  -- at w_4: S4: base code d p
  rcases bv with _ | _
  · rcases bd with _ | _
    · skip
      have HX := Lib.hid (And.intro S4.out.1 S4.out.2.2.1.rd)
      have hz9 : w0.heap.size ≤ w_4.heap.size := S4.out.1.size
      go_wp2
      go_loopw [6] (fun i wr => i = .int .i64 0 ∧ wr = w_4) (fun _ _ => 0)
      case atStart => exact ⟨rfl, rfl⟩
      case round =>
        obtain ⟨rfl, rfl⟩ := hrel
        by_cases hlt : 0 < zd.length
        · have hkI : (0 : Int) < zd.length := by omega
          go_wp2_with fail
          refine (DictValid_I _ zd _ HX.out.2 (by omega) hds false HR.out.2.1).mono ?_
          rintro e x1 ⟨rfl, hb1⟩
          have hz1 := hb1.size
          have HB := Lib.hid (HX.out.1.trans (hb1.mono hz9)); clear hb1
          go_wp2_with fail
          refine (alive_any _).mono ?_
          rintro e x2 ⟨rfl, hb2⟩
          have HB2 := Lib.hid (HB.out.trans (hb2.mono HB.out.size)); clear hb2
          go_wp2
          go_ret
          exact ⟨rfl, HB2.out⟩
        · have hkI : ¬ (0 : Int) < zd.length := by omega
          go_wp2_with fail
          refine (alive_any _).mono ?_
          rintro e x1 ⟨rfl, hb1⟩
          have HB1 := Lib.hid (HX.out.1.trans (hb1.mono hz9)); clear hb1
          go_wp2
          go_ret
          exact ⟨rfl, HB1.out⟩
    · skip
      have HX := Lib.hid (And.intro S4.out.1 S4.out.2.2.1.rd)
      have hz9 : w0.heap.size ≤ w_4.heap.size := S4.out.1.size
      go_wp2
      go_loopw [6] (fun i wr => ∃ k : Nat, k ≤ zd.length ∧ i = .int .i64 k ∧ Below w_4.heap.size w_4 wr) (fun i _ => zd.length - (intOf i).toNat)
      case atStart => exact ⟨0, Nat.zero_le _, rfl, Below.refl _ _⟩
      case round =>
        obtain ⟨k, hk, rfl, hbk⟩ := hrel
        have HB := Lib.hid hbk; clear hbk
        by_cases hlt : k < zd.length
        · have hkI : (k : Int) < zd.length := by omega
          have hu := uses_name HR.out.2.1 hlt
          have hzk := HB.out.size
          obtain ⟨y, HY⟩ : ∃ y, Hid (1101 + (k : Int) = y) := ⟨_, Lib.hid rfl⟩
          rw [HY.out] at hu
          have hyb : 1101 ≤ y ∧ y ≤ 1107 := by rw [← HY.out]; omega
          have HU := Lib.hid hu; clear hu
          go_wp2_with fail
          refine (DictValid_I _ zd _ (RdS.step HX.out.2 HB.out) (by omega) hds true HR.out.2.1).mono ?_
          rintro e x1 ⟨rfl, hb1⟩
          have hz1 := hb1.size
          have HB1 := Lib.hid (HB.out.trans (hb1.mono hzk)); clear hb1
          have hbl : Below x1.heap.size x1 (x1.alloc (.cells #[.int .i64 y] 3)) := (Below.refl _ _).alloc (Nat.le_refl _) _
          have hol := lits_own x1 [y] (by simp) (by intro z hz; simp only [List.mem_cons, List.not_mem_nil, or_false] at hz; apply wf_near; omega)
          simp only [List.map_cons, List.map_nil, List.length_cons, List.length_nil, Nat.zero_add] at hol
          have HL := Lib.hid (And.intro (HB1.out.trans (hbl.mono (by omega))) hol.rd); clear hbl hol
          go_wp2_with fail
          rw [HY.out]
          refine (UsesOk_I _ zd _ [y] _ (RdS.step HX.out.2 HL.out.1) (by omega) hds HL.out.2 (by simp) true HU.out).mono ?_
          rintro e x2 ⟨rfl, hb2⟩
          have HB2 := Lib.hid (HL.out.1.trans (hb2.mono (by simp; omega))); clear hb2
          go_wp2
          go_roundw
          case rel => exact ⟨k + 1, by omega, by go_num, HB2.out⟩
          case measure => simp [intOf]; omega
        · go_wp2_with fail
          refine (alive_any _).mono ?_
          rintro e x1 ⟨rfl, hb1⟩
          have HB1 := Lib.hid (HX.out.1.trans ((HB.out.trans (hb1.mono HB.out.size)).mono hz9)); clear hb1
          go_wp2
          go_ret
          exact ⟨rfl, HB1.out⟩
  · rcases bd with _ | _
    · skip
      go_wp2_with fail
      refine (DictValid_I _ zd _ ((S4.out.2.2.1).rd) (by omega) hds false HR.out.2.1).mono ?_
      rintro e w_5 ⟨rfl, hb5⟩
      have hz5 : w_4.heap.size ≤ w_5.heap.size := by have := hb5.size; simpa using this
      replace hb5 : Below (w_4.heap.size) w_4 w_5 := by simpa using hb5
      have S5 : Hid (Below w0.heap.size w0 w_5 ∧ RdBC w_5 w0.heap.size (.slice A0 x0.length c0) (x0) ∧ OwnS w_5 (w0.heap.size) (m1) (.slice Ad zd.length cd) (zd) ∧ OwnI w_5 (m1) (w_1.heap.size) p (zp)) := Lib.hid ⟨(S4.out.1).trans (hb5.mono (by omega)), (S4.out.2.1).below (hb5.mono (by omega)), (S4.out.2.2.1).belowB hb5 (by omega), (S4.out.2.2.2).belowB hb5 (by omega)⟩
      clear S4
      clear hb5
      -- at w_5: S5: base code d p
      have HX := Lib.hid (And.intro S5.out.1 S5.out.2.2.1.rd)
      have hz9 : w0.heap.size ≤ w_5.heap.size := S5.out.1.size
      go_wp2
      go_loopw [6] (fun i wr => i = .int .i64 0 ∧ wr = w_5) (fun _ _ => 0)
      case atStart => exact ⟨rfl, rfl⟩
      case round =>
        obtain ⟨rfl, rfl⟩ := hrel
        by_cases hlt : 0 < zd.length
        · have hkI : (0 : Int) < zd.length := by omega
          go_wp2_with fail
          refine (DictValid_I _ zd _ HX.out.2 (by omega) hds false HR.out.2.1).mono ?_
          rintro e x1 ⟨rfl, hb1⟩
          have hz1 := hb1.size
          have HB := Lib.hid (HX.out.1.trans (hb1.mono hz9)); clear hb1
          go_wp2_with fail
          refine (alive_any _).mono ?_
          rintro e x2 ⟨rfl, hb2⟩
          have HB2 := Lib.hid (HB.out.trans (hb2.mono HB.out.size)); clear hb2
          go_wp2
          go_ret
          exact ⟨rfl, HB2.out⟩
        · have hkI : ¬ (0 : Int) < zd.length := by omega
          go_wp2_with fail
          refine (alive_any _).mono ?_
          rintro e x1 ⟨rfl, hb1⟩
          have HB1 := Lib.hid (HX.out.1.trans (hb1.mono hz9)); clear hb1
          go_wp2
          go_ret
          exact ⟨rfl, HB1.out⟩
    · obtain rfl : b = true := himp rfl rfl
      clear himp
      go_wp2_with fail
      refine (DictValid_I _ zd _ ((S4.out.2.2.1).rd) (by omega) hds true HR.out.2.1).mono ?_
      rintro e w_5 ⟨rfl, hb5⟩
      have hz5 : w_4.heap.size ≤ w_5.heap.size := by have := hb5.size; simpa using this
      replace hb5 : Below (w_4.heap.size) w_4 w_5 := by simpa using hb5
      have S5 : Hid (Below w0.heap.size w0 w_5 ∧ RdBC w_5 w0.heap.size (.slice A0 x0.length c0) (x0) ∧ OwnS w_5 (w0.heap.size) (m1) (.slice Ad zd.length cd) (zd) ∧ OwnI w_5 (m1) (w_1.heap.size) p (zp)) := Lib.hid ⟨(S4.out.1).trans (hb5.mono (by omega)), (S4.out.2.1).below (hb5.mono (by omega)), (S4.out.2.2.1).belowB hb5 (by omega), (S4.out.2.2.2).belowB hb5 (by omega)⟩
      clear S4
      clear hb5
      -- at w_5: S5: base code d p
      have HX := Lib.hid (And.intro S5.out.1 S5.out.2.2.1.rd)
      have hz9 : w0.heap.size ≤ w_5.heap.size := S5.out.1.size
      go_wp2
      go_loopw [6] (fun i wr => ∃ k : Nat, k ≤ zd.length ∧ i = .int .i64 k ∧ Below w_5.heap.size w_5 wr) (fun i _ => zd.length - (intOf i).toNat)
      case atStart => exact ⟨0, Nat.zero_le _, rfl, Below.refl _ _⟩
      case round =>
        obtain ⟨k, hk, rfl, hbk⟩ := hrel
        have HB := Lib.hid hbk; clear hbk
        by_cases hlt : k < zd.length
        · have hkI : (k : Int) < zd.length := by omega
          have hu := uses_name HR.out.2.1 hlt
          have hzk := HB.out.size
          obtain ⟨y, HY⟩ : ∃ y, Hid (1101 + (k : Int) = y) := ⟨_, Lib.hid rfl⟩
          rw [HY.out] at hu
          have hyb : 1101 ≤ y ∧ y ≤ 1107 := by rw [← HY.out]; omega
          have HU := Lib.hid hu; clear hu
          go_wp2_with fail
          refine (DictValid_I _ zd _ (RdS.step HX.out.2 HB.out) (by omega) hds true HR.out.2.1).mono ?_
          rintro e x1 ⟨rfl, hb1⟩
          have hz1 := hb1.size
          have HB1 := Lib.hid (HB.out.trans (hb1.mono hzk)); clear hb1
          have hbl : Below x1.heap.size x1 (x1.alloc (.cells #[.int .i64 y] 3)) := (Below.refl _ _).alloc (Nat.le_refl _) _
          have hol := lits_own x1 [y] (by simp) (by intro z hz; simp only [List.mem_cons, List.not_mem_nil, or_false] at hz; apply wf_near; omega)
          simp only [List.map_cons, List.map_nil, List.length_cons, List.length_nil, Nat.zero_add] at hol
          have HL := Lib.hid (And.intro (HB1.out.trans (hbl.mono (by omega))) hol.rd); clear hbl hol
          go_wp2_with fail
          rw [HY.out]
          refine (UsesOk_I _ zd _ [y] _ (RdS.step HX.out.2 HL.out.1) (by omega) hds HL.out.2 (by simp) true HU.out).mono ?_
          rintro e x2 ⟨rfl, hb2⟩
          have HB2 := Lib.hid (HL.out.1.trans (hb2.mono (by simp; omega))); clear hb2
          go_wp2
          go_roundw
          case rel => exact ⟨k + 1, by omega, by go_num, HB2.out⟩
          case measure => simp [intOf]; omega
        · go_wp2_with fail
          refine (alive_any _).mono ?_
          rintro e x1 ⟨rfl, hb1⟩
          have HB1 := Lib.hid (HX.out.1.trans ((HB.out.trans (hb1.mono HB.out.size)).mono hz9)); clear hb1
          go_wp2
          go_ret
          exact ⟨rfl, HB1.out⟩

theorem fnUsesOk_walk : LawWalk 4 Try.f4 := by
  intro H enc W base args ds ps hval hA
  rw [Try.params4] at hA hval
  obtain ⟨v0, d0, rfl, rfl, h0⟩ := trodAll_one hA
  obtain ⟨A0, c0, zs0, rfl, hi0, hc0⟩ := ints_of_trod Try.underlying22 Try.underlying5 cells_byte (hval 0 _ _ rfl rfl) h0
  exact fnUsesOk_any A0 c0 zs0 W (RdC.mk hi0 hc0)

set_option maxRecDepth 100000 in
theorem fnUsesOk_lifted (os : Os) (started : os.Started) (H : Type) (enc : TypeId × Value → H) :
    ReturnsInHanded {} Try.checked os 4 .any (Rows.fnUsesOkSpec.pre6 enc Try.prog Try.f4 Rows.fnUsesOkRow.domain false) (Rows.fnUsesOkSpec.post enc Try.prog Try.f4 false true false false) := by
  refine returnsInHanded_of_change (C := Try.checked) own started (by kernel_rfl) Try.func4
    (ChangeSpec.witness6 (enc := enc) (C := Try.checked) false ⟨#[], #[.slice none 0 0], []⟩ 8 (by kernel_rfl) (by kernel_rfl) (by kernel_rfl) (by kernel_rfl)) ?_
  intro W base args ds gs before hval hW _ _
  exact law_contract laidOut rfl (by kernel_rfl) rfl (fun H ds hd => by
    match ds, hd with
    | [d0], _ => exact ⟨rfl, rfl, rfl⟩) fnUsesOk_walk W base args ds gs before hval hW

/-- FnUsesOk: the row as it is given. -/
theorem fnUsesOk_holds : Rows.FnUsesOkSaid :=
  OpenClaim.holds_of_wide 4 Try.f4 rfl rfl rfl rfl rfl rfl rfl ⟨rfl, rfl, rfl, rfl, rfl⟩ rfl rfl rfl rfl rfl (by kernel_rfl) Try.func4 (by unfold joinedFacts; rw [pf_enter, pf_lifts, pf_make]; kernel_rfl)
    (of_decide_eq_true (by kernel_rfl)) (by unfold Func.isWrapper; first | (rw [if_pos (by decide +kernel)]; kernel_rfl) | (rw [if_neg (by decide +kernel)]; exact ⟨rfl, rfl⟩))
    (fun os started H enc _ => fnUsesOk_lifted os started H enc)

end Go.Proofs.Ytiaidkhkcbamaaa
