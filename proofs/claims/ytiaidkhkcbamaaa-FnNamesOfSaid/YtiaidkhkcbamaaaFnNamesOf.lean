/- FnNamesOf: of every code: NamesOf is its model at the drawn dictionary and program; there is a number for each program, together they are as many as the program has names. For every input. -/
import Derived.Test.YtiaidkhkcbamaaaI
import Derived.Test.YtiaidkhkcbamaaaB2
import Derived.Test.YtiaidkhkcbamaaaYq
import Derived.Test.YtiaidkhkcbamaaaYr
import Derived.Test.YtiaidkhkcbamaaaYf
import Derived.Test.YtiaidkhkcbamaaaLift
namespace Go.Proofs.Ytiaidkhkcbamaaa
set_option maxRecDepth 100000
open Go.RowKit Go.WideShapes Go.ChangeShapes

theorem sum_take9 {l : List Int} {k : Nat} (hk : k < l.length) : sumR (l.take (k + 1)) = sumR (l.take k) + l.getD k 0 := by
  rw [take_snoc hk, sum_append]; simp [sumR]
theorem sum_bd {l : List Int} {B : Int} (h : ∀ z ∈ l, 0 ≤ z ∧ z ≤ B) : 0 ≤ sumR l ∧ sumR l ≤ B * l.length := by
  induction l with
  | nil => simp [sumR]
  | cons z l ih =>
    have h1 := h z (by simp)
    have h2 := ih fun x hx => h x (by simp [hx])
    have e : sumR (z :: l) = z + sumR l := rfl
    have e2 : B * ((z :: l).length : Int) = B * (l.length : Int) + B := by rw [List.length_cons, show ((l.length + 1 : Nat) : Int) = (l.length : Int) + 1 from rfl, Int.mul_add, Int.mul_one]
    rw [e, e2]; omega
theorem many_take {p : List Int} {k : Nat} (hk : k < p.length) : many9 (p.take (k + 1)) = many9 (p.take k) + if 1101 ≤ p.getD k 0 then 1 else 0 := by
  rw [take_snoc hk]
  unfold many9
  rw [List.countP_append]
  congr 1
  by_cases h : 1101 ≤ p.getD k 0
  · rw [if_pos h]; simp at h ⊢; exact h
  · rw [if_neg h]; simp at h ⊢; exact h
theorem many_le (p : List Int) : many9 p ≤ p.length := List.countP_le_length
set_option maxHeartbeats 4000000 in
theorem fnNamesOf_any (A0 : Option Addr) (c0 : Nat) (x0 : List Int) (w0 : World) (h0 : RdC w0 (.slice A0 x0.length c0) x0) :
    Calls Try.prog 6 #[.slice A0 x0.length c0] w0 fun e w' => e = .returned (.bool true) ∧ Below w0.heap.size w0 w' := by
  have hm := h0.len_le
  have HH := Lib.hid h0; clear h0
  by_cases hl : x0.length ≤ 1048576
  case neg =>
    go_enter Try.func6, Try.ntmps6
    go_wp2
    go_ret
    exact ⟨rfl, Below.refl _ _⟩
  have S0 : Hid (Below w0.heap.size w0 w0 ∧ RdBC w0 w0.heap.size (.slice A0 x0.length c0) x0) := Lib.hid ⟨Below.refl _ _, HH.out⟩
  clear HH
  go_enter Try.func6, Try.ntmps6
  go_wp2_with fail
  refine (DrawNamesOf_any (.slice A0 x0.length c0) x0 _ ((S0.out.2).rd (by first | omega | (simp <;> omega)))).mono ?_
  rintro e w_1 ⟨d, zd, p, zp, m1, rfl, ho1, hl_d, hp1, hl_p, ha1, hm1, hb1⟩
  have hz1 : w0.heap.size ≤ w_1.heap.size := by have := hb1.size; simpa using this
  replace hb1 : Below (w0.heap.size) w0 w_1 := by simpa using hb1
  have S1 : Hid (Below w0.heap.size w0 w_1 ∧ RdBC w_1 w0.heap.size (.slice A0 x0.length c0) (x0) ∧ OwnS w_1 (w0.heap.size) (m1) d (zd) ∧ OwnI w_1 (m1) (w_1.heap.size) p (zp)) := Lib.hid ⟨(S0.out.1).trans (hb1.mono (by omega)), (S0.out.2).below (hb1.mono (by omega)), (by simpa using ho1), (by simpa using hp1)⟩
  clear S0
  clear ho1 hp1 hb1
  -- at w_1: S1: base code d p
  have hd7 := hl_d.1
  have hds := szS_small hl_d
  clear hl_d
  obtain ⟨Ad, cd, rfl, _⟩ := S1.out.2.2.1.rd
  obtain ⟨Ap, cp, rfl, _⟩ := S1.out.2.2.2.rd
  rcases hR : namesR zd zp with y0
  generalize hb : usesOkB zd zp = b
  have HR := Lib.hid (And.intro hR hb); clear hR hb
  go_wp2_with fail
  refine (NamesOf_I _ zd _ zp _ ((S1.out.2.2.1).rd) (by omega) hds ((S1.out.2.2.2).rd) (by omega) y0 HR.out.1).mono ?_
  rintro e w_2 ⟨u, rfl, ho2, hb2⟩
  have hz2 : w_1.heap.size ≤ w_2.heap.size := by have := hb2.size; simpa using this
  replace hb2 : Below (w_1.heap.size) w_1 w_2 := by simpa using hb2
  have S2 : Hid (Below w0.heap.size w0 w_2 ∧ RdBC w_2 w0.heap.size (.slice A0 x0.length c0) (x0) ∧ OwnS w_2 (w0.heap.size) (m1) (.slice Ad zd.length cd) (zd) ∧ OwnI w_2 (m1) (w_1.heap.size) (.slice Ap zp.length cp) (zp) ∧ OwnI w_2 (w_1.heap.size) (w_2.heap.size) u (y0)) := Lib.hid ⟨(S1.out.1).trans (hb2.mono (by omega)), (S1.out.2.1).below (hb2.mono (by omega)), (S1.out.2.2.1).belowB hb2 (by omega), (S1.out.2.2.2).belowB hb2 (by omega), (by simpa using ho2)⟩
  clear S1
  clear ho2 hb2
  go_wp2_with fail
  refine (NamesOf_S _ zd _ zp _ ((S2.out.2.2.1).rd) (by omega) hds ((S2.out.2.2.2.1).rd) (by omega) y0 HR.out.1).mono ?_
  rintro e w_3 ⟨v, rfl, ho3, hb3⟩
  have hz3 : w_2.heap.size ≤ w_3.heap.size := by have := hb3.size; simpa using this
  replace hb3 : Below (w_2.heap.size) w_2 w_3 := by simpa using hb3
  have S3 : Hid (Below w0.heap.size w0 w_3 ∧ RdBC w_3 w0.heap.size (.slice A0 x0.length c0) (x0) ∧ OwnS w_3 (w0.heap.size) (m1) (.slice Ad zd.length cd) (zd) ∧ OwnI w_3 (m1) (w_1.heap.size) (.slice Ap zp.length cp) (zp) ∧ OwnI w_3 (w_1.heap.size) (w_2.heap.size) u (y0) ∧ OwnI w_3 (w_2.heap.size) (w_3.heap.size) v (y0)) := Lib.hid ⟨(S2.out.1).trans (hb3.mono (by omega)), (S2.out.2.1).below (hb3.mono (by omega)), (S2.out.2.2.1).belowB hb3 (by omega), (S2.out.2.2.2.1).belowB hb3 (by omega), (S2.out.2.2.2.2).belowB hb3 (by omega), (by simpa using ho3)⟩
  clear S2
  clear ho3 hb3
  go_wp2_with fail
  refine (smI _ _ y0 y0 _ ((S3.out.2.2.2.2.1).rd) ((S3.out.2.2.2.2.2).rd) true (by simp)).mono ?_
  rintro e w_4 ⟨rfl, hb4⟩
  have hz4 : w_3.heap.size ≤ w_4.heap.size := by have := hb4.size; simpa using this
  replace hb4 : Below (w_3.heap.size) w_3 w_4 := by simpa using hb4
  have S4 : Hid (Below w0.heap.size w0 w_4 ∧ RdBC w_4 w0.heap.size (.slice A0 x0.length c0) (x0) ∧ OwnS w_4 (w0.heap.size) (m1) (.slice Ad zd.length cd) (zd) ∧ OwnI w_4 (m1) (w_1.heap.size) (.slice Ap zp.length cp) (zp) ∧ OwnI w_4 (w_1.heap.size) (w_2.heap.size) u (y0) ∧ OwnI w_4 (w_2.heap.size) (w_3.heap.size) v (y0)) := Lib.hid ⟨(S3.out.1).trans (hb4.mono (by omega)), (S3.out.2.1).below (hb4.mono (by omega)), (S3.out.2.2.1).belowB hb4 (by omega), (S3.out.2.2.2.1).belowB hb4 (by omega), (S3.out.2.2.2.2.1).belowB hb4 (by omega), (S3.out.2.2.2.2.2).belowB hb4 (by omega)⟩
  clear S3
  clear hb4
  go_wp2_with fail
  refine (UsesOk_S _ zd _ zp _ ((S4.out.2.2.1).rd) (by omega) hds ((S4.out.2.2.2.1).rd) (by omega) b HR.out.2).mono ?_
  rintro e w_5 ⟨rfl, hb5⟩
  have hz5 : w_4.heap.size ≤ w_5.heap.size := by have := hb5.size; simpa using this
  replace hb5 : Below (w_4.heap.size) w_4 w_5 := by simpa using hb5
  have S5 : Hid (Below w0.heap.size w0 w_5 ∧ RdBC w_5 w0.heap.size (.slice A0 x0.length c0) (x0) ∧ OwnS w_5 (w0.heap.size) (m1) (.slice Ad zd.length cd) (zd) ∧ OwnI w_5 (m1) (w_1.heap.size) (.slice Ap zp.length cp) (zp) ∧ OwnI w_5 (w_1.heap.size) (w_2.heap.size) u (y0) ∧ OwnI w_5 (w_2.heap.size) (w_3.heap.size) v (y0)) := Lib.hid ⟨(S4.out.1).trans (hb5.mono (by omega)), (S4.out.2.1).below (hb5.mono (by omega)), (S4.out.2.2.1).belowB hb5 (by omega), (S4.out.2.2.2.1).belowB hb5 (by omega), (S4.out.2.2.2.2.1).belowB hb5 (by omega), (S4.out.2.2.2.2.2).belowB hb5 (by omega)⟩
  clear S4
  clear hb5
  -- at w_5: S5: base code d p u v
  obtain ⟨Au, cu, rfl, _⟩ := S5.out.2.2.2.2.1.rd
  rcases b with _ | _
  · have hy : y0 = [] := by rw [← HR.out.1, namesR_eq, HR.out.2]; rfl
    subst hy
    go_wp2_with fail
    refine (alive_any _).mono ?_
    rintro e w_6 ⟨rfl, hb6⟩
    have hz6 : w_5.heap.size ≤ w_6.heap.size := by have := hb6.size; simpa using this
    replace hb6 : Below (w_5.heap.size) w_5 w_6 := by simpa using hb6
    have S6 : Hid (Below w0.heap.size w0 w_6 ∧ RdBC w_6 w0.heap.size (.slice A0 x0.length c0) (x0) ∧ OwnS w_6 (w0.heap.size) (m1) (.slice Ad zd.length cd) (zd) ∧ OwnI w_6 (m1) (w_1.heap.size) (.slice Ap zp.length cp) (zp) ∧ OwnI w_6 (w_1.heap.size) (w_2.heap.size) (.slice Au [].length cu) ([]) ∧ OwnI w_6 (w_2.heap.size) (w_3.heap.size) v ([])) := Lib.hid ⟨(S5.out.1).trans (hb6.mono (by omega)), (S5.out.2.1).below (hb6.mono (by omega)), (S5.out.2.2.1).belowB hb6 (by omega), (S5.out.2.2.2.1).belowB hb6 (by omega), (S5.out.2.2.2.2.1).belowB hb6 (by omega), (S5.out.2.2.2.2.2).belowB hb6 (by omega)⟩
    clear S5
    clear hb6
    -- at w_6: S6: base code d p u v
    go_wp2
    go_ret
    exact ⟨rfl, S6.out.1⟩
  · have hy : cntsR zd.length zp = y0 := by rw [← HR.out.1, namesR_eq, HR.out.2]; rfl
    have hu := HR.out.2
    simp only [usesOkB, Bool.and_eq_true] at hu
    have hua := uses_all hu.2
    have hsum := cnts_sum hua zp.length (Nat.le_refl _)
    rw [List.take_length, hy] at hsum
    have hyl : y0.length = zd.length := by rw [← hy]; exact cnts_len _ _
    have hbd : ∀ z ∈ y0, 0 ≤ z ∧ z ≤ (21 : Int) := by
      intro z hz
      rw [← hy] at hz
      have := cnts_small z hz; omega
    have hml := many_le zp
    have HY := Lib.hid (And.intro hsum (And.intro hyl hbd)); clear hsum hbd hua hy hu
    have hyl1 : y0.length ≤ zd.length := Nat.le_of_eq hyl
    have hyl2 : zd.length ≤ y0.length := Nat.le_of_eq hyl.symm
    clear hyl
    go_wp2
    go_loop [6, 7] (fun n i => ∃ k : Nat, k ≤ y0.length ∧ i = .int .i64 k ∧ n = .int .i64 (sumR (y0.take k))) (fun _ i => y0.length - (intOf i).toNat)
    case atStart => exact ⟨0, Nat.zero_le _, rfl, rfl⟩
    case round =>
      obtain ⟨k, hk, rfl, rfl⟩ := hrel
      by_cases hlt : k < y0.length
      · have hkI : (k : Int) < y0.length := by omega
        obtain ⟨_, _, e, hi, _⟩ := S5.out.2.2.2.2.1.rd
        cases e
        obtain ⟨bb, off, rfl, hbb, hcc⟩ := hi.at_ (by omega)
        have hcell := hcc k hlt
        clear hcc hi
        have hst := sum_take9 hlt
        have hb1 := sum_bd (l := y0.take k) (B := 21) (fun z hz => HY.out.2.2 z (List.mem_of_mem_take hz))
        have hzb := HY.out.2.2 (y0.getD k 0) (by rw [List.getD, List.getElem?_eq_getElem hlt]; exact List.getElem_mem hlt)
        rw [List.length_take] at hb1
        have hn1 : 0 ≤ sumR (y0.take k) ∧ sumR (y0.take k) ≤ 200 := by omega
        clear hb1
        have HST := Lib.hid hst; clear hst
        generalize y0.getD k 0 = z at *
        obtain ⟨s, HS⟩ : ∃ s, Hid (sumR (y0.take k) = s) := ⟨_, Lib.hid rfl⟩
        rw [HS.out] at hn1 ⊢
        go_wp2
        go_round
        case rel => exact ⟨k + 1, by omega, by go_num, by rw [HST.out, HS.out]; try go_num⟩
        case measure => simp [intOf]; omega
      · have hke : y0.take k = y0 := List.take_of_length_le (by omega)
        rw [hke, HY.out.1]
        clear hke
        go_wp2
        go_loop [6, 8] (fun n i => ∃ k : Nat, k ≤ zp.length ∧ i = .int .i64 k ∧ n = .int .i64 ((many9 zp : Int) - (many9 (zp.take k) : Int))) (fun _ i => zp.length - (intOf i).toNat)
        case atStart => exact ⟨0, Nat.zero_le _, rfl, by simp [many9]⟩
        case round =>
          obtain ⟨j, hj, rfl, rfl⟩ := hrel
          by_cases hlt2 : j < zp.length
          · have hjI : (j : Int) < zp.length := by omega
            obtain ⟨_, _, e, hi, _⟩ := S5.out.2.2.2.1.rd
            cases e
            obtain ⟨bb, off, rfl, hbb, hcc⟩ := hi.at_ (by omega)
            have hcell := hcc j hlt2
            clear hcc hi
            have hmt := many_take hlt2
            have hml2 := many_le (zp.take j)
            rw [List.length_take] at hml2
            have HMT := Lib.hid hmt; clear hmt
            generalize zp.getD j 0 = z at *
            obtain ⟨s, HS⟩ : ∃ s : Int, Hid ((many9 zp : Int) - (many9 (zp.take j) : Int) = s) := ⟨_, Lib.hid rfl⟩
            have hsb : -100 ≤ s ∧ s ≤ 100 := by rw [← HS.out]; omega
            rw [HS.out]
            clear hml2
            by_cases hz : 1101 ≤ z
            · have hmt := HMT.out
              rw [if_pos hz] at hmt
              have HM2 := Lib.hid hmt; clear hmt HMT
              go_wp2
              go_round
              case rel => exact ⟨j + 1, by omega, by go_num, congrArg (Value.int .i64) (by have := HM2.out; have := HS.out; omega)⟩
              case measure => simp [intOf]; omega
            · have hmt := HMT.out
              rw [if_neg hz] at hmt
              have HM2 := Lib.hid hmt; clear hmt HMT
              go_wp2
              go_round
              case rel => exact ⟨j + 1, by omega, by go_num, congrArg (Value.int .i64) (by have := HM2.out; have := HS.out; omega)⟩
              case measure => simp [intOf]; omega
          · have hje : zp.take j = zp := List.take_of_length_le (by omega)
            rw [hje, Int.sub_self]
            have hleq : ((y0.length : Int) == (zd.length : Int)) = true := by rw [beq_iff_eq]; omega
            clear hje
            go_wp2
            go_ret
            exact ⟨rfl, S5.out.1⟩

theorem fnNamesOf_walk : LawWalk 6 Try.f6 := by
  intro H enc W base args ds ps hval hA
  rw [Try.params6] at hA hval
  obtain ⟨v0, d0, rfl, rfl, h0⟩ := trodAll_one hA
  obtain ⟨A0, c0, zs0, rfl, hi0, hc0⟩ := ints_of_trod Try.underlying22 Try.underlying5 cells_byte (hval 0 _ _ rfl rfl) h0
  exact fnNamesOf_any A0 c0 zs0 W (RdC.mk hi0 hc0)

set_option maxRecDepth 100000 in
theorem fnNamesOf_lifted (os : Os) (started : os.Started) (H : Type) (enc : TypeId × Value → H) :
    ReturnsInHanded {} Try.checked os 6 .any (Rows.fnNamesOfSpec.pre6 enc Try.prog Try.f6 Rows.fnNamesOfRow.domain false) (Rows.fnNamesOfSpec.post enc Try.prog Try.f6 false true false false) := by
  refine returnsInHanded_of_change (C := Try.checked) own started (by kernel_rfl) Try.func6
    (ChangeSpec.witness6 (enc := enc) (C := Try.checked) false ⟨#[], #[.slice none 0 0], []⟩ 8 (by kernel_rfl) (by kernel_rfl) (by kernel_rfl) (by kernel_rfl)) ?_
  intro W base args ds gs before hval hW _ _
  exact law_contract laidOut rfl (by kernel_rfl) rfl (fun H ds hd => by
    match ds, hd with
    | [d0], _ => exact ⟨rfl, rfl, rfl⟩) fnNamesOf_walk W base args ds gs before hval hW

/-- FnNamesOf: the row as it is given. -/
theorem fnNamesOf_holds : Rows.FnNamesOfSaid :=
  OpenClaim.holds_of_wide 6 Try.f6 rfl rfl rfl rfl rfl rfl rfl ⟨rfl, rfl, rfl, rfl, rfl⟩ rfl rfl rfl rfl rfl (by kernel_rfl) Try.func6 (by unfold joinedFacts; rw [pf_enter, pf_lifts, pf_make]; kernel_rfl)
    (of_decide_eq_true (by kernel_rfl)) (by unfold Func.isWrapper; first | (rw [if_pos (by decide +kernel)]; kernel_rfl) | (rw [if_neg (by decide +kernel)]; exact ⟨rfl, rfl⟩))
    (fun os started H enc _ => fnNamesOf_lifted os started H enc)

end Go.Proofs.Ytiaidkhkcbamaaa
