/- FnMeansOf: of every code: MeansOf is its model at the drawn dictionary and program; what is meant is valid and means itself; a name alone means what its program means; a program twice means what it means twice. For every input. -/
import Derived.Test.YtiaidkhkcbamaaaI
import Derived.Test.YtiaidkhkcbamaaaB2
import Derived.Test.YtiaidkhkcbamaaaYq
import Derived.Test.YtiaidkhkcbamaaaYr
import Derived.Test.YtiaidkhkcbamaaaYn
import Derived.Test.YtiaidkhkcbamaaaLift
namespace Go.Proofs.Ytiaidkhkcbamaaa
set_option maxRecDepth 100000
open Go.RowKit Go.WideShapes Go.ChangeShapes

set_option maxHeartbeats 4000000 in
theorem fnMeansOf_any (A0 : Option Addr) (c0 : Nat) (x0 : List Int) (w0 : World) (h0 : RdC w0 (.slice A0 x0.length c0) x0) :
    Calls Try.prog 5 #[.slice A0 x0.length c0] w0 fun e w' => e = .returned (.bool true) ∧ Below w0.heap.size w0 w' := by
  have hm := h0.len_le
  have HH := Lib.hid h0; clear h0
  by_cases hl : x0.length ≤ 1048576
  case neg =>
    go_enter Try.func5, Try.ntmps5
    go_wp2
    go_ret
    exact ⟨rfl, Below.refl _ _⟩
  have S0 : Hid (Below w0.heap.size w0 w0 ∧ RdBC w0 w0.heap.size (.slice A0 x0.length c0) x0) := Lib.hid ⟨Below.refl _ _, HH.out⟩
  clear HH
  go_enter Try.func5, Try.ntmps5
  go_wp2_with fail
  refine (DrawMeansOf_any (.slice A0 x0.length c0) x0 _ ((S0.out.2).rd (by first | omega | (simp <;> omega)))).mono ?_
  rintro e w_1 ⟨d, zd, p, zp, m1, rfl, ho1, hl_d, hp1, hl_p, ha1, hm1, hb1⟩
  have hz1 : w0.heap.size ≤ w_1.heap.size := by have := hb1.size; simpa using this
  replace hb1 : Below (w0.heap.size) w0 w_1 := by simpa using hb1
  have S1 : Hid (Below w0.heap.size w0 w_1 ∧ RdBC w_1 w0.heap.size (.slice A0 x0.length c0) (x0) ∧ OwnS w_1 (w0.heap.size) (m1) d (zd) ∧ OwnI w_1 (m1) (w_1.heap.size) p (zp)) := Lib.hid ⟨(S0.out.1).trans (hb1.mono (by omega)), (S0.out.2).below (hb1.mono (by omega)), (by simpa using ho1), (by simpa using hp1)⟩
  clear S0
  clear ho1 hp1 hb1
  -- at w_1: S1: base code d p
  have hd7 := hl_d.1
  have hds := szS_small hl_d
  clear hl_d
  obtain ⟨Ad, cd, rfl, _⟩ := S1.out.2.2.1.rd
  rcases hR : meansR zd zp with ⟨y0, y1⟩
  have hyl : y0.length ≤ 60 := by have := means_len zd zp; rw [hR] at this; exact this
  have HR := Lib.hid hR; clear hR
  go_wp2_with fail
  refine (MeansOf_I _ zd _ zp _ ((S1.out.2.2.1).rd) (by omega) hds ((S1.out.2.2.2).rd) (by omega) y0 y1 HR.out).mono ?_
  rintro e w_2 ⟨u, rfl, ho2, hb2⟩
  have hz2 : w_1.heap.size ≤ w_2.heap.size := by have := hb2.size; simpa using this
  replace hb2 : Below (w_1.heap.size) w_1 w_2 := by simpa using hb2
  have S2 : Hid (Below w0.heap.size w0 w_2 ∧ RdBC w_2 w0.heap.size (.slice A0 x0.length c0) (x0) ∧ OwnS w_2 (w0.heap.size) (m1) (.slice Ad zd.length cd) (zd) ∧ OwnI w_2 (m1) (w_1.heap.size) p (zp) ∧ OwnI w_2 (w_1.heap.size) (w_2.heap.size) u (y0)) := Lib.hid ⟨(S1.out.1).trans (hb2.mono (by omega)), (S1.out.2.1).below (hb2.mono (by omega)), (S1.out.2.2.1).belowB hb2 (by omega), (S1.out.2.2.2).belowB hb2 (by omega), (by simpa using ho2)⟩
  clear S1
  clear ho2 hb2
  go_wp2_with fail
  refine (MeansOf_S _ zd _ zp _ ((S2.out.2.2.1).rd) (by omega) hds ((S2.out.2.2.2.1).rd) (by omega) y0 y1 HR.out).mono ?_
  rintro e w_3 ⟨v, rfl, ho3, hb3⟩
  have hz3 : w_2.heap.size ≤ w_3.heap.size := by have := hb3.size; simpa using this
  replace hb3 : Below (w_2.heap.size) w_2 w_3 := by simpa using hb3
  have S3 : Hid (Below w0.heap.size w0 w_3 ∧ RdBC w_3 w0.heap.size (.slice A0 x0.length c0) (x0) ∧ OwnS w_3 (w0.heap.size) (m1) (.slice Ad zd.length cd) (zd) ∧ OwnI w_3 (m1) (w_1.heap.size) p (zp) ∧ OwnI w_3 (w_1.heap.size) (w_2.heap.size) u (y0) ∧ OwnI w_3 (w_2.heap.size) (w_3.heap.size) v (y0)) := Lib.hid ⟨(S2.out.1).trans (hb3.mono (by omega)), (S2.out.2.1).below (hb3.mono (by omega)), (S2.out.2.2.1).belowB hb3 (by omega), (S2.out.2.2.2.1).belowB hb3 (by omega), (S2.out.2.2.2.2).belowB hb3 (by omega), (by simpa using ho3)⟩
  clear S2
  clear ho3 hb3
  go_wp2_with fail
  refine (smI _ _ y0 y0 _ ((S3.out.2.2.2.2.1).rd) ((S3.out.2.2.2.2.2).rd) true (by simp)).mono ?_
  rintro e w_4 ⟨rfl, hb4⟩
  have hz4 : w_3.heap.size ≤ w_4.heap.size := by have := hb4.size; simpa using this
  replace hb4 : Below (w_3.heap.size) w_3 w_4 := by simpa using hb4
  have S4 : Hid (Below w0.heap.size w0 w_4 ∧ RdBC w_4 w0.heap.size (.slice A0 x0.length c0) (x0) ∧ OwnS w_4 (w0.heap.size) (m1) (.slice Ad zd.length cd) (zd) ∧ OwnI w_4 (m1) (w_1.heap.size) p (zp) ∧ OwnI w_4 (w_1.heap.size) (w_2.heap.size) u (y0) ∧ OwnI w_4 (w_2.heap.size) (w_3.heap.size) v (y0)) := Lib.hid ⟨(S3.out.1).trans (hb4.mono (by omega)), (S3.out.2.1).below (hb4.mono (by omega)), (S3.out.2.2.1).belowB hb4 (by omega), (S3.out.2.2.2.1).belowB hb4 (by omega), (S3.out.2.2.2.2.1).belowB hb4 (by omega), (S3.out.2.2.2.2.2).belowB hb4 (by omega)⟩
  clear S3
  clear hb4
  -- at w_4: S4: base code d p u v
  obtain ⟨Au, cu, rfl, _⟩ := S4.out.2.2.2.2.1.rd
  rcases y1 with _ | _
  · have hy := means_no HR.out
    subst hy
    go_wp2_with fail
    refine (alive_any _).mono ?_
    rintro e w_5 ⟨rfl, hb5⟩
    have hz5 : w_4.heap.size ≤ w_5.heap.size := by have := hb5.size; simpa using this
    replace hb5 : Below (w_4.heap.size) w_4 w_5 := by simpa using hb5
    have S5 : Hid (Below w0.heap.size w0 w_5 ∧ RdBC w_5 w0.heap.size (.slice A0 x0.length c0) (x0) ∧ OwnS w_5 (w0.heap.size) (m1) (.slice Ad zd.length cd) (zd) ∧ OwnI w_5 (m1) (w_1.heap.size) p (zp) ∧ OwnI w_5 (w_1.heap.size) (w_2.heap.size) (.slice Au [].length cu) ([]) ∧ OwnI w_5 (w_2.heap.size) (w_3.heap.size) v ([])) := Lib.hid ⟨(S4.out.1).trans (hb5.mono (by omega)), (S4.out.2.1).below (hb5.mono (by omega)), (S4.out.2.2.1).belowB hb5 (by omega), (S4.out.2.2.2.1).belowB hb5 (by omega), (S4.out.2.2.2.2.1).belowB hb5 (by omega), (S4.out.2.2.2.2.2).belowB hb5 (by omega)⟩
    clear S4
    clear hb5
    -- at w_5: S5: base code d p u v
    go_wp2
    go_ret
    exact ⟨rfl, S5.out.1⟩
  · have hyes := means_yes HR.out
    have hself := means_self HR.out
    have hdd : dictB zd = true := by have := hyes.1; simp only [usesOkB, Bool.and_eq_true] at this; exact this.1
    have HM := Lib.hid (And.intro hdd (And.intro hself hyes.2.2.2)); clear hdd hself hyes
    have HX := Lib.hid S4.out
    have hz9 : w0.heap.size ≤ w_4.heap.size := S4.out.1.size
    go_wp2
    go_loopw [9] (fun i wr => ∃ k : Nat, k ≤ zd.length ∧ i = .int .i64 k ∧ Below w_4.heap.size w_4 wr) (fun i _ => zd.length - (intOf i).toNat)
    case atStart => exact ⟨0, Nat.zero_le _, rfl, Below.refl _ _⟩
    case round =>
      obtain ⟨k, hk, rfl, hbk⟩ := hrel
      have HB := Lib.hid hbk; clear hbk
      have hzk := HB.out.size
      by_cases hlt : k < zd.length
      · have hkI : (k : Int) < zd.length := by omega
        have hx : zd[k]? = some zd[k] := List.getElem?_eq_getElem hlt
        have hmn := means_name HM.out.1 hx
        obtain ⟨b, off, q, rfl, hbq, hcell, hq⟩ := HX.out.2.2.1.rd.get hx
        have hqs : (zd[k]).length ≤ 1048576 := by
          have h1 := szS_take_succ zd k _ hx
          have h2 := szS_take_le zd (k + 1)
          omega
        replace hcell := (HB.out.cell (p := ⟨b, off + k, none⟩) hbq).trans hcell
        have hqr := (hq.below HB.out).rd HB.out.size
        obtain ⟨y, HY⟩ : ∃ y, Hid (1101 + (k : Int) = y) := ⟨_, Lib.hid rfl⟩
        rw [HY.out] at hmn
        have hyb : 1101 ≤ y ∧ y ≤ 1107 := by rw [← HY.out]; omega
        generalize zd[k] = xk at *
        rcases hmq : meansR zd xk with ⟨a0, a1⟩
        rw [hmq] at hmn
        have HQ := Lib.hid (And.intro hmn (And.intro hmq hqr)); clear hmn hmq hqr hq hx
        have hbl : Below wr.heap.size wr (wr.alloc (.cells #[.int .i64 y] 3)) := (Below.refl _ _).alloc (Nat.le_refl _) _
        have hol := lits_own wr [y] (by simp) (by intro z hz; simp only [List.mem_cons, List.not_mem_nil, or_false] at hz; apply wf_near; omega)
        simp only [List.map_cons, List.map_nil, List.length_cons, List.length_nil, Nat.zero_add] at hol
        have HL := Lib.hid (And.intro (HB.out.trans (hbl.mono hzk)) (And.intro hol.rd (HQ.out.2.2.step hbl))); clear hbl hol
        have hszl : (wr.alloc (.cells #[.int .i64 y] 3)).heap.size = wr.heap.size + 1 := by simp
        go_wp2_with fail
        rw [HY.out]
        refine (MeansOf_I _ zd _ [y] _ (RdS.step HX.out.2.2.1.rd HL.out.1) (by omega) hds HL.out.2.1 (by simp) a0 a1 HQ.out.1).mono ?_
        rintro e x1 ⟨va, rfl, hoa, hb1⟩
        have hz1 : wr.heap.size + 1 ≤ x1.heap.size := by have := hb1.size; omega
        have hcell1 : x1.cell? ⟨b, off + k, none⟩ = some q := by
          have h9 : b < wr.heap.size := by omega
          rw [hb1.cell (p := ⟨b, off + k, none⟩) (by show b < _; omega), World.cell?_alloc_lt wr _ _ h9]; exact hcell
        have HA := Lib.hid (And.intro (HL.out.1.trans (hb1.mono (by omega))) (And.intro hoa (HL.out.2.2.step hb1))); clear hb1 hoa
        clear hszl hcell
        go_wp2_with fail
        refine (MeansOf_I _ zd _ xk _ (RdS.step HX.out.2.2.1.rd HA.out.1) (by omega) hds HA.out.2.2 hqs a0 a1 HQ.out.2.1).mono ?_
        rintro e x2 ⟨vb, rfl, hob, hb2⟩
        have hz2 : x1.heap.size ≤ x2.heap.size := hb2.size
        have HBB := Lib.hid (And.intro (HA.out.1.trans (hb2.mono (by omega))) (And.intro (HA.out.2.1.below hb2) hob)); clear hb2 hob
        go_wp2_with fail
        refine (smI _ _ a0 a0 _ HBB.out.2.1.rd HBB.out.2.2.rd true (by simp)).mono ?_
        rintro e x3 ⟨rfl, hb3⟩
        have HC := Lib.hid (HBB.out.1.trans (hb3.mono (by omega))); clear hb3
        go_wp2
        go_roundw
        case rel => exact ⟨k + 1, by omega, by go_num, HC.out⟩
        case measure => simp [intOf]; omega
      · have T0 : Hid (Below w0.heap.size w0 wr ∧ OwnS wr w0.heap.size wr.heap.size (.slice Ad zd.length cd) zd ∧ RdBI wr wr.heap.size p zp ∧ RdBI wr wr.heap.size (.slice Au y0.length cu) y0) := by
          exact Lib.hid ⟨HX.out.1.trans (HB.out.mono hz9), by
            have h9 := HX.out.2.2.1.below HB.out
            obtain ⟨vs, h9⟩ := h9
            exact ⟨vs, h9.len, h9.row, fun g hg => by have := h9.lt g hg; omega, fun j u zs hu hz => (h9.inner j u zs hu hz).widen (by omega), h9.apart⟩, HX.out.2.2.2.1.rd.step HB.out, HX.out.2.2.2.2.1.rd.step HB.out⟩
        rcases htw : meansR zd (([] ++ zp) ++ zp) with ⟨t0, t1⟩
        have htl : t0.length ≤ 60 := by have := means_len zd (([] ++ zp) ++ zp); rw [htw] at this; exact this
        have hteq : t1 = true → t0 = ([] ++ y0) ++ y0 := fun h => by subst h; exact means_twice HR.out htw
        have HT := Lib.hid (And.intro htw hteq); clear htw hteq HX
        have hb21 : Below (wr.heap.size) wr (wr.alloc (.cells #[] 3)) := (Below.refl _ _).alloc (by first | omega | simp) _
        have ho21 := lits_own wr [] (by simp) (by simp)
        have S21 : Hid (Below w0.heap.size w0 (wr.alloc (.cells #[] 3)) ∧ OwnS (wr.alloc (.cells #[] 3)) (w0.heap.size) (wr.heap.size) (.slice Ad zd.length cd) (zd) ∧ RdBI (wr.alloc (.cells #[] 3)) (wr.heap.size) p (zp) ∧ RdBI (wr.alloc (.cells #[] 3)) (wr.heap.size) (.slice Au y0.length cu) (y0) ∧ OwnI (wr.alloc (.cells #[] 3)) (wr.heap.size) (wr.heap.size + 1) (.slice (some ⟨wr.heap.size, 0, none⟩) 0 0) ([])) := Lib.hid ⟨(T0.out.1).trans (hb21.mono (by omega)), (T0.out.2.1).belowB hb21 (by omega), (T0.out.2.2.1).below (hb21.mono (by omega)), (T0.out.2.2.2).below (hb21.mono (by omega)), (by simpa using ho21)⟩
        clear T0
        clear hb21 ho21
        go_wp2_with (at_builtin; refine wpList_append_V rfl _ _ _ rfl Try.underlying28 intInfo (wr.heap.size) (wr.heap.size + 1) (.slice (some ⟨wr.heap.size, 0, none⟩) 0 0) ([]) rfl S21.out.2.2.2.2 (by first | omega | (simp <;> omega)) p (zp) rfl ((S21.out.2.2.1).rd (by first | omega | (simp <;> omega))) (by first | omega | (simp <;> omega)) ?_)
        intro a1 w_22 ho22 hb22
        have hz22 : wr.heap.size + 1 ≤ w_22.heap.size := by have := hb22.size; simpa using this
        have S22 : Hid (Below w0.heap.size w0 w_22 ∧ OwnS w_22 (w0.heap.size) (wr.heap.size) (.slice Ad zd.length cd) (zd) ∧ RdBI w_22 (wr.heap.size) p (zp) ∧ RdBI w_22 (wr.heap.size) (.slice Au y0.length cu) (y0) ∧ OwnI w_22 (wr.heap.size) (w_22.heap.size) a1 (([]) ++ (zp))) := Lib.hid ⟨(S21.out.1).trans (hb22.mono (by omega)), (S21.out.2.1).belowB hb22 (by omega), (S21.out.2.2.1).below (hb22.mono (by omega)), (S21.out.2.2.2.1).below (hb22.mono (by omega)), (by simpa using ho22)⟩
        clear S21
        clear ho22 hb22
        go_wp2_with (at_builtin; refine wpList_append_V rfl _ _ _ rfl Try.underlying28 intInfo (wr.heap.size) (w_22.heap.size) a1 (([]) ++ (zp)) rfl S22.out.2.2.2.2 (by first | omega | (simp <;> omega)) p (zp) rfl ((S22.out.2.2.1).rd (by first | omega | (simp <;> omega))) (by first | omega | (simp <;> omega)) ?_)
        intro a2 w_23 ho23 hb23
        have hz23 : w_22.heap.size ≤ w_23.heap.size := by have := hb23.size; simpa using this
        have S23 : Hid (Below w0.heap.size w0 w_23 ∧ OwnS w_23 (w0.heap.size) (wr.heap.size) (.slice Ad zd.length cd) (zd) ∧ RdBI w_23 (wr.heap.size) p (zp) ∧ RdBI w_23 (wr.heap.size) (.slice Au y0.length cu) (y0) ∧ OwnI w_23 (wr.heap.size) (w_23.heap.size) a2 ((([]) ++ (zp)) ++ (zp))) := Lib.hid ⟨(S22.out.1).trans (hb23.mono (by omega)), (S22.out.2.1).belowB hb23 (by omega), (S22.out.2.2.1).below (hb23.mono (by omega)), (S22.out.2.2.2.1).below (hb23.mono (by omega)), (by simpa using ho23)⟩
        clear S22
        clear ho23 hb23
        go_wp2_with fail
        refine (MeansOf_I _ zd _ _ _ ((S23.out.2.1).rd) (by omega) hds ((S23.out.2.2.2.2).rd) (by simp; omega) t0 t1 HT.out.1).mono ?_
        rintro e w_24 ⟨t, rfl, ho24, hb24⟩
        have hz24 : w_23.heap.size ≤ w_24.heap.size := by have := hb24.size; simpa using this
        replace hb24 : Below (w_23.heap.size) w_23 w_24 := by simpa using hb24
        have S24 : Hid (Below w0.heap.size w0 w_24 ∧ OwnS w_24 (w0.heap.size) (wr.heap.size) (.slice Ad zd.length cd) (zd) ∧ RdBI w_24 (wr.heap.size) p (zp) ∧ RdBI w_24 (wr.heap.size) (.slice Au y0.length cu) (y0) ∧ OwnI w_24 (wr.heap.size) (w_23.heap.size) a2 ((([]) ++ (zp)) ++ (zp)) ∧ OwnI w_24 (w_23.heap.size) (w_24.heap.size) t (t0)) := Lib.hid ⟨(S23.out.1).trans (hb24.mono (by omega)), (S23.out.2.1).belowB hb24 (by omega), (S23.out.2.2.1).below (hb24.mono (by omega)), (S23.out.2.2.2.1).below (hb24.mono (by omega)), (S23.out.2.2.2.2).belowB hb24 (by omega), (by simpa using ho24)⟩
        clear S23
        clear ho24 hb24
        go_wp2_with fail
        refine (MeansOf_I _ zd _ y0 _ ((S24.out.2.1).rd) (by omega) hds ((S24.out.2.2.2.1).rd (by first | omega | (simp <;> omega))) (by omega) y0 true HM.out.2.1).mono ?_
        rintro e w_25 ⟨s, rfl, ho25, hb25⟩
        have hz25 : w_24.heap.size ≤ w_25.heap.size := by have := hb25.size; simpa using this
        replace hb25 : Below (w_24.heap.size) w_24 w_25 := by simpa using hb25
        have S25 : Hid (Below w0.heap.size w0 w_25 ∧ OwnS w_25 (w0.heap.size) (wr.heap.size) (.slice Ad zd.length cd) (zd) ∧ RdBI w_25 (wr.heap.size) p (zp) ∧ RdBI w_25 (wr.heap.size) (.slice Au y0.length cu) (y0) ∧ OwnI w_25 (wr.heap.size) (w_23.heap.size) a2 ((([]) ++ (zp)) ++ (zp)) ∧ OwnI w_25 (w_23.heap.size) (w_24.heap.size) t (t0) ∧ OwnI w_25 (w_24.heap.size) (w_25.heap.size) s (y0)) := Lib.hid ⟨(S24.out.1).trans (hb25.mono (by omega)), (S24.out.2.1).belowB hb25 (by omega), (S24.out.2.2.1).below (hb25.mono (by omega)), (S24.out.2.2.2.1).below (hb25.mono (by omega)), (S24.out.2.2.2.2.1).belowB hb25 (by omega), (S24.out.2.2.2.2.2).belowB hb25 (by omega), (by simpa using ho25)⟩
        clear S24
        clear ho25 hb25
        go_wp2_with fail
        refine (ProgValid_I _ y0 _ ((S25.out.2.2.2.1).rd (by first | omega | (simp <;> omega))) (by omega) true HM.out.2.2).mono ?_
        rintro e w_26 ⟨rfl, hb26⟩
        have hz26 : w_25.heap.size ≤ w_26.heap.size := by have := hb26.size; simpa using this
        replace hb26 : Below (w_25.heap.size) w_25 w_26 := by simpa using hb26
        have S26 : Hid (Below w0.heap.size w0 w_26 ∧ OwnS w_26 (w0.heap.size) (wr.heap.size) (.slice Ad zd.length cd) (zd) ∧ RdBI w_26 (wr.heap.size) p (zp) ∧ RdBI w_26 (wr.heap.size) (.slice Au y0.length cu) (y0) ∧ OwnI w_26 (wr.heap.size) (w_23.heap.size) a2 ((([]) ++ (zp)) ++ (zp)) ∧ OwnI w_26 (w_23.heap.size) (w_24.heap.size) t (t0) ∧ OwnI w_26 (w_24.heap.size) (w_25.heap.size) s (y0)) := Lib.hid ⟨(S25.out.1).trans (hb26.mono (by omega)), (S25.out.2.1).belowB hb26 (by omega), (S25.out.2.2.1).below (hb26.mono (by omega)), (S25.out.2.2.2.1).below (hb26.mono (by omega)), (S25.out.2.2.2.2.1).belowB hb26 (by omega), (S25.out.2.2.2.2.2.1).belowB hb26 (by omega), (S25.out.2.2.2.2.2.2).belowB hb26 (by omega)⟩
        clear S25
        clear hb26
        go_wp2_with fail
        refine (smI _ _ y0 y0 _ ((S26.out.2.2.2.2.2.2).rd) ((S26.out.2.2.2.1).rd (by first | omega | (simp <;> omega))) true (by simp)).mono ?_
        rintro e w_27 ⟨rfl, hb27⟩
        have hz27 : w_26.heap.size ≤ w_27.heap.size := by have := hb27.size; simpa using this
        replace hb27 : Below (w_26.heap.size) w_26 w_27 := by simpa using hb27
        have S27 : Hid (Below w0.heap.size w0 w_27 ∧ OwnS w_27 (w0.heap.size) (wr.heap.size) (.slice Ad zd.length cd) (zd) ∧ RdBI w_27 (wr.heap.size) p (zp) ∧ RdBI w_27 (wr.heap.size) (.slice Au y0.length cu) (y0) ∧ OwnI w_27 (wr.heap.size) (w_23.heap.size) a2 ((([]) ++ (zp)) ++ (zp)) ∧ OwnI w_27 (w_23.heap.size) (w_24.heap.size) t (t0) ∧ OwnI w_27 (w_24.heap.size) (w_25.heap.size) s (y0)) := Lib.hid ⟨(S26.out.1).trans (hb27.mono (by omega)), (S26.out.2.1).belowB hb27 (by omega), (S26.out.2.2.1).below (hb27.mono (by omega)), (S26.out.2.2.2.1).below (hb27.mono (by omega)), (S26.out.2.2.2.2.1).belowB hb27 (by omega), (S26.out.2.2.2.2.2.1).belowB hb27 (by omega), (S26.out.2.2.2.2.2.2).belowB hb27 (by omega)⟩
        clear S26
        clear hb27
        -- at w_27: S27: base d p u a2 t s
        rcases t1 with _ | _
        · go_wp2
          go_ret
          exact ⟨rfl, S27.out.1⟩
        · have hte := HT.out.2 rfl
          have HTE := Lib.hid hte; clear hte
          have hb28 : Below (w_27.heap.size) w_27 (w_27.alloc (.cells #[] 3)) := (Below.refl _ _).alloc (by first | omega | simp) _
          have ho28 := lits_own w_27 [] (by simp) (by simp)
          have S28 : Hid (Below w0.heap.size w0 (w_27.alloc (.cells #[] 3)) ∧ OwnS (w_27.alloc (.cells #[] 3)) (w0.heap.size) (wr.heap.size) (.slice Ad zd.length cd) (zd) ∧ RdBI (w_27.alloc (.cells #[] 3)) (wr.heap.size) p (zp) ∧ RdBI (w_27.alloc (.cells #[] 3)) (wr.heap.size) (.slice Au y0.length cu) (y0) ∧ OwnI (w_27.alloc (.cells #[] 3)) (wr.heap.size) (w_23.heap.size) a2 ((([]) ++ (zp)) ++ (zp)) ∧ OwnI (w_27.alloc (.cells #[] 3)) (w_23.heap.size) (w_24.heap.size) t (t0) ∧ OwnI (w_27.alloc (.cells #[] 3)) (w_24.heap.size) (w_25.heap.size) s (y0) ∧ OwnI (w_27.alloc (.cells #[] 3)) (w_27.heap.size) (w_27.heap.size + 1) (.slice (some ⟨w_27.heap.size, 0, none⟩) 0 0) ([])) := Lib.hid ⟨(S27.out.1).trans (hb28.mono (by omega)), (S27.out.2.1).belowB hb28 (by omega), (S27.out.2.2.1).below (hb28.mono (by omega)), (S27.out.2.2.2.1).below (hb28.mono (by omega)), (S27.out.2.2.2.2.1).belowB hb28 (by omega), (S27.out.2.2.2.2.2.1).belowB hb28 (by omega), (S27.out.2.2.2.2.2.2).belowB hb28 (by omega), (by simpa using ho28)⟩
          clear S27
          clear hb28 ho28
          go_wp2_with (at_builtin; refine wpList_append_G (by go_simp) _ _ _ rfl Try.underlying28 intInfo (w_27.heap.size) (w_27.heap.size + 1) (.slice (some ⟨w_27.heap.size, 0, none⟩) 0 0) ([]) rfl S28.out.2.2.2.2.2.2.2 (by first | omega | (simp <;> omega)) (.slice Au y0.length cu) (y0) rfl ((S28.out.2.2.2.1).rd (by first | omega | (simp <;> omega))) (by first | omega | (simp <;> omega)) ?_)
          intro b1 w_29 ho29 hb29
          have hz29 : w_27.heap.size + 1 ≤ w_29.heap.size := by have := hb29.size; simpa using this
          have S29 : Hid (Below w0.heap.size w0 w_29 ∧ OwnS w_29 (w0.heap.size) (wr.heap.size) (.slice Ad zd.length cd) (zd) ∧ RdBI w_29 (wr.heap.size) p (zp) ∧ RdBI w_29 (wr.heap.size) (.slice Au y0.length cu) (y0) ∧ OwnI w_29 (wr.heap.size) (w_23.heap.size) a2 ((([]) ++ (zp)) ++ (zp)) ∧ OwnI w_29 (w_23.heap.size) (w_24.heap.size) t (t0) ∧ OwnI w_29 (w_24.heap.size) (w_25.heap.size) s (y0) ∧ OwnI w_29 (w_27.heap.size) (w_29.heap.size) b1 (([]) ++ (y0))) := Lib.hid ⟨(S28.out.1).trans (hb29.mono (by omega)), (S28.out.2.1).belowB hb29 (by omega), (S28.out.2.2.1).below (hb29.mono (by omega)), (S28.out.2.2.2.1).below (hb29.mono (by omega)), (S28.out.2.2.2.2.1).belowB hb29 (by omega), (S28.out.2.2.2.2.2.1).belowB hb29 (by omega), (S28.out.2.2.2.2.2.2.1).belowB hb29 (by omega), (by simpa using ho29)⟩
          clear S28
          clear ho29 hb29
          go_wp2_with (at_builtin; refine wpList_append_G (by go_simp) _ _ _ rfl Try.underlying28 intInfo (w_27.heap.size) (w_29.heap.size) b1 (([]) ++ (y0)) rfl S29.out.2.2.2.2.2.2.2 (by first | omega | (simp <;> omega)) (.slice Au y0.length cu) (y0) rfl ((S29.out.2.2.2.1).rd (by first | omega | (simp <;> omega))) (by first | omega | (simp <;> omega)) ?_)
          intro b2 w_30 ho30 hb30
          have hz30 : w_29.heap.size ≤ w_30.heap.size := by have := hb30.size; simpa using this
          have S30 : Hid (Below w0.heap.size w0 w_30 ∧ OwnS w_30 (w0.heap.size) (wr.heap.size) (.slice Ad zd.length cd) (zd) ∧ RdBI w_30 (wr.heap.size) p (zp) ∧ RdBI w_30 (wr.heap.size) (.slice Au y0.length cu) (y0) ∧ OwnI w_30 (wr.heap.size) (w_23.heap.size) a2 ((([]) ++ (zp)) ++ (zp)) ∧ OwnI w_30 (w_23.heap.size) (w_24.heap.size) t (t0) ∧ OwnI w_30 (w_24.heap.size) (w_25.heap.size) s (y0) ∧ OwnI w_30 (w_27.heap.size) (w_30.heap.size) b2 ((([]) ++ (y0)) ++ (y0))) := Lib.hid ⟨(S29.out.1).trans (hb30.mono (by omega)), (S29.out.2.1).belowB hb30 (by omega), (S29.out.2.2.1).below (hb30.mono (by omega)), (S29.out.2.2.2.1).below (hb30.mono (by omega)), (S29.out.2.2.2.2.1).belowB hb30 (by omega), (S29.out.2.2.2.2.2.1).belowB hb30 (by omega), (S29.out.2.2.2.2.2.2.1).belowB hb30 (by omega), (by simpa using ho30)⟩
          clear S29
          clear ho30 hb30
          go_wp2_with fail
          refine (smI _ _ t0 _ _ ((S30.out.2.2.2.2.2.1).rd) ((S30.out.2.2.2.2.2.2.2).rd) true (by rw [HTE.out]; simp)).mono ?_
          rintro e w_31 ⟨rfl, hb31⟩
          have hz31 : w_30.heap.size ≤ w_31.heap.size := by have := hb31.size; simpa using this
          replace hb31 : Below (w_30.heap.size) w_30 w_31 := by simpa using hb31
          have S31 : Hid (Below w0.heap.size w0 w_31 ∧ OwnS w_31 (w0.heap.size) (wr.heap.size) (.slice Ad zd.length cd) (zd) ∧ RdBI w_31 (wr.heap.size) p (zp) ∧ RdBI w_31 (wr.heap.size) (.slice Au y0.length cu) (y0) ∧ OwnI w_31 (wr.heap.size) (w_23.heap.size) a2 ((([]) ++ (zp)) ++ (zp)) ∧ OwnI w_31 (w_23.heap.size) (w_24.heap.size) t (t0) ∧ OwnI w_31 (w_24.heap.size) (w_25.heap.size) s (y0) ∧ OwnI w_31 (w_27.heap.size) (w_30.heap.size) b2 ((([]) ++ (y0)) ++ (y0))) := Lib.hid ⟨(S30.out.1).trans (hb31.mono (by omega)), (S30.out.2.1).belowB hb31 (by omega), (S30.out.2.2.1).below (hb31.mono (by omega)), (S30.out.2.2.2.1).below (hb31.mono (by omega)), (S30.out.2.2.2.2.1).belowB hb31 (by omega), (S30.out.2.2.2.2.2.1).belowB hb31 (by omega), (S30.out.2.2.2.2.2.2.1).belowB hb31 (by omega), (S30.out.2.2.2.2.2.2.2).belowB hb31 (by omega)⟩
          clear S30
          clear hb31
          -- at w_31: S31: base d p u a2 t s b2
          go_wp2
          go_ret
          exact ⟨rfl, S31.out.1⟩

theorem fnMeansOf_walk : LawWalk 5 Try.f5 := by
  intro H enc W base args ds ps hval hA
  rw [Try.params5] at hA hval
  obtain ⟨v0, d0, rfl, rfl, h0⟩ := trodAll_one hA
  obtain ⟨A0, c0, zs0, rfl, hi0, hc0⟩ := ints_of_trod Try.underlying22 Try.underlying5 cells_byte (hval 0 _ _ rfl rfl) h0
  exact fnMeansOf_any A0 c0 zs0 W (RdC.mk hi0 hc0)

set_option maxRecDepth 100000 in
theorem fnMeansOf_lifted (os : Os) (started : os.Started) (H : Type) (enc : TypeId × Value → H) :
    ReturnsInHanded {} Try.checked os 5 .any (Rows.fnMeansOfSpec.pre6 enc Try.prog Try.f5 Rows.fnMeansOfRow.domain false) (Rows.fnMeansOfSpec.post enc Try.prog Try.f5 false true false false) := by
  refine returnsInHanded_of_change (C := Try.checked) own started (by kernel_rfl) Try.func5
    (ChangeSpec.witness6 (enc := enc) (C := Try.checked) false ⟨#[], #[.slice none 0 0], []⟩ 8 (by kernel_rfl) (by kernel_rfl) (by kernel_rfl) (by kernel_rfl)) ?_
  intro W base args ds gs before hval hW _ _
  exact law_contract laidOut rfl (by kernel_rfl) rfl (fun H ds hd => by
    match ds, hd with
    | [d0], _ => exact ⟨rfl, rfl, rfl⟩) fnMeansOf_walk W base args ds gs before hval hW

/-- FnMeansOf: the row as it is given. -/
theorem fnMeansOf_holds : Rows.FnMeansOfSaid :=
  OpenClaim.holds_of_wide 5 Try.f5 rfl rfl rfl rfl rfl rfl rfl ⟨rfl, rfl, rfl, rfl, rfl⟩ rfl rfl rfl rfl rfl (by kernel_rfl) Try.func5 (by unfold joinedFacts; rw [pf_enter, pf_lifts, pf_make]; kernel_rfl)
    (of_decide_eq_true (by kernel_rfl)) (by unfold Func.isWrapper; first | (rw [if_pos (by decide +kernel)]; kernel_rfl) | (rw [if_neg (by decide +kernel)]; exact ⟨rfl, rfl⟩))
    (fun os started H enc _ => fnMeansOf_lifted os started H enc)

end Go.Proofs.Ytiaidkhkcbamaaa
