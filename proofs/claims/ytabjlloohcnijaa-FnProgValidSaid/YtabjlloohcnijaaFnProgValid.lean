/- FnProgValid: of every code: ProgValid is its model at the drawn program; in brackets, as far as it fits, a valid program is valid; with a closing bracket more it is not. For every input. -/
import Derived.Test.YtabjlloohcnijaaI
import Derived.Test.YtabjlloohcnijaaU
import Derived.Test.YtabjlloohcnijaaLift
namespace Go.Proofs.Ytabjlloohcnijaa
open Go.RowKit Go.WideShapes Go.ChangeShapes

theorem nil_rd (w : World) : RdI w (.slice none 0 0) [] := ⟨none, 0, rfl, IntsK.nil _ _ _ _, by simp⟩
theorem validB_end {p : List Int} (h : validB p = true) : validB (p ++ [1013]) = false := by
  simp only [validB, Bool.and_eq_true, decide_eq_true_eq] at h
  rw [validB, fitsFrom_append [1013] h.2, show fitsFrom 0 [1013] = false from rfl, Bool.and_false]

set_option maxHeartbeats 1000000 in
theorem fnProgValid_any (A0 : Option Addr) (c0 : Nat) (x0 : List Int) (w0 : World) (h0 : RdC w0 (.slice A0 x0.length c0) x0) :
    Calls Try.prog 3 #[.slice A0 x0.length c0] w0 fun e w' => e = .returned (.bool true) ∧ Below w0.heap.size w0 w' := by
  have hm := h0.len_le
  have HH := Lib.hid h0; clear h0
  by_cases hl : x0.length ≤ 1048576
  case neg =>
    go_enter Try.func3, Try.ntmps3
    go_wp2
    go_ret
    exact ⟨rfl, Below.refl _ _⟩
  have S0 : Hid (Below w0.heap.size w0 w0 ∧ RdBC w0 w0.heap.size (.slice A0 x0.length c0) x0) := Lib.hid ⟨Below.refl _ _, HH.out⟩
  clear HH
  go_enter Try.func3, Try.ntmps3
  go_wp2_with fail
  refine (DrawProgValid_any (.slice A0 x0.length c0) x0 _ ((S0.out.2).rd (by omega))).mono ?_
  rintro e w_1 ⟨p, zp, rfl, ho1, hl_p, hb1⟩
  have hz1 : w0.heap.size ≤ w_1.heap.size := by have := hb1.size; simpa using this
  replace hb1 : Below (w0.heap.size) w0 w_1 := by simpa using hb1
  have S1 : Hid (Below w0.heap.size w0 w_1 ∧ RdBC w_1 w0.heap.size (.slice A0 x0.length c0) (x0) ∧ OwnI w_1 (w0.heap.size) (w_1.heap.size) p (zp)) := Lib.hid ⟨(S0.out.1).trans (hb1.mono (by omega)), (S0.out.2).below (hb1.mono (by omega)), (by simpa using ho1)⟩
  clear S0
  clear ho1 hb1
  -- at w_1: S1: base code p
  generalize hv : validB zp = b
  have Hv := Lib.hid hv; clear hv
  have hbb : (b != b) = false := by simp
  go_wp2_with fail
  refine (ProgValid_I _ zp _ ((S1.out.2.2).rd) (by omega) b Hv.out).mono ?_
  rintro e w_2 ⟨rfl, hb2⟩
  have hz2 : w_1.heap.size ≤ w_2.heap.size := by have := hb2.size; simpa using this
  replace hb2 : Below (w_1.heap.size) w_1 w_2 := by simpa using hb2
  have S2 : Hid (Below w0.heap.size w0 w_2 ∧ RdBC w_2 w0.heap.size (.slice A0 x0.length c0) (x0) ∧ OwnI w_2 (w0.heap.size) (w_1.heap.size) p (zp)) := Lib.hid ⟨(S1.out.1).trans (hb2.mono (by omega)), (S1.out.2.1).below (hb2.mono (by omega)), (S1.out.2.2).belowB hb2 (by omega)⟩
  clear S1
  clear hb2
  go_wp2_with fail
  refine (ProgValid_S _ zp _ ((S2.out.2.2).rd) (by omega) b Hv.out).mono ?_
  rintro e w_3 ⟨rfl, hb3⟩
  have hz3 : w_2.heap.size ≤ w_3.heap.size := by have := hb3.size; simpa using this
  replace hb3 : Below (w_2.heap.size) w_2 w_3 := by simpa using hb3
  have S3 : Hid (Below w0.heap.size w0 w_3 ∧ RdBC w_3 w0.heap.size (.slice A0 x0.length c0) (x0) ∧ OwnI w_3 (w0.heap.size) (w_1.heap.size) p (zp)) := Lib.hid ⟨(S2.out.1).trans (hb3.mono (by omega)), (S2.out.2.1).below (hb3.mono (by omega)), (S2.out.2.2).belowB hb3 (by omega)⟩
  clear S2
  clear hb3
  -- at w_3: S3: base code p
  have hb4 : Below (w_3.heap.size) w_3 (w_3.alloc (.cells #[.int .i64 (1012)] 3)) := (Below.refl _ _).alloc (by first | omega | simp) _
  have ho4 := lits_own w_3 [1012] (by simp) (by intro z hz; simp only [List.mem_cons, List.not_mem_nil, or_false] at hz; apply wf_near; omega)
  have S4 : Hid (Below w0.heap.size w0 (w_3.alloc (.cells #[.int .i64 (1012)] 3)) ∧ RdBC (w_3.alloc (.cells #[.int .i64 (1012)] 3)) w0.heap.size (.slice A0 x0.length c0) (x0) ∧ OwnI (w_3.alloc (.cells #[.int .i64 (1012)] 3)) (w0.heap.size) (w_1.heap.size) p (zp) ∧ OwnI (w_3.alloc (.cells #[.int .i64 (1012)] 3)) (w_3.heap.size) (w_3.heap.size + 1) (.slice (some ⟨w_3.heap.size, 0, none⟩) 1 1) ([1012])) := Lib.hid ⟨(S3.out.1).trans (hb4.mono (by omega)), (S3.out.2.1).below (hb4.mono (by omega)), (S3.out.2.2).belowB hb4 (by omega), (by simpa using ho4)⟩
  clear S3
  clear hb4 ho4
  go_wp2_with (at_builtin; refine wpList_append_V rfl _ _ _ rfl Try.underlying23 intInfo (w_3.heap.size) (w_3.heap.size + 1) (.slice (some ⟨w_3.heap.size, 0, none⟩) 1 1) ([1012]) rfl S4.out.2.2.2 (by first | omega | (simp <;> omega)) p (zp) rfl ((S4.out.2.2.1).rd) (by first | omega | (simp <;> omega)) ?_)
  intro q w_5 ho5 hb5
  have hz5 : w_3.heap.size + 1 ≤ w_5.heap.size := by have := hb5.size; simpa using this
  have S5 : Hid (Below w0.heap.size w0 w_5 ∧ RdBC w_5 w0.heap.size (.slice A0 x0.length c0) (x0) ∧ OwnI w_5 (w0.heap.size) (w_1.heap.size) p (zp) ∧ OwnI w_5 (w_3.heap.size) (w_5.heap.size) q (([1012]) ++ (zp))) := Lib.hid ⟨(S4.out.1).trans (hb5.mono (by omega)), (S4.out.2.1).below (hb5.mono (by omega)), (S4.out.2.2.1).belowB hb5 (by omega), (by simpa using ho5)⟩
  clear S4
  clear ho5 hb5
  have hb6 : Below (w_5.heap.size) w_5 (w_5.alloc (.cells #[.int .i64 (1013)] 3)) := (Below.refl _ _).alloc (by first | omega | simp) _
  have ho6 := lits_own w_5 [1013] (by simp) (by intro z hz; simp only [List.mem_cons, List.not_mem_nil, or_false] at hz; apply wf_near; omega)
  have S6 : Hid (Below w0.heap.size w0 (w_5.alloc (.cells #[.int .i64 (1013)] 3)) ∧ RdBC (w_5.alloc (.cells #[.int .i64 (1013)] 3)) w0.heap.size (.slice A0 x0.length c0) (x0) ∧ OwnI (w_5.alloc (.cells #[.int .i64 (1013)] 3)) (w0.heap.size) (w_1.heap.size) p (zp) ∧ OwnI (w_5.alloc (.cells #[.int .i64 (1013)] 3)) (w_3.heap.size) (w_5.heap.size) q (([1012]) ++ (zp)) ∧ OwnI (w_5.alloc (.cells #[.int .i64 (1013)] 3)) (w_5.heap.size) (w_5.heap.size + 1) (.slice (some ⟨w_5.heap.size, 0, none⟩) 1 1) ([1013])) := Lib.hid ⟨(S5.out.1).trans (hb6.mono (by omega)), (S5.out.2.1).below (hb6.mono (by omega)), (S5.out.2.2.1).belowB hb6 (by omega), (S5.out.2.2.2).belowB hb6 (by omega), (by simpa using ho6)⟩
  clear S5
  clear hb6 ho6
  go_wp2_with (at_builtin; refine wpList_append_V rfl _ _ _ rfl Try.underlying23 intInfo (w_3.heap.size) (w_5.heap.size) q (([1012]) ++ (zp)) rfl S6.out.2.2.2.1 (by first | omega | (simp <;> omega)) (.slice (some ⟨w_5.heap.size, 0, none⟩) 1 1) ([1013]) rfl ((S6.out.2.2.2.2).rd) (by first | omega | (simp <;> omega)) ?_)
  intro value w_7 ho7 hb7
  have hz7 : w_5.heap.size + 1 ≤ w_7.heap.size := by have := hb7.size; simpa using this
  have S7 : Hid (Below w0.heap.size w0 w_7 ∧ RdBC w_7 w0.heap.size (.slice A0 x0.length c0) (x0) ∧ OwnI w_7 (w0.heap.size) (w_1.heap.size) p (zp) ∧ OwnI w_7 (w_3.heap.size) (w_7.heap.size) value ((([1012]) ++ (zp)) ++ ([1013]))) := Lib.hid ⟨(S6.out.1).trans (hb7.mono (by omega)), (S6.out.2.1).below (hb7.mono (by omega)), (S6.out.2.2.1).belowB hb7 (by omega), (by simpa using ho7)⟩
  clear S6
  clear ho7 hb7
  -- at w_7: S7: base code p value
  have hvq : validB zp = true → validB (([1012] ++ zp) ++ [1013]) = decide (zp.length + 2 ≤ 60) := fun h => validB_quote h
  have hlz : (([1012] ++ zp) ++ [1013]).length = zp.length + 2 := by simp <;> omega
  generalize ([1012]) ++ (zp) ++ [1013] = zv at S7 hvq hlz
  have hlz1 : zv.length ≤ zp.length + 2 := by omega
  have hlz2 : zp.length + 2 ≤ zv.length := by omega
  clear hlz
  have Hvq := Lib.hid hvq; clear hvq
  obtain ⟨Av, cv, hvv, _⟩ := (S7.out.2.2.2).own.ints
  subst hvv
  have V0 : Hid (validB [] = true) := Lib.hid rfl
  rcases b with _ | _
  · have S7' := Lib.hid (And.intro S7.out.1 S7.out.2.1); clear S7
    go_wp2_with fail
    refine (ProgValid_I _ [] _ (nil_rd _) (by simp) true V0.out).mono ?_
    rintro e w_8 ⟨rfl, hb8⟩
    have hz8 : w_7.heap.size ≤ w_8.heap.size := by have := hb8.size; simpa using this
    replace hb8 : Below (w_7.heap.size) w_7 w_8 := by simpa using hb8
    have S8 : Hid (Below w0.heap.size w0 w_8 ∧ RdBC w_8 w0.heap.size (.slice A0 x0.length c0) (x0)) := Lib.hid ⟨(S7'.out.1).trans (hb8.mono (by omega)), (S7'.out.2).below (hb8.mono (by omega))⟩
    clear S7'
    clear hb8
    go_wp2_with fail
    refine (alive_any _).mono ?_
    rintro e w_9 ⟨rfl, hb9⟩
    have hz9 : w_8.heap.size ≤ w_9.heap.size := by have := hb9.size; simpa using this
    replace hb9 : Below (w_8.heap.size) w_8 w_9 := by simpa using hb9
    have S9 : Hid (Below w0.heap.size w0 w_9 ∧ RdBC w_9 w0.heap.size (.slice A0 x0.length c0) (x0)) := Lib.hid ⟨(S8.out.1).trans (hb9.mono (by omega)), (S8.out.2).below (hb9.mono (by omega))⟩
    clear S8
    clear hb9
    -- at w_9: S9: base code
    go_wp2
    go_ret
    exact ⟨rfl, S9.out.1⟩
  · have Ve := Lib.hid (validB_end Hv.out)
    have hzl := validB_len Hv.out
    by_cases hq : zp.length + 2 ≤ 60
    · have Vq1 : Hid (validB zv = true) := Lib.hid (by rw [Hvq.out Hv.out]; exact decide_eq_true hq)
      have hb8 : Below (w_7.heap.size) w_7 (w_7.alloc (.cells #[] 3)) := (Below.refl _ _).alloc (by first | omega | simp) _
      have ho8 := lits_own w_7 [] (by simp) (by simp)
      have S8 : Hid (Below w0.heap.size w0 (w_7.alloc (.cells #[] 3)) ∧ RdBC (w_7.alloc (.cells #[] 3)) w0.heap.size (.slice A0 x0.length c0) (x0) ∧ OwnI (w_7.alloc (.cells #[] 3)) (w0.heap.size) (w_1.heap.size) p (zp) ∧ OwnI (w_7.alloc (.cells #[] 3)) (w_3.heap.size) (w_7.heap.size) (.slice Av zv.length cv) (zv) ∧ OwnI (w_7.alloc (.cells #[] 3)) (w_7.heap.size) (w_7.heap.size + 1) (.slice (some ⟨w_7.heap.size, 0, none⟩) 0 0) ([])) := Lib.hid ⟨(S7.out.1).trans (hb8.mono (by omega)), (S7.out.2.1).below (hb8.mono (by omega)), (S7.out.2.2.1).belowB hb8 (by omega), (S7.out.2.2.2).belowB hb8 (by omega), (by simpa using ho8)⟩
      clear S7
      clear hb8 ho8
      go_wp2_with (at_builtin; refine wpList_append_G (by go_simp) _ _ _ rfl Try.underlying23 intInfo (w_7.heap.size) (w_7.heap.size + 1) (.slice (some ⟨w_7.heap.size, 0, none⟩) 0 0) ([]) rfl S8.out.2.2.2.2 (by first | omega | (simp <;> omega)) p (zp) rfl ((S8.out.2.2.1).rd) (by first | omega | (simp <;> omega)) ?_)
      intro q w_9 ho9 hb9
      have hz9 : w_7.heap.size + 1 ≤ w_9.heap.size := by have := hb9.size; simpa using this
      have S9 : Hid (Below w0.heap.size w0 w_9 ∧ RdBC w_9 w0.heap.size (.slice A0 x0.length c0) (x0) ∧ OwnI w_9 (w0.heap.size) (w_1.heap.size) p (zp) ∧ OwnI w_9 (w_3.heap.size) (w_7.heap.size) (.slice Av zv.length cv) (zv) ∧ OwnI w_9 (w_7.heap.size) (w_9.heap.size) q (([]) ++ (zp))) := Lib.hid ⟨(S8.out.1).trans (hb9.mono (by omega)), (S8.out.2.1).below (hb9.mono (by omega)), (S8.out.2.2.1).belowB hb9 (by omega), (S8.out.2.2.2.1).belowB hb9 (by omega), (by simpa using ho9)⟩
      clear S8
      clear ho9 hb9
      have hb10 : Below (w_9.heap.size) w_9 (w_9.alloc (.cells #[.int .i64 (1013)] 3)) := (Below.refl _ _).alloc (by first | omega | simp) _
      have ho10 := lits_own w_9 [1013] (by simp) (by intro z hz; simp only [List.mem_cons, List.not_mem_nil, or_false] at hz; apply wf_near; omega)
      have S10 : Hid (Below w0.heap.size w0 (w_9.alloc (.cells #[.int .i64 (1013)] 3)) ∧ RdBC (w_9.alloc (.cells #[.int .i64 (1013)] 3)) w0.heap.size (.slice A0 x0.length c0) (x0) ∧ OwnI (w_9.alloc (.cells #[.int .i64 (1013)] 3)) (w0.heap.size) (w_1.heap.size) p (zp) ∧ OwnI (w_9.alloc (.cells #[.int .i64 (1013)] 3)) (w_3.heap.size) (w_7.heap.size) (.slice Av zv.length cv) (zv) ∧ OwnI (w_9.alloc (.cells #[.int .i64 (1013)] 3)) (w_7.heap.size) (w_9.heap.size) q (([]) ++ (zp)) ∧ OwnI (w_9.alloc (.cells #[.int .i64 (1013)] 3)) (w_9.heap.size) (w_9.heap.size + 1) (.slice (some ⟨w_9.heap.size, 0, none⟩) 1 1) ([1013])) := Lib.hid ⟨(S9.out.1).trans (hb10.mono (by omega)), (S9.out.2.1).below (hb10.mono (by omega)), (S9.out.2.2.1).belowB hb10 (by omega), (S9.out.2.2.2.1).belowB hb10 (by omega), (S9.out.2.2.2.2).belowB hb10 (by omega), (by simpa using ho10)⟩
      clear S9
      clear hb10 ho10
      go_wp2_with (at_builtin; refine wpList_append_G (by go_simp) _ _ _ rfl Try.underlying23 intInfo (w_7.heap.size) (w_9.heap.size) q (([]) ++ (zp)) rfl S10.out.2.2.2.2.1 (by first | omega | (simp <;> omega)) (.slice (some ⟨w_9.heap.size, 0, none⟩) 1 1) ([1013]) rfl ((S10.out.2.2.2.2.2).rd) (by first | omega | (simp <;> omega)) ?_)
      intro s w_11 ho11 hb11
      have hz11 : w_9.heap.size + 1 ≤ w_11.heap.size := by have := hb11.size; simpa using this
      have S11 : Hid (Below w0.heap.size w0 w_11 ∧ RdBC w_11 w0.heap.size (.slice A0 x0.length c0) (x0) ∧ OwnI w_11 (w0.heap.size) (w_1.heap.size) p (zp) ∧ OwnI w_11 (w_3.heap.size) (w_7.heap.size) (.slice Av zv.length cv) (zv) ∧ OwnI w_11 (w_7.heap.size) (w_11.heap.size) s ((([]) ++ (zp)) ++ ([1013]))) := Lib.hid ⟨(S10.out.1).trans (hb11.mono (by omega)), (S10.out.2.1).below (hb11.mono (by omega)), (S10.out.2.2.1).belowB hb11 (by omega), (S10.out.2.2.2.1).belowB hb11 (by omega), (by simpa using ho11)⟩
      clear S10
      clear ho11 hb11
      go_wp2_with fail
      refine (ProgValid_I _ (([] ++ zp) ++ [1013]) _ ((S11.out.2.2.2.2).rd) (by simp; omega) false Ve.out).mono ?_
      rintro e w_12 ⟨rfl, hb12⟩
      have hz12 : w_11.heap.size ≤ w_12.heap.size := by have := hb12.size; simpa using this
      replace hb12 : Below (w_11.heap.size) w_11 w_12 := by simpa using hb12
      have S12 : Hid (Below w0.heap.size w0 w_12 ∧ RdBC w_12 w0.heap.size (.slice A0 x0.length c0) (x0) ∧ OwnI w_12 (w0.heap.size) (w_1.heap.size) p (zp) ∧ OwnI w_12 (w_3.heap.size) (w_7.heap.size) (.slice Av zv.length cv) (zv) ∧ OwnI w_12 (w_7.heap.size) (w_11.heap.size) s ((([]) ++ (zp)) ++ ([1013]))) := Lib.hid ⟨(S11.out.1).trans (hb12.mono (by omega)), (S11.out.2.1).below (hb12.mono (by omega)), (S11.out.2.2.1).belowB hb12 (by omega), (S11.out.2.2.2.1).belowB hb12 (by omega), (S11.out.2.2.2.2).belowB hb12 (by omega)⟩
      clear S11
      clear hb12
      go_wp2_with fail
      refine (ProgValid_I _ zv _ ((S12.out.2.2.2.1).rd) (by omega) true Vq1.out).mono ?_
      rintro e w_13 ⟨rfl, hb13⟩
      have hz13 : w_12.heap.size ≤ w_13.heap.size := by have := hb13.size; simpa using this
      replace hb13 : Below (w_12.heap.size) w_12 w_13 := by simpa using hb13
      have S13 : Hid (Below w0.heap.size w0 w_13 ∧ RdBC w_13 w0.heap.size (.slice A0 x0.length c0) (x0) ∧ OwnI w_13 (w0.heap.size) (w_1.heap.size) p (zp) ∧ OwnI w_13 (w_3.heap.size) (w_7.heap.size) (.slice Av zv.length cv) (zv) ∧ OwnI w_13 (w_7.heap.size) (w_11.heap.size) s ((([]) ++ (zp)) ++ ([1013]))) := Lib.hid ⟨(S12.out.1).trans (hb13.mono (by omega)), (S12.out.2.1).below (hb13.mono (by omega)), (S12.out.2.2.1).belowB hb13 (by omega), (S12.out.2.2.2.1).belowB hb13 (by omega), (S12.out.2.2.2.2).belowB hb13 (by omega)⟩
      clear S12
      clear hb13
      go_wp2_with fail
      refine (ProgValid_I _ [] _ (nil_rd _) (by simp) true V0.out).mono ?_
      rintro e w_14 ⟨rfl, hb14⟩
      have hz14 : w_13.heap.size ≤ w_14.heap.size := by have := hb14.size; simpa using this
      replace hb14 : Below (w_13.heap.size) w_13 w_14 := by simpa using hb14
      have S14 : Hid (Below w0.heap.size w0 w_14 ∧ RdBC w_14 w0.heap.size (.slice A0 x0.length c0) (x0) ∧ OwnI w_14 (w0.heap.size) (w_1.heap.size) p (zp) ∧ OwnI w_14 (w_3.heap.size) (w_7.heap.size) (.slice Av zv.length cv) (zv) ∧ OwnI w_14 (w_7.heap.size) (w_11.heap.size) s ((([]) ++ (zp)) ++ ([1013]))) := Lib.hid ⟨(S13.out.1).trans (hb14.mono (by omega)), (S13.out.2.1).below (hb14.mono (by omega)), (S13.out.2.2.1).belowB hb14 (by omega), (S13.out.2.2.2.1).belowB hb14 (by omega), (S13.out.2.2.2.2).belowB hb14 (by omega)⟩
      clear S13
      clear hb14
      go_wp2_with fail
      refine (alive_any _).mono ?_
      rintro e w_15 ⟨rfl, hb15⟩
      have hz15 : w_14.heap.size ≤ w_15.heap.size := by have := hb15.size; simpa using this
      replace hb15 : Below (w_14.heap.size) w_14 w_15 := by simpa using hb15
      have S15 : Hid (Below w0.heap.size w0 w_15 ∧ RdBC w_15 w0.heap.size (.slice A0 x0.length c0) (x0) ∧ OwnI w_15 (w0.heap.size) (w_1.heap.size) p (zp) ∧ OwnI w_15 (w_3.heap.size) (w_7.heap.size) (.slice Av zv.length cv) (zv) ∧ OwnI w_15 (w_7.heap.size) (w_11.heap.size) s ((([]) ++ (zp)) ++ ([1013]))) := Lib.hid ⟨(S14.out.1).trans (hb15.mono (by omega)), (S14.out.2.1).below (hb15.mono (by omega)), (S14.out.2.2.1).belowB hb15 (by omega), (S14.out.2.2.2.1).belowB hb15 (by omega), (S14.out.2.2.2.2).belowB hb15 (by omega)⟩
      clear S14
      clear hb15
      -- at w_15: S15: base code p value s
      go_wp2
      go_ret
      exact ⟨rfl, S15.out.1⟩
    · skip
      have hb8 : Below (w_7.heap.size) w_7 (w_7.alloc (.cells #[] 3)) := (Below.refl _ _).alloc (by first | omega | simp) _
      have ho8 := lits_own w_7 [] (by simp) (by simp)
      have S8 : Hid (Below w0.heap.size w0 (w_7.alloc (.cells #[] 3)) ∧ RdBC (w_7.alloc (.cells #[] 3)) w0.heap.size (.slice A0 x0.length c0) (x0) ∧ OwnI (w_7.alloc (.cells #[] 3)) (w0.heap.size) (w_1.heap.size) p (zp) ∧ OwnI (w_7.alloc (.cells #[] 3)) (w_3.heap.size) (w_7.heap.size) (.slice Av zv.length cv) (zv) ∧ OwnI (w_7.alloc (.cells #[] 3)) (w_7.heap.size) (w_7.heap.size + 1) (.slice (some ⟨w_7.heap.size, 0, none⟩) 0 0) ([])) := Lib.hid ⟨(S7.out.1).trans (hb8.mono (by omega)), (S7.out.2.1).below (hb8.mono (by omega)), (S7.out.2.2.1).belowB hb8 (by omega), (S7.out.2.2.2).belowB hb8 (by omega), (by simpa using ho8)⟩
      clear S7
      clear hb8 ho8
      go_wp2_with (at_builtin; refine wpList_append_G (by go_simp) _ _ _ rfl Try.underlying23 intInfo (w_7.heap.size) (w_7.heap.size + 1) (.slice (some ⟨w_7.heap.size, 0, none⟩) 0 0) ([]) rfl S8.out.2.2.2.2 (by first | omega | (simp <;> omega)) p (zp) rfl ((S8.out.2.2.1).rd) (by first | omega | (simp <;> omega)) ?_)
      intro q w_9 ho9 hb9
      have hz9 : w_7.heap.size + 1 ≤ w_9.heap.size := by have := hb9.size; simpa using this
      have S9 : Hid (Below w0.heap.size w0 w_9 ∧ RdBC w_9 w0.heap.size (.slice A0 x0.length c0) (x0) ∧ OwnI w_9 (w0.heap.size) (w_1.heap.size) p (zp) ∧ OwnI w_9 (w_3.heap.size) (w_7.heap.size) (.slice Av zv.length cv) (zv) ∧ OwnI w_9 (w_7.heap.size) (w_9.heap.size) q (([]) ++ (zp))) := Lib.hid ⟨(S8.out.1).trans (hb9.mono (by omega)), (S8.out.2.1).below (hb9.mono (by omega)), (S8.out.2.2.1).belowB hb9 (by omega), (S8.out.2.2.2.1).belowB hb9 (by omega), (by simpa using ho9)⟩
      clear S8
      clear ho9 hb9
      have hb10 : Below (w_9.heap.size) w_9 (w_9.alloc (.cells #[.int .i64 (1013)] 3)) := (Below.refl _ _).alloc (by first | omega | simp) _
      have ho10 := lits_own w_9 [1013] (by simp) (by intro z hz; simp only [List.mem_cons, List.not_mem_nil, or_false] at hz; apply wf_near; omega)
      have S10 : Hid (Below w0.heap.size w0 (w_9.alloc (.cells #[.int .i64 (1013)] 3)) ∧ RdBC (w_9.alloc (.cells #[.int .i64 (1013)] 3)) w0.heap.size (.slice A0 x0.length c0) (x0) ∧ OwnI (w_9.alloc (.cells #[.int .i64 (1013)] 3)) (w0.heap.size) (w_1.heap.size) p (zp) ∧ OwnI (w_9.alloc (.cells #[.int .i64 (1013)] 3)) (w_3.heap.size) (w_7.heap.size) (.slice Av zv.length cv) (zv) ∧ OwnI (w_9.alloc (.cells #[.int .i64 (1013)] 3)) (w_7.heap.size) (w_9.heap.size) q (([]) ++ (zp)) ∧ OwnI (w_9.alloc (.cells #[.int .i64 (1013)] 3)) (w_9.heap.size) (w_9.heap.size + 1) (.slice (some ⟨w_9.heap.size, 0, none⟩) 1 1) ([1013])) := Lib.hid ⟨(S9.out.1).trans (hb10.mono (by omega)), (S9.out.2.1).below (hb10.mono (by omega)), (S9.out.2.2.1).belowB hb10 (by omega), (S9.out.2.2.2.1).belowB hb10 (by omega), (S9.out.2.2.2.2).belowB hb10 (by omega), (by simpa using ho10)⟩
      clear S9
      clear hb10 ho10
      go_wp2_with (at_builtin; refine wpList_append_G (by go_simp) _ _ _ rfl Try.underlying23 intInfo (w_7.heap.size) (w_9.heap.size) q (([]) ++ (zp)) rfl S10.out.2.2.2.2.1 (by first | omega | (simp <;> omega)) (.slice (some ⟨w_9.heap.size, 0, none⟩) 1 1) ([1013]) rfl ((S10.out.2.2.2.2.2).rd) (by first | omega | (simp <;> omega)) ?_)
      intro s w_11 ho11 hb11
      have hz11 : w_9.heap.size + 1 ≤ w_11.heap.size := by have := hb11.size; simpa using this
      have S11 : Hid (Below w0.heap.size w0 w_11 ∧ RdBC w_11 w0.heap.size (.slice A0 x0.length c0) (x0) ∧ OwnI w_11 (w0.heap.size) (w_1.heap.size) p (zp) ∧ OwnI w_11 (w_3.heap.size) (w_7.heap.size) (.slice Av zv.length cv) (zv) ∧ OwnI w_11 (w_7.heap.size) (w_11.heap.size) s ((([]) ++ (zp)) ++ ([1013]))) := Lib.hid ⟨(S10.out.1).trans (hb11.mono (by omega)), (S10.out.2.1).below (hb11.mono (by omega)), (S10.out.2.2.1).belowB hb11 (by omega), (S10.out.2.2.2.1).belowB hb11 (by omega), (by simpa using ho11)⟩
      clear S10
      clear ho11 hb11
      go_wp2_with fail
      refine (ProgValid_I _ (([] ++ zp) ++ [1013]) _ ((S11.out.2.2.2.2).rd) (by simp; omega) false Ve.out).mono ?_
      rintro e w_12 ⟨rfl, hb12⟩
      have hz12 : w_11.heap.size ≤ w_12.heap.size := by have := hb12.size; simpa using this
      replace hb12 : Below (w_11.heap.size) w_11 w_12 := by simpa using hb12
      have S12 : Hid (Below w0.heap.size w0 w_12 ∧ RdBC w_12 w0.heap.size (.slice A0 x0.length c0) (x0) ∧ OwnI w_12 (w0.heap.size) (w_1.heap.size) p (zp) ∧ OwnI w_12 (w_3.heap.size) (w_7.heap.size) (.slice Av zv.length cv) (zv) ∧ OwnI w_12 (w_7.heap.size) (w_11.heap.size) s ((([]) ++ (zp)) ++ ([1013]))) := Lib.hid ⟨(S11.out.1).trans (hb12.mono (by omega)), (S11.out.2.1).below (hb12.mono (by omega)), (S11.out.2.2.1).belowB hb12 (by omega), (S11.out.2.2.2.1).belowB hb12 (by omega), (S11.out.2.2.2.2).belowB hb12 (by omega)⟩
      clear S11
      clear hb12
      go_wp2_with fail
      refine (ProgValid_I _ [] _ (nil_rd _) (by simp) true V0.out).mono ?_
      rintro e w_13 ⟨rfl, hb13⟩
      have hz13 : w_12.heap.size ≤ w_13.heap.size := by have := hb13.size; simpa using this
      replace hb13 : Below (w_12.heap.size) w_12 w_13 := by simpa using hb13
      have S13 : Hid (Below w0.heap.size w0 w_13 ∧ RdBC w_13 w0.heap.size (.slice A0 x0.length c0) (x0) ∧ OwnI w_13 (w0.heap.size) (w_1.heap.size) p (zp) ∧ OwnI w_13 (w_3.heap.size) (w_7.heap.size) (.slice Av zv.length cv) (zv) ∧ OwnI w_13 (w_7.heap.size) (w_11.heap.size) s ((([]) ++ (zp)) ++ ([1013]))) := Lib.hid ⟨(S12.out.1).trans (hb13.mono (by omega)), (S12.out.2.1).below (hb13.mono (by omega)), (S12.out.2.2.1).belowB hb13 (by omega), (S12.out.2.2.2.1).belowB hb13 (by omega), (S12.out.2.2.2.2).belowB hb13 (by omega)⟩
      clear S12
      clear hb13
      go_wp2_with fail
      refine (alive_any _).mono ?_
      rintro e w_14 ⟨rfl, hb14⟩
      have hz14 : w_13.heap.size ≤ w_14.heap.size := by have := hb14.size; simpa using this
      replace hb14 : Below (w_13.heap.size) w_13 w_14 := by simpa using hb14
      have S14 : Hid (Below w0.heap.size w0 w_14 ∧ RdBC w_14 w0.heap.size (.slice A0 x0.length c0) (x0) ∧ OwnI w_14 (w0.heap.size) (w_1.heap.size) p (zp) ∧ OwnI w_14 (w_3.heap.size) (w_7.heap.size) (.slice Av zv.length cv) (zv) ∧ OwnI w_14 (w_7.heap.size) (w_11.heap.size) s ((([]) ++ (zp)) ++ ([1013]))) := Lib.hid ⟨(S13.out.1).trans (hb14.mono (by omega)), (S13.out.2.1).below (hb14.mono (by omega)), (S13.out.2.2.1).belowB hb14 (by omega), (S13.out.2.2.2.1).belowB hb14 (by omega), (S13.out.2.2.2.2).belowB hb14 (by omega)⟩
      clear S13
      clear hb14
      -- at w_14: S14: base code p value s
      go_wp2
      go_ret
      exact ⟨rfl, S14.out.1⟩

theorem fnProgValid_walk : LawWalk 3 Try.f3 := by
  intro H enc W base args ds ps hval hA
  rw [Try.params3] at hA hval
  obtain ⟨v0, d0, rfl, rfl, h0⟩ := trodAll_one hA
  obtain ⟨A0, c0, zs0, rfl, hi0, hc0⟩ := ints_of_trod Try.underlying22 Try.underlying5 cells_byte (hval 0 _ _ rfl rfl) h0
  exact fnProgValid_any A0 c0 zs0 W (RdC.mk hi0 hc0)

set_option maxRecDepth 100000 in
theorem fnProgValid_lifted (os : Os) (started : os.Started) (H : Type) (enc : TypeId × Value → H) :
    ReturnsInHanded {} Try.checked os 3 .any (Rows.fnProgValidSpec.pre6 enc Try.prog Try.f3 Rows.fnProgValidRow.domain false) (Rows.fnProgValidSpec.post enc Try.prog Try.f3 false true false false) := by
  refine returnsInHanded_of_change (C := Try.checked) own started (by kernel_rfl) Try.func3
    (ChangeSpec.witness6 (enc := enc) (C := Try.checked) false ⟨#[], #[.slice none 0 0], []⟩ 8 (by kernel_rfl) (by kernel_rfl) (by kernel_rfl) (by kernel_rfl)) ?_
  intro W base args ds gs before hval hW _ _
  exact law_contract laidOut rfl (by kernel_rfl) rfl (fun H ds hd => by
    match ds, hd with
    | [d0], _ => exact ⟨rfl, rfl, rfl⟩) fnProgValid_walk W base args ds gs before hval hW

/-- FnProgValid: the row as it is given. -/
theorem fnProgValid_holds : Rows.FnProgValidSaid :=
  OpenClaim.holds_of_wide 3 Try.f3 rfl rfl rfl rfl rfl rfl rfl ⟨rfl, rfl, rfl, rfl, rfl⟩ rfl rfl rfl rfl rfl (by kernel_rfl) Try.func3 (by kernel_rfl)
    (of_decide_eq_true (by kernel_rfl)) (by unfold Func.isWrapper; first | (rw [if_pos (by decide +kernel)]; kernel_rfl) | (rw [if_neg (by decide +kernel)]; exact ⟨rfl, rfl⟩))
    (fun os started H enc _ => fnProgValid_lifted os started H enc)

end Go.Proofs.Ytabjlloohcnijaa
