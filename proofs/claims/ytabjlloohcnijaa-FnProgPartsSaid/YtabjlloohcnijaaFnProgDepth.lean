/- FnProgDepth: of every two codes: ProgDepth is its model at the drawn program; of two programs one behind the other, as far as it fits, it is the greater one of both. For every input. -/
import Derived.Test.YtabjlloohcnijaaFnProgThen
namespace Go.Proofs.Ytabjlloohcnijaa
open Go.RowKit Go.WideShapes Go.ChangeShapes

theorem depthFrom_append {o m : Int} {p : List Int} (q : List Int) (h : fitsFrom o p = true) : depthFrom o m (p ++ q) = depthFrom 0 (depthFrom o m p) q := by
  induction p generalizing o m with
  | nil => simp [fitsFrom] at h; subst h; rfl
  | cons z zs ih =>
    rw [fitsFrom] at h
    rw [List.cons_append, depthFrom, depthFrom]
    by_cases hn : o + brk z < 0
    · simp [hn] at h
    · rw [if_neg hn] at h; exact ih h
theorem depthFrom_ge (o m : Int) (q : List Int) : m ≤ depthFrom o m q := by
  induction q generalizing o m with
  | nil => simp [depthFrom]
  | cons z zs ih =>
    rw [depthFrom]
    by_cases h : m < o + brk z
    · rw [if_pos h]; have := ih (o + brk z) (o + brk z); omega
    · rw [if_neg h]; exact ih _ _
/-- From m: the greater one of m and of what there is from the least. -/
theorem depthFrom_eq (o m k : Int) (q : List Int) (hk : k ≤ m) : depthFrom o m q = if m < depthFrom o k q then depthFrom o k q else m := by
  induction q generalizing o m k with
  | nil =>
    show m = if m < depthFrom o k [] then depthFrom o k [] else m
    have h : depthFrom o k [] = k := rfl
    rw [h, if_neg (by omega)]
  | cons z zs ih =>
    rw [depthFrom, depthFrom]
    by_cases h1 : m < o + brk z
    · rw [if_pos h1, if_pos (show k < o + brk z by omega)]
      have := depthFrom_ge (o + brk z) (o + brk z) zs
      rw [if_pos (by omega)]
    · rw [if_neg h1]
      by_cases h2 : k < o + brk z
      · rw [if_pos h2]; exact ih _ _ _ (by omega)
      · rw [if_neg h2]; exact ih _ _ _ hk
theorem depthR_then {p q : List Int} (hp : validB p = true) (hq : validB q = true) (hpq : validB (p ++ q) = true) : depthR (p ++ q) = if depthR p < depthR q then depthR q else depthR p := by
  have hf : fitsFrom 0 p = true := by simp only [validB, Bool.and_eq_true, decide_eq_true_eq] at hp; exact hp.2
  rw [depthR, if_pos hpq, depthR, if_pos hp, depthR, if_pos hq, depthFrom_append q hf]
  exact depthFrom_eq 0 _ 0 q (depthFrom_ge 0 0 p)
theorem depthR_cases (p : List Int) : (validB p = false ∧ depthR p = -1) ∨ (validB p = true ∧ 0 ≤ depthR p) := by
  rcases h : validB p with _ | _
  · exact .inl ⟨rfl, by rw [depthR, if_neg (by simp [h])]⟩
  · exact .inr ⟨rfl, by rw [depthR, if_pos h]; exact depthFrom_ge 0 0 p⟩

set_option maxHeartbeats 2000000 in
theorem fnProgDepth_any (A0 : Option Addr) (c0 : Nat) (x0 : List Int) (A1 : Option Addr) (c1 : Nat) (x1 : List Int) (w0 : World) (h0 : RdC w0 (.slice A0 x0.length c0) x0) (h1 : RdC w0 (.slice A1 x1.length c1) x1) :
    Calls Try.prog 7 #[.slice A0 x0.length c0, .slice A1 x1.length c1] w0 fun e w' => e = .returned (.bool true) ∧ Below w0.heap.size w0 w' := by
  have hm := h0.len_le
  have hm1 := h1.len_le
  have HH := Lib.hid (And.intro h0 h1); clear h0 h1
  by_cases hl : x0.length ≤ 1048576
  case neg =>
    go_enter Try.func7, Try.ntmps7
    go_wp2
    go_ret
    exact ⟨rfl, Below.refl _ _⟩
  by_cases hl1 : x1.length ≤ 1048576
  case neg =>
    go_enter Try.func7, Try.ntmps7
    go_wp2
    go_ret
    exact ⟨rfl, Below.refl _ _⟩
  have S0 : Hid (Below w0.heap.size w0 w0 ∧ RdBC w0 w0.heap.size (.slice A0 x0.length c0) x0 ∧ RdBC w0 w0.heap.size (.slice A1 x1.length c1) x1) := Lib.hid ⟨Below.refl _ _, HH.out.1, HH.out.2⟩
  clear HH
  go_enter Try.func7, Try.ntmps7
  go_wp2_with fail
  refine (DrawProgDepth_any (.slice A0 x0.length c0) x0 _ ((S0.out.2.1).rd (by omega))).mono ?_
  rintro e w_1 ⟨p, zp, rfl, ho1, hl_p, hb1⟩
  have hz1 : w0.heap.size ≤ w_1.heap.size := by have := hb1.size; simpa using this
  replace hb1 : Below (w0.heap.size) w0 w_1 := by simpa using hb1
  have S1 : Hid (Below w0.heap.size w0 w_1 ∧ RdBC w_1 w0.heap.size (.slice A0 x0.length c0) (x0) ∧ RdBC w_1 w0.heap.size (.slice A1 x1.length c1) (x1) ∧ OwnI w_1 (w0.heap.size) (w_1.heap.size) p (zp)) := Lib.hid ⟨(S0.out.1).trans (hb1.mono (by omega)), (S0.out.2.1).below (hb1.mono (by omega)), (S0.out.2.2).below (hb1.mono (by omega)), (by simpa using ho1)⟩
  clear S0
  clear ho1 hb1
  -- at w_1: S1: base code more p
  have Hcs := Lib.hid (depthR_cases zp)
  generalize hR : depthR zp = y0
  have HR := Lib.hid hR; clear hR
  have hbb : (y0 != y0) = false := by simp
  go_wp2_with fail
  refine (ProgDepth_I _ zp _ ((S1.out.2.2.2).rd) (by omega) _ HR.out).mono ?_
  rintro e w_2 ⟨rfl, hb2⟩
  have hz2 : w_1.heap.size ≤ w_2.heap.size := by have := hb2.size; simpa using this
  replace hb2 : Below (w_1.heap.size) w_1 w_2 := by simpa using hb2
  have S2 : Hid (Below w0.heap.size w0 w_2 ∧ RdBC w_2 w0.heap.size (.slice A0 x0.length c0) (x0) ∧ RdBC w_2 w0.heap.size (.slice A1 x1.length c1) (x1) ∧ OwnI w_2 (w0.heap.size) (w_1.heap.size) p (zp)) := Lib.hid ⟨(S1.out.1).trans (hb2.mono (by omega)), (S1.out.2.1).below (hb2.mono (by omega)), (S1.out.2.2.1).below (hb2.mono (by omega)), (S1.out.2.2.2).belowB hb2 (by omega)⟩
  clear S1
  clear hb2
  go_wp2_with fail
  refine (ProgDepth_S _ zp _ ((S2.out.2.2.2).rd) (by omega) _ HR.out).mono ?_
  rintro e w_3 ⟨rfl, hb3⟩
  have hz3 : w_2.heap.size ≤ w_3.heap.size := by have := hb3.size; simpa using this
  replace hb3 : Below (w_2.heap.size) w_2 w_3 := by simpa using hb3
  have S3 : Hid (Below w0.heap.size w0 w_3 ∧ RdBC w_3 w0.heap.size (.slice A0 x0.length c0) (x0) ∧ RdBC w_3 w0.heap.size (.slice A1 x1.length c1) (x1) ∧ OwnI w_3 (w0.heap.size) (w_1.heap.size) p (zp)) := Lib.hid ⟨(S2.out.1).trans (hb3.mono (by omega)), (S2.out.2.1).below (hb3.mono (by omega)), (S2.out.2.2.1).below (hb3.mono (by omega)), (S2.out.2.2.2).belowB hb3 (by omega)⟩
  clear S2
  clear hb3
  -- at w_3: S3: base code more p
  rcases Hcs.out with ⟨hv, hd⟩ | ⟨hv, hd⟩
  · rw [HR.out] at hd
    subst hd
    have Hv := Lib.hid hv; clear hv Hcs
    go_wp2_with fail
    refine (ProgValid_I _ zp _ ((S3.out.2.2.2).rd) (by omega) false Hv.out).mono ?_
    rintro e w_4 ⟨rfl, hb4⟩
    have hz4 : w_3.heap.size ≤ w_4.heap.size := by have := hb4.size; simpa using this
    replace hb4 : Below (w_3.heap.size) w_3 w_4 := by simpa using hb4
    have S4 : Hid (Below w0.heap.size w0 w_4 ∧ RdBC w_4 w0.heap.size (.slice A0 x0.length c0) (x0) ∧ RdBC w_4 w0.heap.size (.slice A1 x1.length c1) (x1) ∧ OwnI w_4 (w0.heap.size) (w_1.heap.size) p (zp)) := Lib.hid ⟨(S3.out.1).trans (hb4.mono (by omega)), (S3.out.2.1).below (hb4.mono (by omega)), (S3.out.2.2.1).below (hb4.mono (by omega)), (S3.out.2.2.2).belowB hb4 (by omega)⟩
    clear S3
    clear hb4
    go_wp2_with fail
    refine (alive_any _).mono ?_
    rintro e w_5 ⟨rfl, hb5⟩
    have hz5 : w_4.heap.size ≤ w_5.heap.size := by have := hb5.size; simpa using this
    replace hb5 : Below (w_4.heap.size) w_4 w_5 := by simpa using hb5
    have S5 : Hid (Below w0.heap.size w0 w_5 ∧ RdBC w_5 w0.heap.size (.slice A0 x0.length c0) (x0) ∧ RdBC w_5 w0.heap.size (.slice A1 x1.length c1) (x1) ∧ OwnI w_5 (w0.heap.size) (w_1.heap.size) p (zp)) := Lib.hid ⟨(S4.out.1).trans (hb5.mono (by omega)), (S4.out.2.1).below (hb5.mono (by omega)), (S4.out.2.2.1).below (hb5.mono (by omega)), (S4.out.2.2.2).belowB hb5 (by omega)⟩
    clear S4
    clear hb5
    -- at w_5: S5: base code more p
    go_wp2
    go_ret
    exact ⟨rfl, S5.out.1⟩
  · rw [HR.out] at hd
    have Hv := Lib.hid hv; clear hv Hcs
    go_wp2_with fail
    refine (DrawProgDepth_any (.slice A1 x1.length c1) x1 _ ((S3.out.2.2.1).rd (by omega))).mono ?_
    rintro e w_4 ⟨q, zq, rfl, ho4, hl_q, hb4⟩
    have hz4 : w_3.heap.size ≤ w_4.heap.size := by have := hb4.size; simpa using this
    replace hb4 : Below (w_3.heap.size) w_3 w_4 := by simpa using hb4
    have S4 : Hid (Below w0.heap.size w0 w_4 ∧ RdBC w_4 w0.heap.size (.slice A0 x0.length c0) (x0) ∧ RdBC w_4 w0.heap.size (.slice A1 x1.length c1) (x1) ∧ OwnI w_4 (w0.heap.size) (w_1.heap.size) p (zp) ∧ OwnI w_4 (w_3.heap.size) (w_4.heap.size) q (zq)) := Lib.hid ⟨(S3.out.1).trans (hb4.mono (by omega)), (S3.out.2.1).below (hb4.mono (by omega)), (S3.out.2.2.1).below (hb4.mono (by omega)), (S3.out.2.2.2).belowB hb4 (by omega), (by simpa using ho4)⟩
    clear S3
    clear ho4 hb4
    -- at w_4: S4: base code more p q
    generalize hT : thenR zp zq = T
    have HTc := Lib.hid (thenR_cases zp zq)
    obtain ⟨zt, ok⟩ := T
    have HT := Lib.hid hT; clear hT
    go_wp2_with fail
    refine (ProgThen_I _ zp _ zq _ ((S4.out.2.2.2.1).rd) (by omega) ((S4.out.2.2.2.2).rd) (by omega) _ _ HT.out).mono ?_
    rintro e w_5 ⟨both, rfl, ho5, hb5⟩
    have hz5 : w_4.heap.size ≤ w_5.heap.size := by have := hb5.size; simpa using this
    replace hb5 : Below (w_4.heap.size) w_4 w_5 := by simpa using hb5
    have S5 : Hid (Below w0.heap.size w0 w_5 ∧ RdBC w_5 w0.heap.size (.slice A0 x0.length c0) (x0) ∧ RdBC w_5 w0.heap.size (.slice A1 x1.length c1) (x1) ∧ OwnI w_5 (w0.heap.size) (w_1.heap.size) p (zp) ∧ OwnI w_5 (w_3.heap.size) (w_4.heap.size) q (zq) ∧ OwnI w_5 (w_4.heap.size) (w_5.heap.size) both (zt)) := Lib.hid ⟨(S4.out.1).trans (hb5.mono (by omega)), (S4.out.2.1).below (hb5.mono (by omega)), (S4.out.2.2.1).below (hb5.mono (by omega)), (S4.out.2.2.2.1).belowB hb5 (by omega), (S4.out.2.2.2.2).belowB hb5 (by omega), (by simpa using ho5)⟩
    clear S4
    clear ho5 hb5
    -- at w_5: S5: base code more p q both
    rcases ok with _ | _
    · go_wp2
      go_ret
      exact ⟨rfl, S5.out.1⟩
    · obtain ⟨hvq, hzt⟩ : validB zq = true ∧ zt = zp ++ zq := by
        rcases HTc.out with h | ⟨_, h2, _, h⟩
        · rw [HT.out] at h; simp at h
        · rw [HT.out] at h; simp at h; exact ⟨h2, h⟩
      have hztl : zt.length ≤ 1000000 := by have := thenR_len zp zq; rw [HT.out] at this; exact this
      generalize hQ : depthR zq = dq
      have HQ := Lib.hid hQ; clear hQ
      have hb : depthR zt = if y0 < dq then dq else y0 := by
        rw [hzt, depthR_then Hv.out hvq ?_, HR.out, HQ.out]
        rcases HTc.out with h | ⟨h1, h2, h3, h⟩
        · rw [HT.out] at h; simp at h
        · rw [validB_append h1 h2]; exact decide_eq_true h3
      clear hvq hzt
      by_cases hlt : y0 < dq
      · rw [if_pos hlt] at hb
        have Hb := Lib.hid hb; clear hb
        go_wp2_with fail
        refine (ProgDepth_I _ zt _ ((S5.out.2.2.2.2.2).rd) (by omega) _ Hb.out).mono ?_
        rintro e w_6 ⟨rfl, hb6⟩
        have hz6 : w_5.heap.size ≤ w_6.heap.size := by have := hb6.size; simpa using this
        replace hb6 : Below (w_5.heap.size) w_5 w_6 := by simpa using hb6
        have S6 : Hid (Below w0.heap.size w0 w_6 ∧ RdBC w_6 w0.heap.size (.slice A0 x0.length c0) (x0) ∧ RdBC w_6 w0.heap.size (.slice A1 x1.length c1) (x1) ∧ OwnI w_6 (w0.heap.size) (w_1.heap.size) p (zp) ∧ OwnI w_6 (w_3.heap.size) (w_4.heap.size) q (zq) ∧ OwnI w_6 (w_4.heap.size) (w_5.heap.size) both (zt)) := Lib.hid ⟨(S5.out.1).trans (hb6.mono (by omega)), (S5.out.2.1).below (hb6.mono (by omega)), (S5.out.2.2.1).below (hb6.mono (by omega)), (S5.out.2.2.2.1).belowB hb6 (by omega), (S5.out.2.2.2.2.1).belowB hb6 (by omega), (S5.out.2.2.2.2.2).belowB hb6 (by omega)⟩
        clear S5
        clear hb6
        go_wp2_with fail
        refine (ProgDepth_I _ zq _ ((S6.out.2.2.2.2.1).rd) (by omega) _ HQ.out).mono ?_
        rintro e w_7 ⟨rfl, hb7⟩
        have hz7 : w_6.heap.size ≤ w_7.heap.size := by have := hb7.size; simpa using this
        replace hb7 : Below (w_6.heap.size) w_6 w_7 := by simpa using hb7
        have S7 : Hid (Below w0.heap.size w0 w_7 ∧ RdBC w_7 w0.heap.size (.slice A0 x0.length c0) (x0) ∧ RdBC w_7 w0.heap.size (.slice A1 x1.length c1) (x1) ∧ OwnI w_7 (w0.heap.size) (w_1.heap.size) p (zp) ∧ OwnI w_7 (w_3.heap.size) (w_4.heap.size) q (zq) ∧ OwnI w_7 (w_4.heap.size) (w_5.heap.size) both (zt)) := Lib.hid ⟨(S6.out.1).trans (hb7.mono (by omega)), (S6.out.2.1).below (hb7.mono (by omega)), (S6.out.2.2.1).below (hb7.mono (by omega)), (S6.out.2.2.2.1).belowB hb7 (by omega), (S6.out.2.2.2.2.1).belowB hb7 (by omega), (S6.out.2.2.2.2.2).belowB hb7 (by omega)⟩
        clear S6
        clear hb7
        -- at w_7: S7: base code more p q both
        go_wp2
        go_ret
        exact ⟨rfl, S7.out.1⟩
      · rw [if_neg hlt] at hb
        have Hb := Lib.hid hb; clear hb
        go_wp2_with fail
        refine (ProgDepth_I _ zt _ ((S5.out.2.2.2.2.2).rd) (by omega) _ Hb.out).mono ?_
        rintro e w_6 ⟨rfl, hb6⟩
        have hz6 : w_5.heap.size ≤ w_6.heap.size := by have := hb6.size; simpa using this
        replace hb6 : Below (w_5.heap.size) w_5 w_6 := by simpa using hb6
        have S6 : Hid (Below w0.heap.size w0 w_6 ∧ RdBC w_6 w0.heap.size (.slice A0 x0.length c0) (x0) ∧ RdBC w_6 w0.heap.size (.slice A1 x1.length c1) (x1) ∧ OwnI w_6 (w0.heap.size) (w_1.heap.size) p (zp) ∧ OwnI w_6 (w_3.heap.size) (w_4.heap.size) q (zq) ∧ OwnI w_6 (w_4.heap.size) (w_5.heap.size) both (zt)) := Lib.hid ⟨(S5.out.1).trans (hb6.mono (by omega)), (S5.out.2.1).below (hb6.mono (by omega)), (S5.out.2.2.1).below (hb6.mono (by omega)), (S5.out.2.2.2.1).belowB hb6 (by omega), (S5.out.2.2.2.2.1).belowB hb6 (by omega), (S5.out.2.2.2.2.2).belowB hb6 (by omega)⟩
        clear S5
        clear hb6
        go_wp2_with fail
        refine (ProgDepth_I _ zq _ ((S6.out.2.2.2.2.1).rd) (by omega) _ HQ.out).mono ?_
        rintro e w_7 ⟨rfl, hb7⟩
        have hz7 : w_6.heap.size ≤ w_7.heap.size := by have := hb7.size; simpa using this
        replace hb7 : Below (w_6.heap.size) w_6 w_7 := by simpa using hb7
        have S7 : Hid (Below w0.heap.size w0 w_7 ∧ RdBC w_7 w0.heap.size (.slice A0 x0.length c0) (x0) ∧ RdBC w_7 w0.heap.size (.slice A1 x1.length c1) (x1) ∧ OwnI w_7 (w0.heap.size) (w_1.heap.size) p (zp) ∧ OwnI w_7 (w_3.heap.size) (w_4.heap.size) q (zq) ∧ OwnI w_7 (w_4.heap.size) (w_5.heap.size) both (zt)) := Lib.hid ⟨(S6.out.1).trans (hb7.mono (by omega)), (S6.out.2.1).below (hb7.mono (by omega)), (S6.out.2.2.1).below (hb7.mono (by omega)), (S6.out.2.2.2.1).belowB hb7 (by omega), (S6.out.2.2.2.2.1).belowB hb7 (by omega), (S6.out.2.2.2.2.2).belowB hb7 (by omega)⟩
        clear S6
        clear hb7
        -- at w_7: S7: base code more p q both
        go_wp2
        go_ret
        exact ⟨rfl, S7.out.1⟩

theorem fnProgDepth_walk : LawWalk 7 Try.f7 := by
  intro H enc W base args ds ps hval hA
  rw [Try.params7] at hA hval
  obtain ⟨v0, v1, d0, d1, p0, p1, rfl, rfl, rfl, h0, h1⟩ := trodAll_two hA
  obtain ⟨A0, c0, zs0, rfl, hi0, hc0⟩ := ints_of_trod Try.underlying22 Try.underlying5 cells_byte (hval 0 _ _ rfl rfl) h0
  obtain ⟨A1, c1, zs1, rfl, hi1, hc1⟩ := ints_of_trod Try.underlying22 Try.underlying5 cells_byte (hval 1 _ _ rfl rfl) h1
  exact fnProgDepth_any A0 c0 zs0 A1 c1 zs1 W (RdC.mk hi0 hc0) (RdC.mk hi1 hc1)

set_option maxRecDepth 100000 in
theorem fnProgDepth_lifted (os : Os) (started : os.Started) (H : Type) (enc : TypeId × Value → H) :
    ReturnsInHanded {} Try.checked os 7 .any (Rows.fnProgDepthSpec.pre6 enc Try.prog Try.f7 Rows.fnProgDepthRow.domain false) (Rows.fnProgDepthSpec.post enc Try.prog Try.f7 false true false false) := by
  refine returnsInHanded_of_change (C := Try.checked) own started (by kernel_rfl) Try.func7
    (ChangeSpec.witness6 (enc := enc) (C := Try.checked) false ⟨#[], #[.slice none 0 0, .slice none 0 0], []⟩ 8 (by kernel_rfl) (by kernel_rfl) (by kernel_rfl) (by kernel_rfl)) ?_
  intro W base args ds gs before hval hW _ _
  exact law_contract laidOut rfl (by kernel_rfl) rfl (fun H ds hd => by
    match ds, hd with
    | [d0, d1], _ => exact ⟨rfl, rfl, rfl⟩) fnProgDepth_walk W base args ds gs before hval hW

/-- FnProgDepth: the row as it is given. -/
theorem fnProgDepth_holds : Rows.FnProgDepthSaid :=
  OpenClaim.holds_of_wide 7 Try.f7 rfl rfl rfl rfl rfl rfl rfl ⟨rfl, rfl, rfl, rfl, rfl⟩ rfl rfl rfl rfl rfl (by kernel_rfl) Try.func7 (by kernel_rfl)
    (of_decide_eq_true (by kernel_rfl)) (by unfold Func.isWrapper; first | (rw [if_pos (by decide +kernel)]; kernel_rfl) | (rw [if_neg (by decide +kernel)]; exact ⟨rfl, rfl⟩))
    (fun os started H enc _ => fnProgDepth_lifted os started H enc)

end Go.Proofs.Ytabjlloohcnijaa
