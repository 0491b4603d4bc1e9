/- FnProgThen: of every two codes: ProgThen is its model at the drawn programs; of three it is the same, whichever two are put together first; without words behind it a program is itself. For every input. -/
import Derived.Test.YtabjlloohcnijaaI
import Derived.Test.YtabjlloohcnijaaV
import Derived.Test.YtabjlloohcnijaaLift
namespace Go.Proofs.Ytabjlloohcnijaa
open Go.RowKit Go.WideShapes Go.ChangeShapes

theorem nil_rd' (w : World) : RdI w (.slice none 0 0) [] := ⟨none, 0, rfl, IntsK.nil _ _ _ _, by simp⟩
theorem thenR_cases (p q : List Int) : (thenR p q = ([], false)) ∨ (validB p = true ∧ validB q = true ∧ p.length + q.length ≤ 60 ∧ thenR p q = (p ++ q, true)) := by
  unfold thenR; split
  · rename_i h; exact .inr ⟨h.1, h.2.1, h.2.2, rfl⟩
  · exact .inl rfl
theorem thenR_nil {p : List Int} (h : validB p = true) : thenR p [] = (p, true) := by
  rw [thenR, if_pos ⟨h, rfl, by simpa using validB_len h⟩, List.append_nil]
theorem thenR_assoc {p q s a : List Int} (hp : validB p = true) (hq : validB q = true) (h : thenR (p ++ q) s = (a, true)) :
    thenR q s = (q ++ s, true) ∧ thenR p (q ++ s) = (a, true) := by
  rcases thenR_cases (p ++ q) s with h1 | ⟨h1, h2, h3, h4⟩
  · rw [h1] at h; simp at h
  · rw [h4] at h
    simp only [Prod.mk.injEq, and_true] at h
    subst h
    simp only [List.length_append] at h3
    refine ⟨by rw [thenR, if_pos ⟨hq, h2, by omega⟩], ?_⟩
    rw [thenR, if_pos ⟨hp, by rw [validB_append hq h2]; exact decide_eq_true (by omega), by simp; omega⟩, List.append_assoc]

set_option maxHeartbeats 2000000 in
theorem fnProgThen_any (A0 : Option Addr) (c0 : Nat) (x0 : List Int) (A1 : Option Addr) (c1 : Nat) (x1 : List Int) (w0 : World) (h0 : RdC w0 (.slice A0 x0.length c0) x0) (h1 : RdC w0 (.slice A1 x1.length c1) x1) :
    Calls Try.prog 4 #[.slice A0 x0.length c0, .slice A1 x1.length c1] w0 fun e w' => e = .returned (.bool true) ∧ Below w0.heap.size w0 w' := by
  have hm := h0.len_le
  have hm1 := h1.len_le
  have HH := Lib.hid (And.intro h0 h1); clear h0 h1
  by_cases hl : x0.length ≤ 1048576
  case neg =>
    go_enter Try.func4, Try.ntmps4
    go_wp2
    go_ret
    exact ⟨rfl, Below.refl _ _⟩
  by_cases hl1 : x1.length ≤ 1048576
  case neg =>
    go_enter Try.func4, Try.ntmps4
    go_wp2
    go_ret
    exact ⟨rfl, Below.refl _ _⟩
  have S0 : Hid (Below w0.heap.size w0 w0 ∧ RdBC w0 w0.heap.size (.slice A0 x0.length c0) x0 ∧ RdBC w0 w0.heap.size (.slice A1 x1.length c1) x1) := Lib.hid ⟨Below.refl _ _, HH.out.1, HH.out.2⟩
  clear HH
  go_enter Try.func4, Try.ntmps4
  go_wp2_with fail
  refine (DrawProgThen_any (.slice A0 x0.length c0) x0 _ ((S0.out.2.1).rd (by omega))).mono ?_
  rintro e w_1 ⟨p, zp, q, zq, m1, rfl, ho1, hl_p, hp1, hl_q, ha1, hm1, hb1⟩
  have hz1 : w0.heap.size ≤ w_1.heap.size := by have := hb1.size; simpa using this
  replace hb1 : Below (w0.heap.size) w0 w_1 := by simpa using hb1
  have S1 : Hid (Below w0.heap.size w0 w_1 ∧ RdBC w_1 w0.heap.size (.slice A0 x0.length c0) (x0) ∧ RdBC w_1 w0.heap.size (.slice A1 x1.length c1) (x1) ∧ OwnI w_1 (w0.heap.size) (m1) p (zp) ∧ OwnI w_1 (m1) (w_1.heap.size) q (zq)) := Lib.hid ⟨(S0.out.1).trans (hb1.mono (by omega)), (S0.out.2.1).below (hb1.mono (by omega)), (S0.out.2.2).below (hb1.mono (by omega)), (by simpa using ho1), (by simpa using hp1)⟩
  clear S0
  clear ho1 hp1 hb1
  -- at w_1: S1: base code more p q
  have Hcs := Lib.hid (thenR_cases zp zq)
  generalize hR : thenR zp zq = R
  obtain ⟨y0, y1⟩ := R
  have HR := Lib.hid hR; clear hR
  have hbb : (y1 != y1) = false := by simp
  go_wp2_with fail
  refine (ProgThen_I _ zp _ zq _ ((S1.out.2.2.2.1).rd) (by omega) ((S1.out.2.2.2.2).rd) (by omega) _ _ HR.out).mono ?_
  rintro e w_2 ⟨x, rfl, ho2, hb2⟩
  have hz2 : w_1.heap.size ≤ w_2.heap.size := by have := hb2.size; simpa using this
  replace hb2 : Below (w_1.heap.size) w_1 w_2 := by simpa using hb2
  have S2 : Hid (Below w0.heap.size w0 w_2 ∧ RdBC w_2 w0.heap.size (.slice A0 x0.length c0) (x0) ∧ RdBC w_2 w0.heap.size (.slice A1 x1.length c1) (x1) ∧ OwnI w_2 (w0.heap.size) (m1) p (zp) ∧ OwnI w_2 (m1) (w_1.heap.size) q (zq) ∧ OwnI w_2 (w_1.heap.size) (w_2.heap.size) x (y0)) := Lib.hid ⟨(S1.out.1).trans (hb2.mono (by omega)), (S1.out.2.1).below (hb2.mono (by omega)), (S1.out.2.2.1).below (hb2.mono (by omega)), (S1.out.2.2.2.1).belowB hb2 (by omega), (S1.out.2.2.2.2).belowB hb2 (by omega), (by simpa using ho2)⟩
  clear S1
  clear ho2 hb2
  go_wp2_with fail
  refine (ProgThen_S _ zp _ zq _ ((S2.out.2.2.2.1).rd) (by omega) ((S2.out.2.2.2.2.1).rd) (by omega) _ _ HR.out).mono ?_
  rintro e w_3 ⟨y, rfl, ho3, hb3⟩
  have hz3 : w_2.heap.size ≤ w_3.heap.size := by have := hb3.size; simpa using this
  replace hb3 : Below (w_2.heap.size) w_2 w_3 := by simpa using hb3
  have S3 : Hid (Below w0.heap.size w0 w_3 ∧ RdBC w_3 w0.heap.size (.slice A0 x0.length c0) (x0) ∧ RdBC w_3 w0.heap.size (.slice A1 x1.length c1) (x1) ∧ OwnI w_3 (w0.heap.size) (m1) p (zp) ∧ OwnI w_3 (m1) (w_1.heap.size) q (zq) ∧ OwnI w_3 (w_1.heap.size) (w_2.heap.size) x (y0) ∧ OwnI w_3 (w_2.heap.size) (w_3.heap.size) y (y0)) := Lib.hid ⟨(S2.out.1).trans (hb3.mono (by omega)), (S2.out.2.1).below (hb3.mono (by omega)), (S2.out.2.2.1).below (hb3.mono (by omega)), (S2.out.2.2.2.1).belowB hb3 (by omega), (S2.out.2.2.2.2.1).belowB hb3 (by omega), (S2.out.2.2.2.2.2).belowB hb3 (by omega), (by simpa using ho3)⟩
  clear S2
  clear ho3 hb3
  go_wp2_with fail
  refine (smI _ _ _ _ _ ((S3.out.2.2.2.2.2.1).rd) ((S3.out.2.2.2.2.2.2).rd) true (decide_eq_true rfl)).mono ?_
  rintro e w_4 ⟨rfl, hb4⟩
  have hz4 : w_3.heap.size ≤ w_4.heap.size := by have := hb4.size; simpa using this
  replace hb4 : Below (w_3.heap.size) w_3 w_4 := by simpa using hb4
  have S4 : Hid (Below w0.heap.size w0 w_4 ∧ RdBC w_4 w0.heap.size (.slice A0 x0.length c0) (x0) ∧ RdBC w_4 w0.heap.size (.slice A1 x1.length c1) (x1) ∧ OwnI w_4 (w0.heap.size) (m1) p (zp) ∧ OwnI w_4 (m1) (w_1.heap.size) q (zq) ∧ OwnI w_4 (w_1.heap.size) (w_2.heap.size) x (y0) ∧ OwnI w_4 (w_2.heap.size) (w_3.heap.size) y (y0)) := Lib.hid ⟨(S3.out.1).trans (hb4.mono (by omega)), (S3.out.2.1).below (hb4.mono (by omega)), (S3.out.2.2.1).below (hb4.mono (by omega)), (S3.out.2.2.2.1).belowB hb4 (by omega), (S3.out.2.2.2.2.1).belowB hb4 (by omega), (S3.out.2.2.2.2.2.1).belowB hb4 (by omega), (S3.out.2.2.2.2.2.2).belowB hb4 (by omega)⟩
  clear S3
  clear hb4
  -- at w_4: S4: base code more p q x y
  rcases y1 with _ | _
  · have hy : y0 = [] := by
      rcases Hcs.out with h | ⟨_, _, _, h⟩
      · rw [HR.out] at h; simp at h; exact h
      · rw [HR.out] at h; simp at h
    subst hy
    obtain ⟨Ax, cx, hxx, _⟩ := (S4.out.2.2.2.2.2.1).own.ints
    subst hxx
    go_wp2_with fail
    refine (alive_any _).mono ?_
    rintro e w_5 ⟨rfl, hb5⟩
    have hz5 : w_4.heap.size ≤ w_5.heap.size := by have := hb5.size; simpa using this
    replace hb5 : Below (w_4.heap.size) w_4 w_5 := by simpa using hb5
    have S5 : Hid (Below w0.heap.size w0 w_5 ∧ RdBC w_5 w0.heap.size (.slice A0 x0.length c0) (x0) ∧ RdBC w_5 w0.heap.size (.slice A1 x1.length c1) (x1) ∧ OwnI w_5 (w0.heap.size) (m1) p (zp) ∧ OwnI w_5 (m1) (w_1.heap.size) q (zq) ∧ OwnI w_5 (w_1.heap.size) (w_2.heap.size) (.slice Ax [].length cx) ([]) ∧ OwnI w_5 (w_2.heap.size) (w_3.heap.size) y ([])) := Lib.hid ⟨(S4.out.1).trans (hb5.mono (by omega)), (S4.out.2.1).below (hb5.mono (by omega)), (S4.out.2.2.1).below (hb5.mono (by omega)), (S4.out.2.2.2.1).belowB hb5 (by omega), (S4.out.2.2.2.2.1).belowB hb5 (by omega), (S4.out.2.2.2.2.2.1).belowB hb5 (by omega), (S4.out.2.2.2.2.2.2).belowB hb5 (by omega)⟩
    clear S4
    clear hb5
    -- at w_5: S5: base code more p q x y
    go_wp2
    go_ret
    exact ⟨rfl, S5.out.1⟩
  · obtain ⟨hvp, hvq, hlen, hy⟩ : validB zp = true ∧ validB zq = true ∧ zp.length + zq.length ≤ 60 ∧ y0 = zp ++ zq := by
      rcases Hcs.out with h | ⟨h1, h2, h3, h⟩
      · rw [HR.out] at h; simp at h
      · rw [HR.out] at h; simp at h; exact ⟨h1, h2, h3, h⟩
    have hly : y0.length ≤ 60 := by rw [hy]; simp; omega
    have Hvp := Lib.hid hvp; clear hvp
    have Hvq := Lib.hid hvq; clear hvq
    have Hy := Lib.hid hy; clear hy
    have Hvy : Hid (validB y0 = true) := Lib.hid (by rw [Hy.out, validB_append Hvp.out Hvq.out]; exact decide_eq_true hlen)
    go_wp2_with fail
    refine (DrawProgThen_any (.slice A1 x1.length c1) x1 _ ((S4.out.2.2.1).rd (by omega))).mono ?_
    rintro e w_5 ⟨s, zs, r, zr, m5, rfl, ho5, hl_s, hp5, hl_r, ha5, hm5, hb5⟩
    have hz5 : w_4.heap.size ≤ w_5.heap.size := by have := hb5.size; simpa using this
    replace hb5 : Below (w_4.heap.size) w_4 w_5 := by simpa using hb5
    have S5 : Hid (Below w0.heap.size w0 w_5 ∧ RdBC w_5 w0.heap.size (.slice A0 x0.length c0) (x0) ∧ RdBC w_5 w0.heap.size (.slice A1 x1.length c1) (x1) ∧ OwnI w_5 (w0.heap.size) (m1) p (zp) ∧ OwnI w_5 (m1) (w_1.heap.size) q (zq) ∧ OwnI w_5 (w_1.heap.size) (w_2.heap.size) x (y0) ∧ OwnI w_5 (w_4.heap.size) (m5) s (zs) ∧ OwnI w_5 (m5) (w_5.heap.size) r (zr)) := Lib.hid ⟨(S4.out.1).trans (hb5.mono (by omega)), (S4.out.2.1).below (hb5.mono (by omega)), (S4.out.2.2.1).below (hb5.mono (by omega)), (S4.out.2.2.2.1).belowB hb5 (by omega), (S4.out.2.2.2.2.1).belowB hb5 (by omega), (S4.out.2.2.2.2.2.1).belowB hb5 (by omega), (by simpa using ho5), (by simpa using hp5)⟩
    clear S4
    clear ho5 hp5 hb5
    -- at w_5: S5: base code more p q x s r
    generalize hA : thenR y0 zs = Ra
    obtain ⟨za, ub⟩ := Ra
    have HA := Lib.hid hA; clear hA
    generalize hB : thenR zq zs = Rb
    obtain ⟨zqs, vb⟩ := Rb
    have HB := Lib.hid hB; clear hB
    generalize hC : thenR zp zqs = Rc
    obtain ⟨zb, wb⟩ := Rc
    have HC := Lib.hid hC; clear hC
    have HN := Lib.hid (thenR_nil Hvp.out)
    have hqs : zqs.length ≤ 1000000 := by have := thenR_len zq zs; rw [HB.out] at this; exact this
    have hass : ub = true → vb = true ∧ wb = true ∧ za = zb := by
      rintro rfl
      have h1 := HA.out
      rw [Hy.out] at h1
      obtain ⟨h2, h3⟩ := thenR_assoc Hvp.out Hvq.out h1
      have h4 := HB.out
      rw [h2] at h4
      simp only [Prod.mk.injEq] at h4
      obtain ⟨rfl, rfl⟩ := h4
      have h5 := HC.out
      rw [h3] at h5
      simp only [Prod.mk.injEq] at h5
      exact ⟨rfl, h5.2.symm, h5.1⟩
    have Hass := Lib.hid hass; clear hass
    go_wp2_with fail
    refine (ProgThen_I _ y0 _ zs _ ((S5.out.2.2.2.2.2.1).rd) (by omega) ((S5.out.2.2.2.2.2.2.1).rd) (by omega) _ _ HA.out).mono ?_
    rintro e w_6 ⟨a, rfl, ho6, hb6⟩
    have hz6 : w_5.heap.size ≤ w_6.heap.size := by have := hb6.size; simpa using this
    replace hb6 : Below (w_5.heap.size) w_5 w_6 := by simpa using hb6
    have S6 : Hid (Below w0.heap.size w0 w_6 ∧ RdBC w_6 w0.heap.size (.slice A0 x0.length c0) (x0) ∧ RdBC w_6 w0.heap.size (.slice A1 x1.length c1) (x1) ∧ OwnI w_6 (w0.heap.size) (m1) p (zp) ∧ OwnI w_6 (m1) (w_1.heap.size) q (zq) ∧ OwnI w_6 (w_1.heap.size) (w_2.heap.size) x (y0) ∧ OwnI w_6 (w_4.heap.size) (m5) s (zs) ∧ OwnI w_6 (w_5.heap.size) (w_6.heap.size) a (za)) := Lib.hid ⟨(S5.out.1).trans (hb6.mono (by omega)), (S5.out.2.1).below (hb6.mono (by omega)), (S5.out.2.2.1).below (hb6.mono (by omega)), (S5.out.2.2.2.1).belowB hb6 (by omega), (S5.out.2.2.2.2.1).belowB hb6 (by omega), (S5.out.2.2.2.2.2.1).belowB hb6 (by omega), (S5.out.2.2.2.2.2.2.1).belowB hb6 (by omega), (by simpa using ho6)⟩
    clear S5
    clear ho6 hb6
    go_wp2_with fail
    refine (ProgThen_I _ zq _ zs _ ((S6.out.2.2.2.2.1).rd) (by omega) ((S6.out.2.2.2.2.2.2.1).rd) (by omega) _ _ HB.out).mono ?_
    rintro e w_7 ⟨qs, rfl, ho7, hb7⟩
    have hz7 : w_6.heap.size ≤ w_7.heap.size := by have := hb7.size; simpa using this
    replace hb7 : Below (w_6.heap.size) w_6 w_7 := by simpa using hb7
    have S7 : Hid (Below w0.heap.size w0 w_7 ∧ RdBC w_7 w0.heap.size (.slice A0 x0.length c0) (x0) ∧ RdBC w_7 w0.heap.size (.slice A1 x1.length c1) (x1) ∧ OwnI w_7 (w0.heap.size) (m1) p (zp) ∧ OwnI w_7 (m1) (w_1.heap.size) q (zq) ∧ OwnI w_7 (w_1.heap.size) (w_2.heap.size) x (y0) ∧ OwnI w_7 (w_4.heap.size) (m5) s (zs) ∧ OwnI w_7 (w_5.heap.size) (w_6.heap.size) a (za) ∧ OwnI w_7 (w_6.heap.size) (w_7.heap.size) qs (zqs)) := Lib.hid ⟨(S6.out.1).trans (hb7.mono (by omega)), (S6.out.2.1).below (hb7.mono (by omega)), (S6.out.2.2.1).below (hb7.mono (by omega)), (S6.out.2.2.2.1).belowB hb7 (by omega), (S6.out.2.2.2.2.1).belowB hb7 (by omega), (S6.out.2.2.2.2.2.1).belowB hb7 (by omega), (S6.out.2.2.2.2.2.2.1).belowB hb7 (by omega), (S6.out.2.2.2.2.2.2.2).belowB hb7 (by omega), (by simpa using ho7)⟩
    clear S6
    clear ho7 hb7
    go_wp2_with fail
    refine (ProgThen_I _ zp _ zqs _ ((S7.out.2.2.2.1).rd) (by omega) ((S7.out.2.2.2.2.2.2.2.2).rd) (by omega) _ _ HC.out).mono ?_
    rintro e w_8 ⟨b, rfl, ho8, hb8⟩
    have hz8 : w_7.heap.size ≤ w_8.heap.size := by have := hb8.size; simpa using this
    replace hb8 : Below (w_7.heap.size) w_7 w_8 := by simpa using hb8
    have S8 : Hid (Below w0.heap.size w0 w_8 ∧ RdBC w_8 w0.heap.size (.slice A0 x0.length c0) (x0) ∧ RdBC w_8 w0.heap.size (.slice A1 x1.length c1) (x1) ∧ OwnI w_8 (w0.heap.size) (m1) p (zp) ∧ OwnI w_8 (m1) (w_1.heap.size) q (zq) ∧ OwnI w_8 (w_1.heap.size) (w_2.heap.size) x (y0) ∧ OwnI w_8 (w_4.heap.size) (m5) s (zs) ∧ OwnI w_8 (w_5.heap.size) (w_6.heap.size) a (za) ∧ OwnI w_8 (w_6.heap.size) (w_7.heap.size) qs (zqs) ∧ OwnI w_8 (w_7.heap.size) (w_8.heap.size) b (zb)) := Lib.hid ⟨(S7.out.1).trans (hb8.mono (by omega)), (S7.out.2.1).below (hb8.mono (by omega)), (S7.out.2.2.1).below (hb8.mono (by omega)), (S7.out.2.2.2.1).belowB hb8 (by omega), (S7.out.2.2.2.2.1).belowB hb8 (by omega), (S7.out.2.2.2.2.2.1).belowB hb8 (by omega), (S7.out.2.2.2.2.2.2.1).belowB hb8 (by omega), (S7.out.2.2.2.2.2.2.2.1).belowB hb8 (by omega), (S7.out.2.2.2.2.2.2.2.2).belowB hb8 (by omega), (by simpa using ho8)⟩
    clear S7
    clear ho8 hb8
    go_wp2_with fail
    refine (ProgThen_I _ zp _ [] _ ((S8.out.2.2.2.1).rd) (by omega) (nil_rd' _) (by simp) _ _ HN.out).mono ?_
    rintro e w_9 ⟨same, rfl, ho9, hb9⟩
    have hz9 : w_8.heap.size ≤ w_9.heap.size := by have := hb9.size; simpa using this
    replace hb9 : Below (w_8.heap.size) w_8 w_9 := by simpa using hb9
    have S9 : Hid (Below w0.heap.size w0 w_9 ∧ RdBC w_9 w0.heap.size (.slice A0 x0.length c0) (x0) ∧ RdBC w_9 w0.heap.size (.slice A1 x1.length c1) (x1) ∧ OwnI w_9 (w0.heap.size) (m1) p (zp) ∧ OwnI w_9 (m1) (w_1.heap.size) q (zq) ∧ OwnI w_9 (w_1.heap.size) (w_2.heap.size) x (y0) ∧ OwnI w_9 (w_4.heap.size) (m5) s (zs) ∧ OwnI w_9 (w_5.heap.size) (w_6.heap.size) a (za) ∧ OwnI w_9 (w_6.heap.size) (w_7.heap.size) qs (zqs) ∧ OwnI w_9 (w_7.heap.size) (w_8.heap.size) b (zb) ∧ OwnI w_9 (w_8.heap.size) (w_9.heap.size) same (zp)) := Lib.hid ⟨(S8.out.1).trans (hb9.mono (by omega)), (S8.out.2.1).below (hb9.mono (by omega)), (S8.out.2.2.1).below (hb9.mono (by omega)), (S8.out.2.2.2.1).belowB hb9 (by omega), (S8.out.2.2.2.2.1).belowB hb9 (by omega), (S8.out.2.2.2.2.2.1).belowB hb9 (by omega), (S8.out.2.2.2.2.2.2.1).belowB hb9 (by omega), (S8.out.2.2.2.2.2.2.2.1).belowB hb9 (by omega), (S8.out.2.2.2.2.2.2.2.2.1).belowB hb9 (by omega), (S8.out.2.2.2.2.2.2.2.2.2).belowB hb9 (by omega), (by simpa using ho9)⟩
    clear S8
    clear ho9 hb9
    go_wp2_with fail
    refine (ProgValid_I _ y0 _ ((S9.out.2.2.2.2.2.1).rd) (by omega) true Hvy.out).mono ?_
    rintro e w_10 ⟨rfl, hb10⟩
    have hz10 : w_9.heap.size ≤ w_10.heap.size := by have := hb10.size; simpa using this
    replace hb10 : Below (w_9.heap.size) w_9 w_10 := by simpa using hb10
    have S10 : Hid (Below w0.heap.size w0 w_10 ∧ RdBC w_10 w0.heap.size (.slice A0 x0.length c0) (x0) ∧ RdBC w_10 w0.heap.size (.slice A1 x1.length c1) (x1) ∧ OwnI w_10 (w0.heap.size) (m1) p (zp) ∧ OwnI w_10 (m1) (w_1.heap.size) q (zq) ∧ OwnI w_10 (w_1.heap.size) (w_2.heap.size) x (y0) ∧ OwnI w_10 (w_4.heap.size) (m5) s (zs) ∧ OwnI w_10 (w_5.heap.size) (w_6.heap.size) a (za) ∧ OwnI w_10 (w_6.heap.size) (w_7.heap.size) qs (zqs) ∧ OwnI w_10 (w_7.heap.size) (w_8.heap.size) b (zb) ∧ OwnI w_10 (w_8.heap.size) (w_9.heap.size) same (zp)) := Lib.hid ⟨(S9.out.1).trans (hb10.mono (by omega)), (S9.out.2.1).below (hb10.mono (by omega)), (S9.out.2.2.1).below (hb10.mono (by omega)), (S9.out.2.2.2.1).belowB hb10 (by omega), (S9.out.2.2.2.2.1).belowB hb10 (by omega), (S9.out.2.2.2.2.2.1).belowB hb10 (by omega), (S9.out.2.2.2.2.2.2.1).belowB hb10 (by omega), (S9.out.2.2.2.2.2.2.2.1).belowB hb10 (by omega), (S9.out.2.2.2.2.2.2.2.2.1).belowB hb10 (by omega), (S9.out.2.2.2.2.2.2.2.2.2.1).belowB hb10 (by omega), (S9.out.2.2.2.2.2.2.2.2.2.2).belowB hb10 (by omega)⟩
    clear S9
    clear hb10
    go_wp2_with fail
    refine (smI _ _ _ _ _ ((S10.out.2.2.2.2.2.2.2.2.2.2).rd) ((S10.out.2.2.2.1).rd) true (decide_eq_true rfl)).mono ?_
    rintro e w_11 ⟨rfl, hb11⟩
    have hz11 : w_10.heap.size ≤ w_11.heap.size := by have := hb11.size; simpa using this
    replace hb11 : Below (w_10.heap.size) w_10 w_11 := by simpa using hb11
    have S11 : Hid (Below w0.heap.size w0 w_11 ∧ RdBC w_11 w0.heap.size (.slice A0 x0.length c0) (x0) ∧ RdBC w_11 w0.heap.size (.slice A1 x1.length c1) (x1) ∧ OwnI w_11 (w0.heap.size) (m1) p (zp) ∧ OwnI w_11 (m1) (w_1.heap.size) q (zq) ∧ OwnI w_11 (w_1.heap.size) (w_2.heap.size) x (y0) ∧ OwnI w_11 (w_4.heap.size) (m5) s (zs) ∧ OwnI w_11 (w_5.heap.size) (w_6.heap.size) a (za) ∧ OwnI w_11 (w_6.heap.size) (w_7.heap.size) qs (zqs) ∧ OwnI w_11 (w_7.heap.size) (w_8.heap.size) b (zb) ∧ OwnI w_11 (w_8.heap.size) (w_9.heap.size) same (zp)) := Lib.hid ⟨(S10.out.1).trans (hb11.mono (by omega)), (S10.out.2.1).below (hb11.mono (by omega)), (S10.out.2.2.1).below (hb11.mono (by omega)), (S10.out.2.2.2.1).belowB hb11 (by omega), (S10.out.2.2.2.2.1).belowB hb11 (by omega), (S10.out.2.2.2.2.2.1).belowB hb11 (by omega), (S10.out.2.2.2.2.2.2.1).belowB hb11 (by omega), (S10.out.2.2.2.2.2.2.2.1).belowB hb11 (by omega), (S10.out.2.2.2.2.2.2.2.2.1).belowB hb11 (by omega), (S10.out.2.2.2.2.2.2.2.2.2.1).belowB hb11 (by omega), (S10.out.2.2.2.2.2.2.2.2.2.2).belowB hb11 (by omega)⟩
    clear S10
    clear hb11
    -- at w_11: S11: base code more p q x s a qs b same
    rcases ub with _ | _
    · go_wp2
      go_ret
      exact ⟨rfl, S11.out.1⟩
    · obtain ⟨rfl, rfl, rfl⟩ := Hass.out rfl
      go_wp2_with fail
      refine (smI _ _ _ _ _ ((S11.out.2.2.2.2.2.2.2.1).rd) ((S11.out.2.2.2.2.2.2.2.2.2.1).rd) true (decide_eq_true rfl)).mono ?_
      rintro e w_12 ⟨rfl, hb12⟩
      have hz12 : w_11.heap.size ≤ w_12.heap.size := by have := hb12.size; simpa using this
      replace hb12 : Below (w_11.heap.size) w_11 w_12 := by simpa using hb12
      have S12 : Hid (Below w0.heap.size w0 w_12 ∧ RdBC w_12 w0.heap.size (.slice A0 x0.length c0) (x0) ∧ RdBC w_12 w0.heap.size (.slice A1 x1.length c1) (x1) ∧ OwnI w_12 (w_5.heap.size) (w_6.heap.size) a (za) ∧ OwnI w_12 (w_7.heap.size) (w_8.heap.size) b (za)) := Lib.hid ⟨(S11.out.1).trans (hb12.mono (by omega)), (S11.out.2.1).below (hb12.mono (by omega)), (S11.out.2.2.1).below (hb12.mono (by omega)), (S11.out.2.2.2.2.2.2.2.1).belowB hb12 (by omega), (S11.out.2.2.2.2.2.2.2.2.2.1).belowB hb12 (by omega)⟩
      clear S11
      clear hb12
      -- at w_12: S12: base code more a b
      go_wp2
      go_ret
      exact ⟨rfl, S12.out.1⟩

theorem fnProgThen_walk : LawWalk 4 Try.f4 := by
  intro H enc W base args ds ps hval hA
  rw [Try.params4] at hA hval
  obtain ⟨v0, v1, d0, d1, p0, p1, rfl, rfl, rfl, h0, h1⟩ := trodAll_two hA
  obtain ⟨A0, c0, zs0, rfl, hi0, hc0⟩ := ints_of_trod Try.underlying22 Try.underlying5 cells_byte (hval 0 _ _ rfl rfl) h0
  obtain ⟨A1, c1, zs1, rfl, hi1, hc1⟩ := ints_of_trod Try.underlying22 Try.underlying5 cells_byte (hval 1 _ _ rfl rfl) h1
  exact fnProgThen_any A0 c0 zs0 A1 c1 zs1 W (RdC.mk hi0 hc0) (RdC.mk hi1 hc1)

set_option maxRecDepth 100000 in
theorem fnProgThen_lifted (os : Os) (started : os.Started) (H : Type) (enc : TypeId × Value → H) :
    ReturnsInHanded {} Try.checked os 4 .any (Rows.fnProgThenSpec.pre6 enc Try.prog Try.f4 Rows.fnProgThenRow.domain false) (Rows.fnProgThenSpec.post enc Try.prog Try.f4 false true false false) := by
  refine returnsInHanded_of_change (C := Try.checked) own started (by kernel_rfl) Try.func4
    (ChangeSpec.witness6 (enc := enc) (C := Try.checked) false ⟨#[], #[.slice none 0 0, .slice none 0 0], []⟩ 8 (by kernel_rfl) (by kernel_rfl) (by kernel_rfl) (by kernel_rfl)) ?_
  intro W base args ds gs before hval hW _ _
  exact law_contract laidOut rfl (by kernel_rfl) rfl (fun H ds hd => by
    match ds, hd with
    | [d0, d1], _ => exact ⟨rfl, rfl, rfl⟩) fnProgThen_walk W base args ds gs before hval hW

/-- FnProgThen: the row as it is given. -/
theorem fnProgThen_holds : Rows.FnProgThenSaid :=
  OpenClaim.holds_of_wide 4 Try.f4 rfl rfl rfl rfl rfl rfl rfl ⟨rfl, rfl, rfl, rfl, rfl⟩ rfl rfl rfl rfl rfl (by kernel_rfl) Try.func4 (by kernel_rfl)
    (of_decide_eq_true (by kernel_rfl)) (by unfold Func.isWrapper; first | (rw [if_pos (by decide +kernel)]; kernel_rfl) | (rw [if_neg (by decide +kernel)]; exact ⟨rfl, rfl⟩))
    (fun os started H enc _ => fnProgThen_lifted os started H enc)

end Go.Proofs.Ytabjlloohcnijaa
