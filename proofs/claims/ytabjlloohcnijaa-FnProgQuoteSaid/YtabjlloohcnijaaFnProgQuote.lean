/- FnProgQuote: of every code: ProgQuote is its model at the drawn program; the parts of a value are one, itself; its depth is one more. For every input. -/
import Derived.Test.YtabjlloohcnijaaFnProgDepth
import Derived.Test.YtabjlloohcnijaaPb
namespace Go.Proofs.Ytabjlloohcnijaa
open Go.RowKit Go.WideShapes Go.ChangeShapes

theorem partsFrom_close {o : Int} {cur p : List Int} (ho : 0 ≤ o) (h : fitsFrom o p = true) : partsFrom (o + 1) cur (p ++ [1013]) = [cur ++ p ++ [1013]] := by
  induction p generalizing o cur with
  | nil =>
    simp [fitsFrom] at h; subst h
    simp [partsFrom, brk]
  | cons z zs ih =>
    rw [fitsFrom] at h
    by_cases hn : o + brk z < 0
    · simp [hn] at h
    · rw [if_neg hn] at h
      rw [List.cons_append, partsFrom, if_neg (by omega), show o + 1 + brk z = o + brk z + 1 from by omega, ih (by omega) h]
      simp
theorem partsR_quote {p : List Int} (hp : validB p = true) (hq : p.length + 2 ≤ 60) : partsR (1012 :: (p ++ [1013])) = [1012 :: (p ++ [1013])] := by
  have hf : fitsFrom 0 p = true := by simp only [validB, Bool.and_eq_true, decide_eq_true_eq] at hp; exact hp.2
  rw [partsR, if_pos (by rw [validB_quote hp]; exact decide_eq_true hq), partsFrom, show (0 : Int) + brk 1012 = 0 + 1 from rfl, if_neg (by omega), partsFrom_close (by omega) hf]
  rfl
theorem depthFrom_close {o m : Int} {p : List Int} (hm : 0 ≤ m) (h : fitsFrom o p = true) : depthFrom (o + 1) (m + 1) (p ++ [1013]) = depthFrom o m p + 1 := by
  induction p generalizing o m with
  | nil =>
    simp [fitsFrom] at h; subst h
    show depthFrom (0 + 1 + brk 1013) (if m + 1 < 0 + 1 + brk 1013 then 0 + 1 + brk 1013 else m + 1) [] = m + 1
    have h : (0 : Int) + 1 + brk 1013 = 0 := rfl
    rw [h, if_neg (by omega)]; rfl
  | cons z zs ih =>
    rw [fitsFrom] at h
    by_cases hn : o + brk z < 0
    · simp [hn] at h
    · rw [if_neg hn] at h
      rw [List.cons_append, depthFrom, depthFrom, show o + 1 + brk z = o + brk z + 1 from by omega]
      by_cases h1 : m < o + brk z
      · rw [if_pos h1, if_pos (by omega)]; exact ih (by omega) h
      · rw [if_neg h1, if_neg (by omega)]; exact ih hm h
theorem depthR_quote {p : List Int} (hp : validB p = true) (hq : p.length + 2 ≤ 60) : depthR (1012 :: (p ++ [1013])) = depthR p + 1 := by
  have hf : fitsFrom 0 p = true := by simp only [validB, Bool.and_eq_true, decide_eq_true_eq] at hp; exact hp.2
  rw [depthR, if_pos (by rw [validB_quote hp]; exact decide_eq_true hq), depthR, if_pos hp, depthFrom, show (0 : Int) + brk 1012 = 0 + 1 from rfl, if_pos (by omega)]
  exact depthFrom_close (Int.le_refl 0) hf
theorem depthFrom_bd (l : List Int) : ∀ (o m M : Int), m ≤ M → o + l.length ≤ M → depthFrom o m l ≤ M := by
  induction l with
  | nil => intro o m M h1 _; exact h1
  | cons z zs ih =>
    intro o m M h1 h2
    have hb := brk_bd z
    simp only [List.length_cons] at h2
    rw [depthFrom]
    by_cases h : m < o + brk z
    · rw [if_pos h]; exact ih _ _ _ (by omega) (by omega)
    · rw [if_neg h]; exact ih _ _ _ h1 (by omega)
theorem depthR_bd {p : List Int} (hp : validB p = true) : 0 ≤ depthR p ∧ depthR p ≤ 1000000 := by
  rw [depthR, if_pos hp]
  exact ⟨depthFrom_ge 0 0 p, depthFrom_bd p 0 0 _ (by omega) (by have := validB_len hp; omega)⟩
theorem quoteR_cases (p : List Int) : (quoteR p = ([], false)) ∨ (validB p = true ∧ p.length + 2 ≤ 60 ∧ quoteR p = (1012 :: (p ++ [1013]), true)) := by
  unfold quoteR; split
  · rename_i h; exact .inr ⟨h.1, h.2, rfl⟩
  · exact .inl rfl

set_option maxHeartbeats 2000000 in
theorem fnProgQuote_any (A0 : Option Addr) (c0 : Nat) (x0 : List Int) (w0 : World) (h0 : RdC w0 (.slice A0 x0.length c0) x0) :
    Calls Try.prog 5 #[.slice A0 x0.length c0] w0 fun e w' => e = .returned (.bool true) ∧ Below w0.heap.size w0 w' := by
  have hm := h0.len_le
  have HH := Lib.hid h0; clear h0
  by_cases hl : x0.length ≤ 1048576
  case neg =>
    go_enter Try.func5, Try.ntmps5
    go_wp2
    go_ret
    exact ⟨rfl, Below.refl _ _⟩
  have S0 : Hid (Below w0.heap.size w0 w0 ∧ RdBC w0 w0.heap.size (.slice A0 x0.length c0) x0) := Lib.hid ⟨Below.refl _ _, HH.out⟩
  clear HH
  go_enter Try.func5, Try.ntmps5
  go_wp2_with fail
  refine (DrawProgQuote_any (.slice A0 x0.length c0) x0 _ ((S0.out.2).rd (by omega))).mono ?_
  rintro e w_1 ⟨p, zp, rfl, ho1, hl_p, hb1⟩
  have hz1 : w0.heap.size ≤ w_1.heap.size := by have := hb1.size; simpa using this
  replace hb1 : Below (w0.heap.size) w0 w_1 := by simpa using hb1
  have S1 : Hid (Below w0.heap.size w0 w_1 ∧ RdBC w_1 w0.heap.size (.slice A0 x0.length c0) (x0) ∧ OwnI w_1 (w0.heap.size) (w_1.heap.size) p (zp)) := Lib.hid ⟨(S0.out.1).trans (hb1.mono (by omega)), (S0.out.2).below (hb1.mono (by omega)), (by simpa using ho1)⟩
  clear S0
  clear ho1 hb1
  -- at w_1: S1: base code p
  have Hcs := Lib.hid (quoteR_cases zp)
  generalize hR : quoteR zp = R
  obtain ⟨y0, y1⟩ := R
  have HR := Lib.hid hR; clear hR
  have hbb : (y1 != y1) = false := by simp
  go_wp2_with fail
  refine (ProgQuote_I _ zp _ ((S1.out.2.2).rd) (by omega) _ _ HR.out).mono ?_
  rintro e w_2 ⟨x, rfl, ho2, hb2⟩
  have hz2 : w_1.heap.size ≤ w_2.heap.size := by have := hb2.size; simpa using this
  replace hb2 : Below (w_1.heap.size) w_1 w_2 := by simpa using hb2
  have S2 : Hid (Below w0.heap.size w0 w_2 ∧ RdBC w_2 w0.heap.size (.slice A0 x0.length c0) (x0) ∧ OwnI w_2 (w0.heap.size) (w_1.heap.size) p (zp) ∧ OwnI w_2 (w_1.heap.size) (w_2.heap.size) x (y0)) := Lib.hid ⟨(S1.out.1).trans (hb2.mono (by omega)), (S1.out.2.1).below (hb2.mono (by omega)), (S1.out.2.2).belowB hb2 (by omega), (by simpa using ho2)⟩
  clear S1
  clear ho2 hb2
  go_wp2_with fail
  refine (ProgQuote_S _ zp _ ((S2.out.2.2.1).rd) (by omega) _ _ HR.out).mono ?_
  rintro e w_3 ⟨y, rfl, ho3, hb3⟩
  have hz3 : w_2.heap.size ≤ w_3.heap.size := by have := hb3.size; simpa using this
  replace hb3 : Below (w_2.heap.size) w_2 w_3 := by simpa using hb3
  have S3 : Hid (Below w0.heap.size w0 w_3 ∧ RdBC w_3 w0.heap.size (.slice A0 x0.length c0) (x0) ∧ OwnI w_3 (w0.heap.size) (w_1.heap.size) p (zp) ∧ OwnI w_3 (w_1.heap.size) (w_2.heap.size) x (y0) ∧ OwnI w_3 (w_2.heap.size) (w_3.heap.size) y (y0)) := Lib.hid ⟨(S2.out.1).trans (hb3.mono (by omega)), (S2.out.2.1).below (hb3.mono (by omega)), (S2.out.2.2.1).belowB hb3 (by omega), (S2.out.2.2.2).belowB hb3 (by omega), (by simpa using ho3)⟩
  clear S2
  clear ho3 hb3
  go_wp2_with fail
  refine (smI _ _ _ _ _ ((S3.out.2.2.2.1).rd) ((S3.out.2.2.2.2).rd) true (decide_eq_true rfl)).mono ?_
  rintro e w_4 ⟨rfl, hb4⟩
  have hz4 : w_3.heap.size ≤ w_4.heap.size := by have := hb4.size; simpa using this
  replace hb4 : Below (w_3.heap.size) w_3 w_4 := by simpa using hb4
  have S4 : Hid (Below w0.heap.size w0 w_4 ∧ RdBC w_4 w0.heap.size (.slice A0 x0.length c0) (x0) ∧ OwnI w_4 (w0.heap.size) (w_1.heap.size) p (zp) ∧ OwnI w_4 (w_1.heap.size) (w_2.heap.size) x (y0) ∧ OwnI w_4 (w_2.heap.size) (w_3.heap.size) y (y0)) := Lib.hid ⟨(S3.out.1).trans (hb4.mono (by omega)), (S3.out.2.1).below (hb4.mono (by omega)), (S3.out.2.2.1).belowB hb4 (by omega), (S3.out.2.2.2.1).belowB hb4 (by omega), (S3.out.2.2.2.2).belowB hb4 (by omega)⟩
  clear S3
  clear hb4
  -- at w_4: S4: base code p x y
  rcases y1 with _ | _
  · have hy : y0 = [] := by
      rcases Hcs.out with h | ⟨_, _, h⟩
      · rw [HR.out] at h; simp at h; exact h
      · rw [HR.out] at h; simp at h
    subst hy
    obtain ⟨Ax, cx, hxx, _⟩ := (S4.out.2.2.2.1).own.ints
    subst hxx
    go_wp2_with fail
    refine (alive_any _).mono ?_
    rintro e w_5 ⟨rfl, hb5⟩
    have hz5 : w_4.heap.size ≤ w_5.heap.size := by have := hb5.size; simpa using this
    replace hb5 : Below (w_4.heap.size) w_4 w_5 := by simpa using hb5
    have S5 : Hid (Below w0.heap.size w0 w_5 ∧ RdBC w_5 w0.heap.size (.slice A0 x0.length c0) (x0) ∧ OwnI w_5 (w0.heap.size) (w_1.heap.size) p (zp) ∧ OwnI w_5 (w_1.heap.size) (w_2.heap.size) (.slice Ax [].length cx) ([]) ∧ OwnI w_5 (w_2.heap.size) (w_3.heap.size) y ([])) := Lib.hid ⟨(S4.out.1).trans (hb5.mono (by omega)), (S4.out.2.1).below (hb5.mono (by omega)), (S4.out.2.2.1).belowB hb5 (by omega), (S4.out.2.2.2.1).belowB hb5 (by omega), (S4.out.2.2.2.2).belowB hb5 (by omega)⟩
    clear S4
    clear hb5
    -- at w_5: S5: base code p x y
    go_wp2
    go_ret
    exact ⟨rfl, S5.out.1⟩
  · obtain ⟨hvp, hlen, hy⟩ : validB zp = true ∧ zp.length + 2 ≤ 60 ∧ y0 = 1012 :: (zp ++ [1013]) := by
      rcases Hcs.out with h | ⟨h1, h3, h⟩
      · rw [HR.out] at h; simp at h
      · rw [HR.out] at h; simp at h; exact ⟨h1, h3, h⟩
    have hly : y0.length ≤ 60 := by rw [hy]; simp; omega
    have HP : Hid (partsR y0 = [y0]) := Lib.hid (by rw [hy]; exact partsR_quote hvp hlen)
    have HD : Hid (depthR y0 = depthR zp + 1) := Lib.hid (by rw [hy]; exact depthR_quote hvp hlen)
    have hdp := depthR_bd hvp
    generalize hdd : depthR zp = dp at *
    have Hdd := Lib.hid hdd; clear hdd
    have Hy := Lib.hid (And.intro hvp hy); clear hvp hy Hcs
    go_wp2_with fail
    refine (ProgParts_I _ y0 _ ((S4.out.2.2.2.1).rd) (by omega) _ HP.out).mono ?_
    rintro e w_5 ⟨parts, rfl, ho5, hb5⟩
    have hz5 : w_4.heap.size ≤ w_5.heap.size := by have := hb5.size; simpa using this
    replace hb5 : Below (w_4.heap.size) w_4 w_5 := by simpa using hb5
    have S5 : Hid (Below w0.heap.size w0 w_5 ∧ RdBC w_5 w0.heap.size (.slice A0 x0.length c0) (x0) ∧ OwnI w_5 (w0.heap.size) (w_1.heap.size) p (zp) ∧ OwnI w_5 (w_1.heap.size) (w_2.heap.size) x (y0) ∧ OwnS w_5 (w_4.heap.size) (w_5.heap.size) parts ([y0])) := Lib.hid ⟨(S4.out.1).trans (hb5.mono (by omega)), (S4.out.2.1).below (hb5.mono (by omega)), (S4.out.2.2.1).belowB hb5 (by omega), (S4.out.2.2.2.1).belowB hb5 (by omega), (by simpa using ho5)⟩
    clear S4
    clear ho5 hb5
    -- at w_5: S5: base code p x parts
    obtain ⟨vs, hvs⟩ := S5.out.2.2.2.2
    obtain ⟨u, hu⟩ : ∃ u, vs[0]? = some u := ⟨vs[0]'(by rw [hvs.len]; simp), List.getElem?_eq_getElem _⟩
    have hou := hvs.inner 0 u y0 hu rfl
    rcases hvs.form with ⟨_, h0⟩ | ⟨g, cap, rfl, hg, hc⟩
    · simp at h0
    have hcell := hc 0 u hu
    obtain ⟨Au, cu, rfl, _⟩ := hou.own.ints
    have S6 : Hid (Below w0.heap.size w0 w_5 ∧ RdI w_5 x y0 ∧ RdI w_5 (.slice Au y0.length cu) y0 ∧ RdI w_5 p zp) := Lib.hid ⟨S5.out.1, S5.out.2.2.2.1.rd, hou.rd, S5.out.2.2.1.rd⟩
    clear S5 hvs hou hc hu
    go_wp2_with fail
    refine (smI _ _ _ _ _ S6.out.2.2.1 S6.out.2.1 true (decide_eq_true rfl)).mono ?_
    rintro e w_6 ⟨rfl, hb6⟩
    have HB6 := Lib.hid hb6; clear hb6
    go_wp2_with fail
    refine (ProgDepth_I _ y0 _ (S6.out.2.1.step HB6.out) (by omega) _ HD.out).mono ?_
    rintro e w_7 ⟨rfl, hb7⟩
    have HB7 := Lib.hid (below_after HB6.out hb7); clear hb7
    go_wp2_with fail
    refine (ProgDepth_I _ zp _ (S6.out.2.2.2.step HB7.out) (by omega) _ Hdd.out).mono ?_
    rintro e w_8 ⟨rfl, hb8⟩
    have HB8 := Lib.hid (S6.out.1.trans ((below_after HB7.out hb8).mono S6.out.1.size)); clear hb8
    go_wp2
    go_ret
    exact ⟨rfl, HB8.out⟩

theorem fnProgQuote_walk : LawWalk 5 Try.f5 := by
  intro H enc W base args ds ps hval hA
  rw [Try.params5] at hA hval
  obtain ⟨v0, d0, rfl, rfl, h0⟩ := trodAll_one hA
  obtain ⟨A0, c0, zs0, rfl, hi0, hc0⟩ := ints_of_trod Try.underlying22 Try.underlying5 cells_byte (hval 0 _ _ rfl rfl) h0
  exact fnProgQuote_any A0 c0 zs0 W (RdC.mk hi0 hc0)

set_option maxRecDepth 100000 in
theorem fnProgQuote_lifted (os : Os) (started : os.Started) (H : Type) (enc : TypeId × Value → H) :
    ReturnsInHanded {} Try.checked os 5 .any (Rows.fnProgQuoteSpec.pre6 enc Try.prog Try.f5 Rows.fnProgQuoteRow.domain false) (Rows.fnProgQuoteSpec.post enc Try.prog Try.f5 false true false false) := by
  refine returnsInHanded_of_change (C := Try.checked) own started (by kernel_rfl) Try.func5
    (ChangeSpec.witness6 (enc := enc) (C := Try.checked) false ⟨#[], #[.slice none 0 0], []⟩ 8 (by kernel_rfl) (by kernel_rfl) (by kernel_rfl) (by kernel_rfl)) ?_
  intro W base args ds gs before hval hW _ _
  exact law_contract laidOut rfl (by kernel_rfl) rfl (fun H ds hd => by
    match ds, hd with
    | [d0], _ => exact ⟨rfl, rfl, rfl⟩) fnProgQuote_walk W base args ds gs before hval hW

/-- FnProgQuote: the row as it is given. -/
theorem fnProgQuote_holds : Rows.FnProgQuoteSaid :=
  OpenClaim.holds_of_wide 5 Try.f5 rfl rfl rfl rfl rfl rfl rfl ⟨rfl, rfl, rfl, rfl, rfl⟩ rfl rfl rfl rfl rfl (by kernel_rfl) Try.func5 (by kernel_rfl)
    (of_decide_eq_true (by kernel_rfl)) (by unfold Func.isWrapper; first | (rw [if_pos (by decide +kernel)]; kernel_rfl) | (rw [if_neg (by decide +kernel)]; exact ⟨rfl, rfl⟩))
    (fun os started H enc _ => fnProgQuote_lifted os started H enc)

end Go.Proofs.Ytabjlloohcnijaa
