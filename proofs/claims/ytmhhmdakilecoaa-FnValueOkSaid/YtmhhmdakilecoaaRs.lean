/- The program's runner: the contract of step. -/
import Derived.Test.YtmhhmdakilecoaaRr
namespace Go.Proofs.Ytmhhmdakilecoaa
set_option maxRecDepth 100000
open Go.RowKit Go.WideShapes

theorem word_cases {z : Int} (h : isWordB z = true) : isNumB z = true ∨ z = 1001 ∨ z = 1002 ∨ z = 1003 ∨ z = 1004 ∨ z = 1005 ∨ (z = 1006 ∨ z = 1007 ∨ z = 1008 ∨ z = 1009) ∨ z = 1010 ∨ z = 1011 ∨ z = 1012 ∨ z = 1013 := by
  simp only [isWordB, Bool.or_eq_true, Bool.and_eq_true, decide_eq_true_eq] at h
  rcases h with h | h
  · exact .inl h
  · omega
set_option maxHeartbeats 1000000 in
theorem step_any (lo g : Nat) (rest : List Int) (st : List (List Int)) (w : World) (h : Run w lo g rest st) (hok : okS rest st) (hr : rest.length ≤ 600000000) :
    Calls Try.prog 77 #[.pointer (some ⟨g, 0, none⟩)] w (Did lo g w (stepR rest st)) := by
  have hlt := h.lt
  have H := Lib.hid h; clear h
  rcases rest with _ | ⟨z, r⟩
  · have HR : Hid (stepR [] st = none) := Lib.hid (by simp [stepR, l2R])
    rw [HR.out]
    go_enter Try.func77, Try.ntmps77
    go_wp2_with fail
    refine (popN_none lo g st _ H.out).mono ?_
    rintro e w' ⟨rfl, rfl⟩
    go_wp2
    go_ret
    exact Did.no (Keeps.refl _ _ _)
  · obtain ⟨hl, hv⟩ := stackB_all hok.2
    rw [List.length_cons] at hr
    have Hv := Lib.hid hv
    have hw : isWordB z = true := by
      have := hok.1
      simp only [restB, Bool.and_eq_true, List.all_cons] at this
      exact this.1.1
    rcases word_cases hw with hz | rfl | rfl | rfl | rfl | rfl | hz | rfl | rfl | rfl | rfl
    · have hzb : 0 ≤ z ∧ z ≤ 999 := by simpa [isNumB] using hz
      have HS := Lib.hid (step_num (r := r) hz hl hv)
      have HZ := Lib.hid hz
      clear hw hz hok hv
      generalize stepR (z :: r) st = R at *
      go_enter Try.func77, Try.ntmps77
      go_wp2_with fail
      refine (popN lo g z r st _ H.out (by omega)).mono ?_
      rintro e w1 ⟨rfl, q1, q2, q3⟩
      have X := Lib.hid (And.intro q2 q3); clear q1 q2 q3
      have hlt1 := X.out.1.lt
      go_wp2_with fail
      refine (isNum_any z _).mono ?_
      rw [HZ.out]
      rintro e w' ⟨rfl, rfl⟩
      go_wp2_with fail
      obtain ⟨r1, r2, r3⟩ := X.out.1.lit z (by omega)
      have Y := Lib.hid (And.intro r1 (And.intro r3 (X.out.2.trans r2))); clear r1 r2 r3
      refine (put_any lo g r st _ [z] _ Y.out.1 Y.out.2.1 hl).mono ?_
      rw [← HS.out]
      rintro e w4 hd
      have V := Lib.hid (hd.after Y.out.2.2); clear hd
      obtain ⟨t, rfl, -⟩ := V.out
      go_wp2
      go_ret
      exact V.out
    · have HS := Lib.hid (step_dup (r := r) hl hv)
      have HZ : Hid (isNumB 1001 = false) := Lib.hid rfl
      clear hw hok hv
      generalize stepR (1001 :: r) st = R at *
      go_enter Try.func77, Try.ntmps77
      go_wp2_with fail
      refine (popN lo g 1001 r st _ H.out (by omega)).mono ?_
      rintro e w1 ⟨rfl, q1, q2, q3⟩
      have X := Lib.hid (And.intro q2 q3); clear q1 q2 q3
      have hlt1 := X.out.1.lt
      go_wp2_with fail
      refine (isNum_any 1001 _).mono ?_
      rw [HZ.out]
      rintro e w' ⟨rfl, rfl⟩
      go_wp2_with fail
      refine (dup_any lo g r st _ X.out.1 hl Hv.out).mono ?_
      rw [← HS.out]
      rintro e w4 hd
      have V := Lib.hid (hd.after X.out.2); clear hd
      obtain ⟨t, rfl, -⟩ := V.out
      go_wp2
      go_ret
      exact V.out
    · have HS := Lib.hid (step_drop (r := r) hl hv)
      have HZ : Hid (isNumB 1002 = false) := Lib.hid rfl
      clear hw hok hv
      generalize stepR (1002 :: r) st = R at *
      go_enter Try.func77, Try.ntmps77
      go_wp2_with fail
      refine (popN lo g 1002 r st _ H.out (by omega)).mono ?_
      rintro e w1 ⟨rfl, q1, q2, q3⟩
      have X := Lib.hid (And.intro q2 q3); clear q1 q2 q3
      have hlt1 := X.out.1.lt
      go_wp2_with fail
      refine (isNum_any 1002 _).mono ?_
      rw [HZ.out]
      rintro e w' ⟨rfl, rfl⟩
      go_wp2_with fail
      rcases st with _ | ⟨a, s1⟩
      · obtain rfl : R = none := HS.out
        refine (popV_none lo g r _ X.out.1).mono ?_
        rintro e w' ⟨rfl, rfl⟩
        go_wp2
        go_ret
        exact Did.no X.out.2
      · obtain rfl : R = some (r, s1) := HS.out
        rw [List.length_cons] at hl
        refine (popV lo g r a s1 _ X.out.1 (by omega)).mono ?_
        rintro e w4 ⟨u, rfl, q1, q2, q3⟩
        have Y := Lib.hid (And.intro q2 (X.out.2.trans q3)); clear q1 q2 q3
        go_wp2
        go_ret
        exact Did.yes Y.out.2 Y.out.1
    · have HS := Lib.hid (step_swap (r := r) hl hv)
      have HZ : Hid (isNumB 1003 = false) := Lib.hid rfl
      clear hw hok hv
      generalize stepR (1003 :: r) st = R at *
      go_enter Try.func77, Try.ntmps77
      go_wp2_with fail
      refine (popN lo g 1003 r st _ H.out (by omega)).mono ?_
      rintro e w1 ⟨rfl, q1, q2, q3⟩
      have X := Lib.hid (And.intro q2 q3); clear q1 q2 q3
      have hlt1 := X.out.1.lt
      go_wp2_with fail
      refine (isNum_any 1003 _).mono ?_
      rw [HZ.out]
      rintro e w' ⟨rfl, rfl⟩
      go_wp2_with fail
      refine (swap_any lo g r st _ X.out.1 hl Hv.out).mono ?_
      rw [← HS.out]
      rintro e w4 hd
      have V := Lib.hid (hd.after X.out.2); clear hd
      obtain ⟨t, rfl, -⟩ := V.out
      go_wp2
      go_ret
      exact V.out
    · have HS := Lib.hid (step_dip (r := r) hl hv)
      have HZ : Hid (isNumB 1004 = false) := Lib.hid rfl
      clear hw hok hv
      generalize stepR (1004 :: r) st = R at *
      go_enter Try.func77, Try.ntmps77
      go_wp2_with fail
      refine (popN lo g 1004 r st _ H.out (by omega)).mono ?_
      rintro e w1 ⟨rfl, q1, q2, q3⟩
      have X := Lib.hid (And.intro q2 q3); clear q1 q2 q3
      have hlt1 := X.out.1.lt
      go_wp2_with fail
      refine (isNum_any 1004 _).mono ?_
      rw [HZ.out]
      rintro e w' ⟨rfl, rfl⟩
      go_wp2_with fail
      refine (dip_any lo g r st _ X.out.1 hl (by omega) Hv.out).mono ?_
      rw [← HS.out]
      rintro e w4 hd
      have V := Lib.hid (hd.after X.out.2); clear hd
      obtain ⟨t, rfl, -⟩ := V.out
      go_wp2
      go_ret
      exact V.out
    · have HS := Lib.hid (step_call (r := r) hl hv)
      have HZ : Hid (isNumB 1005 = false) := Lib.hid rfl
      clear hw hok hv
      generalize stepR (1005 :: r) st = R at *
      go_enter Try.func77, Try.ntmps77
      go_wp2_with fail
      refine (popN lo g 1005 r st _ H.out (by omega)).mono ?_
      rintro e w1 ⟨rfl, q1, q2, q3⟩
      have X := Lib.hid (And.intro q2 q3); clear q1 q2 q3
      have hlt1 := X.out.1.lt
      go_wp2_with fail
      refine (isNum_any 1005 _).mono ?_
      rw [HZ.out]
      rintro e w' ⟨rfl, rfl⟩
      go_wp2_with fail
      refine (call_any lo g r st _ X.out.1 hl (by omega) Hv.out).mono ?_
      rw [← HS.out]
      rintro e w4 hd
      have V := Lib.hid (hd.after X.out.2); clear hd
      obtain ⟨t, rfl, -⟩ := V.out
      go_wp2
      go_ret
      exact V.out
    · have hz9 : 1006 ≤ z ∧ z ≤ 1009 := by omega
      have HS := Lib.hid (step_reck (r := r) hz9 hl hv)
      have HZ : Hid (isNumB z = false) := Lib.hid (by simp [isNumB]; omega)
      clear hw hok hv hz9
      generalize stepR (z :: r) st = R at *
      rcases hz with rfl | rfl | rfl | rfl
      all_goals
        go_enter Try.func77, Try.ntmps77
        go_wp2_with fail
        refine (popN lo g _ r st _ H.out (by omega)).mono ?_
        rintro e w1 ⟨rfl, q1, q2, q3⟩
        have X := Lib.hid (And.intro q2 q3); clear q1 q2 q3
        have hlt1 := X.out.1.lt
        go_wp2_with fail
        refine (isNum_any _ _).mono ?_
        rw [HZ.out]
        rintro e w' ⟨rfl, rfl⟩
        go_wp2_with fail
        refine (reckon_any _ lo g r st _ X.out.1 hl Hv.out).mono ?_
        rw [← HS.out]
        rintro e w4 hd
        have V := Lib.hid (hd.after X.out.2); clear hd
        obtain ⟨t, rfl, -⟩ := V.out
        go_wp2
        go_ret
        exact V.out
    · have HS := Lib.hid (step_if (r := r) hl hv)
      have HZ : Hid (isNumB 1010 = false) := Lib.hid rfl
      clear hw hok hv
      generalize stepR (1010 :: r) st = R at *
      go_enter Try.func77, Try.ntmps77
      go_wp2_with fail
      refine (popN lo g 1010 r st _ H.out (by omega)).mono ?_
      rintro e w1 ⟨rfl, q1, q2, q3⟩
      have X := Lib.hid (And.intro q2 q3); clear q1 q2 q3
      have hlt1 := X.out.1.lt
      go_wp2_with fail
      refine (isNum_any 1010 _).mono ?_
      rw [HZ.out]
      rintro e w' ⟨rfl, rfl⟩
      go_wp2_with fail
      refine (choose_any lo g r st _ X.out.1 hl (by omega) Hv.out).mono ?_
      rw [← HS.out]
      rintro e w4 hd
      have V := Lib.hid (hd.after X.out.2); clear hd
      obtain ⟨t, rfl, -⟩ := V.out
      go_wp2
      go_ret
      exact V.out
    · have HS := Lib.hid (step_times (r := r) hl hv)
      have HZ : Hid (isNumB 1011 = false) := Lib.hid rfl
      clear hw hok hv
      generalize stepR (1011 :: r) st = R at *
      go_enter Try.func77, Try.ntmps77
      go_wp2_with fail
      refine (popN lo g 1011 r st _ H.out (by omega)).mono ?_
      rintro e w1 ⟨rfl, q1, q2, q3⟩
      have X := Lib.hid (And.intro q2 q3); clear q1 q2 q3
      have hlt1 := X.out.1.lt
      go_wp2_with fail
      refine (isNum_any 1011 _).mono ?_
      rw [HZ.out]
      rintro e w' ⟨rfl, rfl⟩
      go_wp2_with fail
      refine (times_any lo g r st _ X.out.1 hl (by omega) Hv.out).mono ?_
      rw [← HS.out]
      rintro e w4 hd
      have V := Lib.hid (hd.after X.out.2); clear hd
      obtain ⟨t, rfl, -⟩ := V.out
      go_wp2
      go_ret
      exact V.out
    · obtain ⟨n, hc, hn, hs⟩ := step_quote hok
      have HS := Lib.hid hs; clear hs
      have HZ : Hid (isNumB 1012 = false) := Lib.hid rfl
      have Hc := Lib.hid hc; clear hc
      clear hw hok hv
      generalize stepR (1012 :: r) st = R at *
      go_enter Try.func77, Try.ntmps77
      go_wp2_with fail
      refine (popN lo g 1012 r st _ H.out (by omega)).mono ?_
      rintro e w1 ⟨rfl, q1, q2, q3⟩
      have X := Lib.hid (And.intro q2 q3); clear q1 q2 q3
      have hlt1 := X.out.1.lt
      go_wp2_with fail
      refine (isNum_any 1012 _).mono ?_
      rw [HZ.out]
      rintro e w' ⟨rfl, rfl⟩
      go_wp2_with fail
      refine (quoted_any lo g r n st _ X.out.1 Hc.out hn (by omega)).mono ?_
      rintro e w2 ⟨u, rfl, q1, q2, q3⟩
      have Y := Lib.hid (And.intro q1 (And.intro q2 (X.out.2.trans q3))); clear q1 q2 q3
      have hlt2 := Y.out.2.1.lt
      go_wp2_with fail
      refine (put_any lo g (r.drop n) st u (1012 :: r.take n) _ Y.out.2.1 Y.out.1 hl).mono ?_
      rw [← HS.out]
      rintro e w4 hd
      have V := Lib.hid (hd.after Y.out.2.2); clear hd
      obtain ⟨t, rfl, -⟩ := V.out
      go_wp2
      go_ret
      exact V.out
    · exfalso
      have := hok.1
      simp only [restB, Bool.and_eq_true] at this
      have h2 := this.2
      have hb : brk 1013 = -1 := rfl
      rw [fitsFrom, hb] at h2
      simp at h2
end Go.Proofs.Ytmhhmdakilecoaa
