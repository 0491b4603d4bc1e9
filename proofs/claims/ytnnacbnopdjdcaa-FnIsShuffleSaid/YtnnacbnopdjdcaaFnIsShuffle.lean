/- FnIsShuffle: of every code: IsShuffle is its model at the drawn program; in brackets, and with OpDip behind it, as far as it fits, a shuffle is one; the program without words is one. For every input. -/
import Derived.Test.YtnnacbnopdjdcaaI
import Derived.Test.YtnnacbnopdjdcaaB2
import Derived.Test.YtnnacbnopdjdcaaJb
import Derived.Test.YtnnacbnopdjdcaaJd
import Derived.Test.YtnnacbnopdjdcaaLift
namespace Go.Proofs.Ytnnacbnopdjdcaa
set_option maxRecDepth 100000
open Go.RowKit Go.WideShapes Go.ChangeShapes

theorem nil_rdJ (w : World) : RdI w (.slice none 0 0) [] := ⟨none, 0, rfl, IntsK.nil _ _ _ _, by simp⟩
def DrawnJ (w : World) (e : Ending) (w' : World) : Prop := ∃ v zs, e = .returned v ∧ OwnI w' w.heap.size w'.heap.size v zs ∧ zs.length ≤ 190 ∧ Below w.heap.size w w'
theorem DrawIsShuffle_any (v : Value) (zs : List Int) (w : World) (h : RdC w v zs) : Calls Try.prog 14 #[v] w (DrawnJ w) := by
  have H := Lib.hid h; clear h
  go_enter Try.func14, Try.ntmps14
  go_wp2_with fail
  refine (l20Open_any v zs _ H.out).mono ?_
  rintro e w1 ⟨g, bs, rfl, hr, hg, hb⟩
  have X := Lib.hid (And.intro hr hb); clear hr hb
  have hs := X.out.2.size
  go_wp2_with fail
  refine (shufA 3 w1 g 0 bs _ (by omega) (RS.refl X.out.1) (by omega)).mono ?_
  rintro e w2 ⟨u, ys, p2, rfl, ho, hl, hr2, hp2, hg2⟩
  have Y := Lib.hid (And.intro ho (below_of_within X.out.2 hg hg2)); clear ho hr2 hg2
  go_wp2_with fail
  go_ret
  exact ⟨u, ys, rfl, ⟨Y.out.1.own.mono hs, Y.out.1.lt⟩, hl, Y.out.2⟩

theorem shuf_under {p q u : List Int} {b : Bool} (hp : shufB p = true) (hq : quoteR p = (q, b)) (hu : thenR q [1004] = (u, true)) : q = [] ∨ shufB u = true := by
  rw [shufB, Bool.and_eq_true] at hp
  unfold quoteR at hq
  split at hq
  · rename_i hc
    cases hq
    right
    unfold thenR at hu
    split at hu
    · rename_i hc2
      cases hu
      rw [shufB, Bool.and_eq_true]
      refine ⟨by rw [validB_append hc2.1 hc2.2.1]; exact decide_eq_true hc2.2.2, ?_⟩
      rw [List.cons_append, List.append_assoc, List.singleton_append, shufFrom, shufFrom_end, shufFrom_same (b := 1012) (c := 1002) p (by decide), hp.2]
      rfl
    · cases hu
  · cases hq; exact .inl rfl
theorem quoteR_len60 (p : List Int) : (quoteR p).1.length ≤ 60 := by
  unfold quoteR; split
  · rename_i h; simp; omega
  · simp
theorem thenR_len60 (p q : List Int) : (thenR p q).1.length ≤ 60 := by
  unfold thenR; split
  · rename_i h; simp; omega
  · simp

set_option maxHeartbeats 4000000 in
theorem fnIsShuffle_any (A0 : Option Addr) (c0 : Nat) (x0 : List Int) (w0 : World) (h0 : RdC w0 (.slice A0 x0.length c0) x0) :
    Calls Try.prog 3 #[.slice A0 x0.length c0] w0 fun e w' => e = .returned (.bool true) ∧ Below w0.heap.size w0 w' := by
  have hm := h0.len_le
  have HH := Lib.hid h0; clear h0
  by_cases hl : x0.length ≤ 1048576
  case neg =>
    go_enter Try.func3, Try.ntmps3
    go_wp2
    go_ret
    exact ⟨rfl, Below.refl _ _⟩
  have S0 : Hid (Below w0.heap.size w0 w0 ∧ RdBC w0 w0.heap.size (.slice A0 x0.length c0) x0) := Lib.hid ⟨Below.refl _ _, HH.out⟩
  clear HH
  go_enter Try.func3, Try.ntmps3
  go_wp2_with fail
  refine (DrawIsShuffle_any (.slice A0 x0.length c0) x0 _ ((S0.out.2).rd (by first | omega | (simp <;> omega)))).mono ?_
  rintro e w_1 ⟨p, zp, rfl, ho1, hl_p, hb1⟩
  have hz1 : w0.heap.size ≤ w_1.heap.size := by have := hb1.size; simpa using this
  replace hb1 : Below (w0.heap.size) w0 w_1 := by simpa using hb1
  have S1 : Hid (Below w0.heap.size w0 w_1 ∧ RdBC w_1 w0.heap.size (.slice A0 x0.length c0) (x0) ∧ OwnI w_1 (w0.heap.size) (w_1.heap.size) p (zp)) := Lib.hid ⟨(S0.out.1).trans (hb1.mono (by omega)), (S0.out.2).below (hb1.mono (by omega)), (by simpa using ho1)⟩
  clear S0
  clear ho1 hb1
  -- at w_1: S1: base code p
  rcases hq : quoteR zp with ⟨y0, y1⟩
  have hyl : y0.length ≤ 60 := by have := quoteR_len60 zp; rw [hq] at this; exact this
  rcases ht : thenR y0 [1004] with ⟨z0, z1⟩
  have hzl : z0.length ≤ 60 := by have := thenR_len60 y0 [1004]; rw [ht] at this; exact this
  have HU := Lib.hid (fun h : shufB zp = true => fun h1 : z1 = true => shuf_under h hq (by rw [ht, h1]))
  have HQ := Lib.hid hq; clear hq
  have HT := Lib.hid ht; clear ht
  rcases hs : shufB zp with _ | _ <;> have HS := Lib.hid hs <;> clear hs
  · skip
    go_wp2_with fail
    refine (IsShuffle_I _ zp _ ((S1.out.2.2).rd) (by omega) false HS.out).mono ?_
    rintro e w_2 ⟨rfl, hb2⟩
    have hz2 : w_1.heap.size ≤ w_2.heap.size := by have := hb2.size; simpa using this
    replace hb2 : Below (w_1.heap.size) w_1 w_2 := by simpa using hb2
    have S2 : Hid (Below w0.heap.size w0 w_2 ∧ RdBC w_2 w0.heap.size (.slice A0 x0.length c0) (x0) ∧ OwnI w_2 (w0.heap.size) (w_1.heap.size) p (zp)) := Lib.hid ⟨(S1.out.1).trans (hb2.mono (by omega)), (S1.out.2.1).below (hb2.mono (by omega)), (S1.out.2.2).belowB hb2 (by omega)⟩
    clear S1
    clear hb2
    go_wp2_with fail
    refine (IsShuffle_S _ zp _ ((S2.out.2.2).rd) (by omega) false HS.out).mono ?_
    rintro e w_3 ⟨rfl, hb3⟩
    have hz3 : w_2.heap.size ≤ w_3.heap.size := by have := hb3.size; simpa using this
    replace hb3 : Below (w_2.heap.size) w_2 w_3 := by simpa using hb3
    have S3 : Hid (Below w0.heap.size w0 w_3 ∧ RdBC w_3 w0.heap.size (.slice A0 x0.length c0) (x0) ∧ OwnI w_3 (w0.heap.size) (w_1.heap.size) p (zp)) := Lib.hid ⟨(S2.out.1).trans (hb3.mono (by omega)), (S2.out.2.1).below (hb3.mono (by omega)), (S2.out.2.2).belowB hb3 (by omega)⟩
    clear S2
    clear hb3
    go_wp2_with fail
    refine (ProgQuote_I _ zp _ ((S3.out.2.2).rd) (by omega) y0 y1 HQ.out).mono ?_
    rintro e w_4 ⟨q, rfl, ho4, hb4⟩
    have hz4 : w_3.heap.size ≤ w_4.heap.size := by have := hb4.size; simpa using this
    replace hb4 : Below (w_3.heap.size) w_3 w_4 := by simpa using hb4
    have S4 : Hid (Below w0.heap.size w0 w_4 ∧ RdBC w_4 w0.heap.size (.slice A0 x0.length c0) (x0) ∧ OwnI w_4 (w0.heap.size) (w_1.heap.size) p (zp) ∧ OwnI w_4 (w_3.heap.size) (w_4.heap.size) q (y0)) := Lib.hid ⟨(S3.out.1).trans (hb4.mono (by omega)), (S3.out.2.1).below (hb4.mono (by omega)), (S3.out.2.2).belowB hb4 (by omega), (by simpa using ho4)⟩
    clear S3
    clear ho4 hb4
    have hb5 : Below (w_4.heap.size) w_4 (w_4.alloc (.cells #[.int .i64 (1004)] 3)) := (Below.refl _ _).alloc (by first | omega | simp) _
    have ho5 := lits_own w_4 [1004] (by simp) (by intro z hz; simp only [List.mem_cons, List.not_mem_nil, or_false] at hz; apply wf_near; omega)
    have S5 : Hid (Below w0.heap.size w0 (w_4.alloc (.cells #[.int .i64 (1004)] 3)) ∧ RdBC (w_4.alloc (.cells #[.int .i64 (1004)] 3)) w0.heap.size (.slice A0 x0.length c0) (x0) ∧ OwnI (w_4.alloc (.cells #[.int .i64 (1004)] 3)) (w0.heap.size) (w_1.heap.size) p (zp) ∧ OwnI (w_4.alloc (.cells #[.int .i64 (1004)] 3)) (w_3.heap.size) (w_4.heap.size) q (y0) ∧ OwnI (w_4.alloc (.cells #[.int .i64 (1004)] 3)) (w_4.heap.size) (w_4.heap.size + 1) (.slice (some ⟨w_4.heap.size, 0, none⟩) 1 1) ([1004])) := Lib.hid ⟨(S4.out.1).trans (hb5.mono (by omega)), (S4.out.2.1).below (hb5.mono (by omega)), (S4.out.2.2.1).belowB hb5 (by omega), (S4.out.2.2.2).belowB hb5 (by omega), (by simpa using ho5)⟩
    clear S4
    clear hb5 ho5
    go_wp2_with fail
    refine (ProgThen_I _ y0 _ [1004] _ ((S5.out.2.2.2.1).rd) (by omega) ((S5.out.2.2.2.2).rd) (by simp) z0 z1 HT.out).mono ?_
    rintro e w_6 ⟨t, rfl, ho6, hb6⟩
    have hz6 : w_4.heap.size + 1 ≤ w_6.heap.size := by have := hb6.size; simpa using this
    replace hb6 : Below (w_4.heap.size + 1) (w_4.alloc (.cells #[.int .i64 (1004)] 3)) w_6 := by simpa using hb6
    have S6 : Hid (Below w0.heap.size w0 w_6 ∧ RdBC w_6 w0.heap.size (.slice A0 x0.length c0) (x0) ∧ OwnI w_6 (w0.heap.size) (w_1.heap.size) p (zp) ∧ OwnI w_6 (w_3.heap.size) (w_4.heap.size) q (y0) ∧ OwnI w_6 (w_4.heap.size) (w_4.heap.size + 1) (.slice (some ⟨w_4.heap.size, 0, none⟩) 1 1) ([1004]) ∧ OwnI w_6 (w_4.heap.size + 1) (w_6.heap.size) t (z0)) := Lib.hid ⟨(S5.out.1).trans (hb6.mono (by omega)), (S5.out.2.1).below (hb6.mono (by omega)), (S5.out.2.2.1).belowB hb6 (by omega), (S5.out.2.2.2.1).belowB hb6 (by omega), (S5.out.2.2.2.2).belowB hb6 (by omega), (by simpa using ho6)⟩
    clear S5
    clear ho6 hb6
    go_wp2_with fail
    refine (IsShuffle_I _ [] _ (nil_rdJ _) (by simp) true rfl).mono ?_
    rintro e w_7 ⟨rfl, hb7⟩
    have hz7 : w_6.heap.size ≤ w_7.heap.size := by have := hb7.size; simpa using this
    replace hb7 : Below (w_6.heap.size) w_6 w_7 := by simpa using hb7
    have S7 : Hid (Below w0.heap.size w0 w_7 ∧ RdBC w_7 w0.heap.size (.slice A0 x0.length c0) (x0) ∧ OwnI w_7 (w0.heap.size) (w_1.heap.size) p (zp) ∧ OwnI w_7 (w_3.heap.size) (w_4.heap.size) q (y0) ∧ OwnI w_7 (w_4.heap.size) (w_4.heap.size + 1) (.slice (some ⟨w_4.heap.size, 0, none⟩) 1 1) ([1004]) ∧ OwnI w_7 (w_4.heap.size + 1) (w_6.heap.size) t (z0)) := Lib.hid ⟨(S6.out.1).trans (hb7.mono (by omega)), (S6.out.2.1).below (hb7.mono (by omega)), (S6.out.2.2.1).belowB hb7 (by omega), (S6.out.2.2.2.1).belowB hb7 (by omega), (S6.out.2.2.2.2.1).belowB hb7 (by omega), (S6.out.2.2.2.2.2).belowB hb7 (by omega)⟩
    clear S6
    clear hb7
    go_wp2_with fail
    refine (alive_any _).mono ?_
    rintro e w_8 ⟨rfl, hb8⟩
    have hz8 : w_7.heap.size ≤ w_8.heap.size := by have := hb8.size; simpa using this
    replace hb8 : Below (w_7.heap.size) w_7 w_8 := by simpa using hb8
    have S8 : Hid (Below w0.heap.size w0 w_8 ∧ RdBC w_8 w0.heap.size (.slice A0 x0.length c0) (x0) ∧ OwnI w_8 (w0.heap.size) (w_1.heap.size) p (zp) ∧ OwnI w_8 (w_3.heap.size) (w_4.heap.size) q (y0) ∧ OwnI w_8 (w_4.heap.size) (w_4.heap.size + 1) (.slice (some ⟨w_4.heap.size, 0, none⟩) 1 1) ([1004]) ∧ OwnI w_8 (w_4.heap.size + 1) (w_6.heap.size) t (z0)) := Lib.hid ⟨(S7.out.1).trans (hb8.mono (by omega)), (S7.out.2.1).below (hb8.mono (by omega)), (S7.out.2.2.1).belowB hb8 (by omega), (S7.out.2.2.2.1).belowB hb8 (by omega), (S7.out.2.2.2.2.1).belowB hb8 (by omega), (S7.out.2.2.2.2.2).belowB hb8 (by omega)⟩
    clear S7
    clear hb8
    -- at w_8: S8: base code p q d t
    go_wp2
    go_ret
    exact ⟨rfl, S8.out.1⟩
  · skip
    go_wp2_with fail
    refine (IsShuffle_I _ zp _ ((S1.out.2.2).rd) (by omega) true HS.out).mono ?_
    rintro e w_2 ⟨rfl, hb2⟩
    have hz2 : w_1.heap.size ≤ w_2.heap.size := by have := hb2.size; simpa using this
    replace hb2 : Below (w_1.heap.size) w_1 w_2 := by simpa using hb2
    have S2 : Hid (Below w0.heap.size w0 w_2 ∧ RdBC w_2 w0.heap.size (.slice A0 x0.length c0) (x0) ∧ OwnI w_2 (w0.heap.size) (w_1.heap.size) p (zp)) := Lib.hid ⟨(S1.out.1).trans (hb2.mono (by omega)), (S1.out.2.1).below (hb2.mono (by omega)), (S1.out.2.2).belowB hb2 (by omega)⟩
    clear S1
    clear hb2
    go_wp2_with fail
    refine (IsShuffle_S _ zp _ ((S2.out.2.2).rd) (by omega) true HS.out).mono ?_
    rintro e w_3 ⟨rfl, hb3⟩
    have hz3 : w_2.heap.size ≤ w_3.heap.size := by have := hb3.size; simpa using this
    replace hb3 : Below (w_2.heap.size) w_2 w_3 := by simpa using hb3
    have S3 : Hid (Below w0.heap.size w0 w_3 ∧ RdBC w_3 w0.heap.size (.slice A0 x0.length c0) (x0) ∧ OwnI w_3 (w0.heap.size) (w_1.heap.size) p (zp)) := Lib.hid ⟨(S2.out.1).trans (hb3.mono (by omega)), (S2.out.2.1).below (hb3.mono (by omega)), (S2.out.2.2).belowB hb3 (by omega)⟩
    clear S2
    clear hb3
    go_wp2_with fail
    refine (ProgQuote_I _ zp _ ((S3.out.2.2).rd) (by omega) y0 y1 HQ.out).mono ?_
    rintro e w_4 ⟨q, rfl, ho4, hb4⟩
    have hz4 : w_3.heap.size ≤ w_4.heap.size := by have := hb4.size; simpa using this
    replace hb4 : Below (w_3.heap.size) w_3 w_4 := by simpa using hb4
    have S4 : Hid (Below w0.heap.size w0 w_4 ∧ RdBC w_4 w0.heap.size (.slice A0 x0.length c0) (x0) ∧ OwnI w_4 (w0.heap.size) (w_1.heap.size) p (zp) ∧ OwnI w_4 (w_3.heap.size) (w_4.heap.size) q (y0)) := Lib.hid ⟨(S3.out.1).trans (hb4.mono (by omega)), (S3.out.2.1).below (hb4.mono (by omega)), (S3.out.2.2).belowB hb4 (by omega), (by simpa using ho4)⟩
    clear S3
    clear ho4 hb4
    have hb5 : Below (w_4.heap.size) w_4 (w_4.alloc (.cells #[.int .i64 (1004)] 3)) := (Below.refl _ _).alloc (by first | omega | simp) _
    have ho5 := lits_own w_4 [1004] (by simp) (by intro z hz; simp only [List.mem_cons, List.not_mem_nil, or_false] at hz; apply wf_near; omega)
    have S5 : Hid (Below w0.heap.size w0 (w_4.alloc (.cells #[.int .i64 (1004)] 3)) ∧ RdBC (w_4.alloc (.cells #[.int .i64 (1004)] 3)) w0.heap.size (.slice A0 x0.length c0) (x0) ∧ OwnI (w_4.alloc (.cells #[.int .i64 (1004)] 3)) (w0.heap.size) (w_1.heap.size) p (zp) ∧ OwnI (w_4.alloc (.cells #[.int .i64 (1004)] 3)) (w_3.heap.size) (w_4.heap.size) q (y0) ∧ OwnI (w_4.alloc (.cells #[.int .i64 (1004)] 3)) (w_4.heap.size) (w_4.heap.size + 1) (.slice (some ⟨w_4.heap.size, 0, none⟩) 1 1) ([1004])) := Lib.hid ⟨(S4.out.1).trans (hb5.mono (by omega)), (S4.out.2.1).below (hb5.mono (by omega)), (S4.out.2.2.1).belowB hb5 (by omega), (S4.out.2.2.2).belowB hb5 (by omega), (by simpa using ho5)⟩
    clear S4
    clear hb5 ho5
    go_wp2_with fail
    refine (ProgThen_I _ y0 _ [1004] _ ((S5.out.2.2.2.1).rd) (by omega) ((S5.out.2.2.2.2).rd) (by simp) z0 z1 HT.out).mono ?_
    rintro e w_6 ⟨t, rfl, ho6, hb6⟩
    have hz6 : w_4.heap.size + 1 ≤ w_6.heap.size := by have := hb6.size; simpa using this
    replace hb6 : Below (w_4.heap.size + 1) (w_4.alloc (.cells #[.int .i64 (1004)] 3)) w_6 := by simpa using hb6
    have S6 : Hid (Below w0.heap.size w0 w_6 ∧ RdBC w_6 w0.heap.size (.slice A0 x0.length c0) (x0) ∧ OwnI w_6 (w0.heap.size) (w_1.heap.size) p (zp) ∧ OwnI w_6 (w_3.heap.size) (w_4.heap.size) q (y0) ∧ OwnI w_6 (w_4.heap.size) (w_4.heap.size + 1) (.slice (some ⟨w_4.heap.size, 0, none⟩) 1 1) ([1004]) ∧ OwnI w_6 (w_4.heap.size + 1) (w_6.heap.size) t (z0)) := Lib.hid ⟨(S5.out.1).trans (hb6.mono (by omega)), (S5.out.2.1).below (hb6.mono (by omega)), (S5.out.2.2.1).belowB hb6 (by omega), (S5.out.2.2.2.1).belowB hb6 (by omega), (S5.out.2.2.2.2).belowB hb6 (by omega), (by simpa using ho6)⟩
    clear S5
    clear ho6 hb6
    -- at w_6: S6: base code p q d t
    rcases z1 with _ | _
    · skip
      go_wp2_with fail
      refine (IsShuffle_I _ [] _ (nil_rdJ _) (by simp) true rfl).mono ?_
      rintro e w_7 ⟨rfl, hb7⟩
      have hz7 : w_6.heap.size ≤ w_7.heap.size := by have := hb7.size; simpa using this
      replace hb7 : Below (w_6.heap.size) w_6 w_7 := by simpa using hb7
      have S7 : Hid (Below w0.heap.size w0 w_7 ∧ RdBC w_7 w0.heap.size (.slice A0 x0.length c0) (x0) ∧ OwnI w_7 (w0.heap.size) (w_1.heap.size) p (zp) ∧ OwnI w_7 (w_3.heap.size) (w_4.heap.size) q (y0) ∧ OwnI w_7 (w_4.heap.size) (w_4.heap.size + 1) (.slice (some ⟨w_4.heap.size, 0, none⟩) 1 1) ([1004]) ∧ OwnI w_7 (w_4.heap.size + 1) (w_6.heap.size) t (z0)) := Lib.hid ⟨(S6.out.1).trans (hb7.mono (by omega)), (S6.out.2.1).below (hb7.mono (by omega)), (S6.out.2.2.1).belowB hb7 (by omega), (S6.out.2.2.2.1).belowB hb7 (by omega), (S6.out.2.2.2.2.1).belowB hb7 (by omega), (S6.out.2.2.2.2.2).belowB hb7 (by omega)⟩
      clear S6
      clear hb7
      go_wp2_with fail
      refine (alive_any _).mono ?_
      rintro e w_8 ⟨rfl, hb8⟩
      have hz8 : w_7.heap.size ≤ w_8.heap.size := by have := hb8.size; simpa using this
      replace hb8 : Below (w_7.heap.size) w_7 w_8 := by simpa using hb8
      have S8 : Hid (Below w0.heap.size w0 w_8 ∧ RdBC w_8 w0.heap.size (.slice A0 x0.length c0) (x0) ∧ OwnI w_8 (w0.heap.size) (w_1.heap.size) p (zp) ∧ OwnI w_8 (w_3.heap.size) (w_4.heap.size) q (y0) ∧ OwnI w_8 (w_4.heap.size) (w_4.heap.size + 1) (.slice (some ⟨w_4.heap.size, 0, none⟩) 1 1) ([1004]) ∧ OwnI w_8 (w_4.heap.size + 1) (w_6.heap.size) t (z0)) := Lib.hid ⟨(S7.out.1).trans (hb8.mono (by omega)), (S7.out.2.1).below (hb8.mono (by omega)), (S7.out.2.2.1).belowB hb8 (by omega), (S7.out.2.2.2.1).belowB hb8 (by omega), (S7.out.2.2.2.2.1).belowB hb8 (by omega), (S7.out.2.2.2.2.2).belowB hb8 (by omega)⟩
      clear S7
      clear hb8
      -- at w_8: S8: base code p q d t
      go_wp2
      go_ret
      exact ⟨rfl, S8.out.1⟩
    · obtain ⟨Aq, cq, rfl, _⟩ := S6.out.2.2.2.1.rd
      rcases HU.out HS.out rfl with hy | hsz
      · subst hy
        go_wp2_with fail
        refine (IsShuffle_I _ [] _ (nil_rdJ _) (by simp) true rfl).mono ?_
        rintro e w_7 ⟨rfl, hb7⟩
        have hz7 : w_6.heap.size ≤ w_7.heap.size := by have := hb7.size; simpa using this
        replace hb7 : Below (w_6.heap.size) w_6 w_7 := by simpa using hb7
        have S7 : Hid (Below w0.heap.size w0 w_7 ∧ RdBC w_7 w0.heap.size (.slice A0 x0.length c0) (x0) ∧ OwnI w_7 (w0.heap.size) (w_1.heap.size) p (zp) ∧ OwnI w_7 (w_3.heap.size) (w_4.heap.size) (.slice Aq [].length cq) ([]) ∧ OwnI w_7 (w_4.heap.size) (w_4.heap.size + 1) (.slice (some ⟨w_4.heap.size, 0, none⟩) 1 1) ([1004]) ∧ OwnI w_7 (w_4.heap.size + 1) (w_6.heap.size) t (z0)) := Lib.hid ⟨(S6.out.1).trans (hb7.mono (by omega)), (S6.out.2.1).below (hb7.mono (by omega)), (S6.out.2.2.1).belowB hb7 (by omega), (S6.out.2.2.2.1).belowB hb7 (by omega), (S6.out.2.2.2.2.1).belowB hb7 (by omega), (S6.out.2.2.2.2.2).belowB hb7 (by omega)⟩
        clear S6
        clear hb7
        go_wp2_with fail
        refine (alive_any _).mono ?_
        rintro e w_8 ⟨rfl, hb8⟩
        have hz8 : w_7.heap.size ≤ w_8.heap.size := by have := hb8.size; simpa using this
        replace hb8 : Below (w_7.heap.size) w_7 w_8 := by simpa using hb8
        have S8 : Hid (Below w0.heap.size w0 w_8 ∧ RdBC w_8 w0.heap.size (.slice A0 x0.length c0) (x0) ∧ OwnI w_8 (w0.heap.size) (w_1.heap.size) p (zp) ∧ OwnI w_8 (w_3.heap.size) (w_4.heap.size) (.slice Aq [].length cq) ([]) ∧ OwnI w_8 (w_4.heap.size) (w_4.heap.size + 1) (.slice (some ⟨w_4.heap.size, 0, none⟩) 1 1) ([1004]) ∧ OwnI w_8 (w_4.heap.size + 1) (w_6.heap.size) t (z0)) := Lib.hid ⟨(S7.out.1).trans (hb8.mono (by omega)), (S7.out.2.1).below (hb8.mono (by omega)), (S7.out.2.2.1).belowB hb8 (by omega), (S7.out.2.2.2.1).belowB hb8 (by omega), (S7.out.2.2.2.2.1).belowB hb8 (by omega), (S7.out.2.2.2.2.2).belowB hb8 (by omega)⟩
        clear S7
        clear hb8
        -- at w_8: S8: base code p q d t
        go_wp2
        go_ret
        exact ⟨rfl, S8.out.1⟩
      · have HZ := Lib.hid hsz; clear hsz
        by_cases hy : y0.length = 0
        · have hyI : ((y0.length : Int) == 0) = true := by simp [hy]
          go_wp2_with fail
          refine (IsShuffle_I _ [] _ (nil_rdJ _) (by simp) true rfl).mono ?_
          rintro e w_7 ⟨rfl, hb7⟩
          have hz7 : w_6.heap.size ≤ w_7.heap.size := by have := hb7.size; simpa using this
          replace hb7 : Below (w_6.heap.size) w_6 w_7 := by simpa using hb7
          have S7 : Hid (Below w0.heap.size w0 w_7 ∧ RdBC w_7 w0.heap.size (.slice A0 x0.length c0) (x0) ∧ OwnI w_7 (w0.heap.size) (w_1.heap.size) p (zp) ∧ OwnI w_7 (w_3.heap.size) (w_4.heap.size) (.slice Aq y0.length cq) (y0) ∧ OwnI w_7 (w_4.heap.size) (w_4.heap.size + 1) (.slice (some ⟨w_4.heap.size, 0, none⟩) 1 1) ([1004]) ∧ OwnI w_7 (w_4.heap.size + 1) (w_6.heap.size) t (z0)) := Lib.hid ⟨(S6.out.1).trans (hb7.mono (by omega)), (S6.out.2.1).below (hb7.mono (by omega)), (S6.out.2.2.1).belowB hb7 (by omega), (S6.out.2.2.2.1).belowB hb7 (by omega), (S6.out.2.2.2.2.1).belowB hb7 (by omega), (S6.out.2.2.2.2.2).belowB hb7 (by omega)⟩
          clear S6
          clear hb7
          go_wp2_with fail
          refine (alive_any _).mono ?_
          rintro e w_8 ⟨rfl, hb8⟩
          have hz8 : w_7.heap.size ≤ w_8.heap.size := by have := hb8.size; simpa using this
          replace hb8 : Below (w_7.heap.size) w_7 w_8 := by simpa using hb8
          have S8 : Hid (Below w0.heap.size w0 w_8 ∧ RdBC w_8 w0.heap.size (.slice A0 x0.length c0) (x0) ∧ OwnI w_8 (w0.heap.size) (w_1.heap.size) p (zp) ∧ OwnI w_8 (w_3.heap.size) (w_4.heap.size) (.slice Aq y0.length cq) (y0) ∧ OwnI w_8 (w_4.heap.size) (w_4.heap.size + 1) (.slice (some ⟨w_4.heap.size, 0, none⟩) 1 1) ([1004]) ∧ OwnI w_8 (w_4.heap.size + 1) (w_6.heap.size) t (z0)) := Lib.hid ⟨(S7.out.1).trans (hb8.mono (by omega)), (S7.out.2.1).below (hb8.mono (by omega)), (S7.out.2.2.1).belowB hb8 (by omega), (S7.out.2.2.2.1).belowB hb8 (by omega), (S7.out.2.2.2.2.1).belowB hb8 (by omega), (S7.out.2.2.2.2.2).belowB hb8 (by omega)⟩
          clear S7
          clear hb8
          -- at w_8: S8: base code p q d t
          go_wp2
          go_ret
          exact ⟨rfl, S8.out.1⟩
        · have hyI : ((y0.length : Int) == 0) = false := by rw [beq_eq_false_iff_ne]; omega
          go_wp2_with fail
          refine (IsShuffle_I _ z0 _ ((S6.out.2.2.2.2.2).rd) (by omega) true HZ.out).mono ?_
          rintro e w_7 ⟨rfl, hb7⟩
          have hz7 : w_6.heap.size ≤ w_7.heap.size := by have := hb7.size; simpa using this
          replace hb7 : Below (w_6.heap.size) w_6 w_7 := by simpa using hb7
          have S7 : Hid (Below w0.heap.size w0 w_7 ∧ RdBC w_7 w0.heap.size (.slice A0 x0.length c0) (x0) ∧ OwnI w_7 (w0.heap.size) (w_1.heap.size) p (zp) ∧ OwnI w_7 (w_3.heap.size) (w_4.heap.size) (.slice Aq y0.length cq) (y0) ∧ OwnI w_7 (w_4.heap.size) (w_4.heap.size + 1) (.slice (some ⟨w_4.heap.size, 0, none⟩) 1 1) ([1004]) ∧ OwnI w_7 (w_4.heap.size + 1) (w_6.heap.size) t (z0)) := Lib.hid ⟨(S6.out.1).trans (hb7.mono (by omega)), (S6.out.2.1).below (hb7.mono (by omega)), (S6.out.2.2.1).belowB hb7 (by omega), (S6.out.2.2.2.1).belowB hb7 (by omega), (S6.out.2.2.2.2.1).belowB hb7 (by omega), (S6.out.2.2.2.2.2).belowB hb7 (by omega)⟩
          clear S6
          clear hb7
          go_wp2_with fail
          refine (IsShuffle_I _ [] _ (nil_rdJ _) (by simp) true rfl).mono ?_
          rintro e w_8 ⟨rfl, hb8⟩
          have hz8 : w_7.heap.size ≤ w_8.heap.size := by have := hb8.size; simpa using this
          replace hb8 : Below (w_7.heap.size) w_7 w_8 := by simpa using hb8
          have S8 : Hid (Below w0.heap.size w0 w_8 ∧ RdBC w_8 w0.heap.size (.slice A0 x0.length c0) (x0) ∧ OwnI w_8 (w0.heap.size) (w_1.heap.size) p (zp) ∧ OwnI w_8 (w_3.heap.size) (w_4.heap.size) (.slice Aq y0.length cq) (y0) ∧ OwnI w_8 (w_4.heap.size) (w_4.heap.size + 1) (.slice (some ⟨w_4.heap.size, 0, none⟩) 1 1) ([1004]) ∧ OwnI w_8 (w_4.heap.size + 1) (w_6.heap.size) t (z0)) := Lib.hid ⟨(S7.out.1).trans (hb8.mono (by omega)), (S7.out.2.1).below (hb8.mono (by omega)), (S7.out.2.2.1).belowB hb8 (by omega), (S7.out.2.2.2.1).belowB hb8 (by omega), (S7.out.2.2.2.2.1).belowB hb8 (by omega), (S7.out.2.2.2.2.2).belowB hb8 (by omega)⟩
          clear S7
          clear hb8
          go_wp2_with fail
          refine (alive_any _).mono ?_
          rintro e w_9 ⟨rfl, hb9⟩
          have hz9 : w_8.heap.size ≤ w_9.heap.size := by have := hb9.size; simpa using this
          replace hb9 : Below (w_8.heap.size) w_8 w_9 := by simpa using hb9
          have S9 : Hid (Below w0.heap.size w0 w_9 ∧ RdBC w_9 w0.heap.size (.slice A0 x0.length c0) (x0) ∧ OwnI w_9 (w0.heap.size) (w_1.heap.size) p (zp) ∧ OwnI w_9 (w_3.heap.size) (w_4.heap.size) (.slice Aq y0.length cq) (y0) ∧ OwnI w_9 (w_4.heap.size) (w_4.heap.size + 1) (.slice (some ⟨w_4.heap.size, 0, none⟩) 1 1) ([1004]) ∧ OwnI w_9 (w_4.heap.size + 1) (w_6.heap.size) t (z0)) := Lib.hid ⟨(S8.out.1).trans (hb9.mono (by omega)), (S8.out.2.1).below (hb9.mono (by omega)), (S8.out.2.2.1).belowB hb9 (by omega), (S8.out.2.2.2.1).belowB hb9 (by omega), (S8.out.2.2.2.2.1).belowB hb9 (by omega), (S8.out.2.2.2.2.2).belowB hb9 (by omega)⟩
          clear S8
          clear hb9
          -- at w_9: S9: base code p q d t
          go_wp2
          go_ret
          exact ⟨rfl, S9.out.1⟩

theorem fnIsShuffle_walk : LawWalk 3 Try.f3 := by
  intro H enc W base args ds ps hval hA
  rw [Try.params3] at hA hval
  obtain ⟨v0, d0, rfl, rfl, h0⟩ := trodAll_one hA
  obtain ⟨A0, c0, zs0, rfl, hi0, hc0⟩ := ints_of_trod Try.underlying22 Try.underlying5 cells_byte (hval 0 _ _ rfl rfl) h0
  exact fnIsShuffle_any A0 c0 zs0 W (RdC.mk hi0 hc0)

set_option maxRecDepth 100000 in
theorem fnIsShuffle_lifted (os : Os) (started : os.Started) (H : Type) (enc : TypeId × Value → H) :
    ReturnsInHanded {} Try.checked os 3 .any (Rows.fnIsShuffleSpec.pre6 enc Try.prog Try.f3 Rows.fnIsShuffleRow.domain false) (Rows.fnIsShuffleSpec.post enc Try.prog Try.f3 false true false false) := by
  refine returnsInHanded_of_change (C := Try.checked) own started (by kernel_rfl) Try.func3
    (ChangeSpec.witness6 (enc := enc) (C := Try.checked) false ⟨#[], #[.slice none 0 0], []⟩ 8 (by kernel_rfl) (by kernel_rfl) (by kernel_rfl) (by kernel_rfl)) ?_
  intro W base args ds gs before hval hW _ _
  exact law_contract laidOut rfl (by kernel_rfl) rfl (fun H ds hd => by
    match ds, hd with
    | [d0], _ => exact ⟨rfl, rfl, rfl⟩) fnIsShuffle_walk W base args ds gs before hval hW

/-- FnIsShuffle: the row as it is given. -/
theorem fnIsShuffle_holds : Rows.FnIsShuffleSaid :=
  OpenClaim.holds_of_wide 3 Try.f3 rfl rfl rfl rfl rfl rfl rfl ⟨rfl, rfl, rfl, rfl, rfl⟩ rfl rfl rfl rfl rfl (by kernel_rfl) Try.func3 (by unfold joinedFacts; rw [pf_enter, pf_lifts, pf_make]; kernel_rfl)
    (of_decide_eq_true (by kernel_rfl)) (by unfold Func.isWrapper; first | (rw [if_pos (by decide +kernel)]; kernel_rfl) | (rw [if_neg (by decide +kernel)]; exact ⟨rfl, rfl⟩))
    (fun os started H enc _ => fnIsShuffle_lifted os started H enc)

end Go.Proofs.Ytnnacbnopdjdcaa
