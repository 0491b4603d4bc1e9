/- FnNeedsOf: of every code: NeedsOf is its model at the drawn effect; -1 and -1 only where the effect is none; with a number more on both rows' tops both answers are one more. For every input. -/
import Derived.Test.YtceekfoacgoalaaI
import Derived.Test.YtceekfoacgoalaaIi
import Derived.Test.YtceekfoacgoalaaIj
import Derived.Test.YtceekfoacgoalaaBq
import Derived.Test.YtceekfoacgoalaaLift
namespace Go.Proofs.Ytceekfoacgoalaa
set_option maxRecDepth 100000
open Go.RowKit Go.WideShapes Go.ChangeShapes

set_option maxHeartbeats 4000000 in
theorem fnNeedsOf_any (A0 : Option Addr) (c0 : Nat) (x0 : List Int) (w0 : World) (h0 : RdC w0 (.slice A0 x0.length c0) x0) :
    Calls Try.prog 4 #[.slice A0 x0.length c0] w0 fun e w' => e = .returned (.bool true) ∧ Below w0.heap.size w0 w' := by
  have hm := h0.len_le
  have HH := Lib.hid h0; clear h0
  by_cases hl : x0.length ≤ 1048576
  case neg =>
    go_enter Try.func4, Try.ntmps4
    go_wp2
    go_ret
    exact ⟨rfl, Below.refl _ _⟩
  go_enter Try.func4, Try.ntmps4
  go_wp2_with fail
  refine (DrawNeedsOf_any _ x0 _ HH.out).mono ?_
  rintro e w1 ⟨u0, u1, a, b, rfl, ra, rb, hla, hlb, hb⟩
  have hz1 : w0.heap.size ≤ w1.heap.size := hb.size
  have hal : Below w1.heap.size w1 (w1.alloc (.cells #[u0, u1] 25)) := (Below.refl _ _).alloc (Nat.le_refl _) _
  have S1 : Hid (Below w0.heap.size w0 (w1.alloc (.cells #[u0, u1] 25)) ∧ RdBI (w1.alloc (.cells #[u0, u1] 25)) (w1.heap.size + 1) u0 a ∧ RdBI (w1.alloc (.cells #[u0, u1] 25)) (w1.heap.size + 1) u1 b ∧ OwnV (w1.alloc (.cells #[u0, u1] 25)) w1.heap.size (w1.heap.size + 1) (.bool true) [u0, u1]) := Lib.hid ⟨hb.trans (hal.mono hz1), by simpa using (ra.step hal).at_, by simpa using (rb.step hal).at_, OwnV.new _ _ _ _⟩
  obtain ⟨B0, d0, rfl, _⟩ := id ra
  obtain ⟨B1, d1, rfl, _⟩ := id rb
  clear hb hal HH ra rb
  rcases hB : effB a b with _ | _
  · have HB := Lib.hid hB
    have HN := Lib.hid (show needsR a b = (-1, -1) by rw [needsR, hB]; rfl); clear hB
    obtain ⟨e1a, e1b⟩ := (S1.out.2.2.2).ef
    go_wp2_with fail
    refine (NeedsOf_I _ _ a b _ ((S1.out.2.1).rd (by first | omega | (simp <;> omega))) ((S1.out.2.2.1).rd (by first | omega | (simp <;> omega))) (-1) (-1) HN.out).mono ?_
    rintro e w_2 ⟨rfl, hb2⟩
    have hz2 : (w1.heap.size + 1) ≤ w_2.heap.size := by have := hb2.size; simpa using this
    replace hb2 : Below ((w1.heap.size + 1)) (w1.alloc (.cells #[(.slice B0 a.length d0), (.slice B1 b.length d1)] 25)) w_2 := by simpa using hb2
    have S2 : Hid (Below w0.heap.size w0 w_2 ∧ RdBI w_2 (w1.heap.size + 1) (.slice B0 a.length d0) (a) ∧ RdBI w_2 (w1.heap.size + 1) (.slice B1 b.length d1) (b) ∧ OwnV w_2 (w1.heap.size) (w1.heap.size + 1) (.bool true) ([(.slice B0 a.length d0), (.slice B1 b.length d1)])) := Lib.hid ⟨(S1.out.1).trans (hb2.mono (by omega)), (S1.out.2.1).below (hb2.mono (by omega)), (S1.out.2.2.1).below (hb2.mono (by omega)), (S1.out.2.2.2).belowB hb2 (by omega)⟩
    clear S1
    clear hb2
    obtain ⟨e2a, e2b⟩ := (S2.out.2.2.2).ef
    go_wp2_with fail
    refine (NeedsOf_S _ _ a b _ ((S2.out.2.1).rd (by first | omega | (simp <;> omega))) ((S2.out.2.2.1).rd (by first | omega | (simp <;> omega))) (by omega) (by omega) (-1) (-1) HN.out).mono ?_
    rintro e w_3 ⟨rfl, hb3⟩
    have hz3 : w_2.heap.size ≤ w_3.heap.size := by have := hb3.size; simpa using this
    replace hb3 : Below (w_2.heap.size) w_2 w_3 := by simpa using hb3
    have S3 : Hid (Below w0.heap.size w0 w_3 ∧ RdBI w_3 (w1.heap.size + 1) (.slice B0 a.length d0) (a) ∧ RdBI w_3 (w1.heap.size + 1) (.slice B1 b.length d1) (b) ∧ OwnV w_3 (w1.heap.size) (w1.heap.size + 1) (.bool true) ([(.slice B0 a.length d0), (.slice B1 b.length d1)])) := Lib.hid ⟨(S2.out.1).trans (hb3.mono (by omega)), (S2.out.2.1).below (hb3.mono (by omega)), (S2.out.2.2.1).below (hb3.mono (by omega)), (S2.out.2.2.2).belowB hb3 (by omega)⟩
    clear S2
    clear hb3
    obtain ⟨e3a, e3b⟩ := (S3.out.2.2.2).ef
    go_wp2_with fail
    refine (EffectOk_Iy _ _ a b _ ((S3.out.2.1).rd (by first | omega | (simp <;> omega))) ((S3.out.2.2.1).rd (by first | omega | (simp <;> omega))) false HB.out).mono ?_
    rintro e w_4 ⟨rfl, hb4⟩
    have hz4 : w_3.heap.size ≤ w_4.heap.size := by have := hb4.size; simpa using this
    replace hb4 : Below (w_3.heap.size) w_3 w_4 := by simpa using hb4
    have S4 : Hid (Below w0.heap.size w0 w_4 ∧ RdBI w_4 (w1.heap.size + 1) (.slice B0 a.length d0) (a) ∧ RdBI w_4 (w1.heap.size + 1) (.slice B1 b.length d1) (b) ∧ OwnV w_4 (w1.heap.size) (w1.heap.size + 1) (.bool true) ([(.slice B0 a.length d0), (.slice B1 b.length d1)])) := Lib.hid ⟨(S3.out.1).trans (hb4.mono (by omega)), (S3.out.2.1).below (hb4.mono (by omega)), (S3.out.2.2.1).below (hb4.mono (by omega)), (S3.out.2.2.2).belowB hb4 (by omega)⟩
    clear S3
    clear hb4
    go_wp2_with fail
    refine (alive_any _).mono ?_
    rintro e w_5 ⟨rfl, hb5⟩
    have hz5 : w_4.heap.size ≤ w_5.heap.size := by have := hb5.size; simpa using this
    replace hb5 : Below (w_4.heap.size) w_4 w_5 := by simpa using hb5
    have S5 : Hid (Below w0.heap.size w0 w_5 ∧ RdBI w_5 (w1.heap.size + 1) (.slice B0 a.length d0) (a) ∧ RdBI w_5 (w1.heap.size + 1) (.slice B1 b.length d1) (b) ∧ OwnV w_5 (w1.heap.size) (w1.heap.size + 1) (.bool true) ([(.slice B0 a.length d0), (.slice B1 b.length d1)])) := Lib.hid ⟨(S4.out.1).trans (hb5.mono (by omega)), (S4.out.2.1).below (hb5.mono (by omega)), (S4.out.2.2.1).below (hb5.mono (by omega)), (S4.out.2.2.2).belowB hb5 (by omega)⟩
    clear S4
    clear hb5
    -- at w_5: S5: base p q v
    go_wp2
    go_ret
    exact ⟨rfl, S5.out.1⟩
  · have HB := Lib.hid hB
    obtain ⟨n, hn⟩ : ∃ n, leadR a = n := ⟨_, rfl⟩
    obtain ⟨m, hm1⟩ : ∃ m, leadR b = m := ⟨_, rfl⟩
    obtain ⟨ra, rb⟩ := effB_rows hB
    have hn9 : n ≤ 150 := by have := lead_row ra; omega
    have hm9 : m ≤ 150 := by have := lead_row rb; omega
    have hwn : IntKind.i64.wrap ((n : Int) + 1) = (n : Int) + 1 := IntWalk.i64_in _ (by omega)
    have hwm : IntKind.i64.wrap ((m : Int) + 1) = (m : Int) + 1 := IntWalk.i64_in _ (by omega)
    have HN := Lib.hid (show needsR a b = ((n : Int), (m : Int)) by rw [needsR, hB, ← hn, ← hm1]; rfl)
    have HM : Hid (rowB ([4] ++ a ++ [0]) = true → rowB ([4] ++ b ++ [0]) = true → needsR ([4] ++ a ++ [0]) ([4] ++ b ++ [0]) = ((n : Int) + 1, (m : Int) + 1)) := Lib.hid (fun h1 h2 => by rw [needs_more hB h1 h2, hn, hm1])
    clear hB hn hm1 ra rb
    have hn0 : ¬ ((n : Int) < 0) := by omega
    obtain ⟨e1a, e1b⟩ := (S1.out.2.2.2).ef
    go_wp2_with fail
    refine (NeedsOf_I _ _ a b _ ((S1.out.2.1).rd (by first | omega | (simp <;> omega))) ((S1.out.2.2.1).rd (by first | omega | (simp <;> omega))) n m HN.out).mono ?_
    rintro e w_2 ⟨rfl, hb2⟩
    have hz2 : (w1.heap.size + 1) ≤ w_2.heap.size := by have := hb2.size; simpa using this
    replace hb2 : Below ((w1.heap.size + 1)) (w1.alloc (.cells #[(.slice B0 a.length d0), (.slice B1 b.length d1)] 25)) w_2 := by simpa using hb2
    have S2 : Hid (Below w0.heap.size w0 w_2 ∧ RdBI w_2 (w1.heap.size + 1) (.slice B0 a.length d0) (a) ∧ RdBI w_2 (w1.heap.size + 1) (.slice B1 b.length d1) (b) ∧ OwnV w_2 (w1.heap.size) (w1.heap.size + 1) (.bool true) ([(.slice B0 a.length d0), (.slice B1 b.length d1)])) := Lib.hid ⟨(S1.out.1).trans (hb2.mono (by omega)), (S1.out.2.1).below (hb2.mono (by omega)), (S1.out.2.2.1).below (hb2.mono (by omega)), (S1.out.2.2.2).belowB hb2 (by omega)⟩
    clear S1
    clear hb2
    obtain ⟨e2a, e2b⟩ := (S2.out.2.2.2).ef
    go_wp2_with fail
    refine (NeedsOf_S _ _ a b _ ((S2.out.2.1).rd (by first | omega | (simp <;> omega))) ((S2.out.2.2.1).rd (by first | omega | (simp <;> omega))) (by omega) (by omega) n m HN.out).mono ?_
    rintro e w_3 ⟨rfl, hb3⟩
    have hz3 : w_2.heap.size ≤ w_3.heap.size := by have := hb3.size; simpa using this
    replace hb3 : Below (w_2.heap.size) w_2 w_3 := by simpa using hb3
    have S3 : Hid (Below w0.heap.size w0 w_3 ∧ RdBI w_3 (w1.heap.size + 1) (.slice B0 a.length d0) (a) ∧ RdBI w_3 (w1.heap.size + 1) (.slice B1 b.length d1) (b) ∧ OwnV w_3 (w1.heap.size) (w1.heap.size + 1) (.bool true) ([(.slice B0 a.length d0), (.slice B1 b.length d1)])) := Lib.hid ⟨(S2.out.1).trans (hb3.mono (by omega)), (S2.out.2.1).below (hb3.mono (by omega)), (S2.out.2.2.1).below (hb3.mono (by omega)), (S2.out.2.2.2).belowB hb3 (by omega)⟩
    clear S2
    clear hb3
    have hb4 : Below (w_3.heap.size) w_3 (w_3.alloc (.cells #[.int .i64 (4)] 3)) := (Below.refl _ _).alloc (by first | omega | simp) _
    have ho4 := lits_own w_3 [4] (by simp) (by intro z hz; simp only [List.mem_cons, List.not_mem_nil, or_false] at hz; apply wf_near; omega)
    have S4 : Hid (Below w0.heap.size w0 (w_3.alloc (.cells #[.int .i64 (4)] 3)) ∧ RdBI (w_3.alloc (.cells #[.int .i64 (4)] 3)) (w1.heap.size + 1) (.slice B0 a.length d0) (a) ∧ RdBI (w_3.alloc (.cells #[.int .i64 (4)] 3)) (w1.heap.size + 1) (.slice B1 b.length d1) (b) ∧ OwnV (w_3.alloc (.cells #[.int .i64 (4)] 3)) (w1.heap.size) (w1.heap.size + 1) (.bool true) ([(.slice B0 a.length d0), (.slice B1 b.length d1)]) ∧ OwnI (w_3.alloc (.cells #[.int .i64 (4)] 3)) (w_3.heap.size) (w_3.heap.size + 1) (.slice (some ⟨w_3.heap.size, 0, none⟩) 1 1) ([4])) := Lib.hid ⟨(S3.out.1).trans (hb4.mono (by omega)), (S3.out.2.1).below (hb4.mono (by omega)), (S3.out.2.2.1).below (hb4.mono (by omega)), (S3.out.2.2.2).belowB hb4 (by omega), (by simpa using ho4)⟩
    clear S3
    clear hb4 ho4
    obtain ⟨e4a, e4b⟩ := (S4.out.2.2.2.1).ef
    go_wp2_with (at_builtin; refine wpList_append_V rfl _ _ _ rfl Try.underlying23 intInfo (w_3.heap.size) (w_3.heap.size + 1) (.slice (some ⟨w_3.heap.size, 0, none⟩) 1 1) ([4]) rfl S4.out.2.2.2.2 (by first | omega | (simp <;> omega)) (.slice B0 a.length d0) (a) rfl ((S4.out.2.1).rd (by first | omega | (simp <;> omega))) (by first | omega | (simp <;> omega)) ?_)
    intro y w_5 ho5 hb5
    have hz5 : w_3.heap.size + 1 ≤ w_5.heap.size := by have := hb5.size; simpa using this
    have S5 : Hid (Below w0.heap.size w0 w_5 ∧ RdBI w_5 (w1.heap.size + 1) (.slice B0 a.length d0) (a) ∧ RdBI w_5 (w1.heap.size + 1) (.slice B1 b.length d1) (b) ∧ OwnV w_5 (w1.heap.size) (w1.heap.size + 1) (.bool true) ([(.slice B0 a.length d0), (.slice B1 b.length d1)]) ∧ OwnI w_5 (w_3.heap.size) (w_5.heap.size) y (([4]) ++ (a))) := Lib.hid ⟨(S4.out.1).trans (hb5.mono (by omega)), (S4.out.2.1).below (hb5.mono (by omega)), (S4.out.2.2.1).below (hb5.mono (by omega)), (S4.out.2.2.2.1).belowB hb5 (by omega), (by simpa using ho5)⟩
    clear S4
    clear ho5 hb5
    have hb6 : Below (w_5.heap.size) w_5 (w_5.alloc (.cells #[.int .i64 (0)] 3)) := (Below.refl _ _).alloc (by first | omega | simp) _
    have ho6 := lits_own w_5 [0] (by simp) (by intro z hz; simp only [List.mem_cons, List.not_mem_nil, or_false] at hz; apply wf_near; omega)
    have S6 : Hid (Below w0.heap.size w0 (w_5.alloc (.cells #[.int .i64 (0)] 3)) ∧ RdBI (w_5.alloc (.cells #[.int .i64 (0)] 3)) (w1.heap.size + 1) (.slice B0 a.length d0) (a) ∧ RdBI (w_5.alloc (.cells #[.int .i64 (0)] 3)) (w1.heap.size + 1) (.slice B1 b.length d1) (b) ∧ OwnV (w_5.alloc (.cells #[.int .i64 (0)] 3)) (w1.heap.size) (w1.heap.size + 1) (.bool true) ([(.slice B0 a.length d0), (.slice B1 b.length d1)]) ∧ OwnI (w_5.alloc (.cells #[.int .i64 (0)] 3)) (w_3.heap.size) (w_5.heap.size) y (([4]) ++ (a)) ∧ OwnI (w_5.alloc (.cells #[.int .i64 (0)] 3)) (w_5.heap.size) (w_5.heap.size + 1) (.slice (some ⟨w_5.heap.size, 0, none⟩) 1 1) ([0])) := Lib.hid ⟨(S5.out.1).trans (hb6.mono (by omega)), (S5.out.2.1).below (hb6.mono (by omega)), (S5.out.2.2.1).below (hb6.mono (by omega)), (S5.out.2.2.2.1).belowB hb6 (by omega), (S5.out.2.2.2.2).belowB hb6 (by omega), (by simpa using ho6)⟩
    clear S5
    clear hb6 ho6
    go_wp2_with (at_builtin; refine wpList_append_V rfl _ _ _ rfl Try.underlying23 intInfo (w_3.heap.size) (w_5.heap.size) y (([4]) ++ (a)) rfl S6.out.2.2.2.2.1 (by first | omega | (simp <;> omega)) (.slice (some ⟨w_5.heap.size, 0, none⟩) 1 1) ([0]) rfl ((S6.out.2.2.2.2.2).rd) (by first | omega | (simp <;> omega)) ?_)
    intro f w_7 ho7 hb7
    have hz7 : w_5.heap.size + 1 ≤ w_7.heap.size := by have := hb7.size; simpa using this
    have S7 : Hid (Below w0.heap.size w0 w_7 ∧ RdBI w_7 (w1.heap.size + 1) (.slice B0 a.length d0) (a) ∧ RdBI w_7 (w1.heap.size + 1) (.slice B1 b.length d1) (b) ∧ OwnV w_7 (w1.heap.size) (w1.heap.size + 1) (.bool true) ([(.slice B0 a.length d0), (.slice B1 b.length d1)]) ∧ OwnI w_7 (w_3.heap.size) (w_7.heap.size) f ((([4]) ++ (a)) ++ ([0]))) := Lib.hid ⟨(S6.out.1).trans (hb7.mono (by omega)), (S6.out.2.1).below (hb7.mono (by omega)), (S6.out.2.2.1).below (hb7.mono (by omega)), (S6.out.2.2.2.1).belowB hb7 (by omega), (by simpa using ho7)⟩
    clear S6
    clear ho7 hb7
    have hb8 : Below (w_7.heap.size) w_7 (w_7.alloc (.cells #[.int .i64 (4)] 3)) := (Below.refl _ _).alloc (by first | omega | simp) _
    have ho8 := lits_own w_7 [4] (by simp) (by intro z hz; simp only [List.mem_cons, List.not_mem_nil, or_false] at hz; apply wf_near; omega)
    have S8 : Hid (Below w0.heap.size w0 (w_7.alloc (.cells #[.int .i64 (4)] 3)) ∧ RdBI (w_7.alloc (.cells #[.int .i64 (4)] 3)) (w1.heap.size + 1) (.slice B0 a.length d0) (a) ∧ RdBI (w_7.alloc (.cells #[.int .i64 (4)] 3)) (w1.heap.size + 1) (.slice B1 b.length d1) (b) ∧ OwnV (w_7.alloc (.cells #[.int .i64 (4)] 3)) (w1.heap.size) (w1.heap.size + 1) (.bool true) ([(.slice B0 a.length d0), (.slice B1 b.length d1)]) ∧ OwnI (w_7.alloc (.cells #[.int .i64 (4)] 3)) (w_3.heap.size) (w_7.heap.size) f ((([4]) ++ (a)) ++ ([0])) ∧ OwnI (w_7.alloc (.cells #[.int .i64 (4)] 3)) (w_7.heap.size) (w_7.heap.size + 1) (.slice (some ⟨w_7.heap.size, 0, none⟩) 1 1) ([4])) := Lib.hid ⟨(S7.out.1).trans (hb8.mono (by omega)), (S7.out.2.1).below (hb8.mono (by omega)), (S7.out.2.2.1).below (hb8.mono (by omega)), (S7.out.2.2.2.1).belowB hb8 (by omega), (S7.out.2.2.2.2).belowB hb8 (by omega), (by simpa using ho8)⟩
    clear S7
    clear hb8 ho8
    obtain ⟨e8a, e8b⟩ := (S8.out.2.2.2.1).ef
    go_wp2_with (at_builtin; refine wpList_append_V rfl _ _ _ rfl Try.underlying23 intInfo (w_7.heap.size) (w_7.heap.size + 1) (.slice (some ⟨w_7.heap.size, 0, none⟩) 1 1) ([4]) rfl S8.out.2.2.2.2.2 (by first | omega | (simp <;> omega)) (.slice B1 b.length d1) (b) rfl ((S8.out.2.2.1).rd (by first | omega | (simp <;> omega))) (by first | omega | (simp <;> omega)) ?_)
    intro y2 w_9 ho9 hb9
    have hz9 : w_7.heap.size + 1 ≤ w_9.heap.size := by have := hb9.size; simpa using this
    have S9 : Hid (Below w0.heap.size w0 w_9 ∧ RdBI w_9 (w1.heap.size + 1) (.slice B0 a.length d0) (a) ∧ RdBI w_9 (w1.heap.size + 1) (.slice B1 b.length d1) (b) ∧ OwnV w_9 (w1.heap.size) (w1.heap.size + 1) (.bool true) ([(.slice B0 a.length d0), (.slice B1 b.length d1)]) ∧ OwnI w_9 (w_3.heap.size) (w_7.heap.size) f ((([4]) ++ (a)) ++ ([0])) ∧ OwnI w_9 (w_7.heap.size) (w_9.heap.size) y2 (([4]) ++ (b))) := Lib.hid ⟨(S8.out.1).trans (hb9.mono (by omega)), (S8.out.2.1).below (hb9.mono (by omega)), (S8.out.2.2.1).below (hb9.mono (by omega)), (S8.out.2.2.2.1).belowB hb9 (by omega), (S8.out.2.2.2.2.1).belowB hb9 (by omega), (by simpa using ho9)⟩
    clear S8
    clear ho9 hb9
    have hb10 : Below (w_9.heap.size) w_9 (w_9.alloc (.cells #[.int .i64 (0)] 3)) := (Below.refl _ _).alloc (by first | omega | simp) _
    have ho10 := lits_own w_9 [0] (by simp) (by intro z hz; simp only [List.mem_cons, List.not_mem_nil, or_false] at hz; apply wf_near; omega)
    have S10 : Hid (Below w0.heap.size w0 (w_9.alloc (.cells #[.int .i64 (0)] 3)) ∧ RdBI (w_9.alloc (.cells #[.int .i64 (0)] 3)) (w1.heap.size + 1) (.slice B0 a.length d0) (a) ∧ RdBI (w_9.alloc (.cells #[.int .i64 (0)] 3)) (w1.heap.size + 1) (.slice B1 b.length d1) (b) ∧ OwnV (w_9.alloc (.cells #[.int .i64 (0)] 3)) (w1.heap.size) (w1.heap.size + 1) (.bool true) ([(.slice B0 a.length d0), (.slice B1 b.length d1)]) ∧ OwnI (w_9.alloc (.cells #[.int .i64 (0)] 3)) (w_3.heap.size) (w_7.heap.size) f ((([4]) ++ (a)) ++ ([0])) ∧ OwnI (w_9.alloc (.cells #[.int .i64 (0)] 3)) (w_7.heap.size) (w_9.heap.size) y2 (([4]) ++ (b)) ∧ OwnI (w_9.alloc (.cells #[.int .i64 (0)] 3)) (w_9.heap.size) (w_9.heap.size + 1) (.slice (some ⟨w_9.heap.size, 0, none⟩) 1 1) ([0])) := Lib.hid ⟨(S9.out.1).trans (hb10.mono (by omega)), (S9.out.2.1).below (hb10.mono (by omega)), (S9.out.2.2.1).below (hb10.mono (by omega)), (S9.out.2.2.2.1).belowB hb10 (by omega), (S9.out.2.2.2.2.1).belowB hb10 (by omega), (S9.out.2.2.2.2.2).belowB hb10 (by omega), (by simpa using ho10)⟩
    clear S9
    clear hb10 ho10
    go_wp2_with (at_builtin; refine wpList_append_V rfl _ _ _ rfl Try.underlying23 intInfo (w_7.heap.size) (w_9.heap.size) y2 (([4]) ++ (b)) rfl S10.out.2.2.2.2.2.1 (by first | omega | (simp <;> omega)) (.slice (some ⟨w_9.heap.size, 0, none⟩) 1 1) ([0]) rfl ((S10.out.2.2.2.2.2.2).rd) (by first | omega | (simp <;> omega)) ?_)
    intro f2 w_11 ho11 hb11
    have hz11 : w_9.heap.size + 1 ≤ w_11.heap.size := by have := hb11.size; simpa using this
    have S11 : Hid (Below w0.heap.size w0 w_11 ∧ RdBI w_11 (w1.heap.size + 1) (.slice B0 a.length d0) (a) ∧ RdBI w_11 (w1.heap.size + 1) (.slice B1 b.length d1) (b) ∧ OwnV w_11 (w1.heap.size) (w1.heap.size + 1) (.bool true) ([(.slice B0 a.length d0), (.slice B1 b.length d1)]) ∧ OwnI w_11 (w_3.heap.size) (w_7.heap.size) f ((([4]) ++ (a)) ++ ([0])) ∧ OwnI w_11 (w_7.heap.size) (w_11.heap.size) f2 ((([4]) ++ (b)) ++ ([0]))) := Lib.hid ⟨(S10.out.1).trans (hb11.mono (by omega)), (S10.out.2.1).below (hb11.mono (by omega)), (S10.out.2.2.1).below (hb11.mono (by omega)), (S10.out.2.2.2.1).belowB hb11 (by omega), (S10.out.2.2.2.2.1).belowB hb11 (by omega), (by simpa using ho11)⟩
    clear S10
    clear ho11 hb11
    -- at w_11: S11: base p q v f f2
    have hla7 : ([4] ++ a ++ [0]).length = a.length + 2 := by simp
    have hlb7 : ([4] ++ b ++ [0]).length = b.length + 2 := by simp
    have rf := S11.out.2.2.2.2.1.rd
    have rg := S11.out.2.2.2.2.2.rd
    have B11 := Lib.hid S11.out.1
    have hm2 := HM.out
    obtain ⟨xs, hxs⟩ : ∃ xs, ([4] ++ a ++ [0]) = xs := ⟨_, rfl⟩
    obtain ⟨ys, hys⟩ : ∃ ys, ([4] ++ b ++ [0]) = ys := ⟨_, rfl⟩
    rw [hxs] at rf hla7 hm2
    rw [hys] at rg hlb7 hm2
    have hlx : xs.length ≤ 402 := by omega
    have hly : ys.length ≤ 402 := by omega
    clear HM hla7 hlb7 hxs hys S11
    have HM := Lib.hid hm2; clear hm2
    obtain ⟨Af, cf, rfl, _⟩ := id rf
    obtain ⟨Ag, cg, rfl, _⟩ := id rg
    have RF := Lib.hid rf; have RG := Lib.hid rg; clear rf rg
    have hw11 := B11.out.size
    rcases hX : rowB xs with _ | _
    · have HX := Lib.hid hX; clear hX
      go_wp2_with fail
      refine (RowOk_I _ xs _ RF.out (by omega) false HX.out).mono ?_
      rintro e w12 ⟨rfl, hb⟩
      have B12 := Lib.hid (B11.out.trans (hb.mono hw11)); clear hb
      go_wp2
      go_ret
      exact ⟨rfl, B12.out⟩
    have HX := Lib.hid hX; clear hX
    go_wp2_with fail
    refine (RowOk_I _ xs _ RF.out (by omega) true HX.out).mono ?_
    rintro e w12 ⟨rfl, hb⟩
    have B12 := Lib.hid (B11.out.trans (hb.mono hw11))
    have RG2 := Lib.hid (RG.out.step hb)
    have RF2 := Lib.hid (RF.out.step hb); clear hb RF RG B11
    have hw12 := B12.out.size
    rcases hY : rowB ys with _ | _
    · have HY := Lib.hid hY; clear hY
      go_wp2_with fail
      refine (RowOk_I _ ys _ RG2.out (by omega) false HY.out).mono ?_
      rintro e w13 ⟨rfl, hb⟩
      have B13 := Lib.hid (B12.out.trans (hb.mono hw12)); clear hb
      go_wp2
      go_ret
      exact ⟨rfl, B13.out⟩
    have HY := Lib.hid hY; clear hY
    go_wp2_with fail
    refine (RowOk_I _ ys _ RG2.out (by omega) true HY.out).mono ?_
    rintro e w13 ⟨rfl, hb⟩
    have B13 := Lib.hid (B12.out.trans (hb.mono hw12))
    have RG3 := Lib.hid (RG2.out.step hb)
    have RF3 := Lib.hid (RF2.out.step hb); clear hb RF2 RG2 B12
    have hw13 := B13.out.size
    go_wp2_with fail
    refine (NeedsOf_I _ _ xs ys _ RF3.out RG3.out _ _ (HM.out HX.out HY.out)).mono ?_
    rintro e w14 ⟨rfl, hb⟩
    have B14 := Lib.hid (B13.out.trans (hb.mono hw13)); clear hb
    go_wp2
    go_ret
    exact ⟨rfl, B14.out⟩
theorem fnNeedsOf_walk : LawWalk 4 Try.f4 := by
  intro H enc W base args ds ps hval hA
  rw [Try.params4] at hA hval
  obtain ⟨v0, d0, rfl, rfl, h0⟩ := trodAll_one hA
  obtain ⟨A0, c0, zs0, rfl, hi0, hc0⟩ := ints_of_trod Try.underlying22 Try.underlying5 cells_byte (hval 0 _ _ rfl rfl) h0
  exact fnNeedsOf_any A0 c0 zs0 W (RdC.mk hi0 hc0)

set_option maxRecDepth 100000 in
theorem fnNeedsOf_lifted (os : Os) (started : os.Started) (H : Type) (enc : TypeId × Value → H) :
    ReturnsInHanded {} Try.checked os 4 .any (Rows.fnNeedsOfSpec.pre6 enc Try.prog Try.f4 Rows.fnNeedsOfRow.domain false) (Rows.fnNeedsOfSpec.post enc Try.prog Try.f4 false true false false) := by
  refine returnsInHanded_of_change (C := Try.checked) own started (by kernel_rfl) Try.func4
    (ChangeSpec.witness6 (enc := enc) (C := Try.checked) false ⟨#[], #[.slice none 0 0], []⟩ 8 (by kernel_rfl) (by kernel_rfl) (by kernel_rfl) (by kernel_rfl)) ?_
  intro W base args ds gs before hval hW _ _
  exact law_contract laidOut rfl (by kernel_rfl) rfl (fun H ds hd => by
    match ds, hd with
    | [d0], _ => exact ⟨rfl, rfl, rfl⟩) fnNeedsOf_walk W base args ds gs before hval hW

/-- FnNeedsOf: the row as it is given. -/
theorem fnNeedsOf_holds : Rows.FnNeedsOfSaid :=
  OpenClaim.holds_of_wide 4 Try.f4 rfl rfl rfl rfl rfl rfl rfl ⟨rfl, rfl, rfl, rfl, rfl⟩ rfl rfl rfl rfl rfl (by kernel_rfl) Try.func4 (by unfold joinedFacts; rw [pf_enter, pf_lifts, pf_make]; kernel_rfl)
    (of_decide_eq_true (by kernel_rfl)) (by unfold Func.isWrapper; first | (rw [if_pos (by decide +kernel)]; kernel_rfl) | (rw [if_neg (by decide +kernel)]; exact ⟨rfl, rfl⟩))
    (fun os started H enc _ => fnNeedsOf_lifted os started H enc)

end Go.Proofs.Ytceekfoacgoalaa
