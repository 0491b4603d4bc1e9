/- WordEffect, the model's. -/
import Derived.Test.YtkiedpdhehehfaaWf
import Derived.Test.YtkiedpdhehehfaaB1
namespace Go.Proofs.Ytkiedpdhehehfaa
set_option maxRecDepth 100000
open Go.RowKit Go.WideShapes

def letW (c : Nat) : List Int := if c = 110 then [0] else if c = 97 then [1, 0] else if c = 98 then [1, 1] else if c = 112 then progW else [2, 3, 0, 3, 0]
def strW (s : List UInt8) (bottom : Int) : List Int := s.foldl (fun t c => putW t (letW c.toNat)) [3, bottom]
theorem letW_of (c : Nat) : (((c : Int) == 110) = true → letW c = [0]) ∧ (((c : Int) == 110) = false → ((c : Int) == 97) = true → letW c = [1, 0]) ∧ (((c : Int) == 110) = false → ((c : Int) == 97) = false → ((c : Int) == 98) = true → letW c = [1, 1]) ∧
    (((c : Int) == 110) = false → ((c : Int) == 97) = false → ((c : Int) == 98) = false → ((c : Int) == 112) = true → letW c = progW) ∧ (((c : Int) == 110) = false → ((c : Int) == 97) = false → ((c : Int) == 98) = false → ((c : Int) == 112) = false → letW c = [2, 3, 0, 3, 0]) := by
  have h : ∀ k : Nat, (((c : Int) == (k : Int)) = decide (c = k)) := fun k => by
    rw [Bool.eq_iff_iff, decide_eq_true_eq, beq_iff_eq]; omega
  have h1 : ((c : Int) == 110) = decide (c = 110) := h 110
  have h2 : ((c : Int) == 97) = decide (c = 97) := h 97
  have h3 : ((c : Int) == 98) = decide (c = 98) := h 98
  have h4 : ((c : Int) == 112) = decide (c = 112) := h 112
  rw [h1, h2, h3, h4]
  simp only [decide_eq_true_eq, decide_eq_false_iff_not]
  unfold letW
  refine ⟨fun a => if_pos a, fun a b => ?_, fun a b c => ?_, fun a b c d => ?_, fun a b c d => ?_⟩
  · rw [if_neg a, if_pos b]
  · rw [if_neg a, if_neg b, if_pos c]
  · rw [if_neg a, if_neg b, if_neg c, if_pos d]
  · rw [if_neg a, if_neg b, if_neg c, if_neg d]
theorem strW_succ {s : ByteArray} {j : Nat} (h : j < s.size) (bottom : Int) : strW (s.toList.take (j + 1)) bottom = 4 :: (strW (s.toList.take j) bottom ++ letW s[j].toNat) := by
  have hg : s.toList[j]? = some s[j] := by
    rw [Go.ByteArray.toList_eq]
    have h2 : j < s.data.size := h
    rw [Array.getElem?_toList, Array.getElem?_eq_getElem h2]; rfl
  rw [List.take_add_one, hg, strW, List.foldl_append]; rfl
def LRow (w : World) (s : List UInt8) (bottom : Int) (v k : Value) (wr : World) : Prop := ∃ (j : Nat), k = .int .i64 j ∧ j ≤ s.length ∧ OwnI wr w.heap.size wr.heap.size v (strW (s.take j) bottom) ∧ (strW (s.take j) bottom).length ≤ 2 + 6 * j ∧ Below w.heap.size w wr
set_option maxHeartbeats 1000000 in
theorem l4Row_any (s : ByteArray) (bottom : Int) (w : World) (hs : s.size ≤ 20) (hb : 0 ≤ bottom ∧ bottom ≤ 1000) :
    Calls Try.prog 194 #[.string s, .int .i64 bottom] w fun e w' => ∃ u, e = .returned u ∧ OwnI w' w.heap.size w'.heap.size u (strW s.toList bottom) ∧ Below w.heap.size w w' := by
  have hlen : s.toList.length = s.size := by rw [Go.ByteArray.toList_eq]; rfl
  have ho := lits_own w [3, bottom] (by simp) (by intro q hq; simp only [List.mem_cons, List.not_mem_nil, or_false] at hq; exact wf_near _ (by omega))
  have hal : Below w.heap.size w (w.alloc (.cells #[.int .i64 3, .int .i64 bottom] 3)) := (Below.refl _ _).alloc (Nat.le_refl _) _
  have hst : LRow w s.toList bottom (.slice (some ⟨w.heap.size, 0, none⟩) 2 2) (.int .i64 ((0 : Nat) : Int)) (w.alloc (.cells #[.int .i64 3, .int .i64 bottom] 3)) := ⟨0, rfl, Nat.zero_le _, ⟨ho.own, fun k hk => by simpa using ho.lt k hk⟩, by simp [strW], hal⟩
  have Hst := Lib.hid hst; clear hst ho hal
  go_enter Try.func194, Try.ntmps194
  go_wp2
  go_loopw [5, 6] (fun v k wr => LRow w s.toList bottom v k wr) (fun _ k _ => s.size - (intOf k).toNat)
  case atStart => exact Hst.out
  case round =>
    clear Hst
    obtain ⟨j, rfl, hj, hown, hl, hbw⟩ := hrel
    have hsw := hbw.size
    rw [hlen] at hj
    by_cases hlt : j < s.size
    · have hltI : (j : Int) < s.size := by omega
      obtain ⟨A, c, rfl, _⟩ := hown.rd
      have hal1 : Below wr.heap.size wr (wr.alloc (.cells #[.int .i64 4] 3)) := (Below.refl _ _).alloc (Nat.le_refl _) _
      have L1 := lits_own wr [4] (by simp) (by intro q hq; simp only [List.mem_cons, List.not_mem_nil, or_false] at hq; subst hq; exact wf_near _ (by omega))
      have X := Lib.hid (And.intro L1 (And.intro ((hown.below hal1).rd) (hbw.trans (hal1.mono hsw)))); clear L1 hown hal1 hbw
      generalize hz : strW (s.toList.take j) bottom = zs at *
      have HZ := Lib.hid hz; clear hz
      go_wp2_with (at_builtin; refine wpList_append_V rfl _ _ _ rfl Try.underlying22 intInfo wr.heap.size (wr.heap.size + 1) _ [4] rfl X.out.1 (by simp) _ zs rfl X.out.2.1 (by simp; omega) ?_)
      intro v2 w2 ho2 hb2
      replace ho2 : OwnI w2 wr.heap.size w2.heap.size v2 (4 :: zs) := ho2
      obtain ⟨q, hq⟩ : ∃ q : List Int, 4 :: zs = q := ⟨_, rfl⟩
      rw [hq] at ho2
      have hql : q.length ≤ 2 + 6 * j + 1 := by rw [← hq, List.length_cons]; omega
      obtain ⟨A2, c2, rfl, _⟩ := ho2.rd
      have hs2 : wr.heap.size + 1 ≤ w2.heap.size := by have := hb2.size; rw [World.size_alloc] at this; exact this
      have hsuc := strW_succ hlt bottom
      rw [HZ.out] at hsuc
      have hsuc2 : strW (s.toList.take (j + 1)) bottom = q ++ letW s[j].toNat := by rw [hsuc, ← hq]; rfl
      have Y := Lib.hid (And.intro ho2 (And.intro (X.out.2.2.trans (hb2.mono hsw)) hsuc2)); clear ho2 hb2 hsuc hsuc2 hq X HZ
      have hsw2 : w.heap.size ≤ w2.heap.size := by omega
      have F0 : Hid (OwnI (w2.alloc (.cells #[.int .i64 0] 3)) wr.heap.size w2.heap.size (.slice A2 q.length c2) q ∧ RdI (w2.alloc (.cells #[.int .i64 0] 3)) (.slice (some ⟨w2.heap.size, 0, none⟩) 1 1) [0] ∧ Below w.heap.size w (w2.alloc (.cells #[.int .i64 0] 3))) := by
        have hal : Below w2.heap.size w2 (w2.alloc (.cells #[.int .i64 0] 3)) := (Below.refl _ _).alloc (Nat.le_refl _) _
        have hl := (lits_own w2 [0] (by simp) (by intro q hq; simp only [List.mem_cons, List.not_mem_nil, or_false] at hq; exact wf_near _ (by omega))).rd
        exact Lib.hid ⟨Y.out.1.below hal, by simpa [progW] using hl, Y.out.2.1.trans (hal.mono hsw2)⟩
      have F1 : Hid (OwnI (w2.alloc (.cells #[.int .i64 1, .int .i64 0] 3)) wr.heap.size w2.heap.size (.slice A2 q.length c2) q ∧ RdI (w2.alloc (.cells #[.int .i64 1, .int .i64 0] 3)) (.slice (some ⟨w2.heap.size, 0, none⟩) 2 2) [1, 0] ∧ Below w.heap.size w (w2.alloc (.cells #[.int .i64 1, .int .i64 0] 3))) := by
        have hal : Below w2.heap.size w2 (w2.alloc (.cells #[.int .i64 1, .int .i64 0] 3)) := (Below.refl _ _).alloc (Nat.le_refl _) _
        have hl := (lits_own w2 [1, 0] (by simp) (by intro q hq; simp only [List.mem_cons, List.not_mem_nil, or_false] at hq; exact wf_near _ (by omega))).rd
        exact Lib.hid ⟨Y.out.1.below hal, by simpa [progW] using hl, Y.out.2.1.trans (hal.mono hsw2)⟩
      have F2 : Hid (OwnI (w2.alloc (.cells #[.int .i64 1, .int .i64 1] 3)) wr.heap.size w2.heap.size (.slice A2 q.length c2) q ∧ RdI (w2.alloc (.cells #[.int .i64 1, .int .i64 1] 3)) (.slice (some ⟨w2.heap.size, 0, none⟩) 2 2) [1, 1] ∧ Below w.heap.size w (w2.alloc (.cells #[.int .i64 1, .int .i64 1] 3))) := by
        have hal : Below w2.heap.size w2 (w2.alloc (.cells #[.int .i64 1, .int .i64 1] 3)) := (Below.refl _ _).alloc (Nat.le_refl _) _
        have hl := (lits_own w2 [1, 1] (by simp) (by intro q hq; simp only [List.mem_cons, List.not_mem_nil, or_false] at hq; exact wf_near _ (by omega))).rd
        exact Lib.hid ⟨Y.out.1.below hal, by simpa [progW] using hl, Y.out.2.1.trans (hal.mono hsw2)⟩
      have F3 : Hid (OwnI (w2.alloc (.cells #[.int .i64 2, .int .i64 3, .int .i64 0, .int .i64 3, .int .i64 1] 3)) wr.heap.size w2.heap.size (.slice A2 q.length c2) q ∧ RdI (w2.alloc (.cells #[.int .i64 2, .int .i64 3, .int .i64 0, .int .i64 3, .int .i64 1] 3)) (.slice (some ⟨w2.heap.size, 0, none⟩) 5 5) progW ∧ Below w.heap.size w (w2.alloc (.cells #[.int .i64 2, .int .i64 3, .int .i64 0, .int .i64 3, .int .i64 1] 3))) := by
        have hal : Below w2.heap.size w2 (w2.alloc (.cells #[.int .i64 2, .int .i64 3, .int .i64 0, .int .i64 3, .int .i64 1] 3)) := (Below.refl _ _).alloc (Nat.le_refl _) _
        have hl := (lits_own w2 [2, 3, 0, 3, 1] (by simp) (by intro q hq; simp only [List.mem_cons, List.not_mem_nil, or_false] at hq; exact wf_near _ (by omega))).rd
        exact Lib.hid ⟨Y.out.1.below hal, by simpa [progW] using hl, Y.out.2.1.trans (hal.mono hsw2)⟩
      have F4 : Hid (OwnI (w2.alloc (.cells #[.int .i64 2, .int .i64 3, .int .i64 0, .int .i64 3, .int .i64 0] 3)) wr.heap.size w2.heap.size (.slice A2 q.length c2) q ∧ RdI (w2.alloc (.cells #[.int .i64 2, .int .i64 3, .int .i64 0, .int .i64 3, .int .i64 0] 3)) (.slice (some ⟨w2.heap.size, 0, none⟩) 5 5) [2, 3, 0, 3, 0] ∧ Below w.heap.size w (w2.alloc (.cells #[.int .i64 2, .int .i64 3, .int .i64 0, .int .i64 3, .int .i64 0] 3))) := by
        have hal : Below w2.heap.size w2 (w2.alloc (.cells #[.int .i64 2, .int .i64 3, .int .i64 0, .int .i64 3, .int .i64 0] 3)) := (Below.refl _ _).alloc (Nat.le_refl _) _
        have hl := (lits_own w2 [2, 3, 0, 3, 0] (by simp) (by intro q hq; simp only [List.mem_cons, List.not_mem_nil, or_false] at hq; exact wf_near _ (by omega))).rd
        exact Lib.hid ⟨Y.out.1.below hal, by simpa [progW] using hl, Y.out.2.1.trans (hal.mono hsw2)⟩
      go_wp2_with (at_builtin; first | (refine wpList_append_V rfl _ _ _ rfl Try.underlying22 intInfo wr.heap.size w2.heap.size _ q rfl F0.out.1 (by simp; omega) (.slice (some ⟨w2.heap.size, 0, none⟩) 1 1) [0] rfl F0.out.2.1 (by first | (simp only [List.length_cons, List.length_nil]; omega) | (have : progW.length ≤ 5 := (by decide); omega)) ?_; intro v3 w3 ho3 hb3; have hlet := (letW_of _).1 (by assumption); have hs3 : wr.heap.size ≤ (w2.alloc (.cells #[.int .i64 0] 3)).heap.size := (by rw [World.size_alloc]; omega); have heq : strW (s.toList.take (j + 1)) bottom = q ++ [0] := Y.out.2.2.trans (by rw [hlet]); have h5 : ([0] : List Int).length ≤ 5 := (by decide); have K : Hid (OwnI w3 w.heap.size w3.heap.size v3 (strW (s.toList.take (j + 1)) bottom) ∧ (strW (s.toList.take (j + 1)) bottom).length ≤ 2 + 6 * (j + 1) ∧ Below w.heap.size w w3) := Lib.hid ⟨(by rw [heq]; exact ⟨ho3.own.mono hsw, ho3.lt⟩), (by rw [heq, List.length_append]; omega), F0.out.2.2.trans (hb3.mono hsw)⟩; clear ho3 hb3 hlet hs3 heq h5) | (refine wpList_append_V rfl _ _ _ rfl Try.underlying22 intInfo wr.heap.size w2.heap.size _ q rfl F1.out.1 (by simp; omega) (.slice (some ⟨w2.heap.size, 0, none⟩) 2 2) [1, 0] rfl F1.out.2.1 (by first | (simp only [List.length_cons, List.length_nil]; omega) | (have : progW.length ≤ 5 := (by decide); omega)) ?_; intro v3 w3 ho3 hb3; have hlet := (letW_of _).2.1 (by assumption) (by assumption); have hs3 : wr.heap.size ≤ (w2.alloc (.cells #[.int .i64 1, .int .i64 0] 3)).heap.size := (by rw [World.size_alloc]; omega); have heq : strW (s.toList.take (j + 1)) bottom = q ++ [1, 0] := Y.out.2.2.trans (by rw [hlet]); have h5 : ([1, 0] : List Int).length ≤ 5 := (by decide); have K : Hid (OwnI w3 w.heap.size w3.heap.size v3 (strW (s.toList.take (j + 1)) bottom) ∧ (strW (s.toList.take (j + 1)) bottom).length ≤ 2 + 6 * (j + 1) ∧ Below w.heap.size w w3) := Lib.hid ⟨(by rw [heq]; exact ⟨ho3.own.mono hsw, ho3.lt⟩), (by rw [heq, List.length_append]; omega), F1.out.2.2.trans (hb3.mono hsw)⟩; clear ho3 hb3 hlet hs3 heq h5) | (refine wpList_append_V rfl _ _ _ rfl Try.underlying22 intInfo wr.heap.size w2.heap.size _ q rfl F2.out.1 (by simp; omega) (.slice (some ⟨w2.heap.size, 0, none⟩) 2 2) [1, 1] rfl F2.out.2.1 (by first | (simp only [List.length_cons, List.length_nil]; omega) | (have : progW.length ≤ 5 := (by decide); omega)) ?_; intro v3 w3 ho3 hb3; have hlet := (letW_of _).2.2.1 (by assumption) (by assumption) (by assumption); have hs3 : wr.heap.size ≤ (w2.alloc (.cells #[.int .i64 1, .int .i64 1] 3)).heap.size := (by rw [World.size_alloc]; omega); have heq : strW (s.toList.take (j + 1)) bottom = q ++ [1, 1] := Y.out.2.2.trans (by rw [hlet]); have h5 : ([1, 1] : List Int).length ≤ 5 := (by decide); have K : Hid (OwnI w3 w.heap.size w3.heap.size v3 (strW (s.toList.take (j + 1)) bottom) ∧ (strW (s.toList.take (j + 1)) bottom).length ≤ 2 + 6 * (j + 1) ∧ Below w.heap.size w w3) := Lib.hid ⟨(by rw [heq]; exact ⟨ho3.own.mono hsw, ho3.lt⟩), (by rw [heq, List.length_append]; omega), F2.out.2.2.trans (hb3.mono hsw)⟩; clear ho3 hb3 hlet hs3 heq h5) | (refine wpList_append_V rfl _ _ _ rfl Try.underlying22 intInfo wr.heap.size w2.heap.size _ q rfl F3.out.1 (by simp; omega) (.slice (some ⟨w2.heap.size, 0, none⟩) 5 5) progW rfl F3.out.2.1 (by first | (simp only [List.length_cons, List.length_nil]; omega) | (have : progW.length ≤ 5 := (by decide); omega)) ?_; intro v3 w3 ho3 hb3; have hlet := (letW_of _).2.2.2.1 (by assumption) (by assumption) (by assumption) (by assumption); have hs3 : wr.heap.size ≤ (w2.alloc (.cells #[.int .i64 2, .int .i64 3, .int .i64 0, .int .i64 3, .int .i64 1] 3)).heap.size := (by rw [World.size_alloc]; omega); have heq : strW (s.toList.take (j + 1)) bottom = q ++ progW := Y.out.2.2.trans (by rw [hlet]); have h5 : (progW : List Int).length ≤ 5 := (by decide); have K : Hid (OwnI w3 w.heap.size w3.heap.size v3 (strW (s.toList.take (j + 1)) bottom) ∧ (strW (s.toList.take (j + 1)) bottom).length ≤ 2 + 6 * (j + 1) ∧ Below w.heap.size w w3) := Lib.hid ⟨(by rw [heq]; exact ⟨ho3.own.mono hsw, ho3.lt⟩), (by rw [heq, List.length_append]; omega), F3.out.2.2.trans (hb3.mono hsw)⟩; clear ho3 hb3 hlet hs3 heq h5) | (refine wpList_append_V rfl _ _ _ rfl Try.underlying22 intInfo wr.heap.size w2.heap.size _ q rfl F4.out.1 (by simp; omega) (.slice (some ⟨w2.heap.size, 0, none⟩) 5 5) [2, 3, 0, 3, 0] rfl F4.out.2.1 (by first | (simp only [List.length_cons, List.length_nil]; omega) | (have : progW.length ≤ 5 := (by decide); omega)) ?_; intro v3 w3 ho3 hb3; have hlet := (letW_of _).2.2.2.2 (by assumption) (by assumption) (by assumption) (by assumption); have hs3 : wr.heap.size ≤ (w2.alloc (.cells #[.int .i64 2, .int .i64 3, .int .i64 0, .int .i64 3, .int .i64 0] 3)).heap.size := (by rw [World.size_alloc]; omega); have heq : strW (s.toList.take (j + 1)) bottom = q ++ [2, 3, 0, 3, 0] := Y.out.2.2.trans (by rw [hlet]); have h5 : ([2, 3, 0, 3, 0] : List Int).length ≤ 5 := (by decide); have K : Hid (OwnI w3 w.heap.size w3.heap.size v3 (strW (s.toList.take (j + 1)) bottom) ∧ (strW (s.toList.take (j + 1)) bottom).length ≤ 2 + 6 * (j + 1) ∧ Below w.heap.size w w3) := Lib.hid ⟨(by rw [heq]; exact ⟨ho3.own.mono hsw, ho3.lt⟩), (by rw [heq, List.length_append]; omega), F4.out.2.2.trans (hb3.mono hsw)⟩; clear ho3 hb3 hlet hs3 heq h5))
      all_goals (
        go_wp2
        go_roundw
        case rel => exact ⟨j + 1, by go_num, by omega, K.out.1, K.out.2.1, K.out.2.2⟩
        case measure => simp [intOf]; omega)
    · have hall : s.toList.take j = s.toList := List.take_of_length_le (by omega)
      rw [hall] at hown
      have X := Lib.hid (And.intro hown hbw); clear hown hbw
      go_wp2
      go_ret
      exact ⟨_, rfl, X.out⟩

def RowsPost (w : World) (a b : List Int) (e : Ending) (w' : World) : Prop := ∃ u0 u1 lo0 hi0 lo1 hi1, e = .returned (.agg #[u0, u1]) ∧ OwnI w' lo0 hi0 u0 a ∧ OwnI w' lo1 hi1 u1 b ∧ w.heap.size + 1 ≤ lo0 ∧ w.heap.size + 1 ≤ lo1 ∧ Below w.heap.size w w'
set_option maxHeartbeats 1000000 in
theorem l4Rows_any (si so : ByteArray) (n : Int) (w : World) (hi : si.size ≤ 20) (ho : so.size ≤ 20) (hn : 0 ≤ n ∧ n ≤ 1000) :
    Calls Try.prog 173 #[.string si, .string so, .int .i64 n] w (RowsPost w (strW si.toList 0) (strW so.toList n)) := by
  have hal : Below w.heap.size w (w.alloc (.cells #[.slice none 0 0, .slice none 0 0] 63)) := (Below.refl _ _).alloc (Nat.le_refl _) _
  have hbk := Blk.new w #[.slice none 0 0, .slice none 0 0] 63
  have S0 := Lib.hid (And.intro hal hbk); clear hal hbk
  go_enter Try.func173, Try.ntmps173
  go_wp2_with fail
  refine (l4Row_any si 0 _ hi (by omega)).mono ?_
  rintro e w1 ⟨u0, rfl, o0, hb⟩
  rw [World.size_alloc] at o0
  have hs1 : w.heap.size + 1 ≤ w1.heap.size := by have := hb.size; rw [World.size_alloc] at this; exact this
  obtain ⟨A0, c0, rfl, _⟩ := o0.rd
  generalize strW si.toList 0 = a at *
  have S1 := Lib.hid (And.intro o0 (And.intro (S0.out.1.trans (hb.mono (by rw [World.size_alloc]; omega))) (S0.out.2.below hb (by rw [World.size_alloc]; omega)))); clear S0 o0 hb
  go_wp2_with fail
  refine (l4Row_any so n _ ho (by omega)).mono ?_
  rintro e w2 ⟨u1, rfl, o1, hb⟩
  have hs2 := hb.size
  obtain ⟨A1, c1, rfl, _⟩ := o1.rd
  generalize strW so.toList n = b at *
  have hB := S1.out.2.2.below hb (by omega)
  obtain ⟨cc0, cc1, ff0, ff1⟩ := blk_two hB
  obtain ⟨e0, e1⟩ := blk_two_out hB (x := .slice A0 a.length c0) (y := .slice A1 b.length c1)
  have k0 := ((S1.out.1.below hb).apart (within_setCell _ w.heap.size 0 (.slice A0 a.length c0)) (.inr (by omega))).apart (within_setCell _ w.heap.size 1 (.slice A1 b.length c1)) (.inr (by omega))
  have k1 := (o1.apart (within_setCell _ w.heap.size 0 (.slice A0 a.length c0)) (.inr (by omega))).apart (within_setCell _ w.heap.size 1 (.slice A1 b.length c1)) (.inr (by omega))
  have kb := ((S1.out.2.1.trans (hb.mono (by omega))).setCell (p := ⟨w.heap.size, 0, none⟩) (Nat.le_refl _) (.slice A0 a.length c0)).setCell (p := ⟨w.heap.size, 1, none⟩) (Nat.le_refl _) (.slice A1 b.length c1)
  have R := Lib.hid (And.intro k0 (And.intro k1 kb)); clear k0 k1 kb hB o1 hb S1
  go_wp2
  refine bodyPost_ret (v := .agg #[.slice A0 a.length c0, .slice A1 b.length c1]) (by simp [results, Try.results173, go_sem, e0, e1]) rfl ?_
  exact ⟨_, _, _, _, _, _, rfl, R.out.1, R.out.2.1, Nat.le_refl _, hs1, R.out.2.2⟩

def EdPost (w : World) (y0 y1 : List Int) (y2 : Bool) (e : Ending) (w' : World) : Prop := ∃ u0 u1, e = .returned (.tuple #[.agg #[u0, u1], .bool y2]) ∧ RdI w' u0 y0 ∧ RdI w' u1 y1 ∧ Below w.heap.size w w'
theorem ed_end {w w1 : World} {A0 A1 : Option Addr} {c0 c1 lo0 hi0 lo1 hi1 : Nat} {q0 q1 : List Int} (h0 : OwnI w1 lo0 hi0 (.slice A0 q0.length c0) q0) (h1 : OwnI w1 lo1 hi1 (.slice A1 q1.length c1) q1) (k0 : w.heap.size + 1 + 1 ≤ lo0) (k1 : w.heap.size + 1 + 1 ≤ lo1) (hb : Below w.heap.size w w1) :
    EdPost w q0 q1 true (.returned (.tuple #[.agg #[.slice A0 q0.length c0, .slice A1 q1.length c1], .bool true])) ((w1.setCell ⟨w.heap.size, 0, none⟩ (.slice A0 q0.length c0)).setCell ⟨w.heap.size, 1, none⟩ (.slice A1 q1.length c1)) :=
  ⟨_, _, rfl, ((h0.apart (within_setCell _ w.heap.size 0 (.slice A0 q0.length c0)) (.inr (by omega))).apart (within_setCell _ w.heap.size 1 (.slice A1 q1.length c1)) (.inr (by omega))).rd,
    ((h1.apart (within_setCell _ w.heap.size 0 (.slice A0 q0.length c0)) (.inr (by omega))).apart (within_setCell _ w.heap.size 1 (.slice A1 q1.length c1)) (.inr (by omega))).rd, (hb.setCell (Nat.le_refl _) _).setCell (Nat.le_refl _) _⟩
theorem strW_data (l : Array UInt8) (n : Int) : strW (ByteArray.mk l).toList n = strW l.toList n := by rw [Go.ByteArray.toList_eq]
set_option maxHeartbeats 8000000 in
theorem WordEffect_S (n : Int) (w : World) (_ : InK .i64 n) (y0 y1 : List Int) (y2 : Bool) (hR : wordR n = (y0, y1, y2)) :
    Calls Try.prog 118 #[.int .i64 n] w (EdPost w y0 y1 y2) := by
  have HR := Lib.hid hR; clear hR
  have hal : Below w.heap.size w (w.alloc (.cells #[.slice none 0 0, .slice none 0 0] 63)) := (Below.refl _ _).alloc (Nat.le_refl _) _
  have hbk := Blk.new w #[.slice none 0 0, .slice none 0 0] 63
  have S0 := Lib.hid (And.intro hal hbk); clear hal hbk
  go_enter Try.func118, Try.ntmps118
  go_wp2_with fail
  refine (l1In_any n 0 999 _).mono ?_
  rintro e w' ⟨rfl, rfl⟩
  rcases hz : (decide (0 ≤ n) && decide (n ≤ 999)) with _ | _
  case true =>
    have hz2 : 0 ≤ n ∧ n ≤ 999 := by simpa using hz
    have he : (strW [] 0, strW [110] 0, true) = (y0, y1, y2) := by rw [← HR.out, wordR]; rw [if_pos hz2]; rfl
    have HE := Lib.hid he; clear he HR
    go_wp2_with fail
    refine (l4Rows_any ⟨#[]⟩ ⟨#[110]⟩ 0 _ (by decide) (by decide) (by omega)).mono ?_
    rw [strW_data, strW_data]
    rintro e w1 ⟨u0, u1, lo0, hi0, lo1, hi1, rfl, h0, h1, k0, k1, hb⟩
    rw [World.size_alloc] at k0 k1
    obtain ⟨rfl, rfl, rfl⟩ : strW [] 0 = y0 ∧ strW [110] 0 = y1 ∧ true = y2 := by have := HE.out; simp only [Prod.mk.injEq] at this; exact this
    replace h0 : OwnI w1 lo0 hi0 u0 (strW [] 0) := h0
    replace h1 : OwnI w1 lo1 hi1 u1 (strW [110] 0) := h1
    clear HE
    generalize strW [] 0 = q0 at *
    generalize strW [110] 0 = q1 at *
    obtain ⟨A0, c0, rfl, _⟩ := h0.rd
    obtain ⟨A1, c1, rfl, _⟩ := h1.rd
    have hB := S0.out.2.below hb (by rw [World.size_alloc]; omega)
    obtain ⟨cc0, cc1, ff0, ff1⟩ := blk_two hB
    obtain ⟨e0, e1⟩ := blk_two_out hB (x := .slice A0 q0.length c0) (y := .slice A1 q1.length c1)
    have R := Lib.hid (ed_end h0 h1 k0 k1 (S0.out.1.trans (hb.mono (by rw [World.size_alloc]; omega)))); clear h0 h1 hb hB S0
    go_wp2
    refine bodyPost_ret (v := .tuple #[.agg #[.slice A0 q0.length c0, .slice A1 q1.length c1], .bool true]) (by simp [results, Try.results118, go_sem, e0, e1]) rfl ?_
    exact R.out
  have hz2 : ¬ (0 ≤ n ∧ n ≤ 999) := by
    intro h; simp only [Bool.and_eq_false_iff, decide_eq_false_iff_not] at hz; omega
  have HZ := Lib.hid hz2; clear hz hz2
  by_cases h1001 : n = 1001
  · subst h1001
    have he : (strW [97] 0, strW [97, 97] 0, true) = (y0, y1, y2) := by rw [← HR.out, wordR]; rw [if_neg HZ.out, if_pos rfl]; rfl
    have HE := Lib.hid he; clear he HR
    go_wp2_with fail
    refine (l4Rows_any ⟨#[97]⟩ ⟨#[97, 97]⟩ 0 _ (by decide) (by decide) (by omega)).mono ?_
    rw [strW_data, strW_data]
    rintro e w1 ⟨u0, u1, lo0, hi0, lo1, hi1, rfl, h0, h1, k0, k1, hb⟩
    rw [World.size_alloc] at k0 k1
    obtain ⟨rfl, rfl, rfl⟩ : strW [97] 0 = y0 ∧ strW [97, 97] 0 = y1 ∧ true = y2 := by have := HE.out; simp only [Prod.mk.injEq] at this; exact this
    replace h0 : OwnI w1 lo0 hi0 u0 (strW [97] 0) := h0
    replace h1 : OwnI w1 lo1 hi1 u1 (strW [97, 97] 0) := h1
    clear HE
    generalize strW [97] 0 = q0 at *
    generalize strW [97, 97] 0 = q1 at *
    obtain ⟨A0, c0, rfl, _⟩ := h0.rd
    obtain ⟨A1, c1, rfl, _⟩ := h1.rd
    have hB := S0.out.2.below hb (by rw [World.size_alloc]; omega)
    obtain ⟨cc0, cc1, ff0, ff1⟩ := blk_two hB
    obtain ⟨e0, e1⟩ := blk_two_out hB (x := .slice A0 q0.length c0) (y := .slice A1 q1.length c1)
    have R := Lib.hid (ed_end h0 h1 k0 k1 (S0.out.1.trans (hb.mono (by rw [World.size_alloc]; omega)))); clear h0 h1 hb hB S0
    go_wp2
    refine bodyPost_ret (v := .tuple #[.agg #[.slice A0 q0.length c0, .slice A1 q1.length c1], .bool true]) (by simp [results, Try.results118, go_sem, e0, e1]) rfl ?_
    exact R.out
  have b1001 : (n == 1001) = false := by simpa using h1001
  by_cases h1002 : n = 1002
  · subst h1002
    have he : (strW [97] 0, strW [] 0, true) = (y0, y1, y2) := by rw [← HR.out, wordR]; rw [if_neg HZ.out, if_neg (by omega), if_pos rfl]; rfl
    have HE := Lib.hid he; clear he HR
    go_wp2_with fail
    refine (l4Rows_any ⟨#[97]⟩ ⟨#[]⟩ 0 _ (by decide) (by decide) (by omega)).mono ?_
    rw [strW_data, strW_data]
    rintro e w1 ⟨u0, u1, lo0, hi0, lo1, hi1, rfl, h0, h1, k0, k1, hb⟩
    rw [World.size_alloc] at k0 k1
    obtain ⟨rfl, rfl, rfl⟩ : strW [97] 0 = y0 ∧ strW [] 0 = y1 ∧ true = y2 := by have := HE.out; simp only [Prod.mk.injEq] at this; exact this
    replace h0 : OwnI w1 lo0 hi0 u0 (strW [97] 0) := h0
    replace h1 : OwnI w1 lo1 hi1 u1 (strW [] 0) := h1
    clear HE
    generalize strW [97] 0 = q0 at *
    generalize strW [] 0 = q1 at *
    obtain ⟨A0, c0, rfl, _⟩ := h0.rd
    obtain ⟨A1, c1, rfl, _⟩ := h1.rd
    have hB := S0.out.2.below hb (by rw [World.size_alloc]; omega)
    obtain ⟨cc0, cc1, ff0, ff1⟩ := blk_two hB
    obtain ⟨e0, e1⟩ := blk_two_out hB (x := .slice A0 q0.length c0) (y := .slice A1 q1.length c1)
    have R := Lib.hid (ed_end h0 h1 k0 k1 (S0.out.1.trans (hb.mono (by rw [World.size_alloc]; omega)))); clear h0 h1 hb hB S0
    go_wp2
    refine bodyPost_ret (v := .tuple #[.agg #[.slice A0 q0.length c0, .slice A1 q1.length c1], .bool true]) (by simp [results, Try.results118, go_sem, e0, e1]) rfl ?_
    exact R.out
  have b1002 : (n == 1002) = false := by simpa using h1002
  by_cases h1003 : n = 1003
  · subst h1003
    have he : (strW [97, 98] 0, strW [98, 97] 0, true) = (y0, y1, y2) := by rw [← HR.out, wordR]; rw [if_neg HZ.out, if_neg (by omega), if_neg (by omega), if_pos rfl]; rfl
    have HE := Lib.hid he; clear he HR
    go_wp2_with fail
    refine (l4Rows_any ⟨#[97, 98]⟩ ⟨#[98, 97]⟩ 0 _ (by decide) (by decide) (by omega)).mono ?_
    rw [strW_data, strW_data]
    rintro e w1 ⟨u0, u1, lo0, hi0, lo1, hi1, rfl, h0, h1, k0, k1, hb⟩
    rw [World.size_alloc] at k0 k1
    obtain ⟨rfl, rfl, rfl⟩ : strW [97, 98] 0 = y0 ∧ strW [98, 97] 0 = y1 ∧ true = y2 := by have := HE.out; simp only [Prod.mk.injEq] at this; exact this
    replace h0 : OwnI w1 lo0 hi0 u0 (strW [97, 98] 0) := h0
    replace h1 : OwnI w1 lo1 hi1 u1 (strW [98, 97] 0) := h1
    clear HE
    generalize strW [97, 98] 0 = q0 at *
    generalize strW [98, 97] 0 = q1 at *
    obtain ⟨A0, c0, rfl, _⟩ := h0.rd
    obtain ⟨A1, c1, rfl, _⟩ := h1.rd
    have hB := S0.out.2.below hb (by rw [World.size_alloc]; omega)
    obtain ⟨cc0, cc1, ff0, ff1⟩ := blk_two hB
    obtain ⟨e0, e1⟩ := blk_two_out hB (x := .slice A0 q0.length c0) (y := .slice A1 q1.length c1)
    have R := Lib.hid (ed_end h0 h1 k0 k1 (S0.out.1.trans (hb.mono (by rw [World.size_alloc]; omega)))); clear h0 h1 hb hB S0
    go_wp2
    refine bodyPost_ret (v := .tuple #[.agg #[.slice A0 q0.length c0, .slice A1 q1.length c1], .bool true]) (by simp [results, Try.results118, go_sem, e0, e1]) rfl ?_
    exact R.out
  have b1003 : (n == 1003) = false := by simpa using h1003
  by_cases h1004 : n = 1004
  · subst h1004
    have he : (strW [97, 112] 0, strW [97] 1, true) = (y0, y1, y2) := by rw [← HR.out, wordR]; rw [if_neg HZ.out, if_neg (by omega), if_neg (by omega), if_neg (by omega), if_pos rfl]; rfl
    have HE := Lib.hid he; clear he HR
    go_wp2_with fail
    refine (l4Rows_any ⟨#[97, 112]⟩ ⟨#[97]⟩ 1 _ (by decide) (by decide) (by omega)).mono ?_
    rw [strW_data, strW_data]
    rintro e w1 ⟨u0, u1, lo0, hi0, lo1, hi1, rfl, h0, h1, k0, k1, hb⟩
    rw [World.size_alloc] at k0 k1
    obtain ⟨rfl, rfl, rfl⟩ : strW [97, 112] 0 = y0 ∧ strW [97] 1 = y1 ∧ true = y2 := by have := HE.out; simp only [Prod.mk.injEq] at this; exact this
    replace h0 : OwnI w1 lo0 hi0 u0 (strW [97, 112] 0) := h0
    replace h1 : OwnI w1 lo1 hi1 u1 (strW [97] 1) := h1
    clear HE
    generalize strW [97, 112] 0 = q0 at *
    generalize strW [97] 1 = q1 at *
    obtain ⟨A0, c0, rfl, _⟩ := h0.rd
    obtain ⟨A1, c1, rfl, _⟩ := h1.rd
    have hB := S0.out.2.below hb (by rw [World.size_alloc]; omega)
    obtain ⟨cc0, cc1, ff0, ff1⟩ := blk_two hB
    obtain ⟨e0, e1⟩ := blk_two_out hB (x := .slice A0 q0.length c0) (y := .slice A1 q1.length c1)
    have R := Lib.hid (ed_end h0 h1 k0 k1 (S0.out.1.trans (hb.mono (by rw [World.size_alloc]; omega)))); clear h0 h1 hb hB S0
    go_wp2
    refine bodyPost_ret (v := .tuple #[.agg #[.slice A0 q0.length c0, .slice A1 q1.length c1], .bool true]) (by simp [results, Try.results118, go_sem, e0, e1]) rfl ?_
    exact R.out
  have b1004 : (n == 1004) = false := by simpa using h1004
  by_cases h1005 : n = 1005
  · subst h1005
    have he : (strW [112] 0, strW [] 1, true) = (y0, y1, y2) := by rw [← HR.out, wordR]; rw [if_neg HZ.out, if_neg (by omega), if_neg (by omega), if_neg (by omega), if_neg (by omega), if_pos rfl]; rfl
    have HE := Lib.hid he; clear he HR
    go_wp2_with fail
    refine (l4Rows_any ⟨#[112]⟩ ⟨#[]⟩ 1 _ (by decide) (by decide) (by omega)).mono ?_
    rw [strW_data, strW_data]
    rintro e w1 ⟨u0, u1, lo0, hi0, lo1, hi1, rfl, h0, h1, k0, k1, hb⟩
    rw [World.size_alloc] at k0 k1
    obtain ⟨rfl, rfl, rfl⟩ : strW [112] 0 = y0 ∧ strW [] 1 = y1 ∧ true = y2 := by have := HE.out; simp only [Prod.mk.injEq] at this; exact this
    replace h0 : OwnI w1 lo0 hi0 u0 (strW [112] 0) := h0
    replace h1 : OwnI w1 lo1 hi1 u1 (strW [] 1) := h1
    clear HE
    generalize strW [112] 0 = q0 at *
    generalize strW [] 1 = q1 at *
    obtain ⟨A0, c0, rfl, _⟩ := h0.rd
    obtain ⟨A1, c1, rfl, _⟩ := h1.rd
    have hB := S0.out.2.below hb (by rw [World.size_alloc]; omega)
    obtain ⟨cc0, cc1, ff0, ff1⟩ := blk_two hB
    obtain ⟨e0, e1⟩ := blk_two_out hB (x := .slice A0 q0.length c0) (y := .slice A1 q1.length c1)
    have R := Lib.hid (ed_end h0 h1 k0 k1 (S0.out.1.trans (hb.mono (by rw [World.size_alloc]; omega)))); clear h0 h1 hb hB S0
    go_wp2
    refine bodyPost_ret (v := .tuple #[.agg #[.slice A0 q0.length c0, .slice A1 q1.length c1], .bool true]) (by simp [results, Try.results118, go_sem, e0, e1]) rfl ?_
    exact R.out
  have b1005 : (n == 1005) = false := by simpa using h1005
  have HN := Lib.hid (And.intro h1001 (And.intro h1002 (And.intro h1003 (And.intro h1004 h1005)))); clear h1001 h1002 h1003 h1004 h1005
  go_wp2_with fail
  refine (l1In_any n 1006 1009 _).mono ?_
  rintro e w' ⟨rfl, rfl⟩
  rcases hz : (decide (1006 ≤ n) && decide (n ≤ 1009)) with _ | _
  case true =>
    have hz2 : 1006 ≤ n ∧ n ≤ 1009 := by simpa using hz
    have he : (strW [110, 110] 0, strW [110] 0, true) = (y0, y1, y2) := by rw [← HR.out, wordR]; rw [if_neg HZ.out, if_neg HN.out.1, if_neg HN.out.2.1, if_neg HN.out.2.2.1, if_neg HN.out.2.2.2.1, if_neg HN.out.2.2.2.2, if_pos hz2]; rfl
    have HE := Lib.hid he; clear he HR
    go_wp2_with fail
    refine (l4Rows_any ⟨#[110, 110]⟩ ⟨#[110]⟩ 0 _ (by decide) (by decide) (by omega)).mono ?_
    rw [strW_data, strW_data]
    rintro e w1 ⟨u0, u1, lo0, hi0, lo1, hi1, rfl, h0, h1, k0, k1, hb⟩
    rw [World.size_alloc] at k0 k1
    obtain ⟨rfl, rfl, rfl⟩ : strW [110, 110] 0 = y0 ∧ strW [110] 0 = y1 ∧ true = y2 := by have := HE.out; simp only [Prod.mk.injEq] at this; exact this
    replace h0 : OwnI w1 lo0 hi0 u0 (strW [110, 110] 0) := h0
    replace h1 : OwnI w1 lo1 hi1 u1 (strW [110] 0) := h1
    clear HE
    generalize strW [110, 110] 0 = q0 at *
    generalize strW [110] 0 = q1 at *
    obtain ⟨A0, c0, rfl, _⟩ := h0.rd
    obtain ⟨A1, c1, rfl, _⟩ := h1.rd
    have hB := S0.out.2.below hb (by rw [World.size_alloc]; omega)
    obtain ⟨cc0, cc1, ff0, ff1⟩ := blk_two hB
    obtain ⟨e0, e1⟩ := blk_two_out hB (x := .slice A0 q0.length c0) (y := .slice A1 q1.length c1)
    have R := Lib.hid (ed_end h0 h1 k0 k1 (S0.out.1.trans (hb.mono (by rw [World.size_alloc]; omega)))); clear h0 h1 hb hB S0
    go_wp2
    refine bodyPost_ret (v := .tuple #[.agg #[.slice A0 q0.length c0, .slice A1 q1.length c1], .bool true]) (by simp [results, Try.results118, go_sem, e0, e1]) rfl ?_
    exact R.out
  have hz2 : ¬ (1006 ≤ n ∧ n ≤ 1009) := by
    intro h; simp only [Bool.and_eq_false_iff, decide_eq_false_iff_not] at hz; omega
  have HZ2 := Lib.hid hz2; clear hz hz2
  by_cases h1010 : n = 1010
  · subst h1010
    have he : (strW [110, 112, 112] 0, strW [] 1, true) = (y0, y1, y2) := by rw [← HR.out, wordR]; rw [if_neg HZ.out, if_neg HN.out.1, if_neg HN.out.2.1, if_neg HN.out.2.2.1, if_neg HN.out.2.2.2.1, if_neg HN.out.2.2.2.2, if_neg HZ2.out, if_pos rfl]; rfl
    have HE := Lib.hid he; clear he HR
    go_wp2_with fail
    refine (l4Rows_any ⟨#[110, 112, 112]⟩ ⟨#[]⟩ 1 _ (by decide) (by decide) (by omega)).mono ?_
    rw [strW_data, strW_data]
    rintro e w1 ⟨u0, u1, lo0, hi0, lo1, hi1, rfl, h0, h1, k0, k1, hb⟩
    rw [World.size_alloc] at k0 k1
    obtain ⟨rfl, rfl, rfl⟩ : strW [110, 112, 112] 0 = y0 ∧ strW [] 1 = y1 ∧ true = y2 := by have := HE.out; simp only [Prod.mk.injEq] at this; exact this
    replace h0 : OwnI w1 lo0 hi0 u0 (strW [110, 112, 112] 0) := h0
    replace h1 : OwnI w1 lo1 hi1 u1 (strW [] 1) := h1
    clear HE
    generalize strW [110, 112, 112] 0 = q0 at *
    generalize strW [] 1 = q1 at *
    obtain ⟨A0, c0, rfl, _⟩ := h0.rd
    obtain ⟨A1, c1, rfl, _⟩ := h1.rd
    have hB := S0.out.2.below hb (by rw [World.size_alloc]; omega)
    obtain ⟨cc0, cc1, ff0, ff1⟩ := blk_two hB
    obtain ⟨e0, e1⟩ := blk_two_out hB (x := .slice A0 q0.length c0) (y := .slice A1 q1.length c1)
    have R := Lib.hid (ed_end h0 h1 k0 k1 (S0.out.1.trans (hb.mono (by rw [World.size_alloc]; omega)))); clear h0 h1 hb hB S0
    go_wp2
    refine bodyPost_ret (v := .tuple #[.agg #[.slice A0 q0.length c0, .slice A1 q1.length c1], .bool true]) (by simp [results, Try.results118, go_sem, e0, e1]) rfl ?_
    exact R.out
  have b1010 : (n == 1010) = false := by simpa using h1010
  by_cases h1011 : n = 1011
  · subst h1011
    have he : (strW [110, 113] 0, strW [] 0, true) = (y0, y1, y2) := by rw [← HR.out, wordR]; rw [if_neg HZ.out, if_neg HN.out.1, if_neg HN.out.2.1, if_neg HN.out.2.2.1, if_neg HN.out.2.2.2.1, if_neg HN.out.2.2.2.2, if_neg HZ2.out, if_neg (by omega), if_pos rfl]; rfl
    have HE := Lib.hid he; clear he HR
    go_wp2_with fail
    refine (l4Rows_any ⟨#[110, 113]⟩ ⟨#[]⟩ 0 _ (by decide) (by decide) (by omega)).mono ?_
    rw [strW_data, strW_data]
    rintro e w1 ⟨u0, u1, lo0, hi0, lo1, hi1, rfl, h0, h1, k0, k1, hb⟩
    rw [World.size_alloc] at k0 k1
    obtain ⟨rfl, rfl, rfl⟩ : strW [110, 113] 0 = y0 ∧ strW [] 0 = y1 ∧ true = y2 := by have := HE.out; simp only [Prod.mk.injEq] at this; exact this
    replace h0 : OwnI w1 lo0 hi0 u0 (strW [110, 113] 0) := h0
    replace h1 : OwnI w1 lo1 hi1 u1 (strW [] 0) := h1
    clear HE
    generalize strW [110, 113] 0 = q0 at *
    generalize strW [] 0 = q1 at *
    obtain ⟨A0, c0, rfl, _⟩ := h0.rd
    obtain ⟨A1, c1, rfl, _⟩ := h1.rd
    have hB := S0.out.2.below hb (by rw [World.size_alloc]; omega)
    obtain ⟨cc0, cc1, ff0, ff1⟩ := blk_two hB
    obtain ⟨e0, e1⟩ := blk_two_out hB (x := .slice A0 q0.length c0) (y := .slice A1 q1.length c1)
    have R := Lib.hid (ed_end h0 h1 k0 k1 (S0.out.1.trans (hb.mono (by rw [World.size_alloc]; omega)))); clear h0 h1 hb hB S0
    go_wp2
    refine bodyPost_ret (v := .tuple #[.agg #[.slice A0 q0.length c0, .slice A1 q1.length c1], .bool true]) (by simp [results, Try.results118, go_sem, e0, e1]) rfl ?_
    exact R.out
  have b1011 : (n == 1011) = false := by simpa using h1011
  have he : ([], [], false) = (y0, y1, y2) := by rw [← HR.out, wordR, if_neg HZ.out, if_neg HN.out.1, if_neg HN.out.2.1, if_neg HN.out.2.2.1, if_neg HN.out.2.2.2.1, if_neg HN.out.2.2.2.2, if_neg HZ2.out, if_neg h1010, if_neg h1011]
  obtain ⟨rfl, rfl, rfl⟩ : [] = y0 ∧ [] = y1 ∧ false = y2 := by simpa using he
  clear he HR h1010 h1011
  obtain ⟨cc0, cc1, ff0, ff1⟩ := blk_two S0.out.2
  have R : Hid (EdPost w [] [] false (.returned (.tuple #[.agg #[.slice none 0 0, .slice none 0 0], .bool false])) (w.alloc (.cells #[.slice none 0 0, .slice none 0 0] 63))) := Lib.hid ⟨_, _, rfl, (ownI_nil _ 0 0).rd, (ownI_nil _ 0 0).rd, S0.out.1⟩
  clear S0
  go_wp2
  refine bodyPost_ret (v := .tuple #[.agg #[.slice none 0 0, .slice none 0 0], .bool false]) (by simp [results, Try.results118, go_sem]) rfl ?_
  exact R.out
end Go.Proofs.Ytkiedpdhehehfaa
