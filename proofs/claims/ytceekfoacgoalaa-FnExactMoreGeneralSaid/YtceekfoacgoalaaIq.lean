/- The program's reader of rows and types: the terms that it makes. -/
import Derived.Test.YtceekfoacgoalaaIp
import Derived.Test.YtceekfoacgoalaaBq
import Derived.Test.YtceekfoacgoalaaTz
namespace Go.Proofs.Ytceekfoacgoalaa
set_option maxRecDepth 100000
open Go.RowKit Go.WideShapes

def TyPost (T : Ty) (lo g : Nat) (lv : Value) (us : List Value) (r : List Int) (ls : List (Int × Int)) (w : World) (e : Ending) (w' : World) : Prop :=
  ∃ p rv' lv' us', e = .returned (.pointer p) ∧ RTy w' lo g rv' lv' us' r (T.lets ls) ∧ Mov lo g w w' lv lv' us us' ls (T.lets ls) ∧ Sk w' (Av g lv') (Lm us' (T.lets ls)) T p
theorem Ty.lets_len (T : Ty) (ls : List (Int × Int)) : (T.lets ls).length + 1 ≤ ls.length + T.nums.length + 1 := by
  induction T generalizing ls with
  | num => simp [Ty.lets, Ty.nums]
  | any n => have := addL_len ls (1, n); simp [Ty.lets, Ty.nums]; omega
  | rest n => have := addL_len ls (3, n); simp [Ty.lets, Ty.nums]; omega
  | prog S T ihs iht => have h1 := ihs ls; have h2 := iht (S.lets ls); simp [Ty.lets, Ty.nums]; omega
  | put S T ihs iht => have h1 := ihs ls; have h2 := iht (S.lets ls); simp [Ty.lets, Ty.nums]; omega
theorem Sk.some {w : World} {A : Nat → Prop} {M : Int × Int → Nat → Prop} {T : Ty} {p : Option Addr} (h : Sk w A M T p) : p ≠ none := by
  cases T with
  | num => obtain ⟨b, rfl, _⟩ := h; simp
  | any n => obtain ⟨b, rfl, _⟩ := h; simp
  | rest n => obtain ⟨b, rfl, _⟩ := h; simp
  | prog S T => obtain ⟨b, g, q, r, rfl, _⟩ := h; simp
  | put S T => obtain ⟨b, g, q, r, rfl, _⟩ := h; simp
theorem RTy.fresh {w : World} {lo g : Nat} {rv lv : Value} {us : List Value} {rest : List Int} {ls : List (Int × Int)} (h : RTy w lo g rv lv us rest ls) {k : Nat} (hk : w.heap.size ≤ k) : Av g lv k := by
  have h1 := h.rd.blk.lt
  exact ⟨by omega, fun e => by have := (h.rd.row.lt k e.symm).2; omega⟩
/-- What madeOf makes of two parts. -/
theorem made_two {w3 W : World} {lo g : Nat} {rv lv : Value} {us : List Value} {r : List Int} {ls : List (Int × Int)} {S T : Ty} {p q : Option Addr} (z : Int) (hR : RTy w3 lo g rv lv us r ls) (hp : Sk w3 (Av g lv) (Lm us ls) S p) (hq : Sk w3 (Av g lv) (Lm us ls) T q) (hb : Below (w3.alloc (.cells #[.pointer p, .pointer q] 49)).heap.size (w3.alloc (.cells #[.pointer p, .pointer q] 49)) W) :
    RTy (W.alloc (.cells #[.int .i64 z, .int .i64 0, .slice (some ⟨w3.heap.size, 0, none⟩) 2 2, .pointer none, .int .i64 0] 86)) lo g rv lv us r ls ∧ Mov lo g w3 (W.alloc (.cells #[.int .i64 z, .int .i64 0, .slice (some ⟨w3.heap.size, 0, none⟩) 2 2, .pointer none, .int .i64 0] 86)) lv lv us us ls ls ∧ (∃ b h q0 r0, (Option.some ⟨W.heap.size, 0, none⟩ : Option Addr) = Option.some ⟨b, 0, none⟩ ∧ Av g lv b ∧ Av g lv h ∧ Blk (W.alloc (.cells #[.int .i64 z, .int .i64 0, .slice (some ⟨w3.heap.size, 0, none⟩) 2 2, .pointer none, .int .i64 0] 86)) b #[.int .i64 z, .int .i64 0, .slice (some ⟨h, 0, none⟩) 2 2, .pointer none, .int .i64 0] 86 ∧ Blk (W.alloc (.cells #[.int .i64 z, .int .i64 0, .slice (some ⟨w3.heap.size, 0, none⟩) 2 2, .pointer none, .int .i64 0] 86)) h #[.pointer q0, .pointer r0] 49 ∧ Sk (W.alloc (.cells #[.int .i64 z, .int .i64 0, .slice (some ⟨w3.heap.size, 0, none⟩) 2 2, .pointer none, .int .i64 0] 86)) (Av g lv) (Lm us ls) S q0 ∧ Sk (W.alloc (.cells #[.int .i64 z, .int .i64 0, .slice (some ⟨w3.heap.size, 0, none⟩) 2 2, .pointer none, .int .i64 0] 86)) (Av g lv) (Lm us ls) T r0) := by
  have h1 : Below w3.heap.size w3 (w3.alloc (.cells #[.pointer p, .pointer q] 49)) := (Below.refl _ _).alloc (Nat.le_refl _) _
  have hs : w3.heap.size + 1 ≤ W.heap.size := by have := hb.size; simpa using this
  have kb := (Blk.new w3 #[.pointer p, .pointer q] 49).below hb (show w3.heap.size < _ by simp)
  obtain ⟨Y, hY⟩ : ∃ Y, W.alloc (.cells #[.int .i64 z, .int .i64 0, .slice (some ⟨w3.heap.size, 0, none⟩) 2 2, .pointer none, .int .i64 0] 86) = Y := ⟨_, rfl⟩
  have h2 : Below W.heap.size W Y := by rw [← hY]; exact (Below.refl _ _).alloc (Nat.le_refl _) _
  have k2 : Blk Y W.heap.size #[.int .i64 z, .int .i64 0, .slice (some ⟨w3.heap.size, 0, none⟩) 2 2, .pointer none, .int .i64 0] 86 := by rw [← hY]; exact Blk.new W _ _
  rw [hY]
  have hB : Below w3.heap.size w3 Y := (h1.trans (hb.mono (show w3.heap.size ≤ _ by simp))).trans (h2.mono (show w3.heap.size ≤ W.heap.size by omega))
  have hm := Mov.of_below (lo := lo) (g := g) lv us ls hB (by have := hR.rd.ge; have := hR.rd.blk.lt; omega)
  have k3 := kb.below h2 (show w3.heap.size < W.heap.size by omega)
  have a1 : Av g lv W.heap.size := hR.fresh (k := W.heap.size) (show w3.heap.size ≤ W.heap.size by omega)
  exact ⟨hR.step hB, hm, W.heap.size, w3.heap.size, p, q, rfl, a1, hR.fresh (Nat.le_refl _), k2, k3, hp.mov hm, hq.mov hm⟩
set_option maxHeartbeats 4000000 in
theorem row_ty (lo g : Nat) (T : Ty) :
    (T.ok true → ∀ r ls w rv lv us, RTy w lo g rv lv us (T.nums ++ r) ls → ls.length + T.nums.length ≤ 1000000 → Calls Try.prog 57 #[.pointer (some ⟨g, 0, none⟩)] w (TyPost T lo g lv us r ls w)) ∧
    (T.ok false → ∀ r ls w rv lv us, RTy w lo g rv lv us (T.nums ++ r) ls → ls.length + T.nums.length ≤ 1000000 → Calls Try.prog 69 #[.pointer (some ⟨g, 0, none⟩)] w (TyPost T lo g lv us r ls w)) := by
  induction T with
  | num =>
    refine ⟨fun h => absurd h (by simp [Ty.ok]), fun _ => ?_⟩
    intro r ls w rv lv us h hl
    have H := Lib.hid h; clear h
    go_enter Try.func69, Try.ntmps69
    go_wp2_with fail
    refine (take_ty lo g rv lv us 0 r ls _ H.out).mono ?_
    rintro e w1 ⟨rfl, rv1, q1, q2⟩
    have X := Lib.hid (And.intro q1 q2); clear q1 q2 H
    go_wp2_with fail
    refine (madeOf_ty 0 none 0 0 [] _ rfl ⟨none, 0, rfl, fun h => by simp at h⟩ (by simp) (by simp)).mono ?_
    rintro e w2 ⟨W, rfl, hb, rfl⟩
    have hs := hb.size
    have hB : Below w1.heap.size w1 (W.alloc (.cells #[.int .i64 0, .int .i64 0, .slice none 0 0, .pointer none, .int .i64 0] 86)) := hb.alloc hs _
    have Y := Lib.hid (And.intro (X.out.1.step hB) (And.intro (X.out.2.trans (Mov.of_below lv us ls hB (by have := X.out.1.rd.ge; have := X.out.1.rd.blk.lt; omega))) (And.intro (X.out.1.fresh hs) (Blk.new W #[.int .i64 0, .int .i64 0, .slice none 0 0, .pointer none, .int .i64 0] 86)))); clear hb hB X
    go_wp2
    go_ret
    exact ⟨_, _, _, _, rfl, Y.out.1, Y.out.2.1, _, rfl, Y.out.2.2⟩
  | any n =>
    refine ⟨fun h => absurd h (by simp [Ty.ok]), fun hok => ?_⟩
    intro r ls w rv lv us h hl
    have hn : 0 ≤ n ∧ n ≤ 999 := hok
    have H := Lib.hid (show RTy w lo g rv lv us (1 :: n :: r) ls from h); clear h hok
    have hl2 : ls.length ≤ 1000000 := by omega
    go_enter Try.func69, Try.ntmps69
    go_wp2_with fail
    refine (take_ty lo g rv lv us 1 (n :: r) ls _ H.out).mono ?_
    rintro e w1 ⟨rfl, rv1, q1, q2⟩
    have X := Lib.hid (And.intro q1 q2); clear q1 q2 H
    go_wp2_with fail
    refine (letter_ty 1 lo g rv1 lv us n r ls _ X.out.1 hl2 hn).mono ?_
    rintro e w2 ⟨b, rv2, lv2, us2, rfl, q1, q2, q3⟩
    have Y := Lib.hid (And.intro q1 (And.intro (X.out.2.trans q2) q3)); clear q1 q2 q3 X
    go_wp2
    go_ret
    exact ⟨_, _, _, _, rfl, Y.out.1, Y.out.2.1, _, rfl, Y.out.2.2⟩
  | rest n =>
    refine ⟨fun hok => ?_, fun h => absurd h (by simp [Ty.ok])⟩
    intro r ls w rv lv us h hl
    have hn : 0 ≤ n ∧ n ≤ 999 := hok
    have H := Lib.hid (show RTy w lo g rv lv us (3 :: n :: r) ls from h); clear h hok
    have hl2 : ls.length ≤ 1000000 := by omega
    go_enter Try.func57, Try.ntmps57
    go_wp2_with fail
    refine (take_ty lo g rv lv us 3 (n :: r) ls _ H.out).mono ?_
    rintro e w1 ⟨rfl, rv1, q1, q2⟩
    have X := Lib.hid (And.intro q1 q2); clear q1 q2 H
    go_wp2_with fail
    refine (letter_ty 3 lo g rv1 lv us n r ls _ X.out.1 hl2 hn).mono ?_
    rintro e w2 ⟨b, rv2, lv2, us2, rfl, q1, q2, q3⟩
    have Y := Lib.hid (And.intro q1 (And.intro (X.out.2.trans q2) q3)); clear q1 q2 q3 X
    go_wp2
    go_ret
    exact ⟨_, _, _, _, rfl, Y.out.1, Y.out.2.1, _, rfl, Y.out.2.2⟩
  | prog S T ihs iht =>
    refine ⟨fun h => absurd h (by simp [Ty.ok]), fun hok => ?_⟩
    intro r ls w rv lv us h hl
    have H := Lib.hid (show RTy w lo g rv lv us (2 :: (S.nums ++ (T.nums ++ r))) ls by simpa [Ty.nums] using h); clear h
    have I1 := Lib.hid (ihs.1 hok.1)
    have I2 := Lib.hid (iht.1 hok.2); clear ihs iht hok
    have hl2 : ls.length + S.nums.length + T.nums.length ≤ 1000000 := by simp [Ty.nums] at hl; omega
    have hl3 := S.lets_len ls
    clear hl
    go_enter Try.func69, Try.ntmps69
    go_wp2_with fail
    refine (take_ty lo g rv lv us 2 (S.nums ++ (T.nums ++ r)) ls _ H.out).mono ?_
    rintro e w1 ⟨rfl, rv1, q1, q2⟩
    have X := Lib.hid (And.intro q1 q2); clear q1 q2 H
    go_wp2_with fail
    refine (I1.out (T.nums ++ r) ls _ rv1 lv us X.out.1 (by omega)).mono ?_
    rintro e w2 ⟨p, rv2, lv2, us2, rfl, q1, q2, q3⟩
    have Y := Lib.hid (And.intro q1 (And.intro (X.out.2.trans q2) q3)); clear q1 q2 q3 X
    go_wp2_with fail
    refine (I2.out r (S.lets ls) _ rv2 lv2 us2 Y.out.1 (by omega)).mono ?_
    rintro e w3 ⟨q, rv3, lv3, us3, rfl, q1, q2, q3⟩
    have V := Lib.hid (And.intro q1 (And.intro (Y.out.2.1.trans q2) (And.intro (Y.out.2.2.mov q2) q3))); clear q1 q2 q3 Y
    have hno : none ∉ [p, q] := by
      have h1 := V.out.2.2.1.some; have h2 := V.out.2.2.2.some
      simp only [List.mem_cons, List.not_mem_nil, or_false, not_or]; exact ⟨fun e => h1 e.symm, fun e => h2 e.symm⟩
    have HN := Lib.hid (And.intro hno (ptrs_two w3 p q)); clear hno
    go_wp2_with fail
    refine (madeOf_ty 2 _ 2 2 [p, q] _ rfl HN.out.2 (by simp) HN.out.1).mono ?_
    rintro e w4 ⟨W, rfl, hb, rfl⟩
    obtain ⟨m1, m2, m3⟩ := made_two 2 V.out.1 V.out.2.2.1 V.out.2.2.2 hb
    have U := Lib.hid (And.intro m1 (And.intro (V.out.2.1.trans m2) m3)); clear m1 m2 m3 V hb
    go_wp2
    go_ret
    exact ⟨_, _, _, _, rfl, U.out⟩
  | put S T ihs iht =>
    refine ⟨fun hok => ?_, fun h => absurd h (by simp [Ty.ok])⟩
    intro r ls w rv lv us h hl
    have H := Lib.hid (show RTy w lo g rv lv us (4 :: (S.nums ++ (T.nums ++ r))) ls by simpa [Ty.nums] using h); clear h
    have I1 := Lib.hid (ihs.1 hok.1)
    have I2 := Lib.hid (iht.2 hok.2); clear ihs iht hok
    have hl2 : ls.length + S.nums.length + T.nums.length ≤ 1000000 := by simp [Ty.nums] at hl; omega
    have hl3 := S.lets_len ls
    clear hl
    go_enter Try.func57, Try.ntmps57
    go_wp2_with fail
    refine (take_ty lo g rv lv us 4 (S.nums ++ (T.nums ++ r)) ls _ H.out).mono ?_
    rintro e w1 ⟨rfl, rv1, q1, q2⟩
    have X := Lib.hid (And.intro q1 q2); clear q1 q2 H
    go_wp2_with fail
    refine (I1.out (T.nums ++ r) ls _ rv1 lv us X.out.1 (by omega)).mono ?_
    rintro e w2 ⟨p, rv2, lv2, us2, rfl, q1, q2, q3⟩
    have Y := Lib.hid (And.intro q1 (And.intro (X.out.2.trans q2) q3)); clear q1 q2 q3 X
    go_wp2_with fail
    refine (I2.out r (S.lets ls) _ rv2 lv2 us2 Y.out.1 (by omega)).mono ?_
    rintro e w3 ⟨q, rv3, lv3, us3, rfl, q1, q2, q3⟩
    have V := Lib.hid (And.intro q1 (And.intro (Y.out.2.1.trans q2) (And.intro (Y.out.2.2.mov q2) q3))); clear q1 q2 q3 Y
    have hno : none ∉ [p, q] := by
      have h1 := V.out.2.2.1.some; have h2 := V.out.2.2.2.some
      simp only [List.mem_cons, List.not_mem_nil, or_false, not_or]; exact ⟨fun e => h1 e.symm, fun e => h2 e.symm⟩
    have HN := Lib.hid (And.intro hno (ptrs_two w3 p q)); clear hno
    go_wp2_with fail
    refine (madeOf_ty 4 _ 2 2 [p, q] _ rfl HN.out.2 (by simp) HN.out.1).mono ?_
    rintro e w4 ⟨W, rfl, hb, rfl⟩
    obtain ⟨m1, m2, m3⟩ := made_two 4 V.out.1 V.out.2.2.1 V.out.2.2.2 hb
    have U := Lib.hid (And.intro m1 (And.intro (V.out.2.1.trans m2) m3)); clear m1 m2 m3 V hb
    go_wp2
    go_ret
    exact ⟨_, _, _, _, rfl, U.out⟩
end Go.Proofs.Ytceekfoacgoalaa
