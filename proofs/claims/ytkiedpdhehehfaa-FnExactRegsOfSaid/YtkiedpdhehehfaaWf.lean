/- WordEffect, the program's. (Written by wip/tools/word.py.) -/
import Derived.Test.YtkiedpdhehehfaaWe
import Derived.Test.YtkiedpdhehehfaaB5
namespace Go.Proofs.Ytkiedpdhehehfaa
set_option maxRecDepth 100000
open Go.RowKit Go.WideShapes

theorem blk_two {w : World} {g : Nat} {a b : Value} {T : TypeId} (h : Blk w g #[a, b] T) : w.cell? ⟨g, 0, none⟩ = some a ∧ w.cell? ⟨g, 1, none⟩ = some b ∧ w.frozen? ⟨g, 0, none⟩ = false ∧ w.frozen? ⟨g, 1, none⟩ = false :=
  ⟨h.cell 0, h.cell 1, h.free 0, h.free 1⟩
theorem blk_two_out {w : World} {g : Nat} {a b x y : Value} {T : TypeId} (h : Blk w g #[a, b] T) : ((w.setCell ⟨g, 0, none⟩ x).setCell ⟨g, 1, none⟩ y).cell? ⟨g, 0, none⟩ = some x ∧ ((w.setCell ⟨g, 0, none⟩ x).setCell ⟨g, 1, none⟩ y).cell? ⟨g, 1, none⟩ = some y :=
  ⟨((h.set 0 x).set 1 y).cell 0, ((h.set 0 x).set 1 y).cell 1⟩
theorem ownI_nil (w : World) (lo hi : Nat) : OwnI w lo hi (.slice none 0 0) [] := ⟨Own.nil _ _, by simp [Value.ownBlock]⟩
def EffPost (w : World) (y0 y1 : List Int) (y2 : Bool) (e : Ending) (w' : World) : Prop := ∃ u0 u1 lo0 hi0 lo1 hi1, e = .returned (.tuple #[.agg #[u0, u1], .bool y2]) ∧ w.heap.size ≤ lo0 ∧ w.heap.size ≤ lo1 ∧ lo0 ≤ hi0 ∧ lo1 ≤ hi1 ∧ (hi0 ≤ lo1 ∨ hi1 ≤ lo0) ∧ hi0 ≤ w'.heap.size ∧ hi1 ≤ w'.heap.size ∧ OwnI w' lo0 hi0 u0 y0 ∧ OwnI w' lo1 hi1 u1 y1 ∧ Below w.heap.size w w'
theorem eff_end {w wE : World} {u0 u1 : Value} {y0 y1 : List Int} {lo0 hi0 lo1 hi1 : Nat} (y2 : Bool) (h0 : OwnI wE lo0 hi0 u0 y0) (h1 : OwnI wE lo1 hi1 u1 y1) (hb : Below w.heap.size w wE) (k0 : w.heap.size + 1 ≤ lo0) (k1 : w.heap.size + 1 ≤ lo1) (k2 : lo0 ≤ hi0) (k3 : lo1 ≤ hi1) (k4 : hi0 ≤ lo1 ∨ hi1 ≤ lo0) (k5 : hi0 ≤ wE.heap.size) (k6 : hi1 ≤ wE.heap.size) :
    EffPost w y0 y1 y2 (.returned (.tuple #[.agg #[u0, u1], .bool y2])) ((wE.setCell ⟨w.heap.size, 0, none⟩ u0).setCell ⟨w.heap.size, 1, none⟩ u1) := by
  have hsz : ((wE.setCell ⟨w.heap.size, 0, none⟩ u0).setCell ⟨w.heap.size, 1, none⟩ u1).heap.size = wE.heap.size := by simp [World.setCell]
  refine ⟨u0, u1, lo0, hi0, lo1, hi1, rfl, by omega, by omega, k2, k3, k4, by omega, by omega, ?_, ?_, (hb.setCell (Nat.le_refl _) _).setCell (Nat.le_refl _) _⟩
  · exact (h0.apart (within_setCell _ w.heap.size 0 u0) (.inr (by omega))).apart (within_setCell _ w.heap.size 1 u1) (.inr (by omega))
  · exact (h1.apart (within_setCell _ w.heap.size 0 u0) (.inr (by omega))).apart (within_setCell _ w.heap.size 1 u1) (.inr (by omega))

set_option maxHeartbeats 8000000 in
theorem WordEffect_I (n : Int) (w : World) (hn : InK .i64 n) (y0 y1 : List Int) (y2 : Bool) (hR : wordR n = (y0, y1, y2)) :
    Calls Try.prog 120 #[.int .i64 n] w (EffPost w y0 y1 y2) := by
  obtain ⟨zr0, hr0⟩ : ∃ z : List Int, [3, 0] = z := ⟨_, rfl⟩
  obtain ⟨zr1, hr1⟩ : ∃ z : List Int, [3, 1] = z := ⟨_, rfl⟩
  obtain ⟨zt0, ht0⟩ : ∃ z : List Int, [1, 0] = z := ⟨_, rfl⟩
  obtain ⟨zt1, ht1⟩ : ∃ z : List Int, [1, 1] = z := ⟨_, rfl⟩
  obtain ⟨zn, hzn⟩ : ∃ z : List Int, [0] = z := ⟨_, rfl⟩
  obtain ⟨zp, hzp⟩ : ∃ z : List Int, progW = z := ⟨_, rfl⟩
  obtain ⟨zq, hzq⟩ : ∃ z : List Int, [2, 3, 0, 3, 0] = z := ⟨_, rfl⟩
  have hp2 : 2 :: (zr0 ++ zr1) = zp := by rw [← hr0, ← hr1, ← hzp]; rfl
  have hq2 : 2 :: (zr0 ++ zr0) = zq := by rw [← hr0, ← hzq]; rfl
  have l0 : zr0.length ≤ 5 := by rw [← hr0]; decide
  have l1 : zr1.length ≤ 5 := by rw [← hr1]; decide
  have l2 : zt0.length ≤ 5 := by rw [← ht0]; decide
  have l3 : zt1.length ≤ 5 := by rw [← ht1]; decide
  have l4 : zn.length ≤ 5 := by rw [← hzn]; decide
  have l5 : zp.length ≤ 5 := by rw [← hzp]; decide
  have l6 : zq.length ≤ 5 := by rw [← hzq]; decide
  have HQ : Hid (2 :: (zr0 ++ zr0) = zq ∧ zr0 = [3, 0] ∧ zr1 = [3, 1] ∧ zt0 = [1, 0] ∧ zt1 = [1, 1] ∧ zn = [0] ∧ zp = progW ∧ zq = [2, 3, 0, 3, 0]) := Lib.hid ⟨hq2, hr0.symm, hr1.symm, ht0.symm, ht1.symm, hzn.symm, hzp.symm, hzq.symm⟩
  have HP := Lib.hid hp2
  have HR := Lib.hid hR
  have H0 := Lib.hid hr0; have H1 := Lib.hid hr1; have T0 := Lib.hid ht0; have T1 := Lib.hid ht1; have N0 := Lib.hid hzn
  clear hR hr0 hr1 ht0 ht1 hzn hzp hzq hp2 hq2
  have hal : Below w.heap.size w (w.alloc (.cells #[.slice none 0 0, .slice none 0 0] 63)) := (Below.refl _ _).alloc (Nat.le_refl _) _
  have hbk := Blk.new w #[.slice none 0 0, .slice none 0 0] 63
  have S0 := Lib.hid (And.intro hal hbk); clear hal hbk
  go_enter Try.func120, Try.ntmps120
  go_wp2_with fail
  refine (rowLetter_any 0 _ (by omega)).mono ?_
  rw [H0.out]
  rintro e w1 ⟨u0, rfl, o0, hb⟩
  rw [World.size_alloc] at o0
  have hs1 : w.heap.size + 1 ≤ w1.heap.size := by have := hb.size; rw [World.size_alloc] at this; exact this
  have S1 := Lib.hid (And.intro o0 (And.intro (S0.out.1.trans (hb.mono (by rw [World.size_alloc]; omega))) (S0.out.2.below hb (by rw [World.size_alloc]; omega)))); clear S0 o0 hb
  go_wp2_with fail
  refine (rowLetter_any 1 _ (by omega)).mono ?_
  rw [H1.out]
  rintro e w2 ⟨u1, rfl, o1, hb⟩
  have hs2 := hb.size
  have S2 := Lib.hid (And.intro (S1.out.1.below hb) (And.intro o1 (And.intro (S1.out.2.1.trans (hb.mono (by omega))) (S1.out.2.2.below hb (by omega))))); clear S1 o1 hb
  go_wp2_with fail
  refine (typeLetter_any 0 _ (by omega)).mono ?_
  rw [T0.out]
  rintro e w3 ⟨u2, rfl, o2, hb⟩
  have hs3 := hb.size
  have S3 := Lib.hid (And.intro (S2.out.1.below hb) (And.intro (S2.out.2.1.below hb) (And.intro o2 (And.intro (S2.out.2.2.1.trans (hb.mono (by omega))) (S2.out.2.2.2.below hb (by omega)))))); clear S2 o2 hb
  go_wp2_with fail
  refine (typeLetter_any 1 _ (by omega)).mono ?_
  rw [T1.out]
  rintro e w4 ⟨u3, rfl, o3, hb⟩
  have hs4 := hb.size
  have S4 := Lib.hid (And.intro (S3.out.1.below hb) (And.intro (S3.out.2.1.below hb) (And.intro (S3.out.2.2.1.below hb) (And.intro o3 (And.intro (S3.out.2.2.2.1.trans (hb.mono (by omega))) (S3.out.2.2.2.2.below hb (by omega))))))); clear S3 o3 hb
  obtain ⟨Ar0, cr0, rfl, _⟩ := S4.out.1.rd
  obtain ⟨Ar1, cr1, rfl, _⟩ := S4.out.2.1.rd
  obtain ⟨At0, ct0, rfl, _⟩ := S4.out.2.2.1.rd
  obtain ⟨At1, ct1, rfl, _⟩ := S4.out.2.2.2.1.rd
  have hal : Below w4.heap.size w4 (w4.alloc (.cells #[.int .i64 0] 3)) := (Below.refl _ _).alloc (Nat.le_refl _) _
  have on := lits_own w4 [0] (by simp) (by intro q hq; simp only [List.mem_cons, List.not_mem_nil, or_false] at hq; subst hq; exact wf_near _ (by omega))
  rw [N0.out] at on
  have on2 : OwnI (w4.alloc (.cells #[.int .i64 0] 3)) w4.heap.size (w4.heap.size + 1) (.slice (some ⟨w4.heap.size, 0, none⟩) 1 1) zn := by
    have hl1 : zn.length = 1 := by rw [← N0.out]; rfl
    have hm1 : zn.map (Value.int .i64) = [.int .i64 0] := by rw [← N0.out]; rfl
    rw [hl1, hm1] at on; exact on
  have S5 := Lib.hid (And.intro (S4.out.1.below hal) (And.intro (S4.out.2.1.below hal) (And.intro (S4.out.2.2.1.below hal) (And.intro (S4.out.2.2.2.1.below hal) (And.intro on2 (And.intro (S4.out.2.2.2.2.1.trans (hal.mono (by omega))) (S4.out.2.2.2.2.2.below hal (by omega)))))))); clear S4 on on2 hal
  go_wp2_with fail
  refine (progType_any _ _ zr0 zr1 _ S5.out.1.rd S5.out.2.1.rd (by omega)).mono ?_
  rw [HP.out]
  rintro e w5 ⟨u5, rfl, ho, hb⟩
  rw [World.size_alloc] at ho
  have hs5 : w4.heap.size + 1 ≤ w5.heap.size := by have := hb.size; rw [World.size_alloc] at this; exact this
  obtain ⟨Ap, cp, rfl, _⟩ := ho.rd
  have P5 : Hid (OwnI w5 (w.heap.size + 1) (w1.heap.size) (.slice Ar0 zr0.length cr0) zr0 ∧ OwnI w5 (w1.heap.size) (w2.heap.size) (.slice Ar1 zr1.length cr1) zr1 ∧ OwnI w5 (w2.heap.size) (w3.heap.size) (.slice At0 zt0.length ct0) zt0 ∧ OwnI w5 (w3.heap.size) (w4.heap.size) (.slice At1 zt1.length ct1) zt1 ∧ OwnI w5 (w4.heap.size) (w4.heap.size + 1) (.slice (some ⟨w4.heap.size, 0, none⟩) 1 1) zn ∧ OwnI w5 (w4.heap.size + 1) (w5.heap.size) (.slice Ap zp.length cp) zp ∧ Below w.heap.size w w5 ∧ Blk w5 w.heap.size #[.slice none 0 0, .slice none 0 0] 63) := Lib.hid ⟨S5.out.1.below hb, S5.out.2.1.below hb, S5.out.2.2.1.below hb, S5.out.2.2.2.1.below hb, S5.out.2.2.2.2.1.below hb, ho, S5.out.2.2.2.2.2.1.trans (hb.mono (by rw [World.size_alloc]; omega)), S5.out.2.2.2.2.2.2.below hb (by rw [World.size_alloc]; omega)⟩
  clear S5 ho hb H0 H1 T0 T1 N0
  by_cases hz : 0 ≤ n ∧ n ≤ 999
  · have hb : isNumB n = true := by simp [isNumB, hz.1, hz.2]
    have HB := Lib.hid hb; clear hb
    go_wp2_with fail
    refine (isNum_any n _).mono ?_
    rw [HB.out]
    rintro e w' ⟨rfl, rfl⟩
    have he : (zr0, putsW zr0 [zn], true) = (y0, y1, y2) := by rw [← HR.out, HQ.out.2.1, HQ.out.2.2.2.2.2.1]; simp [wordR, hz.1, hz.2]
    obtain ⟨rfl, rfl, rfl⟩ : zr0 = y0 ∧ putsW zr0 [zn] = y1 ∧ true = y2 := by simpa using he
    clear he
    have hal5 : Below w5.heap.size w5 (w5.alloc (.cells #[.slice (some ⟨w4.heap.size, 0, none⟩) 1 1] 22)) := (Below.refl _ _).alloc (Nat.le_refl _) _
    have hrd5 := rdS_lit w5 [.slice (some ⟨w4.heap.size, 0, none⟩) 1 1] [zn] rfl (by simp) (by
      intro j u zs hu hz
      rcases j with _ | j
      · simp at hu hz; subst hu; subst hz; exact (P5.out.2.2.2.2.1).rd
      · simp at hu)
    simp only [List.length_cons, List.length_nil] at hrd5
    go_wp2_with fail
    refine (withValues_any _ _ zr0 [zn] _ ((P5.out.1).below hal5).rd hrd5 ⟨by simp, by simp⟩ (by omega) (by simp only [List.mem_cons, List.not_mem_nil, or_false]; intro t ht; rcases ht with rfl <;> omega)).mono ?_
    rintro e w6 ⟨ux, rfl, ho, hb⟩
    obtain ⟨Ax, cx, rfl, _⟩ := ho.rd
    have hs6 : w5.heap.size + 1 ≤ w6.heap.size := by have := hb.size; rw [World.size_alloc] at this; exact this
    replace hb : Below w5.heap.size w5 w6 := hal5.trans (hb.mono (by rw [World.size_alloc]; omega))
    rw [World.size_alloc] at ho
    have P6 : Hid (OwnI w6 (w.heap.size + 1) (w1.heap.size) (.slice Ar0 zr0.length cr0) zr0 ∧ OwnI w6 (w1.heap.size) (w2.heap.size) (.slice Ar1 zr1.length cr1) zr1 ∧ OwnI w6 (w2.heap.size) (w3.heap.size) (.slice At0 zt0.length ct0) zt0 ∧ OwnI w6 (w3.heap.size) (w4.heap.size) (.slice At1 zt1.length ct1) zt1 ∧ OwnI w6 (w4.heap.size) (w4.heap.size + 1) (.slice (some ⟨w4.heap.size, 0, none⟩) 1 1) zn ∧ OwnI w6 (w4.heap.size + 1) (w5.heap.size) (.slice Ap zp.length cp) zp ∧ OwnI w6 (w5.heap.size + 1) (w6.heap.size) (.slice Ax (putsW zr0 [zn]).length cx) (putsW zr0 [zn]) ∧ Below w.heap.size w w6 ∧ Blk w6 w.heap.size #[.slice none 0 0, .slice none 0 0] 63) := Lib.hid ⟨(P5.out.1).below hb, (P5.out.2.1).below hb, (P5.out.2.2.1).below hb, (P5.out.2.2.2.1).below hb, (P5.out.2.2.2.2.1).below hb, (P5.out.2.2.2.2.2.1).below hb, ho, (P5.out.2.2.2.2.2.2.1).trans (hb.mono (by omega)), (P5.out.2.2.2.2.2.2.2).below hb (by omega)⟩
    clear hb ho hal5 hrd5 P5
    obtain ⟨cc0, cc1, ff0, ff1⟩ := blk_two (P6.out.2.2.2.2.2.2.2.2)
    obtain ⟨e0, e1⟩ := blk_two_out (P6.out.2.2.2.2.2.2.2.2) (x := .slice Ar0 zr0.length cr0) (y := .slice Ax (putsW zr0 [zn]).length cx)
    have R := Lib.hid (eff_end true (P6.out.1) (P6.out.2.2.2.2.2.2.1) (P6.out.2.2.2.2.2.2.2.1) (by omega) (by omega) (by omega) (by omega) (by omega) (by omega) (by omega))
    clear P6
    go_wp2
    refine bodyPost_ret (v := .tuple #[.agg #[.slice Ar0 zr0.length cr0, .slice Ax (putsW zr0 [zn]).length cx], .bool true]) (by simp [results, Try.results120, go_sem, e0, e1]) rfl ?_
    exact R.out
  have hb : isNumB n = false := by
    rcases h : isNumB n with _ | _
    · rfl
    · simp only [isNumB, Bool.and_eq_true, decide_eq_true_eq] at h; exact absurd h hz
  have HB := Lib.hid hb; clear hb
  go_wp2_with fail
  refine (isNum_any n _).mono ?_
  rw [HB.out]
  rintro e w' ⟨rfl, rfl⟩
  have HZ := Lib.hid hz
  clear HB hz
  by_cases h1001 : n = 1001
  · subst h1001
    have he : (putsW zr0 [zt0], putsW zr0 [zt0, zt0], true) = (y0, y1, y2) := by rw [← HR.out, HQ.out.2.1, HQ.out.2.2.2.1]; simp [wordR]
    obtain ⟨rfl, rfl, rfl⟩ : putsW zr0 [zt0] = y0 ∧ putsW zr0 [zt0, zt0] = y1 ∧ true = y2 := by simpa using he
    clear he
    have hal5 : Below w5.heap.size w5 (w5.alloc (.cells #[.slice At0 zt0.length ct0] 22)) := (Below.refl _ _).alloc (Nat.le_refl _) _
    have hrd5 := rdS_lit w5 [.slice At0 zt0.length ct0] [zt0] rfl (by simp) (by
      intro j u zs hu hz
      rcases j with _ | j
      · simp at hu hz; subst hu; subst hz; exact (P5.out.2.2.1).rd
      · simp at hu)
    simp only [List.length_cons, List.length_nil] at hrd5
    go_wp2_with fail
    refine (withValues_any _ _ zr0 [zt0] _ ((P5.out.1).below hal5).rd hrd5 ⟨by simp, by simp⟩ (by omega) (by simp only [List.mem_cons, List.not_mem_nil, or_false]; intro t ht; rcases ht with rfl <;> omega)).mono ?_
    rintro e w6 ⟨ux, rfl, ho, hb⟩
    obtain ⟨Ax, cx, rfl, _⟩ := ho.rd
    have hs6 : w5.heap.size + 1 ≤ w6.heap.size := by have := hb.size; rw [World.size_alloc] at this; exact this
    replace hb : Below w5.heap.size w5 w6 := hal5.trans (hb.mono (by rw [World.size_alloc]; omega))
    rw [World.size_alloc] at ho
    have P6 : Hid (OwnI w6 (w.heap.size + 1) (w1.heap.size) (.slice Ar0 zr0.length cr0) zr0 ∧ OwnI w6 (w1.heap.size) (w2.heap.size) (.slice Ar1 zr1.length cr1) zr1 ∧ OwnI w6 (w2.heap.size) (w3.heap.size) (.slice At0 zt0.length ct0) zt0 ∧ OwnI w6 (w3.heap.size) (w4.heap.size) (.slice At1 zt1.length ct1) zt1 ∧ OwnI w6 (w4.heap.size) (w4.heap.size + 1) (.slice (some ⟨w4.heap.size, 0, none⟩) 1 1) zn ∧ OwnI w6 (w4.heap.size + 1) (w5.heap.size) (.slice Ap zp.length cp) zp ∧ OwnI w6 (w5.heap.size + 1) (w6.heap.size) (.slice Ax (putsW zr0 [zt0]).length cx) (putsW zr0 [zt0]) ∧ Below w.heap.size w w6 ∧ Blk w6 w.heap.size #[.slice none 0 0, .slice none 0 0] 63) := Lib.hid ⟨(P5.out.1).below hb, (P5.out.2.1).below hb, (P5.out.2.2.1).below hb, (P5.out.2.2.2.1).below hb, (P5.out.2.2.2.2.1).below hb, (P5.out.2.2.2.2.2.1).below hb, ho, (P5.out.2.2.2.2.2.2.1).trans (hb.mono (by omega)), (P5.out.2.2.2.2.2.2.2).below hb (by omega)⟩
    clear hb ho hal5 hrd5 P5
    have hal6 : Below w6.heap.size w6 (w6.alloc (.cells #[.slice At0 zt0.length ct0, .slice At0 zt0.length ct0] 22)) := (Below.refl _ _).alloc (Nat.le_refl _) _
    have hrd6 := rdS_lit w6 [.slice At0 zt0.length ct0, .slice At0 zt0.length ct0] [zt0, zt0] rfl (by simp) (by
      intro j u zs hu hz
      rcases j with _ | _ | j
      · simp at hu hz; subst hu; subst hz; exact (P6.out.2.2.1).rd
      · simp at hu hz; subst hu; subst hz; exact (P6.out.2.2.1).rd
      · simp at hu)
    simp only [List.length_cons, List.length_nil] at hrd6
    go_wp2_with fail
    refine (withValues_any _ _ zr0 [zt0, zt0] _ ((P6.out.1).below hal6).rd hrd6 ⟨by simp, by simp⟩ (by omega) (by simp only [List.mem_cons, List.not_mem_nil, or_false]; intro t ht; rcases ht with rfl | rfl <;> omega)).mono ?_
    rintro e w7 ⟨uy, rfl, ho, hb⟩
    obtain ⟨Ay, cy, rfl, _⟩ := ho.rd
    have hs7 : w6.heap.size + 1 ≤ w7.heap.size := by have := hb.size; rw [World.size_alloc] at this; exact this
    replace hb : Below w6.heap.size w6 w7 := hal6.trans (hb.mono (by rw [World.size_alloc]; omega))
    rw [World.size_alloc] at ho
    have P7 : Hid (OwnI w7 (w.heap.size + 1) (w1.heap.size) (.slice Ar0 zr0.length cr0) zr0 ∧ OwnI w7 (w1.heap.size) (w2.heap.size) (.slice Ar1 zr1.length cr1) zr1 ∧ OwnI w7 (w2.heap.size) (w3.heap.size) (.slice At0 zt0.length ct0) zt0 ∧ OwnI w7 (w3.heap.size) (w4.heap.size) (.slice At1 zt1.length ct1) zt1 ∧ OwnI w7 (w4.heap.size) (w4.heap.size + 1) (.slice (some ⟨w4.heap.size, 0, none⟩) 1 1) zn ∧ OwnI w7 (w4.heap.size + 1) (w5.heap.size) (.slice Ap zp.length cp) zp ∧ OwnI w7 (w5.heap.size + 1) (w6.heap.size) (.slice Ax (putsW zr0 [zt0]).length cx) (putsW zr0 [zt0]) ∧ OwnI w7 (w6.heap.size + 1) (w7.heap.size) (.slice Ay (putsW zr0 [zt0, zt0]).length cy) (putsW zr0 [zt0, zt0]) ∧ Below w.heap.size w w7 ∧ Blk w7 w.heap.size #[.slice none 0 0, .slice none 0 0] 63) := Lib.hid ⟨(P6.out.1).below hb, (P6.out.2.1).below hb, (P6.out.2.2.1).below hb, (P6.out.2.2.2.1).below hb, (P6.out.2.2.2.2.1).below hb, (P6.out.2.2.2.2.2.1).below hb, (P6.out.2.2.2.2.2.2.1).below hb, ho, (P6.out.2.2.2.2.2.2.2.1).trans (hb.mono (by omega)), (P6.out.2.2.2.2.2.2.2.2).below hb (by omega)⟩
    clear hb ho hal6 hrd6 P6
    obtain ⟨cc0, cc1, ff0, ff1⟩ := blk_two (P7.out.2.2.2.2.2.2.2.2.2)
    obtain ⟨e0, e1⟩ := blk_two_out (P7.out.2.2.2.2.2.2.2.2.2) (x := .slice Ax (putsW zr0 [zt0]).length cx) (y := .slice Ay (putsW zr0 [zt0, zt0]).length cy)
    have R := Lib.hid (eff_end true (P7.out.2.2.2.2.2.2.1) (P7.out.2.2.2.2.2.2.2.1) (P7.out.2.2.2.2.2.2.2.2.1) (by omega) (by omega) (by omega) (by omega) (by omega) (by omega) (by omega))
    clear P7
    go_wp2
    refine bodyPost_ret (v := .tuple #[.agg #[.slice Ax (putsW zr0 [zt0]).length cx, .slice Ay (putsW zr0 [zt0, zt0]).length cy], .bool true]) (by simp [results, Try.results120, go_sem, e0, e1]) rfl ?_
    exact R.out
  have b1001 : (n == 1001) = false := by simpa using h1001
  by_cases h1002 : n = 1002
  · subst h1002
    have he : (putsW zr0 [zt0], zr0, true) = (y0, y1, y2) := by rw [← HR.out, HQ.out.2.1, HQ.out.2.2.2.1]; simp [wordR]
    obtain ⟨rfl, rfl, rfl⟩ : putsW zr0 [zt0] = y0 ∧ zr0 = y1 ∧ true = y2 := by simpa using he
    clear he
    have hal5 : Below w5.heap.size w5 (w5.alloc (.cells #[.slice At0 zt0.length ct0] 22)) := (Below.refl _ _).alloc (Nat.le_refl _) _
    have hrd5 := rdS_lit w5 [.slice At0 zt0.length ct0] [zt0] rfl (by simp) (by
      intro j u zs hu hz
      rcases j with _ | j
      · simp at hu hz; subst hu; subst hz; exact (P5.out.2.2.1).rd
      · simp at hu)
    simp only [List.length_cons, List.length_nil] at hrd5
    go_wp2_with fail
    refine (withValues_any _ _ zr0 [zt0] _ ((P5.out.1).below hal5).rd hrd5 ⟨by simp, by simp⟩ (by omega) (by simp only [List.mem_cons, List.not_mem_nil, or_false]; intro t ht; rcases ht with rfl <;> omega)).mono ?_
    rintro e w6 ⟨ux, rfl, ho, hb⟩
    obtain ⟨Ax, cx, rfl, _⟩ := ho.rd
    have hs6 : w5.heap.size + 1 ≤ w6.heap.size := by have := hb.size; rw [World.size_alloc] at this; exact this
    replace hb : Below w5.heap.size w5 w6 := hal5.trans (hb.mono (by rw [World.size_alloc]; omega))
    rw [World.size_alloc] at ho
    have P6 : Hid (OwnI w6 (w.heap.size + 1) (w1.heap.size) (.slice Ar0 zr0.length cr0) zr0 ∧ OwnI w6 (w1.heap.size) (w2.heap.size) (.slice Ar1 zr1.length cr1) zr1 ∧ OwnI w6 (w2.heap.size) (w3.heap.size) (.slice At0 zt0.length ct0) zt0 ∧ OwnI w6 (w3.heap.size) (w4.heap.size) (.slice At1 zt1.length ct1) zt1 ∧ OwnI w6 (w4.heap.size) (w4.heap.size + 1) (.slice (some ⟨w4.heap.size, 0, none⟩) 1 1) zn ∧ OwnI w6 (w4.heap.size + 1) (w5.heap.size) (.slice Ap zp.length cp) zp ∧ OwnI w6 (w5.heap.size + 1) (w6.heap.size) (.slice Ax (putsW zr0 [zt0]).length cx) (putsW zr0 [zt0]) ∧ Below w.heap.size w w6 ∧ Blk w6 w.heap.size #[.slice none 0 0, .slice none 0 0] 63) := Lib.hid ⟨(P5.out.1).below hb, (P5.out.2.1).below hb, (P5.out.2.2.1).below hb, (P5.out.2.2.2.1).below hb, (P5.out.2.2.2.2.1).below hb, (P5.out.2.2.2.2.2.1).below hb, ho, (P5.out.2.2.2.2.2.2.1).trans (hb.mono (by omega)), (P5.out.2.2.2.2.2.2.2).below hb (by omega)⟩
    clear hb ho hal5 hrd5 P5
    obtain ⟨cc0, cc1, ff0, ff1⟩ := blk_two (P6.out.2.2.2.2.2.2.2.2)
    obtain ⟨e0, e1⟩ := blk_two_out (P6.out.2.2.2.2.2.2.2.2) (x := .slice Ax (putsW zr0 [zt0]).length cx) (y := .slice Ar0 zr0.length cr0)
    have R := Lib.hid (eff_end true (P6.out.2.2.2.2.2.2.1) (P6.out.1) (P6.out.2.2.2.2.2.2.2.1) (by omega) (by omega) (by omega) (by omega) (by omega) (by omega) (by omega))
    clear P6
    go_wp2
    refine bodyPost_ret (v := .tuple #[.agg #[.slice Ax (putsW zr0 [zt0]).length cx, .slice Ar0 zr0.length cr0], .bool true]) (by simp [results, Try.results120, go_sem, e0, e1]) rfl ?_
    exact R.out
  have b1002 : (n == 1002) = false := by simpa using h1002
  by_cases h1003 : n = 1003
  · subst h1003
    have he : (putsW zr0 [zt0, zt1], putsW zr0 [zt1, zt0], true) = (y0, y1, y2) := by rw [← HR.out, HQ.out.2.1, HQ.out.2.2.2.1, HQ.out.2.2.2.2.1]; simp [wordR]
    obtain ⟨rfl, rfl, rfl⟩ : putsW zr0 [zt0, zt1] = y0 ∧ putsW zr0 [zt1, zt0] = y1 ∧ true = y2 := by simpa using he
    clear he
    have hal5 : Below w5.heap.size w5 (w5.alloc (.cells #[.slice At0 zt0.length ct0, .slice At1 zt1.length ct1] 22)) := (Below.refl _ _).alloc (Nat.le_refl _) _
    have hrd5 := rdS_lit w5 [.slice At0 zt0.length ct0, .slice At1 zt1.length ct1] [zt0, zt1] rfl (by simp) (by
      intro j u zs hu hz
      rcases j with _ | _ | j
      · simp at hu hz; subst hu; subst hz; exact (P5.out.2.2.1).rd
      · simp at hu hz; subst hu; subst hz; exact (P5.out.2.2.2.1).rd
      · simp at hu)
    simp only [List.length_cons, List.length_nil] at hrd5
    go_wp2_with fail
    refine (withValues_any _ _ zr0 [zt0, zt1] _ ((P5.out.1).below hal5).rd hrd5 ⟨by simp, by simp⟩ (by omega) (by simp only [List.mem_cons, List.not_mem_nil, or_false]; intro t ht; rcases ht with rfl | rfl <;> omega)).mono ?_
    rintro e w6 ⟨ux, rfl, ho, hb⟩
    obtain ⟨Ax, cx, rfl, _⟩ := ho.rd
    have hs6 : w5.heap.size + 1 ≤ w6.heap.size := by have := hb.size; rw [World.size_alloc] at this; exact this
    replace hb : Below w5.heap.size w5 w6 := hal5.trans (hb.mono (by rw [World.size_alloc]; omega))
    rw [World.size_alloc] at ho
    have P6 : Hid (OwnI w6 (w.heap.size + 1) (w1.heap.size) (.slice Ar0 zr0.length cr0) zr0 ∧ OwnI w6 (w1.heap.size) (w2.heap.size) (.slice Ar1 zr1.length cr1) zr1 ∧ OwnI w6 (w2.heap.size) (w3.heap.size) (.slice At0 zt0.length ct0) zt0 ∧ OwnI w6 (w3.heap.size) (w4.heap.size) (.slice At1 zt1.length ct1) zt1 ∧ OwnI w6 (w4.heap.size) (w4.heap.size + 1) (.slice (some ⟨w4.heap.size, 0, none⟩) 1 1) zn ∧ OwnI w6 (w4.heap.size + 1) (w5.heap.size) (.slice Ap zp.length cp) zp ∧ OwnI w6 (w5.heap.size + 1) (w6.heap.size) (.slice Ax (putsW zr0 [zt0, zt1]).length cx) (putsW zr0 [zt0, zt1]) ∧ Below w.heap.size w w6 ∧ Blk w6 w.heap.size #[.slice none 0 0, .slice none 0 0] 63) := Lib.hid ⟨(P5.out.1).below hb, (P5.out.2.1).below hb, (P5.out.2.2.1).below hb, (P5.out.2.2.2.1).below hb, (P5.out.2.2.2.2.1).below hb, (P5.out.2.2.2.2.2.1).below hb, ho, (P5.out.2.2.2.2.2.2.1).trans (hb.mono (by omega)), (P5.out.2.2.2.2.2.2.2).below hb (by omega)⟩
    clear hb ho hal5 hrd5 P5
    have hal6 : Below w6.heap.size w6 (w6.alloc (.cells #[.slice At1 zt1.length ct1, .slice At0 zt0.length ct0] 22)) := (Below.refl _ _).alloc (Nat.le_refl _) _
    have hrd6 := rdS_lit w6 [.slice At1 zt1.length ct1, .slice At0 zt0.length ct0] [zt1, zt0] rfl (by simp) (by
      intro j u zs hu hz
      rcases j with _ | _ | j
      · simp at hu hz; subst hu; subst hz; exact (P6.out.2.2.2.1).rd
      · simp at hu hz; subst hu; subst hz; exact (P6.out.2.2.1).rd
      · simp at hu)
    simp only [List.length_cons, List.length_nil] at hrd6
    go_wp2_with fail
    refine (withValues_any _ _ zr0 [zt1, zt0] _ ((P6.out.1).below hal6).rd hrd6 ⟨by simp, by simp⟩ (by omega) (by simp only [List.mem_cons, List.not_mem_nil, or_false]; intro t ht; rcases ht with rfl | rfl <;> omega)).mono ?_
    rintro e w7 ⟨uy, rfl, ho, hb⟩
    obtain ⟨Ay, cy, rfl, _⟩ := ho.rd
    have hs7 : w6.heap.size + 1 ≤ w7.heap.size := by have := hb.size; rw [World.size_alloc] at this; exact this
    replace hb : Below w6.heap.size w6 w7 := hal6.trans (hb.mono (by rw [World.size_alloc]; omega))
    rw [World.size_alloc] at ho
    have P7 : Hid (OwnI w7 (w.heap.size + 1) (w1.heap.size) (.slice Ar0 zr0.length cr0) zr0 ∧ OwnI w7 (w1.heap.size) (w2.heap.size) (.slice Ar1 zr1.length cr1) zr1 ∧ OwnI w7 (w2.heap.size) (w3.heap.size) (.slice At0 zt0.length ct0) zt0 ∧ OwnI w7 (w3.heap.size) (w4.heap.size) (.slice At1 zt1.length ct1) zt1 ∧ OwnI w7 (w4.heap.size) (w4.heap.size + 1) (.slice (some ⟨w4.heap.size, 0, none⟩) 1 1) zn ∧ OwnI w7 (w4.heap.size + 1) (w5.heap.size) (.slice Ap zp.length cp) zp ∧ OwnI w7 (w5.heap.size + 1) (w6.heap.size) (.slice Ax (putsW zr0 [zt0, zt1]).length cx) (putsW zr0 [zt0, zt1]) ∧ OwnI w7 (w6.heap.size + 1) (w7.heap.size) (.slice Ay (putsW zr0 [zt1, zt0]).length cy) (putsW zr0 [zt1, zt0]) ∧ Below w.heap.size w w7 ∧ Blk w7 w.heap.size #[.slice none 0 0, .slice none 0 0] 63) := Lib.hid ⟨(P6.out.1).below hb, (P6.out.2.1).below hb, (P6.out.2.2.1).below hb, (P6.out.2.2.2.1).below hb, (P6.out.2.2.2.2.1).below hb, (P6.out.2.2.2.2.2.1).below hb, (P6.out.2.2.2.2.2.2.1).below hb, ho, (P6.out.2.2.2.2.2.2.2.1).trans (hb.mono (by omega)), (P6.out.2.2.2.2.2.2.2.2).below hb (by omega)⟩
    clear hb ho hal6 hrd6 P6
    obtain ⟨cc0, cc1, ff0, ff1⟩ := blk_two (P7.out.2.2.2.2.2.2.2.2.2)
    obtain ⟨e0, e1⟩ := blk_two_out (P7.out.2.2.2.2.2.2.2.2.2) (x := .slice Ax (putsW zr0 [zt0, zt1]).length cx) (y := .slice Ay (putsW zr0 [zt1, zt0]).length cy)
    have R := Lib.hid (eff_end true (P7.out.2.2.2.2.2.2.1) (P7.out.2.2.2.2.2.2.2.1) (P7.out.2.2.2.2.2.2.2.2.1) (by omega) (by omega) (by omega) (by omega) (by omega) (by omega) (by omega))
    clear P7
    go_wp2
    refine bodyPost_ret (v := .tuple #[.agg #[.slice Ax (putsW zr0 [zt0, zt1]).length cx, .slice Ay (putsW zr0 [zt1, zt0]).length cy], .bool true]) (by simp [results, Try.results120, go_sem, e0, e1]) rfl ?_
    exact R.out
  have b1003 : (n == 1003) = false := by simpa using h1003
  by_cases h1004 : n = 1004
  · subst h1004
    have he : (putsW zr0 [zt0, zp], putsW zr1 [zt0], true) = (y0, y1, y2) := by rw [← HR.out, HQ.out.2.1, HQ.out.2.2.1, HQ.out.2.2.2.1, HQ.out.2.2.2.2.2.2.1]; simp [wordR]
    obtain ⟨rfl, rfl, rfl⟩ : putsW zr0 [zt0, zp] = y0 ∧ putsW zr1 [zt0] = y1 ∧ true = y2 := by simpa using he
    clear he
    have hal5 : Below w5.heap.size w5 (w5.alloc (.cells #[.slice At0 zt0.length ct0, .slice Ap zp.length cp] 22)) := (Below.refl _ _).alloc (Nat.le_refl _) _
    have hrd5 := rdS_lit w5 [.slice At0 zt0.length ct0, .slice Ap zp.length cp] [zt0, zp] rfl (by simp) (by
      intro j u zs hu hz
      rcases j with _ | _ | j
      · simp at hu hz; subst hu; subst hz; exact (P5.out.2.2.1).rd
      · simp at hu hz; subst hu; subst hz; exact (P5.out.2.2.2.2.2.1).rd
      · simp at hu)
    simp only [List.length_cons, List.length_nil] at hrd5
    go_wp2_with fail
    refine (withValues_any _ _ zr0 [zt0, zp] _ ((P5.out.1).below hal5).rd hrd5 ⟨by simp, by simp⟩ (by omega) (by simp only [List.mem_cons, List.not_mem_nil, or_false]; intro t ht; rcases ht with rfl | rfl <;> omega)).mono ?_
    rintro e w6 ⟨ux, rfl, ho, hb⟩
    obtain ⟨Ax, cx, rfl, _⟩ := ho.rd
    have hs6 : w5.heap.size + 1 ≤ w6.heap.size := by have := hb.size; rw [World.size_alloc] at this; exact this
    replace hb : Below w5.heap.size w5 w6 := hal5.trans (hb.mono (by rw [World.size_alloc]; omega))
    rw [World.size_alloc] at ho
    have P6 : Hid (OwnI w6 (w.heap.size + 1) (w1.heap.size) (.slice Ar0 zr0.length cr0) zr0 ∧ OwnI w6 (w1.heap.size) (w2.heap.size) (.slice Ar1 zr1.length cr1) zr1 ∧ OwnI w6 (w2.heap.size) (w3.heap.size) (.slice At0 zt0.length ct0) zt0 ∧ OwnI w6 (w3.heap.size) (w4.heap.size) (.slice At1 zt1.length ct1) zt1 ∧ OwnI w6 (w4.heap.size) (w4.heap.size + 1) (.slice (some ⟨w4.heap.size, 0, none⟩) 1 1) zn ∧ OwnI w6 (w4.heap.size + 1) (w5.heap.size) (.slice Ap zp.length cp) zp ∧ OwnI w6 (w5.heap.size + 1) (w6.heap.size) (.slice Ax (putsW zr0 [zt0, zp]).length cx) (putsW zr0 [zt0, zp]) ∧ Below w.heap.size w w6 ∧ Blk w6 w.heap.size #[.slice none 0 0, .slice none 0 0] 63) := Lib.hid ⟨(P5.out.1).below hb, (P5.out.2.1).below hb, (P5.out.2.2.1).below hb, (P5.out.2.2.2.1).below hb, (P5.out.2.2.2.2.1).below hb, (P5.out.2.2.2.2.2.1).below hb, ho, (P5.out.2.2.2.2.2.2.1).trans (hb.mono (by omega)), (P5.out.2.2.2.2.2.2.2).below hb (by omega)⟩
    clear hb ho hal5 hrd5 P5
    have hal6 : Below w6.heap.size w6 (w6.alloc (.cells #[.slice At0 zt0.length ct0] 22)) := (Below.refl _ _).alloc (Nat.le_refl _) _
    have hrd6 := rdS_lit w6 [.slice At0 zt0.length ct0] [zt0] rfl (by simp) (by
      intro j u zs hu hz
      rcases j with _ | j
      · simp at hu hz; subst hu; subst hz; exact (P6.out.2.2.1).rd
      · simp at hu)
    simp only [List.length_cons, List.length_nil] at hrd6
    go_wp2_with fail
    refine (withValues_any _ _ zr1 [zt0] _ ((P6.out.2.1).below hal6).rd hrd6 ⟨by simp, by simp⟩ (by omega) (by simp only [List.mem_cons, List.not_mem_nil, or_false]; intro t ht; rcases ht with rfl <;> omega)).mono ?_
    rintro e w7 ⟨uy, rfl, ho, hb⟩
    obtain ⟨Ay, cy, rfl, _⟩ := ho.rd
    have hs7 : w6.heap.size + 1 ≤ w7.heap.size := by have := hb.size; rw [World.size_alloc] at this; exact this
    replace hb : Below w6.heap.size w6 w7 := hal6.trans (hb.mono (by rw [World.size_alloc]; omega))
    rw [World.size_alloc] at ho
    have P7 : Hid (OwnI w7 (w.heap.size + 1) (w1.heap.size) (.slice Ar0 zr0.length cr0) zr0 ∧ OwnI w7 (w1.heap.size) (w2.heap.size) (.slice Ar1 zr1.length cr1) zr1 ∧ OwnI w7 (w2.heap.size) (w3.heap.size) (.slice At0 zt0.length ct0) zt0 ∧ OwnI w7 (w3.heap.size) (w4.heap.size) (.slice At1 zt1.length ct1) zt1 ∧ OwnI w7 (w4.heap.size) (w4.heap.size + 1) (.slice (some ⟨w4.heap.size, 0, none⟩) 1 1) zn ∧ OwnI w7 (w4.heap.size + 1) (w5.heap.size) (.slice Ap zp.length cp) zp ∧ OwnI w7 (w5.heap.size + 1) (w6.heap.size) (.slice Ax (putsW zr0 [zt0, zp]).length cx) (putsW zr0 [zt0, zp]) ∧ OwnI w7 (w6.heap.size + 1) (w7.heap.size) (.slice Ay (putsW zr1 [zt0]).length cy) (putsW zr1 [zt0]) ∧ Below w.heap.size w w7 ∧ Blk w7 w.heap.size #[.slice none 0 0, .slice none 0 0] 63) := Lib.hid ⟨(P6.out.1).below hb, (P6.out.2.1).below hb, (P6.out.2.2.1).below hb, (P6.out.2.2.2.1).below hb, (P6.out.2.2.2.2.1).below hb, (P6.out.2.2.2.2.2.1).below hb, (P6.out.2.2.2.2.2.2.1).below hb, ho, (P6.out.2.2.2.2.2.2.2.1).trans (hb.mono (by omega)), (P6.out.2.2.2.2.2.2.2.2).below hb (by omega)⟩
    clear hb ho hal6 hrd6 P6
    obtain ⟨cc0, cc1, ff0, ff1⟩ := blk_two (P7.out.2.2.2.2.2.2.2.2.2)
    obtain ⟨e0, e1⟩ := blk_two_out (P7.out.2.2.2.2.2.2.2.2.2) (x := .slice Ax (putsW zr0 [zt0, zp]).length cx) (y := .slice Ay (putsW zr1 [zt0]).length cy)
    have R := Lib.hid (eff_end true (P7.out.2.2.2.2.2.2.1) (P7.out.2.2.2.2.2.2.2.1) (P7.out.2.2.2.2.2.2.2.2.1) (by omega) (by omega) (by omega) (by omega) (by omega) (by omega) (by omega))
    clear P7
    go_wp2
    refine bodyPost_ret (v := .tuple #[.agg #[.slice Ax (putsW zr0 [zt0, zp]).length cx, .slice Ay (putsW zr1 [zt0]).length cy], .bool true]) (by simp [results, Try.results120, go_sem, e0, e1]) rfl ?_
    exact R.out
  have b1004 : (n == 1004) = false := by simpa using h1004
  by_cases h1005 : n = 1005
  · subst h1005
    have he : (putsW zr0 [zp], zr1, true) = (y0, y1, y2) := by rw [← HR.out, HQ.out.2.1, HQ.out.2.2.1, HQ.out.2.2.2.2.2.2.1]; simp [wordR]
    obtain ⟨rfl, rfl, rfl⟩ : putsW zr0 [zp] = y0 ∧ zr1 = y1 ∧ true = y2 := by simpa using he
    clear he
    have hal5 : Below w5.heap.size w5 (w5.alloc (.cells #[.slice Ap zp.length cp] 22)) := (Below.refl _ _).alloc (Nat.le_refl _) _
    have hrd5 := rdS_lit w5 [.slice Ap zp.length cp] [zp] rfl (by simp) (by
      intro j u zs hu hz
      rcases j with _ | j
      · simp at hu hz; subst hu; subst hz; exact (P5.out.2.2.2.2.2.1).rd
      · simp at hu)
    simp only [List.length_cons, List.length_nil] at hrd5
    go_wp2_with fail
    refine (withValues_any _ _ zr0 [zp] _ ((P5.out.1).below hal5).rd hrd5 ⟨by simp, by simp⟩ (by omega) (by simp only [List.mem_cons, List.not_mem_nil, or_false]; intro t ht; rcases ht with rfl <;> omega)).mono ?_
    rintro e w6 ⟨ux, rfl, ho, hb⟩
    obtain ⟨Ax, cx, rfl, _⟩ := ho.rd
    have hs6 : w5.heap.size + 1 ≤ w6.heap.size := by have := hb.size; rw [World.size_alloc] at this; exact this
    replace hb : Below w5.heap.size w5 w6 := hal5.trans (hb.mono (by rw [World.size_alloc]; omega))
    rw [World.size_alloc] at ho
    have P6 : Hid (OwnI w6 (w.heap.size + 1) (w1.heap.size) (.slice Ar0 zr0.length cr0) zr0 ∧ OwnI w6 (w1.heap.size) (w2.heap.size) (.slice Ar1 zr1.length cr1) zr1 ∧ OwnI w6 (w2.heap.size) (w3.heap.size) (.slice At0 zt0.length ct0) zt0 ∧ OwnI w6 (w3.heap.size) (w4.heap.size) (.slice At1 zt1.length ct1) zt1 ∧ OwnI w6 (w4.heap.size) (w4.heap.size + 1) (.slice (some ⟨w4.heap.size, 0, none⟩) 1 1) zn ∧ OwnI w6 (w4.heap.size + 1) (w5.heap.size) (.slice Ap zp.length cp) zp ∧ OwnI w6 (w5.heap.size + 1) (w6.heap.size) (.slice Ax (putsW zr0 [zp]).length cx) (putsW zr0 [zp]) ∧ Below w.heap.size w w6 ∧ Blk w6 w.heap.size #[.slice none 0 0, .slice none 0 0] 63) := Lib.hid ⟨(P5.out.1).below hb, (P5.out.2.1).below hb, (P5.out.2.2.1).below hb, (P5.out.2.2.2.1).below hb, (P5.out.2.2.2.2.1).below hb, (P5.out.2.2.2.2.2.1).below hb, ho, (P5.out.2.2.2.2.2.2.1).trans (hb.mono (by omega)), (P5.out.2.2.2.2.2.2.2).below hb (by omega)⟩
    clear hb ho hal5 hrd5 P5
    obtain ⟨cc0, cc1, ff0, ff1⟩ := blk_two (P6.out.2.2.2.2.2.2.2.2)
    obtain ⟨e0, e1⟩ := blk_two_out (P6.out.2.2.2.2.2.2.2.2) (x := .slice Ax (putsW zr0 [zp]).length cx) (y := .slice Ar1 zr1.length cr1)
    have R := Lib.hid (eff_end true (P6.out.2.2.2.2.2.2.1) (P6.out.2.1) (P6.out.2.2.2.2.2.2.2.1) (by omega) (by omega) (by omega) (by omega) (by omega) (by omega) (by omega))
    clear P6
    go_wp2
    refine bodyPost_ret (v := .tuple #[.agg #[.slice Ax (putsW zr0 [zp]).length cx, .slice Ar1 zr1.length cr1], .bool true]) (by simp [results, Try.results120, go_sem, e0, e1]) rfl ?_
    exact R.out
  have b1005 : (n == 1005) = false := by simpa using h1005
  by_cases h1006 : n = 1006
  · subst h1006
    have he : (putsW zr0 [zn, zn], putsW zr0 [zn], true) = (y0, y1, y2) := by rw [← HR.out, HQ.out.2.1, HQ.out.2.2.2.2.2.1]; simp [wordR]
    obtain ⟨rfl, rfl, rfl⟩ : putsW zr0 [zn, zn] = y0 ∧ putsW zr0 [zn] = y1 ∧ true = y2 := by simpa using he
    clear he
    have hal5 : Below w5.heap.size w5 (w5.alloc (.cells #[.slice (some ⟨w4.heap.size, 0, none⟩) 1 1, .slice (some ⟨w4.heap.size, 0, none⟩) 1 1] 22)) := (Below.refl _ _).alloc (Nat.le_refl _) _
    have hrd5 := rdS_lit w5 [.slice (some ⟨w4.heap.size, 0, none⟩) 1 1, .slice (some ⟨w4.heap.size, 0, none⟩) 1 1] [zn, zn] rfl (by simp) (by
      intro j u zs hu hz
      rcases j with _ | _ | j
      · simp at hu hz; subst hu; subst hz; exact (P5.out.2.2.2.2.1).rd
      · simp at hu hz; subst hu; subst hz; exact (P5.out.2.2.2.2.1).rd
      · simp at hu)
    simp only [List.length_cons, List.length_nil] at hrd5
    go_wp2_with fail
    refine (withValues_any _ _ zr0 [zn, zn] _ ((P5.out.1).below hal5).rd hrd5 ⟨by simp, by simp⟩ (by omega) (by simp only [List.mem_cons, List.not_mem_nil, or_false]; intro t ht; rcases ht with rfl | rfl <;> omega)).mono ?_
    rintro e w6 ⟨ux, rfl, ho, hb⟩
    obtain ⟨Ax, cx, rfl, _⟩ := ho.rd
    have hs6 : w5.heap.size + 1 ≤ w6.heap.size := by have := hb.size; rw [World.size_alloc] at this; exact this
    replace hb : Below w5.heap.size w5 w6 := hal5.trans (hb.mono (by rw [World.size_alloc]; omega))
    rw [World.size_alloc] at ho
    have P6 : Hid (OwnI w6 (w.heap.size + 1) (w1.heap.size) (.slice Ar0 zr0.length cr0) zr0 ∧ OwnI w6 (w1.heap.size) (w2.heap.size) (.slice Ar1 zr1.length cr1) zr1 ∧ OwnI w6 (w2.heap.size) (w3.heap.size) (.slice At0 zt0.length ct0) zt0 ∧ OwnI w6 (w3.heap.size) (w4.heap.size) (.slice At1 zt1.length ct1) zt1 ∧ OwnI w6 (w4.heap.size) (w4.heap.size + 1) (.slice (some ⟨w4.heap.size, 0, none⟩) 1 1) zn ∧ OwnI w6 (w4.heap.size + 1) (w5.heap.size) (.slice Ap zp.length cp) zp ∧ OwnI w6 (w5.heap.size + 1) (w6.heap.size) (.slice Ax (putsW zr0 [zn, zn]).length cx) (putsW zr0 [zn, zn]) ∧ Below w.heap.size w w6 ∧ Blk w6 w.heap.size #[.slice none 0 0, .slice none 0 0] 63) := Lib.hid ⟨(P5.out.1).below hb, (P5.out.2.1).below hb, (P5.out.2.2.1).below hb, (P5.out.2.2.2.1).below hb, (P5.out.2.2.2.2.1).below hb, (P5.out.2.2.2.2.2.1).below hb, ho, (P5.out.2.2.2.2.2.2.1).trans (hb.mono (by omega)), (P5.out.2.2.2.2.2.2.2).below hb (by omega)⟩
    clear hb ho hal5 hrd5 P5
    have hal6 : Below w6.heap.size w6 (w6.alloc (.cells #[.slice (some ⟨w4.heap.size, 0, none⟩) 1 1] 22)) := (Below.refl _ _).alloc (Nat.le_refl _) _
    have hrd6 := rdS_lit w6 [.slice (some ⟨w4.heap.size, 0, none⟩) 1 1] [zn] rfl (by simp) (by
      intro j u zs hu hz
      rcases j with _ | j
      · simp at hu hz; subst hu; subst hz; exact (P6.out.2.2.2.2.1).rd
      · simp at hu)
    simp only [List.length_cons, List.length_nil] at hrd6
    go_wp2_with fail
    refine (withValues_any _ _ zr0 [zn] _ ((P6.out.1).below hal6).rd hrd6 ⟨by simp, by simp⟩ (by omega) (by simp only [List.mem_cons, List.not_mem_nil, or_false]; intro t ht; rcases ht with rfl <;> omega)).mono ?_
    rintro e w7 ⟨uy, rfl, ho, hb⟩
    obtain ⟨Ay, cy, rfl, _⟩ := ho.rd
    have hs7 : w6.heap.size + 1 ≤ w7.heap.size := by have := hb.size; rw [World.size_alloc] at this; exact this
    replace hb : Below w6.heap.size w6 w7 := hal6.trans (hb.mono (by rw [World.size_alloc]; omega))
    rw [World.size_alloc] at ho
    have P7 : Hid (OwnI w7 (w.heap.size + 1) (w1.heap.size) (.slice Ar0 zr0.length cr0) zr0 ∧ OwnI w7 (w1.heap.size) (w2.heap.size) (.slice Ar1 zr1.length cr1) zr1 ∧ OwnI w7 (w2.heap.size) (w3.heap.size) (.slice At0 zt0.length ct0) zt0 ∧ OwnI w7 (w3.heap.size) (w4.heap.size) (.slice At1 zt1.length ct1) zt1 ∧ OwnI w7 (w4.heap.size) (w4.heap.size + 1) (.slice (some ⟨w4.heap.size, 0, none⟩) 1 1) zn ∧ OwnI w7 (w4.heap.size + 1) (w5.heap.size) (.slice Ap zp.length cp) zp ∧ OwnI w7 (w5.heap.size + 1) (w6.heap.size) (.slice Ax (putsW zr0 [zn, zn]).length cx) (putsW zr0 [zn, zn]) ∧ OwnI w7 (w6.heap.size + 1) (w7.heap.size) (.slice Ay (putsW zr0 [zn]).length cy) (putsW zr0 [zn]) ∧ Below w.heap.size w w7 ∧ Blk w7 w.heap.size #[.slice none 0 0, .slice none 0 0] 63) := Lib.hid ⟨(P6.out.1).below hb, (P6.out.2.1).below hb, (P6.out.2.2.1).below hb, (P6.out.2.2.2.1).below hb, (P6.out.2.2.2.2.1).below hb, (P6.out.2.2.2.2.2.1).below hb, (P6.out.2.2.2.2.2.2.1).below hb, ho, (P6.out.2.2.2.2.2.2.2.1).trans (hb.mono (by omega)), (P6.out.2.2.2.2.2.2.2.2).below hb (by omega)⟩
    clear hb ho hal6 hrd6 P6
    obtain ⟨cc0, cc1, ff0, ff1⟩ := blk_two (P7.out.2.2.2.2.2.2.2.2.2)
    obtain ⟨e0, e1⟩ := blk_two_out (P7.out.2.2.2.2.2.2.2.2.2) (x := .slice Ax (putsW zr0 [zn, zn]).length cx) (y := .slice Ay (putsW zr0 [zn]).length cy)
    have R := Lib.hid (eff_end true (P7.out.2.2.2.2.2.2.1) (P7.out.2.2.2.2.2.2.2.1) (P7.out.2.2.2.2.2.2.2.2.1) (by omega) (by omega) (by omega) (by omega) (by omega) (by omega) (by omega))
    clear P7
    go_wp2
    refine bodyPost_ret (v := .tuple #[.agg #[.slice Ax (putsW zr0 [zn, zn]).length cx, .slice Ay (putsW zr0 [zn]).length cy], .bool true]) (by simp [results, Try.results120, go_sem, e0, e1]) rfl ?_
    exact R.out
  have b1006 : (n == 1006) = false := by simpa using h1006
  by_cases h1007 : n = 1007
  · subst h1007
    have he : (putsW zr0 [zn, zn], putsW zr0 [zn], true) = (y0, y1, y2) := by rw [← HR.out, HQ.out.2.1, HQ.out.2.2.2.2.2.1]; simp [wordR]
    obtain ⟨rfl, rfl, rfl⟩ : putsW zr0 [zn, zn] = y0 ∧ putsW zr0 [zn] = y1 ∧ true = y2 := by simpa using he
    clear he
    have hal5 : Below w5.heap.size w5 (w5.alloc (.cells #[.slice (some ⟨w4.heap.size, 0, none⟩) 1 1, .slice (some ⟨w4.heap.size, 0, none⟩) 1 1] 22)) := (Below.refl _ _).alloc (Nat.le_refl _) _
    have hrd5 := rdS_lit w5 [.slice (some ⟨w4.heap.size, 0, none⟩) 1 1, .slice (some ⟨w4.heap.size, 0, none⟩) 1 1] [zn, zn] rfl (by simp) (by
      intro j u zs hu hz
      rcases j with _ | _ | j
      · simp at hu hz; subst hu; subst hz; exact (P5.out.2.2.2.2.1).rd
      · simp at hu hz; subst hu; subst hz; exact (P5.out.2.2.2.2.1).rd
      · simp at hu)
    simp only [List.length_cons, List.length_nil] at hrd5
    go_wp2_with fail
    refine (withValues_any _ _ zr0 [zn, zn] _ ((P5.out.1).below hal5).rd hrd5 ⟨by simp, by simp⟩ (by omega) (by simp only [List.mem_cons, List.not_mem_nil, or_false]; intro t ht; rcases ht with rfl | rfl <;> omega)).mono ?_
    rintro e w6 ⟨ux, rfl, ho, hb⟩
    obtain ⟨Ax, cx, rfl, _⟩ := ho.rd
    have hs6 : w5.heap.size + 1 ≤ w6.heap.size := by have := hb.size; rw [World.size_alloc] at this; exact this
    replace hb : Below w5.heap.size w5 w6 := hal5.trans (hb.mono (by rw [World.size_alloc]; omega))
    rw [World.size_alloc] at ho
    have P6 : Hid (OwnI w6 (w.heap.size + 1) (w1.heap.size) (.slice Ar0 zr0.length cr0) zr0 ∧ OwnI w6 (w1.heap.size) (w2.heap.size) (.slice Ar1 zr1.length cr1) zr1 ∧ OwnI w6 (w2.heap.size) (w3.heap.size) (.slice At0 zt0.length ct0) zt0 ∧ OwnI w6 (w3.heap.size) (w4.heap.size) (.slice At1 zt1.length ct1) zt1 ∧ OwnI w6 (w4.heap.size) (w4.heap.size + 1) (.slice (some ⟨w4.heap.size, 0, none⟩) 1 1) zn ∧ OwnI w6 (w4.heap.size + 1) (w5.heap.size) (.slice Ap zp.length cp) zp ∧ OwnI w6 (w5.heap.size + 1) (w6.heap.size) (.slice Ax (putsW zr0 [zn, zn]).length cx) (putsW zr0 [zn, zn]) ∧ Below w.heap.size w w6 ∧ Blk w6 w.heap.size #[.slice none 0 0, .slice none 0 0] 63) := Lib.hid ⟨(P5.out.1).below hb, (P5.out.2.1).below hb, (P5.out.2.2.1).below hb, (P5.out.2.2.2.1).below hb, (P5.out.2.2.2.2.1).below hb, (P5.out.2.2.2.2.2.1).below hb, ho, (P5.out.2.2.2.2.2.2.1).trans (hb.mono (by omega)), (P5.out.2.2.2.2.2.2.2).below hb (by omega)⟩
    clear hb ho hal5 hrd5 P5
    have hal6 : Below w6.heap.size w6 (w6.alloc (.cells #[.slice (some ⟨w4.heap.size, 0, none⟩) 1 1] 22)) := (Below.refl _ _).alloc (Nat.le_refl _) _
    have hrd6 := rdS_lit w6 [.slice (some ⟨w4.heap.size, 0, none⟩) 1 1] [zn] rfl (by simp) (by
      intro j u zs hu hz
      rcases j with _ | j
      · simp at hu hz; subst hu; subst hz; exact (P6.out.2.2.2.2.1).rd
      · simp at hu)
    simp only [List.length_cons, List.length_nil] at hrd6
    go_wp2_with fail
    refine (withValues_any _ _ zr0 [zn] _ ((P6.out.1).below hal6).rd hrd6 ⟨by simp, by simp⟩ (by omega) (by simp only [List.mem_cons, List.not_mem_nil, or_false]; intro t ht; rcases ht with rfl <;> omega)).mono ?_
    rintro e w7 ⟨uy, rfl, ho, hb⟩
    obtain ⟨Ay, cy, rfl, _⟩ := ho.rd
    have hs7 : w6.heap.size + 1 ≤ w7.heap.size := by have := hb.size; rw [World.size_alloc] at this; exact this
    replace hb : Below w6.heap.size w6 w7 := hal6.trans (hb.mono (by rw [World.size_alloc]; omega))
    rw [World.size_alloc] at ho
    have P7 : Hid (OwnI w7 (w.heap.size + 1) (w1.heap.size) (.slice Ar0 zr0.length cr0) zr0 ∧ OwnI w7 (w1.heap.size) (w2.heap.size) (.slice Ar1 zr1.length cr1) zr1 ∧ OwnI w7 (w2.heap.size) (w3.heap.size) (.slice At0 zt0.length ct0) zt0 ∧ OwnI w7 (w3.heap.size) (w4.heap.size) (.slice At1 zt1.length ct1) zt1 ∧ OwnI w7 (w4.heap.size) (w4.heap.size + 1) (.slice (some ⟨w4.heap.size, 0, none⟩) 1 1) zn ∧ OwnI w7 (w4.heap.size + 1) (w5.heap.size) (.slice Ap zp.length cp) zp ∧ OwnI w7 (w5.heap.size + 1) (w6.heap.size) (.slice Ax (putsW zr0 [zn, zn]).length cx) (putsW zr0 [zn, zn]) ∧ OwnI w7 (w6.heap.size + 1) (w7.heap.size) (.slice Ay (putsW zr0 [zn]).length cy) (putsW zr0 [zn]) ∧ Below w.heap.size w w7 ∧ Blk w7 w.heap.size #[.slice none 0 0, .slice none 0 0] 63) := Lib.hid ⟨(P6.out.1).below hb, (P6.out.2.1).below hb, (P6.out.2.2.1).below hb, (P6.out.2.2.2.1).below hb, (P6.out.2.2.2.2.1).below hb, (P6.out.2.2.2.2.2.1).below hb, (P6.out.2.2.2.2.2.2.1).below hb, ho, (P6.out.2.2.2.2.2.2.2.1).trans (hb.mono (by omega)), (P6.out.2.2.2.2.2.2.2.2).below hb (by omega)⟩
    clear hb ho hal6 hrd6 P6
    obtain ⟨cc0, cc1, ff0, ff1⟩ := blk_two (P7.out.2.2.2.2.2.2.2.2.2)
    obtain ⟨e0, e1⟩ := blk_two_out (P7.out.2.2.2.2.2.2.2.2.2) (x := .slice Ax (putsW zr0 [zn, zn]).length cx) (y := .slice Ay (putsW zr0 [zn]).length cy)
    have R := Lib.hid (eff_end true (P7.out.2.2.2.2.2.2.1) (P7.out.2.2.2.2.2.2.2.1) (P7.out.2.2.2.2.2.2.2.2.1) (by omega) (by omega) (by omega) (by omega) (by omega) (by omega) (by omega))
    clear P7
    go_wp2
    refine bodyPost_ret (v := .tuple #[.agg #[.slice Ax (putsW zr0 [zn, zn]).length cx, .slice Ay (putsW zr0 [zn]).length cy], .bool true]) (by simp [results, Try.results120, go_sem, e0, e1]) rfl ?_
    exact R.out
  have b1007 : (n == 1007) = false := by simpa using h1007
  by_cases h1008 : n = 1008
  · subst h1008
    have he : (putsW zr0 [zn, zn], putsW zr0 [zn], true) = (y0, y1, y2) := by rw [← HR.out, HQ.out.2.1, HQ.out.2.2.2.2.2.1]; simp [wordR]
    obtain ⟨rfl, rfl, rfl⟩ : putsW zr0 [zn, zn] = y0 ∧ putsW zr0 [zn] = y1 ∧ true = y2 := by simpa using he
    clear he
    have hal5 : Below w5.heap.size w5 (w5.alloc (.cells #[.slice (some ⟨w4.heap.size, 0, none⟩) 1 1, .slice (some ⟨w4.heap.size, 0, none⟩) 1 1] 22)) := (Below.refl _ _).alloc (Nat.le_refl _) _
    have hrd5 := rdS_lit w5 [.slice (some ⟨w4.heap.size, 0, none⟩) 1 1, .slice (some ⟨w4.heap.size, 0, none⟩) 1 1] [zn, zn] rfl (by simp) (by
      intro j u zs hu hz
      rcases j with _ | _ | j
      · simp at hu hz; subst hu; subst hz; exact (P5.out.2.2.2.2.1).rd
      · simp at hu hz; subst hu; subst hz; exact (P5.out.2.2.2.2.1).rd
      · simp at hu)
    simp only [List.length_cons, List.length_nil] at hrd5
    go_wp2_with fail
    refine (withValues_any _ _ zr0 [zn, zn] _ ((P5.out.1).below hal5).rd hrd5 ⟨by simp, by simp⟩ (by omega) (by simp only [List.mem_cons, List.not_mem_nil, or_false]; intro t ht; rcases ht with rfl | rfl <;> omega)).mono ?_
    rintro e w6 ⟨ux, rfl, ho, hb⟩
    obtain ⟨Ax, cx, rfl, _⟩ := ho.rd
    have hs6 : w5.heap.size + 1 ≤ w6.heap.size := by have := hb.size; rw [World.size_alloc] at this; exact this
    replace hb : Below w5.heap.size w5 w6 := hal5.trans (hb.mono (by rw [World.size_alloc]; omega))
    rw [World.size_alloc] at ho
    have P6 : Hid (OwnI w6 (w.heap.size + 1) (w1.heap.size) (.slice Ar0 zr0.length cr0) zr0 ∧ OwnI w6 (w1.heap.size) (w2.heap.size) (.slice Ar1 zr1.length cr1) zr1 ∧ OwnI w6 (w2.heap.size) (w3.heap.size) (.slice At0 zt0.length ct0) zt0 ∧ OwnI w6 (w3.heap.size) (w4.heap.size) (.slice At1 zt1.length ct1) zt1 ∧ OwnI w6 (w4.heap.size) (w4.heap.size + 1) (.slice (some ⟨w4.heap.size, 0, none⟩) 1 1) zn ∧ OwnI w6 (w4.heap.size + 1) (w5.heap.size) (.slice Ap zp.length cp) zp ∧ OwnI w6 (w5.heap.size + 1) (w6.heap.size) (.slice Ax (putsW zr0 [zn, zn]).length cx) (putsW zr0 [zn, zn]) ∧ Below w.heap.size w w6 ∧ Blk w6 w.heap.size #[.slice none 0 0, .slice none 0 0] 63) := Lib.hid ⟨(P5.out.1).below hb, (P5.out.2.1).below hb, (P5.out.2.2.1).below hb, (P5.out.2.2.2.1).below hb, (P5.out.2.2.2.2.1).below hb, (P5.out.2.2.2.2.2.1).below hb, ho, (P5.out.2.2.2.2.2.2.1).trans (hb.mono (by omega)), (P5.out.2.2.2.2.2.2.2).below hb (by omega)⟩
    clear hb ho hal5 hrd5 P5
    have hal6 : Below w6.heap.size w6 (w6.alloc (.cells #[.slice (some ⟨w4.heap.size, 0, none⟩) 1 1] 22)) := (Below.refl _ _).alloc (Nat.le_refl _) _
    have hrd6 := rdS_lit w6 [.slice (some ⟨w4.heap.size, 0, none⟩) 1 1] [zn] rfl (by simp) (by
      intro j u zs hu hz
      rcases j with _ | j
      · simp at hu hz; subst hu; subst hz; exact (P6.out.2.2.2.2.1).rd
      · simp at hu)
    simp only [List.length_cons, List.length_nil] at hrd6
    go_wp2_with fail
    refine (withValues_any _ _ zr0 [zn] _ ((P6.out.1).below hal6).rd hrd6 ⟨by simp, by simp⟩ (by omega) (by simp only [List.mem_cons, List.not_mem_nil, or_false]; intro t ht; rcases ht with rfl <;> omega)).mono ?_
    rintro e w7 ⟨uy, rfl, ho, hb⟩
    obtain ⟨Ay, cy, rfl, _⟩ := ho.rd
    have hs7 : w6.heap.size + 1 ≤ w7.heap.size := by have := hb.size; rw [World.size_alloc] at this; exact this
    replace hb : Below w6.heap.size w6 w7 := hal6.trans (hb.mono (by rw [World.size_alloc]; omega))
    rw [World.size_alloc] at ho
    have P7 : Hid (OwnI w7 (w.heap.size + 1) (w1.heap.size) (.slice Ar0 zr0.length cr0) zr0 ∧ OwnI w7 (w1.heap.size) (w2.heap.size) (.slice Ar1 zr1.length cr1) zr1 ∧ OwnI w7 (w2.heap.size) (w3.heap.size) (.slice At0 zt0.length ct0) zt0 ∧ OwnI w7 (w3.heap.size) (w4.heap.size) (.slice At1 zt1.length ct1) zt1 ∧ OwnI w7 (w4.heap.size) (w4.heap.size + 1) (.slice (some ⟨w4.heap.size, 0, none⟩) 1 1) zn ∧ OwnI w7 (w4.heap.size + 1) (w5.heap.size) (.slice Ap zp.length cp) zp ∧ OwnI w7 (w5.heap.size + 1) (w6.heap.size) (.slice Ax (putsW zr0 [zn, zn]).length cx) (putsW zr0 [zn, zn]) ∧ OwnI w7 (w6.heap.size + 1) (w7.heap.size) (.slice Ay (putsW zr0 [zn]).length cy) (putsW zr0 [zn]) ∧ Below w.heap.size w w7 ∧ Blk w7 w.heap.size #[.slice none 0 0, .slice none 0 0] 63) := Lib.hid ⟨(P6.out.1).below hb, (P6.out.2.1).below hb, (P6.out.2.2.1).below hb, (P6.out.2.2.2.1).below hb, (P6.out.2.2.2.2.1).below hb, (P6.out.2.2.2.2.2.1).below hb, (P6.out.2.2.2.2.2.2.1).below hb, ho, (P6.out.2.2.2.2.2.2.2.1).trans (hb.mono (by omega)), (P6.out.2.2.2.2.2.2.2.2).below hb (by omega)⟩
    clear hb ho hal6 hrd6 P6
    obtain ⟨cc0, cc1, ff0, ff1⟩ := blk_two (P7.out.2.2.2.2.2.2.2.2.2)
    obtain ⟨e0, e1⟩ := blk_two_out (P7.out.2.2.2.2.2.2.2.2.2) (x := .slice Ax (putsW zr0 [zn, zn]).length cx) (y := .slice Ay (putsW zr0 [zn]).length cy)
    have R := Lib.hid (eff_end true (P7.out.2.2.2.2.2.2.1) (P7.out.2.2.2.2.2.2.2.1) (P7.out.2.2.2.2.2.2.2.2.1) (by omega) (by omega) (by omega) (by omega) (by omega) (by omega) (by omega))
    clear P7
    go_wp2
    refine bodyPost_ret (v := .tuple #[.agg #[.slice Ax (putsW zr0 [zn, zn]).length cx, .slice Ay (putsW zr0 [zn]).length cy], .bool true]) (by simp [results, Try.results120, go_sem, e0, e1]) rfl ?_
    exact R.out
  have b1008 : (n == 1008) = false := by simpa using h1008
  by_cases h1009 : n = 1009
  · subst h1009
    have he : (putsW zr0 [zn, zn], putsW zr0 [zn], true) = (y0, y1, y2) := by rw [← HR.out, HQ.out.2.1, HQ.out.2.2.2.2.2.1]; simp [wordR]
    obtain ⟨rfl, rfl, rfl⟩ : putsW zr0 [zn, zn] = y0 ∧ putsW zr0 [zn] = y1 ∧ true = y2 := by simpa using he
    clear he
    have hal5 : Below w5.heap.size w5 (w5.alloc (.cells #[.slice (some ⟨w4.heap.size, 0, none⟩) 1 1, .slice (some ⟨w4.heap.size, 0, none⟩) 1 1] 22)) := (Below.refl _ _).alloc (Nat.le_refl _) _
    have hrd5 := rdS_lit w5 [.slice (some ⟨w4.heap.size, 0, none⟩) 1 1, .slice (some ⟨w4.heap.size, 0, none⟩) 1 1] [zn, zn] rfl (by simp) (by
      intro j u zs hu hz
      rcases j with _ | _ | j
      · simp at hu hz; subst hu; subst hz; exact (P5.out.2.2.2.2.1).rd
      · simp at hu hz; subst hu; subst hz; exact (P5.out.2.2.2.2.1).rd
      · simp at hu)
    simp only [List.length_cons, List.length_nil] at hrd5
    go_wp2_with fail
    refine (withValues_any _ _ zr0 [zn, zn] _ ((P5.out.1).below hal5).rd hrd5 ⟨by simp, by simp⟩ (by omega) (by simp only [List.mem_cons, List.not_mem_nil, or_false]; intro t ht; rcases ht with rfl | rfl <;> omega)).mono ?_
    rintro e w6 ⟨ux, rfl, ho, hb⟩
    obtain ⟨Ax, cx, rfl, _⟩ := ho.rd
    have hs6 : w5.heap.size + 1 ≤ w6.heap.size := by have := hb.size; rw [World.size_alloc] at this; exact this
    replace hb : Below w5.heap.size w5 w6 := hal5.trans (hb.mono (by rw [World.size_alloc]; omega))
    rw [World.size_alloc] at ho
    have P6 : Hid (OwnI w6 (w.heap.size + 1) (w1.heap.size) (.slice Ar0 zr0.length cr0) zr0 ∧ OwnI w6 (w1.heap.size) (w2.heap.size) (.slice Ar1 zr1.length cr1) zr1 ∧ OwnI w6 (w2.heap.size) (w3.heap.size) (.slice At0 zt0.length ct0) zt0 ∧ OwnI w6 (w3.heap.size) (w4.heap.size) (.slice At1 zt1.length ct1) zt1 ∧ OwnI w6 (w4.heap.size) (w4.heap.size + 1) (.slice (some ⟨w4.heap.size, 0, none⟩) 1 1) zn ∧ OwnI w6 (w4.heap.size + 1) (w5.heap.size) (.slice Ap zp.length cp) zp ∧ OwnI w6 (w5.heap.size + 1) (w6.heap.size) (.slice Ax (putsW zr0 [zn, zn]).length cx) (putsW zr0 [zn, zn]) ∧ Below w.heap.size w w6 ∧ Blk w6 w.heap.size #[.slice none 0 0, .slice none 0 0] 63) := Lib.hid ⟨(P5.out.1).below hb, (P5.out.2.1).below hb, (P5.out.2.2.1).below hb, (P5.out.2.2.2.1).below hb, (P5.out.2.2.2.2.1).below hb, (P5.out.2.2.2.2.2.1).below hb, ho, (P5.out.2.2.2.2.2.2.1).trans (hb.mono (by omega)), (P5.out.2.2.2.2.2.2.2).below hb (by omega)⟩
    clear hb ho hal5 hrd5 P5
    have hal6 : Below w6.heap.size w6 (w6.alloc (.cells #[.slice (some ⟨w4.heap.size, 0, none⟩) 1 1] 22)) := (Below.refl _ _).alloc (Nat.le_refl _) _
    have hrd6 := rdS_lit w6 [.slice (some ⟨w4.heap.size, 0, none⟩) 1 1] [zn] rfl (by simp) (by
      intro j u zs hu hz
      rcases j with _ | j
      · simp at hu hz; subst hu; subst hz; exact (P6.out.2.2.2.2.1).rd
      · simp at hu)
    simp only [List.length_cons, List.length_nil] at hrd6
    go_wp2_with fail
    refine (withValues_any _ _ zr0 [zn] _ ((P6.out.1).below hal6).rd hrd6 ⟨by simp, by simp⟩ (by omega) (by simp only [List.mem_cons, List.not_mem_nil, or_false]; intro t ht; rcases ht with rfl <;> omega)).mono ?_
    rintro e w7 ⟨uy, rfl, ho, hb⟩
    obtain ⟨Ay, cy, rfl, _⟩ := ho.rd
    have hs7 : w6.heap.size + 1 ≤ w7.heap.size := by have := hb.size; rw [World.size_alloc] at this; exact this
    replace hb : Below w6.heap.size w6 w7 := hal6.trans (hb.mono (by rw [World.size_alloc]; omega))
    rw [World.size_alloc] at ho
    have P7 : Hid (OwnI w7 (w.heap.size + 1) (w1.heap.size) (.slice Ar0 zr0.length cr0) zr0 ∧ OwnI w7 (w1.heap.size) (w2.heap.size) (.slice Ar1 zr1.length cr1) zr1 ∧ OwnI w7 (w2.heap.size) (w3.heap.size) (.slice At0 zt0.length ct0) zt0 ∧ OwnI w7 (w3.heap.size) (w4.heap.size) (.slice At1 zt1.length ct1) zt1 ∧ OwnI w7 (w4.heap.size) (w4.heap.size + 1) (.slice (some ⟨w4.heap.size, 0, none⟩) 1 1) zn ∧ OwnI w7 (w4.heap.size + 1) (w5.heap.size) (.slice Ap zp.length cp) zp ∧ OwnI w7 (w5.heap.size + 1) (w6.heap.size) (.slice Ax (putsW zr0 [zn, zn]).length cx) (putsW zr0 [zn, zn]) ∧ OwnI w7 (w6.heap.size + 1) (w7.heap.size) (.slice Ay (putsW zr0 [zn]).length cy) (putsW zr0 [zn]) ∧ Below w.heap.size w w7 ∧ Blk w7 w.heap.size #[.slice none 0 0, .slice none 0 0] 63) := Lib.hid ⟨(P6.out.1).below hb, (P6.out.2.1).below hb, (P6.out.2.2.1).below hb, (P6.out.2.2.2.1).below hb, (P6.out.2.2.2.2.1).below hb, (P6.out.2.2.2.2.2.1).below hb, (P6.out.2.2.2.2.2.2.1).below hb, ho, (P6.out.2.2.2.2.2.2.2.1).trans (hb.mono (by omega)), (P6.out.2.2.2.2.2.2.2.2).below hb (by omega)⟩
    clear hb ho hal6 hrd6 P6
    obtain ⟨cc0, cc1, ff0, ff1⟩ := blk_two (P7.out.2.2.2.2.2.2.2.2.2)
    obtain ⟨e0, e1⟩ := blk_two_out (P7.out.2.2.2.2.2.2.2.2.2) (x := .slice Ax (putsW zr0 [zn, zn]).length cx) (y := .slice Ay (putsW zr0 [zn]).length cy)
    have R := Lib.hid (eff_end true (P7.out.2.2.2.2.2.2.1) (P7.out.2.2.2.2.2.2.2.1) (P7.out.2.2.2.2.2.2.2.2.1) (by omega) (by omega) (by omega) (by omega) (by omega) (by omega) (by omega))
    clear P7
    go_wp2
    refine bodyPost_ret (v := .tuple #[.agg #[.slice Ax (putsW zr0 [zn, zn]).length cx, .slice Ay (putsW zr0 [zn]).length cy], .bool true]) (by simp [results, Try.results120, go_sem, e0, e1]) rfl ?_
    exact R.out
  have b1009 : (n == 1009) = false := by simpa using h1009
  by_cases h1010 : n = 1010
  · subst h1010
    have he : (putsW zr0 [zn, zp, zp], zr1, true) = (y0, y1, y2) := by rw [← HR.out, HQ.out.2.1, HQ.out.2.2.1, HQ.out.2.2.2.2.2.1, HQ.out.2.2.2.2.2.2.1]; simp [wordR]
    obtain ⟨rfl, rfl, rfl⟩ : putsW zr0 [zn, zp, zp] = y0 ∧ zr1 = y1 ∧ true = y2 := by simpa using he
    clear he
    have hal5 : Below w5.heap.size w5 (w5.alloc (.cells #[.slice (some ⟨w4.heap.size, 0, none⟩) 1 1, .slice Ap zp.length cp, .slice Ap zp.length cp] 22)) := (Below.refl _ _).alloc (Nat.le_refl _) _
    have hrd5 := rdS_lit w5 [.slice (some ⟨w4.heap.size, 0, none⟩) 1 1, .slice Ap zp.length cp, .slice Ap zp.length cp] [zn, zp, zp] rfl (by simp) (by
      intro j u zs hu hz
      rcases j with _ | _ | _ | j
      · simp at hu hz; subst hu; subst hz; exact (P5.out.2.2.2.2.1).rd
      · simp at hu hz; subst hu; subst hz; exact (P5.out.2.2.2.2.2.1).rd
      · simp at hu hz; subst hu; subst hz; exact (P5.out.2.2.2.2.2.1).rd
      · simp at hu)
    simp only [List.length_cons, List.length_nil] at hrd5
    go_wp2_with fail
    refine (withValues_any _ _ zr0 [zn, zp, zp] _ ((P5.out.1).below hal5).rd hrd5 ⟨by simp, by simp⟩ (by omega) (by simp only [List.mem_cons, List.not_mem_nil, or_false]; intro t ht; rcases ht with rfl | rfl | rfl <;> omega)).mono ?_
    rintro e w6 ⟨ux, rfl, ho, hb⟩
    obtain ⟨Ax, cx, rfl, _⟩ := ho.rd
    have hs6 : w5.heap.size + 1 ≤ w6.heap.size := by have := hb.size; rw [World.size_alloc] at this; exact this
    replace hb : Below w5.heap.size w5 w6 := hal5.trans (hb.mono (by rw [World.size_alloc]; omega))
    rw [World.size_alloc] at ho
    have P6 : Hid (OwnI w6 (w.heap.size + 1) (w1.heap.size) (.slice Ar0 zr0.length cr0) zr0 ∧ OwnI w6 (w1.heap.size) (w2.heap.size) (.slice Ar1 zr1.length cr1) zr1 ∧ OwnI w6 (w2.heap.size) (w3.heap.size) (.slice At0 zt0.length ct0) zt0 ∧ OwnI w6 (w3.heap.size) (w4.heap.size) (.slice At1 zt1.length ct1) zt1 ∧ OwnI w6 (w4.heap.size) (w4.heap.size + 1) (.slice (some ⟨w4.heap.size, 0, none⟩) 1 1) zn ∧ OwnI w6 (w4.heap.size + 1) (w5.heap.size) (.slice Ap zp.length cp) zp ∧ OwnI w6 (w5.heap.size + 1) (w6.heap.size) (.slice Ax (putsW zr0 [zn, zp, zp]).length cx) (putsW zr0 [zn, zp, zp]) ∧ Below w.heap.size w w6 ∧ Blk w6 w.heap.size #[.slice none 0 0, .slice none 0 0] 63) := Lib.hid ⟨(P5.out.1).below hb, (P5.out.2.1).below hb, (P5.out.2.2.1).below hb, (P5.out.2.2.2.1).below hb, (P5.out.2.2.2.2.1).below hb, (P5.out.2.2.2.2.2.1).below hb, ho, (P5.out.2.2.2.2.2.2.1).trans (hb.mono (by omega)), (P5.out.2.2.2.2.2.2.2).below hb (by omega)⟩
    clear hb ho hal5 hrd5 P5
    obtain ⟨cc0, cc1, ff0, ff1⟩ := blk_two (P6.out.2.2.2.2.2.2.2.2)
    obtain ⟨e0, e1⟩ := blk_two_out (P6.out.2.2.2.2.2.2.2.2) (x := .slice Ax (putsW zr0 [zn, zp, zp]).length cx) (y := .slice Ar1 zr1.length cr1)
    have R := Lib.hid (eff_end true (P6.out.2.2.2.2.2.2.1) (P6.out.2.1) (P6.out.2.2.2.2.2.2.2.1) (by omega) (by omega) (by omega) (by omega) (by omega) (by omega) (by omega))
    clear P6
    go_wp2
    refine bodyPost_ret (v := .tuple #[.agg #[.slice Ax (putsW zr0 [zn, zp, zp]).length cx, .slice Ar1 zr1.length cr1], .bool true]) (by simp [results, Try.results120, go_sem, e0, e1]) rfl ?_
    exact R.out
  have b1010 : (n == 1010) = false := by simpa using h1010
  by_cases h1011 : n = 1011
  · subst h1011
    have he : (putsW zr0 [zn, zq], zr0, true) = (y0, y1, y2) := by rw [← HR.out, HQ.out.2.1, HQ.out.2.2.2.2.2.1, HQ.out.2.2.2.2.2.2.2]; simp [wordR]
    obtain ⟨rfl, rfl, rfl⟩ : putsW zr0 [zn, zq] = y0 ∧ zr0 = y1 ∧ true = y2 := by simpa using he
    clear he
    go_wp2_with fail
    refine (progType_any _ _ zr0 zr0 _ (P5.out.1).rd (P5.out.1).rd (by omega)).mono ?_
    rintro e w6 ⟨uq, rfl, ho, hb⟩
    rw [HQ.out.1] at ho
    obtain ⟨Aq, cq, rfl, _⟩ := ho.rd
    have hs6 := hb.size
    have P6 : Hid (OwnI w6 (w.heap.size + 1) (w1.heap.size) (.slice Ar0 zr0.length cr0) zr0 ∧ OwnI w6 (w1.heap.size) (w2.heap.size) (.slice Ar1 zr1.length cr1) zr1 ∧ OwnI w6 (w2.heap.size) (w3.heap.size) (.slice At0 zt0.length ct0) zt0 ∧ OwnI w6 (w3.heap.size) (w4.heap.size) (.slice At1 zt1.length ct1) zt1 ∧ OwnI w6 (w4.heap.size) (w4.heap.size + 1) (.slice (some ⟨w4.heap.size, 0, none⟩) 1 1) zn ∧ OwnI w6 (w4.heap.size + 1) (w5.heap.size) (.slice Ap zp.length cp) zp ∧ OwnI w6 (w5.heap.size) (w6.heap.size) (.slice Aq zq.length cq) zq ∧ Below w.heap.size w w6 ∧ Blk w6 w.heap.size #[.slice none 0 0, .slice none 0 0] 63) := Lib.hid ⟨(P5.out.1).below hb, (P5.out.2.1).below hb, (P5.out.2.2.1).below hb, (P5.out.2.2.2.1).below hb, (P5.out.2.2.2.2.1).below hb, (P5.out.2.2.2.2.2.1).below hb, ho, (P5.out.2.2.2.2.2.2.1).trans (hb.mono (by omega)), (P5.out.2.2.2.2.2.2.2).below hb (by omega)⟩
    clear hb ho P5
    have hal6 : Below w6.heap.size w6 (w6.alloc (.cells #[.slice (some ⟨w4.heap.size, 0, none⟩) 1 1, .slice Aq zq.length cq] 22)) := (Below.refl _ _).alloc (Nat.le_refl _) _
    have hrd6 := rdS_lit w6 [.slice (some ⟨w4.heap.size, 0, none⟩) 1 1, .slice Aq zq.length cq] [zn, zq] rfl (by simp) (by
      intro j u zs hu hz
      rcases j with _ | _ | j
      · simp at hu hz; subst hu; subst hz; exact (P6.out.2.2.2.2.1).rd
      · simp at hu hz; subst hu; subst hz; exact (P6.out.2.2.2.2.2.2.1).rd
      · simp at hu)
    simp only [List.length_cons, List.length_nil] at hrd6
    go_wp2_with fail
    refine (withValues_any _ _ zr0 [zn, zq] _ ((P6.out.1).below hal6).rd hrd6 ⟨by simp, by simp⟩ (by omega) (by simp only [List.mem_cons, List.not_mem_nil, or_false]; intro t ht; rcases ht with rfl | rfl <;> omega)).mono ?_
    rintro e w7 ⟨ux, rfl, ho, hb⟩
    obtain ⟨Ax, cx, rfl, _⟩ := ho.rd
    have hs7 : w6.heap.size + 1 ≤ w7.heap.size := by have := hb.size; rw [World.size_alloc] at this; exact this
    replace hb : Below w6.heap.size w6 w7 := hal6.trans (hb.mono (by rw [World.size_alloc]; omega))
    rw [World.size_alloc] at ho
    have P7 : Hid (OwnI w7 (w.heap.size + 1) (w1.heap.size) (.slice Ar0 zr0.length cr0) zr0 ∧ OwnI w7 (w1.heap.size) (w2.heap.size) (.slice Ar1 zr1.length cr1) zr1 ∧ OwnI w7 (w2.heap.size) (w3.heap.size) (.slice At0 zt0.length ct0) zt0 ∧ OwnI w7 (w3.heap.size) (w4.heap.size) (.slice At1 zt1.length ct1) zt1 ∧ OwnI w7 (w4.heap.size) (w4.heap.size + 1) (.slice (some ⟨w4.heap.size, 0, none⟩) 1 1) zn ∧ OwnI w7 (w4.heap.size + 1) (w5.heap.size) (.slice Ap zp.length cp) zp ∧ OwnI w7 (w5.heap.size) (w6.heap.size) (.slice Aq zq.length cq) zq ∧ OwnI w7 (w6.heap.size + 1) (w7.heap.size) (.slice Ax (putsW zr0 [zn, zq]).length cx) (putsW zr0 [zn, zq]) ∧ Below w.heap.size w w7 ∧ Blk w7 w.heap.size #[.slice none 0 0, .slice none 0 0] 63) := Lib.hid ⟨(P6.out.1).below hb, (P6.out.2.1).below hb, (P6.out.2.2.1).below hb, (P6.out.2.2.2.1).below hb, (P6.out.2.2.2.2.1).below hb, (P6.out.2.2.2.2.2.1).below hb, (P6.out.2.2.2.2.2.2.1).below hb, ho, (P6.out.2.2.2.2.2.2.2.1).trans (hb.mono (by omega)), (P6.out.2.2.2.2.2.2.2.2).below hb (by omega)⟩
    clear hb ho hal6 hrd6 P6
    obtain ⟨cc0, cc1, ff0, ff1⟩ := blk_two (P7.out.2.2.2.2.2.2.2.2.2)
    obtain ⟨e0, e1⟩ := blk_two_out (P7.out.2.2.2.2.2.2.2.2.2) (x := .slice Ax (putsW zr0 [zn, zq]).length cx) (y := .slice Ar0 zr0.length cr0)
    have R := Lib.hid (eff_end true (P7.out.2.2.2.2.2.2.2.1) (P7.out.1) (P7.out.2.2.2.2.2.2.2.2.1) (by omega) (by omega) (by omega) (by omega) (by omega) (by omega) (by omega))
    clear P7
    go_wp2
    refine bodyPost_ret (v := .tuple #[.agg #[.slice Ax (putsW zr0 [zn, zq]).length cx, .slice Ar0 zr0.length cr0], .bool true]) (by simp [results, Try.results120, go_sem, e0, e1]) rfl ?_
    exact R.out
  have b1011 : (n == 1011) = false := by simpa using h1011
  have he : ([], [], false) = (y0, y1, y2) := by
    rw [← HR.out, wordR, if_neg HZ.out, if_neg h1001, if_neg h1002, if_neg h1003, if_neg h1004, if_neg h1005, if_neg (by omega), if_neg h1010, if_neg h1011]
  obtain ⟨rfl, rfl, rfl⟩ : [] = y0 ∧ [] = y1 ∧ false = y2 := by simpa using he
  clear he
  obtain ⟨cc0, cc1, ff0, ff1⟩ := blk_two (P5.out.2.2.2.2.2.2.2)
  obtain ⟨e0, e1⟩ := blk_two_out (P5.out.2.2.2.2.2.2.2) (x := .slice none 0 0) (y := .slice none 0 0)
  have R := Lib.hid (eff_end false (ownI_nil w5 (w.heap.size + 1) (w.heap.size + 1)) (ownI_nil w5 (w.heap.size + 1) (w.heap.size + 1)) (P5.out.2.2.2.2.2.2.1) (by omega) (by omega) (by omega) (by omega) (by omega) (by omega) (by omega))
  clear P5 h1001 h1002 h1003 h1004 h1005 h1006 h1007 h1008 h1009 h1010 h1011
  go_wp2
  refine bodyPost_ret (v := .tuple #[.agg #[.slice none 0 0, .slice none 0 0], .bool false]) (by simp [results, Try.results120, go_sem, e0, e1]) rfl ?_
  exact R.out
end Go.Proofs.Ytkiedpdhehehfaa
