/- Several texts in one. -/
import Derived.Test.YtpdhdiidkjgjmaaGreatRr
import Derived.Test.YtpdhdiidkjgjmaaGreatB5
import Derived.Test.YtpdhdiidkjgjmaaGreatB1
/- WordEffect: what it answers; the program's. -/
namespace Go.Proofs.YtpdhdiidkjgjmaaGreat
set_option maxRecDepth 100000
open Go.RowKit Go.WideShapes

/-- A row and a type more. -/
def putW (row t : List Int) : List Int := 4 :: (row ++ t)
def putsW (row : List Int) (ts : List (List Int)) : List Int := ts.foldl putW row
def progW : List Int := [2, 3, 0, 3, 1]
def wordR (w : Int) : List Int × List Int × Bool :=
  if 0 ≤ w ∧ w ≤ 999 then ([3, 0], putsW [3, 0] [[0]], true)
  else if w = 1001 then (putsW [3, 0] [[1, 0]], putsW [3, 0] [[1, 0], [1, 0]], true)
  else if w = 1002 then (putsW [3, 0] [[1, 0]], [3, 0], true)
  else if w = 1003 then (putsW [3, 0] [[1, 0], [1, 1]], putsW [3, 0] [[1, 1], [1, 0]], true)
  else if w = 1004 then (putsW [3, 0] [[1, 0], progW], putsW [3, 1] [[1, 0]], true)
  else if w = 1005 then (putsW [3, 0] [progW], [3, 1], true)
  else if 1006 ≤ w ∧ w ≤ 1009 then (putsW [3, 0] [[0], [0]], putsW [3, 0] [[0]], true)
  else if w = 1010 then (putsW [3, 0] [[0], progW, progW], [3, 1], true)
  else if w = 1011 then (putsW [3, 0] [[0], [2, 3, 0, 3, 0]], [3, 0], true)
  else ([], [], false)

theorem rowLetter_any (n : Int) (w : World) (hn : 0 ≤ n ∧ n ≤ 1000) :
    Calls Tryz.prog 64 #[.int .i64 n] w fun e w' => ∃ u, e = .returned u ∧ OwnI w' w.heap.size w'.heap.size u [3, n] ∧ Below w.heap.size w w' := by
  have ho := lits_own w [3, n] (by simp) (by intro q hq; simp only [List.mem_cons, List.not_mem_nil, or_false] at hq; exact wf_near _ (by omega))
  have hb : Below w.heap.size w (w.alloc (.cells #[.int .i64 3, .int .i64 n] 3)) := (Below.refl _ _).alloc (Nat.le_refl _) _
  have X := Lib.hid (And.intro ho hb); clear ho hb
  go_enter Tryz.func64, Tryz.ntmps64
  go_wp2
  go_ret
  exact ⟨_, rfl, ⟨X.out.1.own, fun k hk => by simpa using X.out.1.lt k hk⟩, X.out.2⟩
theorem typeLetter_any (n : Int) (w : World) (hn : 0 ≤ n ∧ n ≤ 1000) :
    Calls Tryz.prog 65 #[.int .i64 n] w fun e w' => ∃ u, e = .returned u ∧ OwnI w' w.heap.size w'.heap.size u [1, n] ∧ Below w.heap.size w w' := by
  have ho := lits_own w [1, n] (by simp) (by intro q hq; simp only [List.mem_cons, List.not_mem_nil, or_false] at hq; exact wf_near _ (by omega))
  have hb : Below w.heap.size w (w.alloc (.cells #[.int .i64 1, .int .i64 n] 3)) := (Below.refl _ _).alloc (Nat.le_refl _) _
  have X := Lib.hid (And.intro ho hb); clear ho hb
  go_enter Tryz.func65, Tryz.ntmps65
  go_wp2
  go_ret
  exact ⟨_, rfl, ⟨X.out.1.own, fun k hk => by simpa using X.out.1.lt k hk⟩, X.out.2⟩
/-- A literal of a row of one, and then two rows. -/
theorem three_rows (w : World) (k : Int) (hk : -1000 ≤ k ∧ k ≤ 1000) (A0 A1 : Option Addr) (c0 c1 : Nat) (a b : List Int) (h0 : RdI w (.slice A0 a.length c0) a) (h1 : RdI w (.slice A1 b.length c1) b) :
    RdS ((w.alloc (.cells #[.int .i64 k] 3)).alloc (.cells #[.slice (some ⟨w.heap.size, 0, none⟩) 1 1, .slice A0 a.length c0, .slice A1 b.length c1] 23)) (.slice (some ⟨w.heap.size + 1, 0, none⟩) 3 3) [[k], a, b] ∧
    Below w.heap.size w ((w.alloc (.cells #[.int .i64 k] 3)).alloc (.cells #[.slice (some ⟨w.heap.size, 0, none⟩) 1 1, .slice A0 a.length c0, .slice A1 b.length c1] 23)) := by
  have hb1 : Below w.heap.size w (w.alloc (.cells #[.int .i64 k] 3)) := (Below.refl _ _).alloc (Nat.le_refl _) _
  have l1 : RdI (w.alloc (.cells #[.int .i64 k] 3)) (.slice (some ⟨w.heap.size, 0, none⟩) 1 1) [k] := by
    have := (lits_own w [k] (by simp) (by intro q hq; simp only [List.mem_cons, List.not_mem_nil, or_false] at hq; subst hq; exact wf_near _ (by omega))).rd
    simpa using this
  have hrd := rdS_lit (w.alloc (.cells #[.int .i64 k] 3)) [.slice (some ⟨w.heap.size, 0, none⟩) 1 1, .slice A0 a.length c0, .slice A1 b.length c1] [[k], a, b] rfl (by simp) (by
    intro j u zs hu hz
    rcases j with _ | _ | _ | j
    · simp at hu hz; subst hu; subst hz; exact l1
    · simp at hu hz; subst hu; subst hz; exact h0.step hb1
    · simp at hu hz; subst hu; subst hz; exact h1.step hb1
    · simp at hu)
  simp only [World.size_alloc, List.length_cons, List.length_nil] at hrd
  exact ⟨hrd, hb1.alloc (by simp) _⟩
theorem progType_any (v0 v1 : Value) (a b : List Int) (w : World) (h0 : RdI w v0 a) (h1 : RdI w v1 b) (hl : a.length + b.length ≤ 100000) :
    Calls Tryz.prog 66 #[v0, v1] w fun e w' => ∃ u, e = .returned u ∧ OwnI w' w.heap.size w'.heap.size u (2 :: (a ++ b)) ∧ Below w.heap.size w w' := by
  have h0' := h0
  have h1' := h1
  obtain ⟨A0, c0, rfl, _⟩ := h0
  obtain ⟨A1, c1, rfl, _⟩ := h1
  obtain ⟨k1, k2⟩ := three_rows w 2 (by omega) A0 A1 c0 c1 a b h0' h1'
  have V := Lib.hid (And.intro k1 k2); clear k1 k2 h0' h1'
  have hfl : ([[2], a, b] : List (List Int)).flatten = 2 :: (a ++ b) := by simp
  have Hfl := Lib.hid hfl; clear hfl
  go_enter Tryz.func66, Tryz.ntmps66
  go_wp2_with fail
  refine (concatS _ [[2], a, b] _ V.out.1 (by simp) (by rw [Hfl.out]; simp; omega)).mono ?_
  rw [Hfl.out]
  rintro e w4 ⟨q, rfl, ho, hb⟩
  have X := Lib.hid (And.intro ((ho.mono (show w.heap.size ≤ _ by simp; omega)).within) (V.out.2.trans (hb.mono (by simp; omega)))); clear ho hb V
  go_wp2
  go_ret
  exact ⟨_, rfl, X.out⟩

def WRow (w : World) (row : List Int) (ts : List (List Int)) (v k : Value) (wr : World) : Prop := ∃ (j : Nat), k = .int .i64 j ∧ j ≤ ts.length ∧ RdI wr v (putsW row (ts.take j)) ∧ (1 ≤ j → OwnI wr w.heap.size wr.heap.size v (putsW row (ts.take j))) ∧ Below w.heap.size w wr
theorem putsW_len (row : List Int) (ts : List (List Int)) (h : ∀ t ∈ ts, t.length ≤ 100) : (putsW row ts).length ≤ row.length + 101 * ts.length := by
  induction ts generalizing row with
  | nil => simp [putsW]
  | cons t r ih =>
    have := ih (putW row t) (fun q hq => h q (by simp [hq]))
    have h1 := h t (by simp)
    simp only [putsW, List.foldl_cons] at this ⊢
    simp only [putW, List.length_cons, List.length_append] at this ⊢
    omega
theorem withValues_any (v tv : Value) (row : List Int) (ts : List (List Int)) (w : World) (h0 : RdI w v row) (h1 : RdS w tv ts) (hn : 1 ≤ ts.length ∧ ts.length ≤ 10) (hr : row.length ≤ 1000) (ht : ∀ t ∈ ts, t.length ≤ 100) :
    Calls Tryz.prog 67 #[v, tv] w fun e w' => ∃ u, e = .returned u ∧ OwnI w' w.heap.size w'.heap.size u (putsW row ts) ∧ Below w.heap.size w w' := by
  obtain ⟨A, c, rfl, hm, hrr⟩ := h1
  have Hr := Lib.hid hrr; clear hrr
  have Hlen := Lib.hid (fun j => putsW_len row (ts.take j) (fun q hq => ht q (List.mem_of_mem_take hq)))
  have hst : WRow w row ts v (.int .i64 ((0 : Nat) : Int)) w := ⟨0, rfl, Nat.zero_le _, by simpa [putsW] using h0, fun h => by omega, Below.refl _ _⟩
  have Hst := Lib.hid hst; clear hst h0
  go_enter Tryz.func67, Tryz.ntmps67
  go_wp2
  go_loopw [0, 9] (fun v k wr => WRow w row ts v k wr) (fun _ k _ => ts.length - (intOf k).toNat)
  case atStart => exact Hst.out
  case round =>
    clear Hst
    obtain ⟨j, rfl, hj, hrd, hown, hbw⟩ := hrel
    have hsw := hbw.size
    by_cases hlt : j < ts.length
    · obtain ⟨b, off, rfl, hb, hc⟩ := Hr.out (by omega)
      have hz : ts[j]? = some ts[j] := List.getElem?_eq_getElem hlt
      have htl : ts[j].length ≤ 100 := ht _ (List.getElem_mem hlt)
      have hsucc : putsW row (ts.take (j + 1)) = 4 :: (putsW row (ts.take j) ++ ts[j]) := by
        rw [List.take_add_one, hz, putsW, List.foldl_append]; rfl
      have hlp : (putsW row (ts.take j)).length ≤ 3000 := by have h1 := Hlen.out j; rw [List.length_take] at h1; omega
      obtain ⟨u, hcell, hu⟩ := hc j _ hz
      replace hcell := (hbw.cell (p := ⟨b, off + j, none⟩) hb).trans hcell
      have hrdu := (hu.below hbw).rd (by omega)
      have Hs := Lib.hid hsucc; clear hsucc hc hz hu hown
      generalize putsW row (ts.take j) = rw0 at *
      generalize ts[j] = t0 at *
      have hrd' := hrd
      have hrdu' := hrdu
      obtain ⟨A0, c0, rfl, _⟩ := hrd
      obtain ⟨A1, c1, rfl, _⟩ := hrdu
      obtain ⟨k1, k2⟩ := three_rows wr 4 (by omega) A0 A1 c0 c1 rw0 t0 hrd' hrdu'
      have V := Lib.hid (And.intro k1 (And.intro k2 (hbw.trans (k2.mono hsw)))); clear k1 k2 hrd' hrdu' hbw
      have hfl : ([[4], rw0, t0] : List (List Int)).flatten = 4 :: (rw0 ++ t0) := by simp
      have Hfl := Lib.hid hfl; clear hfl
      have hltI : (j : Int) < ts.length := by omega
      go_wp2_with fail
      refine (concatS _ [[4], rw0, t0] _ V.out.1 (by simp) (by rw [Hfl.out]; simp; omega)).mono ?_
      rw [Hfl.out, ← Hs.out]
      rintro e w4 ⟨q, rfl, ho, hb4⟩
      have hz4 := hb4.size
      have X := Lib.hid (And.intro ((ho.mono (show w.heap.size ≤ _ by simp; omega)).within) (V.out.2.2.trans (hb4.mono (by simp; omega)))); clear ho hb4 V
      go_wp2
      go_roundw
      case rel => exact ⟨j + 1, by go_num, by omega, X.out.1.rd, fun _ => X.out.1, X.out.2⟩
      case measure => simp [intOf]; omega
    · have hall : ts.take j = ts := List.take_of_length_le (by omega)
      rw [hall] at hown
      have X := Lib.hid (And.intro (hown (by omega)) hbw); clear hown hbw hrd
      go_wp2
      go_ret
      exact ⟨_, rfl, X.out⟩
end Go.Proofs.YtpdhdiidkjgjmaaGreat

/- WordEffect, the program's. (Written by wip/tools/word.py.) -/
namespace Go.Proofs.YtpdhdiidkjgjmaaGreat
set_option maxRecDepth 100000
open Go.RowKit Go.WideShapes

theorem blk_two {w : World} {g : Nat} {a b : Value} {T : TypeId} (h : Blk w g #[a, b] T) : w.cell? ⟨g, 0, none⟩ = some a ∧ w.cell? ⟨g, 1, none⟩ = some b ∧ w.frozen? ⟨g, 0, none⟩ = false ∧ w.frozen? ⟨g, 1, none⟩ = false :=
  ⟨h.cell 0, h.cell 1, h.free 0, h.free 1⟩
theorem blk_two_out {w : World} {g : Nat} {a b x y : Value} {T : TypeId} (h : Blk w g #[a, b] T) : ((w.setCell ⟨g, 0, none⟩ x).setCell ⟨g, 1, none⟩ y).cell? ⟨g, 0, none⟩ = some x ∧ ((w.setCell ⟨g, 0, none⟩ x).setCell ⟨g, 1, none⟩ y).cell? ⟨g, 1, none⟩ = some y :=
  ⟨((h.set 0 x).set 1 y).cell 0, ((h.set 0 x).set 1 y).cell 1⟩
theorem ownI_nil (w : World) (lo hi : Nat) : OwnI w lo hi (.slice none 0 0) [] := ⟨Own.nil _ _, by simp [Value.ownBlock]⟩
def EffPost (w : World) (y0 y1 : List Int) (y2 : Bool) (e : Ending) (w' : World) : Prop := ∃ u0 u1 lo0 hi0 lo1 hi1, e = .returned (.tuple #[.agg #[u0, u1], .bool y2]) ∧ w.heap.size ≤ lo0 ∧ w.heap.size ≤ lo1 ∧ lo0 ≤ hi0 ∧ lo1 ≤ hi1 ∧ (hi0 ≤ lo1 ∨ hi1 ≤ lo0) ∧ hi0 ≤ w'.heap.size ∧ hi1 ≤ w'.heap.size ∧ OwnI w' lo0 hi0 u0 y0 ∧ OwnI w' lo1 hi1 u1 y1 ∧ Below w.heap.size w w'
theorem eff_end {w wE : World} {u0 u1 : Value} {y0 y1 : List Int} {lo0 hi0 lo1 hi1 : Nat} (y2 : Bool) (h0 : OwnI wE lo0 hi0 u0 y0) (h1 : OwnI wE lo1 hi1 u1 y1) (hb : Below w.heap.size w wE) (k0 : w.heap.size + 1 ≤ lo0) (k1 : w.heap.size + 1 ≤ lo1) (k2 : lo0 ≤ hi0) (k3 : lo1 ≤ hi1) (k4 : hi0 ≤ lo1 ∨ hi1 ≤ lo0) (k5 : hi0 ≤ wE.heap.size) (k6 : hi1 ≤ wE.heap.size) :
    EffPost w y0 y1 y2 (.returned (.tuple #[.agg #[u0, u1], .bool y2])) ((wE.setCell ⟨w.heap.size, 0, none⟩ u0).setCell ⟨w.heap.size, 1, none⟩ u1) := by
  have hsz : ((wE.setCell ⟨w.heap.size, 0, none⟩ u0).setCell ⟨w.heap.size, 1, none⟩ u1).heap.size = wE.heap.size := by simp [World.setCell]
  refine ⟨u0, u1, lo0, hi0, lo1, hi1, rfl, by omega, by omega, k2, k3, k4, by omega, by omega, ?_, ?_, (hb.setCell (Nat.le_refl _) _).setCell (Nat.le_refl _) _⟩
  · exact (h0.apart (within_setCell _ w.heap.size 0 u0) (.inr (by omega))).apart (within_setCell _ w.heap.size 1 u1) (.inr (by omega))
  · exact (h1.apart (within_setCell _ w.heap.size 0 u0) (.inr (by omega))).apart (within_setCell _ w.heap.size 1 u1) (.inr (by omega))

set_option maxHeartbeats 8000000 in
theorem WordEffect_I (n : Int) (w : World) (hn : InK .i64 n) (y0 y1 : List Int) (y2 : Bool) (hR : wordR n = (y0, y1, y2)) :
    Calls Tryz.prog 35 #[.int .i64 n] w (EffPost w y0 y1 y2) := by
  obtain ⟨zr0, hr0⟩ : ∃ z : List Int, [3, 0] = z := ⟨_, rfl⟩
  obtain ⟨zr1, hr1⟩ : ∃ z : List Int, [3, 1] = z := ⟨_, rfl⟩
  obtain ⟨zt0, ht0⟩ : ∃ z : List Int, [1, 0] = z := ⟨_, rfl⟩
  obtain ⟨zt1, ht1⟩ : ∃ z : List Int, [1, 1] = z := ⟨_, rfl⟩
  obtain ⟨zn, hzn⟩ : ∃ z : List Int, [0] = z := ⟨_, rfl⟩
  obtain ⟨zp, hzp⟩ : ∃ z : List Int, progW = z := ⟨_, rfl⟩
  obtain ⟨zq, hzq⟩ : ∃ z : List Int, [2, 3, 0, 3, 0] = z := ⟨_, rfl⟩
  have hp2 : 2 :: (zr0 ++ zr1) = zp := by rw [← hr0, ← hr1, ← hzp]; rfl
  have hq2 : 2 :: (zr0 ++ zr0) = zq := by rw [← hr0, ← hzq]; rfl
  have l0 : zr0.length ≤ 5 := by rw [← hr0]; decide
  have l1 : zr1.length ≤ 5 := by rw [← hr1]; decide
  have l2 : zt0.length ≤ 5 := by rw [← ht0]; decide
  have l3 : zt1.length ≤ 5 := by rw [← ht1]; decide
  have l4 : zn.length ≤ 5 := by rw [← hzn]; decide
  have l5 : zp.length ≤ 5 := by rw [← hzp]; decide
  have l6 : zq.length ≤ 5 := by rw [← hzq]; decide
  have HQ : Hid (2 :: (zr0 ++ zr0) = zq ∧ zr0 = [3, 0] ∧ zr1 = [3, 1] ∧ zt0 = [1, 0] ∧ zt1 = [1, 1] ∧ zn = [0] ∧ zp = progW ∧ zq = [2, 3, 0, 3, 0]) := Lib.hid ⟨hq2, hr0.symm, hr1.symm, ht0.symm, ht1.symm, hzn.symm, hzp.symm, hzq.symm⟩
  have HP := Lib.hid hp2
  have HR := Lib.hid hR
  have H0 := Lib.hid hr0; have H1 := Lib.hid hr1; have T0 := Lib.hid ht0; have T1 := Lib.hid ht1; have N0 := Lib.hid hzn
  clear hR hr0 hr1 ht0 ht1 hzn hzp hzq hp2 hq2
  have hal : Below w.heap.size w (w.alloc (.cells #[.slice none 0 0, .slice none 0 0] 72)) := (Below.refl _ _).alloc (Nat.le_refl _) _
  have hbk := Blk.new w #[.slice none 0 0, .slice none 0 0] 72
  have S0 := Lib.hid (And.intro hal hbk); clear hal hbk
  go_enter Tryz.func35, Tryz.ntmps35
  go_wp2_with fail
  refine (rowLetter_any 0 _ (by omega)).mono ?_
  rw [H0.out]
  rintro e w1 ⟨u0, rfl, o0, hb⟩
  rw [World.size_alloc] at o0
  have hs1 : w.heap.size + 1 ≤ w1.heap.size := by have := hb.size; rw [World.size_alloc] at this; exact this
  have S1 := Lib.hid (And.intro o0 (And.intro (S0.out.1.trans (hb.mono (by rw [World.size_alloc]; omega))) (S0.out.2.below hb (by rw [World.size_alloc]; omega)))); clear S0 o0 hb
  go_wp2_with fail
  refine (rowLetter_any 1 _ (by omega)).mono ?_
  rw [H1.out]
  rintro e w2 ⟨u1, rfl, o1, hb⟩
  have hs2 := hb.size
  have S2 := Lib.hid (And.intro (S1.out.1.below hb) (And.intro o1 (And.intro (S1.out.2.1.trans (hb.mono (by omega))) (S1.out.2.2.below hb (by omega))))); clear S1 o1 hb
  go_wp2_with fail
  refine (typeLetter_any 0 _ (by omega)).mono ?_
  rw [T0.out]
  rintro e w3 ⟨u2, rfl, o2, hb⟩
  have hs3 := hb.size
  have S3 := Lib.hid (And.intro (S2.out.1.below hb) (And.intro (S2.out.2.1.below hb) (And.intro o2 (And.intro (S2.out.2.2.1.trans (hb.mono (by omega))) (S2.out.2.2.2.below hb (by omega)))))); clear S2 o2 hb
  go_wp2_with fail
  refine (typeLetter_any 1 _ (by omega)).mono ?_
  rw [T1.out]
  rintro e w4 ⟨u3, rfl, o3, hb⟩
  have hs4 := hb.size
  have S4 := Lib.hid (And.intro (S3.out.1.below hb) (And.intro (S3.out.2.1.below hb) (And.intro (S3.out.2.2.1.below hb) (And.intro o3 (And.intro (S3.out.2.2.2.1.trans (hb.mono (by omega))) (S3.out.2.2.2.2.below hb (by omega))))))); clear S3 o3 hb
  obtain ⟨Ar0, cr0, rfl, _⟩ := S4.out.1.rd
  obtain ⟨Ar1, cr1, rfl, _⟩ := S4.out.2.1.rd
  obtain ⟨At0, ct0, rfl, _⟩ := S4.out.2.2.1.rd
  obtain ⟨At1, ct1, rfl, _⟩ := S4.out.2.2.2.1.rd
  have hal : Below w4.heap.size w4 (w4.alloc (.cells #[.int .i64 0] 3)) := (Below.refl _ _).alloc (Nat.le_refl _) _
  have on := lits_own w4 [0] (by simp) (by intro q hq; simp only [List.mem_cons, List.not_mem_nil, or_false] at hq; subst hq; exact wf_near _ (by omega))
  rw [N0.out] at on
  have on2 : OwnI (w4.alloc (.cells #[.int .i64 0] 3)) w4.heap.size (w4.heap.size + 1) (.slice (some ⟨w4.heap.size, 0, none⟩) 1 1) zn := by
    have hl1 : zn.length = 1 := by rw [← N0.out]; rfl
    have hm1 : zn.map (Value.int .i64) = [.int .i64 0] := by rw [← N0.out]; rfl
    rw [hl1, hm1] at on; exact on
  have S5 := Lib.hid (And.intro (S4.out.1.below hal) (And.intro (S4.out.2.1.below hal) (And.intro (S4.out.2.2.1.below hal) (And.intro (S4.out.2.2.2.1.below hal) (And.intro on2 (And.intro (S4.out.2.2.2.2.1.trans (hal.mono (by omega))) (S4.out.2.2.2.2.2.below hal (by omega)))))))); clear S4 on on2 hal
  go_wp2_with fail
  refine (progType_any _ _ zr0 zr1 _ S5.out.1.rd S5.out.2.1.rd (by omega)).mono ?_
  rw [HP.out]
  rintro e w5 ⟨u5, rfl, ho, hb⟩
  rw [World.size_alloc] at ho
  have hs5 : w4.heap.size + 1 ≤ w5.heap.size := by have := hb.size; rw [World.size_alloc] at this; exact this
  obtain ⟨Ap, cp, rfl, _⟩ := ho.rd
  have P5 : Hid (OwnI w5 (w.heap.size + 1) (w1.heap.size) (.slice Ar0 zr0.length cr0) zr0 ∧ OwnI w5 (w1.heap.size) (w2.heap.size) (.slice Ar1 zr1.length cr1) zr1 ∧ OwnI w5 (w2.heap.size) (w3.heap.size) (.slice At0 zt0.length ct0) zt0 ∧ OwnI w5 (w3.heap.size) (w4.heap.size) (.slice At1 zt1.length ct1) zt1 ∧ OwnI w5 (w4.heap.size) (w4.heap.size + 1) (.slice (some ⟨w4.heap.size, 0, none⟩) 1 1) zn ∧ OwnI w5 (w4.heap.size + 1) (w5.heap.size) (.slice Ap zp.length cp) zp ∧ Below w.heap.size w w5 ∧ Blk w5 w.heap.size #[.slice none 0 0, .slice none 0 0] 72) := Lib.hid ⟨S5.out.1.below hb, S5.out.2.1.below hb, S5.out.2.2.1.below hb, S5.out.2.2.2.1.below hb, S5.out.2.2.2.2.1.below hb, ho, S5.out.2.2.2.2.2.1.trans (hb.mono (by rw [World.size_alloc]; omega)), S5.out.2.2.2.2.2.2.below hb (by rw [World.size_alloc]; omega)⟩
  clear S5 ho hb H0 H1 T0 T1 N0
  by_cases hz : 0 ≤ n ∧ n ≤ 999
  · have hb : isNumB n = true := by simp [isNumB, hz.1, hz.2]
    have HB := Lib.hid hb; clear hb
    go_wp2_with fail
    refine (isNum_any n _).mono ?_
    rw [HB.out]
    rintro e w' ⟨rfl, rfl⟩
    have he : (zr0, putsW zr0 [zn], true) = (y0, y1, y2) := by rw [← HR.out, HQ.out.2.1, HQ.out.2.2.2.2.2.1]; simp [wordR, hz.1, hz.2]
    obtain ⟨rfl, rfl, rfl⟩ : zr0 = y0 ∧ putsW zr0 [zn] = y1 ∧ true = y2 := by simpa using he
    clear he
    have hal5 : Below w5.heap.size w5 (w5.alloc (.cells #[.slice (some ⟨w4.heap.size, 0, none⟩) 1 1] 23)) := (Below.refl _ _).alloc (Nat.le_refl _) _
    have hrd5 := rdS_lit w5 [.slice (some ⟨w4.heap.size, 0, none⟩) 1 1] [zn] rfl (by simp) (by
      intro j u zs hu hz
      rcases j with _ | j
      · simp at hu hz; subst hu; subst hz; exact (P5.out.2.2.2.2.1).rd
      · simp at hu)
    simp only [List.length_cons, List.length_nil] at hrd5
    go_wp2_with fail
    refine (withValues_any _ _ zr0 [zn] _ ((P5.out.1).below hal5).rd hrd5 ⟨by simp, by simp⟩ (by omega) (by simp only [List.mem_cons, List.not_mem_nil, or_false]; intro t ht; rcases ht with rfl <;> omega)).mono ?_
    rintro e w6 ⟨ux, rfl, ho, hb⟩
    obtain ⟨Ax, cx, rfl, _⟩ := ho.rd
    have hs6 : w5.heap.size + 1 ≤ w6.heap.size := by have := hb.size; rw [World.size_alloc] at this; exact this
    replace hb : Below w5.heap.size w5 w6 := hal5.trans (hb.mono (by rw [World.size_alloc]; omega))
    rw [World.size_alloc] at ho
    have P6 : Hid (OwnI w6 (w.heap.size + 1) (w1.heap.size) (.slice Ar0 zr0.length cr0) zr0 ∧ OwnI w6 (w1.heap.size) (w2.heap.size) (.slice Ar1 zr1.length cr1) zr1 ∧ OwnI w6 (w2.heap.size) (w3.heap.size) (.slice At0 zt0.length ct0) zt0 ∧ OwnI w6 (w3.heap.size) (w4.heap.size) (.slice At1 zt1.length ct1) zt1 ∧ OwnI w6 (w4.heap.size) (w4.heap.size + 1) (.slice (some ⟨w4.heap.size, 0, none⟩) 1 1) zn ∧ OwnI w6 (w4.heap.size + 1) (w5.heap.size) (.slice Ap zp.length cp) zp ∧ OwnI w6 (w5.heap.size + 1) (w6.heap.size) (.slice Ax (putsW zr0 [zn]).length cx) (putsW zr0 [zn]) ∧ Below w.heap.size w w6 ∧ Blk w6 w.heap.size #[.slice none 0 0, .slice none 0 0] 72) := Lib.hid ⟨(P5.out.1).below hb, (P5.out.2.1).below hb, (P5.out.2.2.1).below hb, (P5.out.2.2.2.1).below hb, (P5.out.2.2.2.2.1).below hb, (P5.out.2.2.2.2.2.1).below hb, ho, (P5.out.2.2.2.2.2.2.1).trans (hb.mono (by omega)), (P5.out.2.2.2.2.2.2.2).below hb (by omega)⟩
    clear hb ho hal5 hrd5 P5
    obtain ⟨cc0, cc1, ff0, ff1⟩ := blk_two (P6.out.2.2.2.2.2.2.2.2)
    obtain ⟨e0, e1⟩ := blk_two_out (P6.out.2.2.2.2.2.2.2.2) (x := .slice Ar0 zr0.length cr0) (y := .slice Ax (putsW zr0 [zn]).length cx)
    have R := Lib.hid (eff_end true (P6.out.1) (P6.out.2.2.2.2.2.2.1) (P6.out.2.2.2.2.2.2.2.1) (by omega) (by omega) (by omega) (by omega) (by omega) (by omega) (by omega))
    clear P6
    go_wp2
    refine bodyPost_ret (v := .tuple #[.agg #[.slice Ar0 zr0.length cr0, .slice Ax (putsW zr0 [zn]).length cx], .bool true]) (by simp [results, Tryz.results35, go_sem, e0, e1]) rfl ?_
    exact R.out
  have hb : isNumB n = false := by
    rcases h : isNumB n with _ | _
    · rfl
    · simp only [isNumB, Bool.and_eq_true, decide_eq_true_eq] at h; exact absurd h hz
  have HB := Lib.hid hb; clear hb
  go_wp2_with fail
  refine (isNum_any n _).mono ?_
  rw [HB.out]
  rintro e w' ⟨rfl, rfl⟩
  have HZ := Lib.hid hz
  clear HB hz
  by_cases h1001 : n = 1001
  · subst h1001
    have he : (putsW zr0 [zt0], putsW zr0 [zt0, zt0], true) = (y0, y1, y2) := by rw [← HR.out, HQ.out.2.1, HQ.out.2.2.2.1]; simp [wordR]
    obtain ⟨rfl, rfl, rfl⟩ : putsW zr0 [zt0] = y0 ∧ putsW zr0 [zt0, zt0] = y1 ∧ true = y2 := by simpa using he
    clear he
    have hal5 : Below w5.heap.size w5 (w5.alloc (.cells #[.slice At0 zt0.length ct0] 23)) := (Below.refl _ _).alloc (Nat.le_refl _) _
    have hrd5 := rdS_lit w5 [.slice At0 zt0.length ct0] [zt0] rfl (by simp) (by
      intro j u zs hu hz
      rcases j with _ | j
      · simp at hu hz; subst hu; subst hz; exact (P5.out.2.2.1).rd
      · simp at hu)
    simp only [List.length_cons, List.length_nil] at hrd5
    go_wp2_with fail
    refine (withValues_any _ _ zr0 [zt0] _ ((P5.out.1).below hal5).rd hrd5 ⟨by simp, by simp⟩ (by omega) (by simp only [List.mem_cons, List.not_mem_nil, or_false]; intro t ht; rcases ht with rfl <;> omega)).mono ?_
    rintro e w6 ⟨ux, rfl, ho, hb⟩
    obtain ⟨Ax, cx, rfl, _⟩ := ho.rd
    have hs6 : w5.heap.size + 1 ≤ w6.heap.size := by have := hb.size; rw [World.size_alloc] at this; exact this
    replace hb : Below w5.heap.size w5 w6 := hal5.trans (hb.mono (by rw [World.size_alloc]; omega))
    rw [World.size_alloc] at ho
    have P6 : Hid (OwnI w6 (w.heap.size + 1) (w1.heap.size) (.slice Ar0 zr0.length cr0) zr0 ∧ OwnI w6 (w1.heap.size) (w2.heap.size) (.slice Ar1 zr1.length cr1) zr1 ∧ OwnI w6 (w2.heap.size) (w3.heap.size) (.slice At0 zt0.length ct0) zt0 ∧ OwnI w6 (w3.heap.size) (w4.heap.size) (.slice At1 zt1.length ct1) zt1 ∧ OwnI w6 (w4.heap.size) (w4.heap.size + 1) (.slice (some ⟨w4.heap.size, 0, none⟩) 1 1) zn ∧ OwnI w6 (w4.heap.size + 1) (w5.heap.size) (.slice Ap zp.length cp) zp ∧ OwnI w6 (w5.heap.size + 1) (w6.heap.size) (.slice Ax (putsW zr0 [zt0]).length cx) (putsW zr0 [zt0]) ∧ Below w.heap.size w w6 ∧ Blk w6 w.heap.size #[.slice none 0 0, .slice none 0 0] 72) := Lib.hid ⟨(P5.out.1).below hb, (P5.out.2.1).below hb, (P5.out.2.2.1).below hb, (P5.out.2.2.2.1).below hb, (P5.out.2.2.2.2.1).below hb, (P5.out.2.2.2.2.2.1).below hb, ho, (P5.out.2.2.2.2.2.2.1).trans (hb.mono (by omega)), (P5.out.2.2.2.2.2.2.2).below hb (by omega)⟩
    clear hb ho hal5 hrd5 P5
    have hal6 : Below w6.heap.size w6 (w6.alloc (.cells #[.slice At0 zt0.length ct0, .slice At0 zt0.length ct0] 23)) := (Below.refl _ _).alloc (Nat.le_refl _) _
    have hrd6 := rdS_lit w6 [.slice At0 zt0.length ct0, .slice At0 zt0.length ct0] [zt0, zt0] rfl (by simp) (by
      intro j u zs hu hz
      rcases j with _ | _ | j
      · simp at hu hz; subst hu; subst hz; exact (P6.out.2.2.1).rd
      · simp at hu hz; subst hu; subst hz; exact (P6.out.2.2.1).rd
      · simp at hu)
    simp only [List.length_cons, List.length_nil] at hrd6
    go_wp2_with fail
    refine (withValues_any _ _ zr0 [zt0, zt0] _ ((P6.out.1).below hal6).rd hrd6 ⟨by simp, by simp⟩ (by omega) (by simp only [List.mem_cons, List.not_mem_nil, or_false]; intro t ht; rcases ht with rfl | rfl <;> omega)).mono ?_
    rintro e w7 ⟨uy, rfl, ho, hb⟩
    obtain ⟨Ay, cy, rfl, _⟩ := ho.rd
    have hs7 : w6.heap.size + 1 ≤ w7.heap.size := by have := hb.size; rw [World.size_alloc] at this; exact this
    replace hb : Below w6.heap.size w6 w7 := hal6.trans (hb.mono (by rw [World.size_alloc]; omega))
    rw [World.size_alloc] at ho
    have P7 : Hid (OwnI w7 (w.heap.size + 1) (w1.heap.size) (.slice Ar0 zr0.length cr0) zr0 ∧ OwnI w7 (w1.heap.size) (w2.heap.size) (.slice Ar1 zr1.length cr1) zr1 ∧ OwnI w7 (w2.heap.size) (w3.heap.size) (.slice At0 zt0.length ct0) zt0 ∧ OwnI w7 (w3.heap.size) (w4.heap.size) (.slice At1 zt1.length ct1) zt1 ∧ OwnI w7 (w4.heap.size) (w4.heap.size + 1) (.slice (some ⟨w4.heap.size, 0, none⟩) 1 1) zn ∧ OwnI w7 (w4.heap.size + 1) (w5.heap.size) (.slice Ap zp.length cp) zp ∧ OwnI w7 (w5.heap.size + 1) (w6.heap.size) (.slice Ax (putsW zr0 [zt0]).length cx) (putsW zr0 [zt0]) ∧ OwnI w7 (w6.heap.size + 1) (w7.heap.size) (.slice Ay (putsW zr0 [zt0, zt0]).length cy) (putsW zr0 [zt0, zt0]) ∧ Below w.heap.size w w7 ∧ Blk w7 w.heap.size #[.slice none 0 0, .slice none 0 0] 72) := Lib.hid ⟨(P6.out.1).below hb, (P6.out.2.1).below hb, (P6.out.2.2.1).below hb, (P6.out.2.2.2.1).below hb, (P6.out.2.2.2.2.1).below hb, (P6.out.2.2.2.2.2.1).below hb, (P6.out.2.2.2.2.2.2.1).below hb, ho, (P6.out.2.2.2.2.2.2.2.1).trans (hb.mono (by omega)), (P6.out.2.2.2.2.2.2.2.2).below hb (by omega)⟩
    clear hb ho hal6 hrd6 P6
    obtain ⟨cc0, cc1, ff0, ff1⟩ := blk_two (P7.out.2.2.2.2.2.2.2.2.2)
    obtain ⟨e0, e1⟩ := blk_two_out (P7.out.2.2.2.2.2.2.2.2.2) (x := .slice Ax (putsW zr0 [zt0]).length cx) (y := .slice Ay (putsW zr0 [zt0, zt0]).length cy)
    have R := Lib.hid (eff_end true (P7.out.2.2.2.2.2.2.1) (P7.out.2.2.2.2.2.2.2.1) (P7.out.2.2.2.2.2.2.2.2.1) (by omega) (by omega) (by omega) (by omega) (by omega) (by omega) (by omega))
    clear P7
    go_wp2
    refine bodyPost_ret (v := .tuple #[.agg #[.slice Ax (putsW zr0 [zt0]).length cx, .slice Ay (putsW zr0 [zt0, zt0]).length cy], .bool true]) (by simp [results, Tryz.results35, go_sem, e0, e1]) rfl ?_
    exact R.out
  have b1001 : (n == 1001) = false := by simpa using h1001
  by_cases h1002 : n = 1002
  · subst h1002
    have he : (putsW zr0 [zt0], zr0, true) = (y0, y1, y2) := by rw [← HR.out, HQ.out.2.1, HQ.out.2.2.2.1]; simp [wordR]
    obtain ⟨rfl, rfl, rfl⟩ : putsW zr0 [zt0] = y0 ∧ zr0 = y1 ∧ true = y2 := by simpa using he
    clear he
    have hal5 : Below w5.heap.size w5 (w5.alloc (.cells #[.slice At0 zt0.length ct0] 23)) := (Below.refl _ _).alloc (Nat.le_refl _) _
    have hrd5 := rdS_lit w5 [.slice At0 zt0.length ct0] [zt0] rfl (by simp) (by
      intro j u zs hu hz
      rcases j with _ | j
      · simp at hu hz; subst hu; subst hz; exact (P5.out.2.2.1).rd
      · simp at hu)
    simp only [List.length_cons, List.length_nil] at hrd5
    go_wp2_with fail
    refine (withValues_any _ _ zr0 [zt0] _ ((P5.out.1).below hal5).rd hrd5 ⟨by simp, by simp⟩ (by omega) (by simp only [List.mem_cons, List.not_mem_nil, or_false]; intro t ht; rcases ht with rfl <;> omega)).mono ?_
    rintro e w6 ⟨ux, rfl, ho, hb⟩
    obtain ⟨Ax, cx, rfl, _⟩ := ho.rd
    have hs6 : w5.heap.size + 1 ≤ w6.heap.size := by have := hb.size; rw [World.size_alloc] at this; exact this
    replace hb : Below w5.heap.size w5 w6 := hal5.trans (hb.mono (by rw [World.size_alloc]; omega))
    rw [World.size_alloc] at ho
    have P6 : Hid (OwnI w6 (w.heap.size + 1) (w1.heap.size) (.slice Ar0 zr0.length cr0) zr0 ∧ OwnI w6 (w1.heap.size) (w2.heap.size) (.slice Ar1 zr1.length cr1) zr1 ∧ OwnI w6 (w2.heap.size) (w3.heap.size) (.slice At0 zt0.length ct0) zt0 ∧ OwnI w6 (w3.heap.size) (w4.heap.size) (.slice At1 zt1.length ct1) zt1 ∧ OwnI w6 (w4.heap.size) (w4.heap.size + 1) (.slice (some ⟨w4.heap.size, 0, none⟩) 1 1) zn ∧ OwnI w6 (w4.heap.size + 1) (w5.heap.size) (.slice Ap zp.length cp) zp ∧ OwnI w6 (w5.heap.size + 1) (w6.heap.size) (.slice Ax (putsW zr0 [zt0]).length cx) (putsW zr0 [zt0]) ∧ Below w.heap.size w w6 ∧ Blk w6 w.heap.size #[.slice none 0 0, .slice none 0 0] 72) := Lib.hid ⟨(P5.out.1).below hb, (P5.out.2.1).below hb, (P5.out.2.2.1).below hb, (P5.out.2.2.2.1).below hb, (P5.out.2.2.2.2.1).below hb, (P5.out.2.2.2.2.2.1).below hb, ho, (P5.out.2.2.2.2.2.2.1).trans (hb.mono (by omega)), (P5.out.2.2.2.2.2.2.2).below hb (by omega)⟩
    clear hb ho hal5 hrd5 P5
    obtain ⟨cc0, cc1, ff0, ff1⟩ := blk_two (P6.out.2.2.2.2.2.2.2.2)
    obtain ⟨e0, e1⟩ := blk_two_out (P6.out.2.2.2.2.2.2.2.2) (x := .slice Ax (putsW zr0 [zt0]).length cx) (y := .slice Ar0 zr0.length cr0)
    have R := Lib.hid (eff_end true (P6.out.2.2.2.2.2.2.1) (P6.out.1) (P6.out.2.2.2.2.2.2.2.1) (by omega) (by omega) (by omega) (by omega) (by omega) (by omega) (by omega))
    clear P6
    go_wp2
    refine bodyPost_ret (v := .tuple #[.agg #[.slice Ax (putsW zr0 [zt0]).length cx, .slice Ar0 zr0.length cr0], .bool true]) (by simp [results, Tryz.results35, go_sem, e0, e1]) rfl ?_
    exact R.out
  have b1002 : (n == 1002) = false := by simpa using h1002
  by_cases h1003 : n = 1003
  · subst h1003
    have he : (putsW zr0 [zt0, zt1], putsW zr0 [zt1, zt0], true) = (y0, y1, y2) := by rw [← HR.out, HQ.out.2.1, HQ.out.2.2.2.1, HQ.out.2.2.2.2.1]; simp [wordR]
    obtain ⟨rfl, rfl, rfl⟩ : putsW zr0 [zt0, zt1] = y0 ∧ putsW zr0 [zt1, zt0] = y1 ∧ true = y2 := by simpa using he
    clear he
    have hal5 : Below w5.heap.size w5 (w5.alloc (.cells #[.slice At0 zt0.length ct0, .slice At1 zt1.length ct1] 23)) := (Below.refl _ _).alloc (Nat.le_refl _) _
    have hrd5 := rdS_lit w5 [.slice At0 zt0.length ct0, .slice At1 zt1.length ct1] [zt0, zt1] rfl (by simp) (by
      intro j u zs hu hz
      rcases j with _ | _ | j
      · simp at hu hz; subst hu; subst hz; exact (P5.out.2.2.1).rd
      · simp at hu hz; subst hu; subst hz; exact (P5.out.2.2.2.1).rd
      · simp at hu)
    simp only [List.length_cons, List.length_nil] at hrd5
    go_wp2_with fail
    refine (withValues_any _ _ zr0 [zt0, zt1] _ ((P5.out.1).below hal5).rd hrd5 ⟨by simp, by simp⟩ (by omega) (by simp only [List.mem_cons, List.not_mem_nil, or_false]; intro t ht; rcases ht with rfl | rfl <;> omega)).mono ?_
    rintro e w6 ⟨ux, rfl, ho, hb⟩
    obtain ⟨Ax, cx, rfl, _⟩ := ho.rd
    have hs6 : w5.heap.size + 1 ≤ w6.heap.size := by have := hb.size; rw [World.size_alloc] at this; exact this
    replace hb : Below w5.heap.size w5 w6 := hal5.trans (hb.mono (by rw [World.size_alloc]; omega))
    rw [World.size_alloc] at ho
    have P6 : Hid (OwnI w6 (w.heap.size + 1) (w1.heap.size) (.slice Ar0 zr0.length cr0) zr0 ∧ OwnI w6 (w1.heap.size) (w2.heap.size) (.slice Ar1 zr1.length cr1) zr1 ∧ OwnI w6 (w2.heap.size) (w3.heap.size) (.slice At0 zt0.length ct0) zt0 ∧ OwnI w6 (w3.heap.size) (w4.heap.size) (.slice At1 zt1.length ct1) zt1 ∧ OwnI w6 (w4.heap.size) (w4.heap.size + 1) (.slice (some ⟨w4.heap.size, 0, none⟩) 1 1) zn ∧ OwnI w6 (w4.heap.size + 1) (w5.heap.size) (.slice Ap zp.length cp) zp ∧ OwnI w6 (w5.heap.size + 1) (w6.heap.size) (.slice Ax (putsW zr0 [zt0, zt1]).length cx) (putsW zr0 [zt0, zt1]) ∧ Below w.heap.size w w6 ∧ Blk w6 w.heap.size #[.slice none 0 0, .slice none 0 0] 72) := Lib.hid ⟨(P5.out.1).below hb, (P5.out.2.1).below hb, (P5.out.2.2.1).below hb, (P5.out.2.2.2.1).below hb, (P5.out.2.2.2.2.1).below hb, (P5.out.2.2.2.2.2.1).below hb, ho, (P5.out.2.2.2.2.2.2.1).trans (hb.mono (by omega)), (P5.out.2.2.2.2.2.2.2).below hb (by omega)⟩
    clear hb ho hal5 hrd5 P5
    have hal6 : Below w6.heap.size w6 (w6.alloc (.cells #[.slice At1 zt1.length ct1, .slice At0 zt0.length ct0] 23)) := (Below.refl _ _).alloc (Nat.le_refl _) _
    have hrd6 := rdS_lit w6 [.slice At1 zt1.length ct1, .slice At0 zt0.length ct0] [zt1, zt0] rfl (by simp) (by
      intro j u zs hu hz
      rcases j with _ | _ | j
      · simp at hu hz; subst hu; subst hz; exact (P6.out.2.2.2.1).rd
      · simp at hu hz; subst hu; subst hz; exact (P6.out.2.2.1).rd
      · simp at hu)
    simp only [List.length_cons, List.length_nil] at hrd6
    go_wp2_with fail
    refine (withValues_any _ _ zr0 [zt1, zt0] _ ((P6.out.1).below hal6).rd hrd6 ⟨by simp, by simp⟩ (by omega) (by simp only [List.mem_cons, List.not_mem_nil, or_false]; intro t ht; rcases ht with rfl | rfl <;> omega)).mono ?_
    rintro e w7 ⟨uy, rfl, ho, hb⟩
    obtain ⟨Ay, cy, rfl, _⟩ := ho.rd
    have hs7 : w6.heap.size + 1 ≤ w7.heap.size := by have := hb.size; rw [World.size_alloc] at this; exact this
    replace hb : Below w6.heap.size w6 w7 := hal6.trans (hb.mono (by rw [World.size_alloc]; omega))
    rw [World.size_alloc] at ho
    have P7 : Hid (OwnI w7 (w.heap.size + 1) (w1.heap.size) (.slice Ar0 zr0.length cr0) zr0 ∧ OwnI w7 (w1.heap.size) (w2.heap.size) (.slice Ar1 zr1.length cr1) zr1 ∧ OwnI w7 (w2.heap.size) (w3.heap.size) (.slice At0 zt0.length ct0) zt0 ∧ OwnI w7 (w3.heap.size) (w4.heap.size) (.slice At1 zt1.length ct1) zt1 ∧ OwnI w7 (w4.heap.size) (w4.heap.size + 1) (.slice (some ⟨w4.heap.size, 0, none⟩) 1 1) zn ∧ OwnI w7 (w4.heap.size + 1) (w5.heap.size) (.slice Ap zp.length cp) zp ∧ OwnI w7 (w5.heap.size + 1) (w6.heap.size) (.slice Ax (putsW zr0 [zt0, zt1]).length cx) (putsW zr0 [zt0, zt1]) ∧ OwnI w7 (w6.heap.size + 1) (w7.heap.size) (.slice Ay (putsW zr0 [zt1, zt0]).length cy) (putsW zr0 [zt1, zt0]) ∧ Below w.heap.size w w7 ∧ Blk w7 w.heap.size #[.slice none 0 0, .slice none 0 0] 72) := Lib.hid ⟨(P6.out.1).below hb, (P6.out.2.1).below hb, (P6.out.2.2.1).below hb, (P6.out.2.2.2.1).below hb, (P6.out.2.2.2.2.1).below hb, (P6.out.2.2.2.2.2.1).below hb, (P6.out.2.2.2.2.2.2.1).below hb, ho, (P6.out.2.2.2.2.2.2.2.1).trans (hb.mono (by omega)), (P6.out.2.2.2.2.2.2.2.2).below hb (by omega)⟩
    clear hb ho hal6 hrd6 P6
    obtain ⟨cc0, cc1, ff0, ff1⟩ := blk_two (P7.out.2.2.2.2.2.2.2.2.2)
    obtain ⟨e0, e1⟩ := blk_two_out (P7.out.2.2.2.2.2.2.2.2.2) (x := .slice Ax (putsW zr0 [zt0, zt1]).length cx) (y := .slice Ay (putsW zr0 [zt1, zt0]).length cy)
    have R := Lib.hid (eff_end true (P7.out.2.2.2.2.2.2.1) (P7.out.2.2.2.2.2.2.2.1) (P7.out.2.2.2.2.2.2.2.2.1) (by omega) (by omega) (by omega) (by omega) (by omega) (by omega) (by omega))
    clear P7
    go_wp2
    refine bodyPost_ret (v := .tuple #[.agg #[.slice Ax (putsW zr0 [zt0, zt1]).length cx, .slice Ay (putsW zr0 [zt1, zt0]).length cy], .bool true]) (by simp [results, Tryz.results35, go_sem, e0, e1]) rfl ?_
    exact R.out
  have b1003 : (n == 1003) = false := by simpa using h1003
  by_cases h1004 : n = 1004
  · subst h1004
    have he : (putsW zr0 [zt0, zp], putsW zr1 [zt0], true) = (y0, y1, y2) := by rw [← HR.out, HQ.out.2.1, HQ.out.2.2.1, HQ.out.2.2.2.1, HQ.out.2.2.2.2.2.2.1]; simp [wordR]
    obtain ⟨rfl, rfl, rfl⟩ : putsW zr0 [zt0, zp] = y0 ∧ putsW zr1 [zt0] = y1 ∧ true = y2 := by simpa using he
    clear he
    have hal5 : Below w5.heap.size w5 (w5.alloc (.cells #[.slice At0 zt0.length ct0, .slice Ap zp.length cp] 23)) := (Below.refl _ _).alloc (Nat.le_refl _) _
    have hrd5 := rdS_lit w5 [.slice At0 zt0.length ct0, .slice Ap zp.length cp] [zt0, zp] rfl (by simp) (by
      intro j u zs hu hz
      rcases j with _ | _ | j
      · simp at hu hz; subst hu; subst hz; exact (P5.out.2.2.1).rd
      · simp at hu hz; subst hu; subst hz; exact (P5.out.2.2.2.2.2.1).rd
      · simp at hu)
    simp only [List.length_cons, List.length_nil] at hrd5
    go_wp2_with fail
    refine (withValues_any _ _ zr0 [zt0, zp] _ ((P5.out.1).below hal5).rd hrd5 ⟨by simp, by simp⟩ (by omega) (by simp only [List.mem_cons, List.not_mem_nil, or_false]; intro t ht; rcases ht with rfl | rfl <;> omega)).mono ?_
    rintro e w6 ⟨ux, rfl, ho, hb⟩
    obtain ⟨Ax, cx, rfl, _⟩ := ho.rd
    have hs6 : w5.heap.size + 1 ≤ w6.heap.size := by have := hb.size; rw [World.size_alloc] at this; exact this
    replace hb : Below w5.heap.size w5 w6 := hal5.trans (hb.mono (by rw [World.size_alloc]; omega))
    rw [World.size_alloc] at ho
    have P6 : Hid (OwnI w6 (w.heap.size + 1) (w1.heap.size) (.slice Ar0 zr0.length cr0) zr0 ∧ OwnI w6 (w1.heap.size) (w2.heap.size) (.slice Ar1 zr1.length cr1) zr1 ∧ OwnI w6 (w2.heap.size) (w3.heap.size) (.slice At0 zt0.length ct0) zt0 ∧ OwnI w6 (w3.heap.size) (w4.heap.size) (.slice At1 zt1.length ct1) zt1 ∧ OwnI w6 (w4.heap.size) (w4.heap.size + 1) (.slice (some ⟨w4.heap.size, 0, none⟩) 1 1) zn ∧ OwnI w6 (w4.heap.size + 1) (w5.heap.size) (.slice Ap zp.length cp) zp ∧ OwnI w6 (w5.heap.size + 1) (w6.heap.size) (.slice Ax (putsW zr0 [zt0, zp]).length cx) (putsW zr0 [zt0, zp]) ∧ Below w.heap.size w w6 ∧ Blk w6 w.heap.size #[.slice none 0 0, .slice none 0 0] 72) := Lib.hid ⟨(P5.out.1).below hb, (P5.out.2.1).below hb, (P5.out.2.2.1).below hb, (P5.out.2.2.2.1).below hb, (P5.out.2.2.2.2.1).below hb, (P5.out.2.2.2.2.2.1).below hb, ho, (P5.out.2.2.2.2.2.2.1).trans (hb.mono (by omega)), (P5.out.2.2.2.2.2.2.2).below hb (by omega)⟩
    clear hb ho hal5 hrd5 P5
    have hal6 : Below w6.heap.size w6 (w6.alloc (.cells #[.slice At0 zt0.length ct0] 23)) := (Below.refl _ _).alloc (Nat.le_refl _) _
    have hrd6 := rdS_lit w6 [.slice At0 zt0.length ct0] [zt0] rfl (by simp) (by
      intro j u zs hu hz
      rcases j with _ | j
      · simp at hu hz; subst hu; subst hz; exact (P6.out.2.2.1).rd
      · simp at hu)
    simp only [List.length_cons, List.length_nil] at hrd6
    go_wp2_with fail
    refine (withValues_any _ _ zr1 [zt0] _ ((P6.out.2.1).below hal6).rd hrd6 ⟨by simp, by simp⟩ (by omega) (by simp only [List.mem_cons, List.not_mem_nil, or_false]; intro t ht; rcases ht with rfl <;> omega)).mono ?_
    rintro e w7 ⟨uy, rfl, ho, hb⟩
    obtain ⟨Ay, cy, rfl, _⟩ := ho.rd
    have hs7 : w6.heap.size + 1 ≤ w7.heap.size := by have := hb.size; rw [World.size_alloc] at this; exact this
    replace hb : Below w6.heap.size w6 w7 := hal6.trans (hb.mono (by rw [World.size_alloc]; omega))
    rw [World.size_alloc] at ho
    have P7 : Hid (OwnI w7 (w.heap.size + 1) (w1.heap.size) (.slice Ar0 zr0.length cr0) zr0 ∧ OwnI w7 (w1.heap.size) (w2.heap.size) (.slice Ar1 zr1.length cr1) zr1 ∧ OwnI w7 (w2.heap.size) (w3.heap.size) (.slice At0 zt0.length ct0) zt0 ∧ OwnI w7 (w3.heap.size) (w4.heap.size) (.slice At1 zt1.length ct1) zt1 ∧ OwnI w7 (w4.heap.size) (w4.heap.size + 1) (.slice (some ⟨w4.heap.size, 0, none⟩) 1 1) zn ∧ OwnI w7 (w4.heap.size + 1) (w5.heap.size) (.slice Ap zp.length cp) zp ∧ OwnI w7 (w5.heap.size + 1) (w6.heap.size) (.slice Ax (putsW zr0 [zt0, zp]).length cx) (putsW zr0 [zt0, zp]) ∧ OwnI w7 (w6.heap.size + 1) (w7.heap.size) (.slice Ay (putsW zr1 [zt0]).length cy) (putsW zr1 [zt0]) ∧ Below w.heap.size w w7 ∧ Blk w7 w.heap.size #[.slice none 0 0, .slice none 0 0] 72) := Lib.hid ⟨(P6.out.1).below hb, (P6.out.2.1).below hb, (P6.out.2.2.1).below hb, (P6.out.2.2.2.1).below hb, (P6.out.2.2.2.2.1).below hb, (P6.out.2.2.2.2.2.1).below hb, (P6.out.2.2.2.2.2.2.1).below hb, ho, (P6.out.2.2.2.2.2.2.2.1).trans (hb.mono (by omega)), (P6.out.2.2.2.2.2.2.2.2).below hb (by omega)⟩
    clear hb ho hal6 hrd6 P6
    obtain ⟨cc0, cc1, ff0, ff1⟩ := blk_two (P7.out.2.2.2.2.2.2.2.2.2)
    obtain ⟨e0, e1⟩ := blk_two_out (P7.out.2.2.2.2.2.2.2.2.2) (x := .slice Ax (putsW zr0 [zt0, zp]).length cx) (y := .slice Ay (putsW zr1 [zt0]).length cy)
    have R := Lib.hid (eff_end true (P7.out.2.2.2.2.2.2.1) (P7.out.2.2.2.2.2.2.2.1) (P7.out.2.2.2.2.2.2.2.2.1) (by omega) (by omega) (by omega) (by omega) (by omega) (by omega) (by omega))
    clear P7
    go_wp2
    refine bodyPost_ret (v := .tuple #[.agg #[.slice Ax (putsW zr0 [zt0, zp]).length cx, .slice Ay (putsW zr1 [zt0]).length cy], .bool true]) (by simp [results, Tryz.results35, go_sem, e0, e1]) rfl ?_
    exact R.out
  have b1004 : (n == 1004) = false := by simpa using h1004
  by_cases h1005 : n = 1005
  · subst h1005
    have he : (putsW zr0 [zp], zr1, true) = (y0, y1, y2) := by rw [← HR.out, HQ.out.2.1, HQ.out.2.2.1, HQ.out.2.2.2.2.2.2.1]; simp [wordR]
    obtain ⟨rfl, rfl, rfl⟩ : putsW zr0 [zp] = y0 ∧ zr1 = y1 ∧ true = y2 := by simpa using he
    clear he
    have hal5 : Below w5.heap.size w5 (w5.alloc (.cells #[.slice Ap zp.length cp] 23)) := (Below.refl _ _).alloc (Nat.le_refl _) _
    have hrd5 := rdS_lit w5 [.slice Ap zp.length cp] [zp] rfl (by simp) (by
      intro j u zs hu hz
      rcases j with _ | j
      · simp at hu hz; subst hu; subst hz; exact (P5.out.2.2.2.2.2.1).rd
      · simp at hu)
    simp only [List.length_cons, List.length_nil] at hrd5
    go_wp2_with fail
    refine (withValues_any _ _ zr0 [zp] _ ((P5.out.1).below hal5).rd hrd5 ⟨by simp, by simp⟩ (by omega) (by simp only [List.mem_cons, List.not_mem_nil, or_false]; intro t ht; rcases ht with rfl <;> omega)).mono ?_
    rintro e w6 ⟨ux, rfl, ho, hb⟩
    obtain ⟨Ax, cx, rfl, _⟩ := ho.rd
    have hs6 : w5.heap.size + 1 ≤ w6.heap.size := by have := hb.size; rw [World.size_alloc] at this; exact this
    replace hb : Below w5.heap.size w5 w6 := hal5.trans (hb.mono (by rw [World.size_alloc]; omega))
    rw [World.size_alloc] at ho
    have P6 : Hid (OwnI w6 (w.heap.size + 1) (w1.heap.size) (.slice Ar0 zr0.length cr0) zr0 ∧ OwnI w6 (w1.heap.size) (w2.heap.size) (.slice Ar1 zr1.length cr1) zr1 ∧ OwnI w6 (w2.heap.size) (w3.heap.size) (.slice At0 zt0.length ct0) zt0 ∧ OwnI w6 (w3.heap.size) (w4.heap.size) (.slice At1 zt1.length ct1) zt1 ∧ OwnI w6 (w4.heap.size) (w4.heap.size + 1) (.slice (some ⟨w4.heap.size, 0, none⟩) 1 1) zn ∧ OwnI w6 (w4.heap.size + 1) (w5.heap.size) (.slice Ap zp.length cp) zp ∧ OwnI w6 (w5.heap.size + 1) (w6.heap.size) (.slice Ax (putsW zr0 [zp]).length cx) (putsW zr0 [zp]) ∧ Below w.heap.size w w6 ∧ Blk w6 w.heap.size #[.slice none 0 0, .slice none 0 0] 72) := Lib.hid ⟨(P5.out.1).below hb, (P5.out.2.1).below hb, (P5.out.2.2.1).below hb, (P5.out.2.2.2.1).below hb, (P5.out.2.2.2.2.1).below hb, (P5.out.2.2.2.2.2.1).below hb, ho, (P5.out.2.2.2.2.2.2.1).trans (hb.mono (by omega)), (P5.out.2.2.2.2.2.2.2).below hb (by omega)⟩
    clear hb ho hal5 hrd5 P5
    obtain ⟨cc0, cc1, ff0, ff1⟩ := blk_two (P6.out.2.2.2.2.2.2.2.2)
    obtain ⟨e0, e1⟩ := blk_two_out (P6.out.2.2.2.2.2.2.2.2) (x := .slice Ax (putsW zr0 [zp]).length cx) (y := .slice Ar1 zr1.length cr1)
    have R := Lib.hid (eff_end true (P6.out.2.2.2.2.2.2.1) (P6.out.2.1) (P6.out.2.2.2.2.2.2.2.1) (by omega) (by omega) (by omega) (by omega) (by omega) (by omega) (by omega))
    clear P6
    go_wp2
    refine bodyPost_ret (v := .tuple #[.agg #[.slice Ax (putsW zr0 [zp]).length cx, .slice Ar1 zr1.length cr1], .bool true]) (by simp [results, Tryz.results35, go_sem, e0, e1]) rfl ?_
    exact R.out
  have b1005 : (n == 1005) = false := by simpa using h1005
  by_cases h1006 : n = 1006
  · subst h1006
    have he : (putsW zr0 [zn, zn], putsW zr0 [zn], true) = (y0, y1, y2) := by rw [← HR.out, HQ.out.2.1, HQ.out.2.2.2.2.2.1]; simp [wordR]
    obtain ⟨rfl, rfl, rfl⟩ : putsW zr0 [zn, zn] = y0 ∧ putsW zr0 [zn] = y1 ∧ true = y2 := by simpa using he
    clear he
    have hal5 : Below w5.heap.size w5 (w5.alloc (.cells #[.slice (some ⟨w4.heap.size, 0, none⟩) 1 1, .slice (some ⟨w4.heap.size, 0, none⟩) 1 1] 23)) := (Below.refl _ _).alloc (Nat.le_refl _) _
    have hrd5 := rdS_lit w5 [.slice (some ⟨w4.heap.size, 0, none⟩) 1 1, .slice (some ⟨w4.heap.size, 0, none⟩) 1 1] [zn, zn] rfl (by simp) (by
      intro j u zs hu hz
      rcases j with _ | _ | j
      · simp at hu hz; subst hu; subst hz; exact (P5.out.2.2.2.2.1).rd
      · simp at hu hz; subst hu; subst hz; exact (P5.out.2.2.2.2.1).rd
      · simp at hu)
    simp only [List.length_cons, List.length_nil] at hrd5
    go_wp2_with fail
    refine (withValues_any _ _ zr0 [zn, zn] _ ((P5.out.1).below hal5).rd hrd5 ⟨by simp, by simp⟩ (by omega) (by simp only [List.mem_cons, List.not_mem_nil, or_false]; intro t ht; rcases ht with rfl | rfl <;> omega)).mono ?_
    rintro e w6 ⟨ux, rfl, ho, hb⟩
    obtain ⟨Ax, cx, rfl, _⟩ := ho.rd
    have hs6 : w5.heap.size + 1 ≤ w6.heap.size := by have := hb.size; rw [World.size_alloc] at this; exact this
    replace hb : Below w5.heap.size w5 w6 := hal5.trans (hb.mono (by rw [World.size_alloc]; omega))
    rw [World.size_alloc] at ho
    have P6 : Hid (OwnI w6 (w.heap.size + 1) (w1.heap.size) (.slice Ar0 zr0.length cr0) zr0 ∧ OwnI w6 (w1.heap.size) (w2.heap.size) (.slice Ar1 zr1.length cr1) zr1 ∧ OwnI w6 (w2.heap.size) (w3.heap.size) (.slice At0 zt0.length ct0) zt0 ∧ OwnI w6 (w3.heap.size) (w4.heap.size) (.slice At1 zt1.length ct1) zt1 ∧ OwnI w6 (w4.heap.size) (w4.heap.size + 1) (.slice (some ⟨w4.heap.size, 0, none⟩) 1 1) zn ∧ OwnI w6 (w4.heap.size + 1) (w5.heap.size) (.slice Ap zp.length cp) zp ∧ OwnI w6 (w5.heap.size + 1) (w6.heap.size) (.slice Ax (putsW zr0 [zn, zn]).length cx) (putsW zr0 [zn, zn]) ∧ Below w.heap.size w w6 ∧ Blk w6 w.heap.size #[.slice none 0 0, .slice none 0 0] 72) := Lib.hid ⟨(P5.out.1).below hb, (P5.out.2.1).below hb, (P5.out.2.2.1).below hb, (P5.out.2.2.2.1).below hb, (P5.out.2.2.2.2.1).below hb, (P5.out.2.2.2.2.2.1).below hb, ho, (P5.out.2.2.2.2.2.2.1).trans (hb.mono (by omega)), (P5.out.2.2.2.2.2.2.2).below hb (by omega)⟩
    clear hb ho hal5 hrd5 P5
    have hal6 : Below w6.heap.size w6 (w6.alloc (.cells #[.slice (some ⟨w4.heap.size, 0, none⟩) 1 1] 23)) := (Below.refl _ _).alloc (Nat.le_refl _) _
    have hrd6 := rdS_lit w6 [.slice (some ⟨w4.heap.size, 0, none⟩) 1 1] [zn] rfl (by simp) (by
      intro j u zs hu hz
      rcases j with _ | j
      · simp at hu hz; subst hu; subst hz; exact (P6.out.2.2.2.2.1).rd
      · simp at hu)
    simp only [List.length_cons, List.length_nil] at hrd6
    go_wp2_with fail
    refine (withValues_any _ _ zr0 [zn] _ ((P6.out.1).below hal6).rd hrd6 ⟨by simp, by simp⟩ (by omega) (by simp only [List.mem_cons, List.not_mem_nil, or_false]; intro t ht; rcases ht with rfl <;> omega)).mono ?_
    rintro e w7 ⟨uy, rfl, ho, hb⟩
    obtain ⟨Ay, cy, rfl, _⟩ := ho.rd
    have hs7 : w6.heap.size + 1 ≤ w7.heap.size := by have := hb.size; rw [World.size_alloc] at this; exact this
    replace hb : Below w6.heap.size w6 w7 := hal6.trans (hb.mono (by rw [World.size_alloc]; omega))
    rw [World.size_alloc] at ho
    have P7 : Hid (OwnI w7 (w.heap.size + 1) (w1.heap.size) (.slice Ar0 zr0.length cr0) zr0 ∧ OwnI w7 (w1.heap.size) (w2.heap.size) (.slice Ar1 zr1.length cr1) zr1 ∧ OwnI w7 (w2.heap.size) (w3.heap.size) (.slice At0 zt0.length ct0) zt0 ∧ OwnI w7 (w3.heap.size) (w4.heap.size) (.slice At1 zt1.length ct1) zt1 ∧ OwnI w7 (w4.heap.size) (w4.heap.size + 1) (.slice (some ⟨w4.heap.size, 0, none⟩) 1 1) zn ∧ OwnI w7 (w4.heap.size + 1) (w5.heap.size) (.slice Ap zp.length cp) zp ∧ OwnI w7 (w5.heap.size + 1) (w6.heap.size) (.slice Ax (putsW zr0 [zn, zn]).length cx) (putsW zr0 [zn, zn]) ∧ OwnI w7 (w6.heap.size + 1) (w7.heap.size) (.slice Ay (putsW zr0 [zn]).length cy) (putsW zr0 [zn]) ∧ Below w.heap.size w w7 ∧ Blk w7 w.heap.size #[.slice none 0 0, .slice none 0 0] 72) := Lib.hid ⟨(P6.out.1).below hb, (P6.out.2.1).below hb, (P6.out.2.2.1).below hb, (P6.out.2.2.2.1).below hb, (P6.out.2.2.2.2.1).below hb, (P6.out.2.2.2.2.2.1).below hb, (P6.out.2.2.2.2.2.2.1).below hb, ho, (P6.out.2.2.2.2.2.2.2.1).trans (hb.mono (by omega)), (P6.out.2.2.2.2.2.2.2.2).below hb (by omega)⟩
    clear hb ho hal6 hrd6 P6
    obtain ⟨cc0, cc1, ff0, ff1⟩ := blk_two (P7.out.2.2.2.2.2.2.2.2.2)
    obtain ⟨e0, e1⟩ := blk_two_out (P7.out.2.2.2.2.2.2.2.2.2) (x := .slice Ax (putsW zr0 [zn, zn]).length cx) (y := .slice Ay (putsW zr0 [zn]).length cy)
    have R := Lib.hid (eff_end true (P7.out.2.2.2.2.2.2.1) (P7.out.2.2.2.2.2.2.2.1) (P7.out.2.2.2.2.2.2.2.2.1) (by omega) (by omega) (by omega) (by omega) (by omega) (by omega) (by omega))
    clear P7
    go_wp2
    refine bodyPost_ret (v := .tuple #[.agg #[.slice Ax (putsW zr0 [zn, zn]).length cx, .slice Ay (putsW zr0 [zn]).length cy], .bool true]) (by simp [results, Tryz.results35, go_sem, e0, e1]) rfl ?_
    exact R.out
  have b1006 : (n == 1006) = false := by simpa using h1006
  by_cases h1007 : n = 1007
  · subst h1007
    have he : (putsW zr0 [zn, zn], putsW zr0 [zn], true) = (y0, y1, y2) := by rw [← HR.out, HQ.out.2.1, HQ.out.2.2.2.2.2.1]; simp [wordR]
    obtain ⟨rfl, rfl, rfl⟩ : putsW zr0 [zn, zn] = y0 ∧ putsW zr0 [zn] = y1 ∧ true = y2 := by simpa using he
    clear he
    have hal5 : Below w5.heap.size w5 (w5.alloc (.cells #[.slice (some ⟨w4.heap.size, 0, none⟩) 1 1, .slice (some ⟨w4.heap.size, 0, none⟩) 1 1] 23)) := (Below.refl _ _).alloc (Nat.le_refl _) _
    have hrd5 := rdS_lit w5 [.slice (some ⟨w4.heap.size, 0, none⟩) 1 1, .slice (some ⟨w4.heap.size, 0, none⟩) 1 1] [zn, zn] rfl (by simp) (by
      intro j u zs hu hz
      rcases j with _ | _ | j
      · simp at hu hz; subst hu; subst hz; exact (P5.out.2.2.2.2.1).rd
      · simp at hu hz; subst hu; subst hz; exact (P5.out.2.2.2.2.1).rd
      · simp at hu)
    simp only [List.length_cons, List.length_nil] at hrd5
    go_wp2_with fail
    refine (withValues_any _ _ zr0 [zn, zn] _ ((P5.out.1).below hal5).rd hrd5 ⟨by simp, by simp⟩ (by omega) (by simp only [List.mem_cons, List.not_mem_nil, or_false]; intro t ht; rcases ht with rfl | rfl <;> omega)).mono ?_
    rintro e w6 ⟨ux, rfl, ho, hb⟩
    obtain ⟨Ax, cx, rfl, _⟩ := ho.rd
    have hs6 : w5.heap.size + 1 ≤ w6.heap.size := by have := hb.size; rw [World.size_alloc] at this; exact this
    replace hb : Below w5.heap.size w5 w6 := hal5.trans (hb.mono (by rw [World.size_alloc]; omega))
    rw [World.size_alloc] at ho
    have P6 : Hid (OwnI w6 (w.heap.size + 1) (w1.heap.size) (.slice Ar0 zr0.length cr0) zr0 ∧ OwnI w6 (w1.heap.size) (w2.heap.size) (.slice Ar1 zr1.length cr1) zr1 ∧ OwnI w6 (w2.heap.size) (w3.heap.size) (.slice At0 zt0.length ct0) zt0 ∧ OwnI w6 (w3.heap.size) (w4.heap.size) (.slice At1 zt1.length ct1) zt1 ∧ OwnI w6 (w4.heap.size) (w4.heap.size + 1) (.slice (some ⟨w4.heap.size, 0, none⟩) 1 1) zn ∧ OwnI w6 (w4.heap.size + 1) (w5.heap.size) (.slice Ap zp.length cp) zp ∧ OwnI w6 (w5.heap.size + 1) (w6.heap.size) (.slice Ax (putsW zr0 [zn, zn]).length cx) (putsW zr0 [zn, zn]) ∧ Below w.heap.size w w6 ∧ Blk w6 w.heap.size #[.slice none 0 0, .slice none 0 0] 72) := Lib.hid ⟨(P5.out.1).below hb, (P5.out.2.1).below hb, (P5.out.2.2.1).below hb, (P5.out.2.2.2.1).below hb, (P5.out.2.2.2.2.1).below hb, (P5.out.2.2.2.2.2.1).below hb, ho, (P5.out.2.2.2.2.2.2.1).trans (hb.mono (by omega)), (P5.out.2.2.2.2.2.2.2).below hb (by omega)⟩
    clear hb ho hal5 hrd5 P5
    have hal6 : Below w6.heap.size w6 (w6.alloc (.cells #[.slice (some ⟨w4.heap.size, 0, none⟩) 1 1] 23)) := (Below.refl _ _).alloc (Nat.le_refl _) _
    have hrd6 := rdS_lit w6 [.slice (some ⟨w4.heap.size, 0, none⟩) 1 1] [zn] rfl (by simp) (by
      intro j u zs hu hz
      rcases j with _ | j
      · simp at hu hz; subst hu; subst hz; exact (P6.out.2.2.2.2.1).rd
      · simp at hu)
    simp only [List.length_cons, List.length_nil] at hrd6
    go_wp2_with fail
    refine (withValues_any _ _ zr0 [zn] _ ((P6.out.1).below hal6).rd hrd6 ⟨by simp, by simp⟩ (by omega) (by simp only [List.mem_cons, List.not_mem_nil, or_false]; intro t ht; rcases ht with rfl <;> omega)).mono ?_
    rintro e w7 ⟨uy, rfl, ho, hb⟩
    obtain ⟨Ay, cy, rfl, _⟩ := ho.rd
    have hs7 : w6.heap.size + 1 ≤ w7.heap.size := by have := hb.size; rw [World.size_alloc] at this; exact this
    replace hb : Below w6.heap.size w6 w7 := hal6.trans (hb.mono (by rw [World.size_alloc]; omega))
    rw [World.size_alloc] at ho
    have P7 : Hid (OwnI w7 (w.heap.size + 1) (w1.heap.size) (.slice Ar0 zr0.length cr0) zr0 ∧ OwnI w7 (w1.heap.size) (w2.heap.size) (.slice Ar1 zr1.length cr1) zr1 ∧ OwnI w7 (w2.heap.size) (w3.heap.size) (.slice At0 zt0.length ct0) zt0 ∧ OwnI w7 (w3.heap.size) (w4.heap.size) (.slice At1 zt1.length ct1) zt1 ∧ OwnI w7 (w4.heap.size) (w4.heap.size + 1) (.slice (some ⟨w4.heap.size, 0, none⟩) 1 1) zn ∧ OwnI w7 (w4.heap.size + 1) (w5.heap.size) (.slice Ap zp.length cp) zp ∧ OwnI w7 (w5.heap.size + 1) (w6.heap.size) (.slice Ax (putsW zr0 [zn, zn]).length cx) (putsW zr0 [zn, zn]) ∧ OwnI w7 (w6.heap.size + 1) (w7.heap.size) (.slice Ay (putsW zr0 [zn]).length cy) (putsW zr0 [zn]) ∧ Below w.heap.size w w7 ∧ Blk w7 w.heap.size #[.slice none 0 0, .slice none 0 0] 72) := Lib.hid ⟨(P6.out.1).below hb, (P6.out.2.1).below hb, (P6.out.2.2.1).below hb, (P6.out.2.2.2.1).below hb, (P6.out.2.2.2.2.1).below hb, (P6.out.2.2.2.2.2.1).below hb, (P6.out.2.2.2.2.2.2.1).below hb, ho, (P6.out.2.2.2.2.2.2.2.1).trans (hb.mono (by omega)), (P6.out.2.2.2.2.2.2.2.2).below hb (by omega)⟩
    clear hb ho hal6 hrd6 P6
    obtain ⟨cc0, cc1, ff0, ff1⟩ := blk_two (P7.out.2.2.2.2.2.2.2.2.2)
    obtain ⟨e0, e1⟩ := blk_two_out (P7.out.2.2.2.2.2.2.2.2.2) (x := .slice Ax (putsW zr0 [zn, zn]).length cx) (y := .slice Ay (putsW zr0 [zn]).length cy)
    have R := Lib.hid (eff_end true (P7.out.2.2.2.2.2.2.1) (P7.out.2.2.2.2.2.2.2.1) (P7.out.2.2.2.2.2.2.2.2.1) (by omega) (by omega) (by omega) (by omega) (by omega) (by omega) (by omega))
    clear P7
    go_wp2
    refine bodyPost_ret (v := .tuple #[.agg #[.slice Ax (putsW zr0 [zn, zn]).length cx, .slice Ay (putsW zr0 [zn]).length cy], .bool true]) (by simp [results, Tryz.results35, go_sem, e0, e1]) rfl ?_
    exact R.out
  have b1007 : (n == 1007) = false := by simpa using h1007
  by_cases h1008 : n = 1008
  · subst h1008
    have he : (putsW zr0 [zn, zn], putsW zr0 [zn], true) = (y0, y1, y2) := by rw [← HR.out, HQ.out.2.1, HQ.out.2.2.2.2.2.1]; simp [wordR]
    obtain ⟨rfl, rfl, rfl⟩ : putsW zr0 [zn, zn] = y0 ∧ putsW zr0 [zn] = y1 ∧ true = y2 := by simpa using he
    clear he
    have hal5 : Below w5.heap.size w5 (w5.alloc (.cells #[.slice (some ⟨w4.heap.size, 0, none⟩) 1 1, .slice (some ⟨w4.heap.size, 0, none⟩) 1 1] 23)) := (Below.refl _ _).alloc (Nat.le_refl _) _
    have hrd5 := rdS_lit w5 [.slice (some ⟨w4.heap.size, 0, none⟩) 1 1, .slice (some ⟨w4.heap.size, 0, none⟩) 1 1] [zn, zn] rfl (by simp) (by
      intro j u zs hu hz
      rcases j with _ | _ | j
      · simp at hu hz; subst hu; subst hz; exact (P5.out.2.2.2.2.1).rd
      · simp at hu hz; subst hu; subst hz; exact (P5.out.2.2.2.2.1).rd
      · simp at hu)
    simp only [List.length_cons, List.length_nil] at hrd5
    go_wp2_with fail
    refine (withValues_any _ _ zr0 [zn, zn] _ ((P5.out.1).below hal5).rd hrd5 ⟨by simp, by simp⟩ (by omega) (by simp only [List.mem_cons, List.not_mem_nil, or_false]; intro t ht; rcases ht with rfl | rfl <;> omega)).mono ?_
    rintro e w6 ⟨ux, rfl, ho, hb⟩
    obtain ⟨Ax, cx, rfl, _⟩ := ho.rd
    have hs6 : w5.heap.size + 1 ≤ w6.heap.size := by have := hb.size; rw [World.size_alloc] at this; exact this
    replace hb : Below w5.heap.size w5 w6 := hal5.trans (hb.mono (by rw [World.size_alloc]; omega))
    rw [World.size_alloc] at ho
    have P6 : Hid (OwnI w6 (w.heap.size + 1) (w1.heap.size) (.slice Ar0 zr0.length cr0) zr0 ∧ OwnI w6 (w1.heap.size) (w2.heap.size) (.slice Ar1 zr1.length cr1) zr1 ∧ OwnI w6 (w2.heap.size) (w3.heap.size) (.slice At0 zt0.length ct0) zt0 ∧ OwnI w6 (w3.heap.size) (w4.heap.size) (.slice At1 zt1.length ct1) zt1 ∧ OwnI w6 (w4.heap.size) (w4.heap.size + 1) (.slice (some ⟨w4.heap.size, 0, none⟩) 1 1) zn ∧ OwnI w6 (w4.heap.size + 1) (w5.heap.size) (.slice Ap zp.length cp) zp ∧ OwnI w6 (w5.heap.size + 1) (w6.heap.size) (.slice Ax (putsW zr0 [zn, zn]).length cx) (putsW zr0 [zn, zn]) ∧ Below w.heap.size w w6 ∧ Blk w6 w.heap.size #[.slice none 0 0, .slice none 0 0] 72) := Lib.hid ⟨(P5.out.1).below hb, (P5.out.2.1).below hb, (P5.out.2.2.1).below hb, (P5.out.2.2.2.1).below hb, (P5.out.2.2.2.2.1).below hb, (P5.out.2.2.2.2.2.1).below hb, ho, (P5.out.2.2.2.2.2.2.1).trans (hb.mono (by omega)), (P5.out.2.2.2.2.2.2.2).below hb (by omega)⟩
    clear hb ho hal5 hrd5 P5
    have hal6 : Below w6.heap.size w6 (w6.alloc (.cells #[.slice (some ⟨w4.heap.size, 0, none⟩) 1 1] 23)) := (Below.refl _ _).alloc (Nat.le_refl _) _
    have hrd6 := rdS_lit w6 [.slice (some ⟨w4.heap.size, 0, none⟩) 1 1] [zn] rfl (by simp) (by
      intro j u zs hu hz
      rcases j with _ | j
      · simp at hu hz; subst hu; subst hz; exact (P6.out.2.2.2.2.1).rd
      · simp at hu)
    simp only [List.length_cons, List.length_nil] at hrd6
    go_wp2_with fail
    refine (withValues_any _ _ zr0 [zn] _ ((P6.out.1).below hal6).rd hrd6 ⟨by simp, by simp⟩ (by omega) (by simp only [List.mem_cons, List.not_mem_nil, or_false]; intro t ht; rcases ht with rfl <;> omega)).mono ?_
    rintro e w7 ⟨uy, rfl, ho, hb⟩
    obtain ⟨Ay, cy, rfl, _⟩ := ho.rd
    have hs7 : w6.heap.size + 1 ≤ w7.heap.size := by have := hb.size; rw [World.size_alloc] at this; exact this
    replace hb : Below w6.heap.size w6 w7 := hal6.trans (hb.mono (by rw [World.size_alloc]; omega))
    rw [World.size_alloc] at ho
    have P7 : Hid (OwnI w7 (w.heap.size + 1) (w1.heap.size) (.slice Ar0 zr0.length cr0) zr0 ∧ OwnI w7 (w1.heap.size) (w2.heap.size) (.slice Ar1 zr1.length cr1) zr1 ∧ OwnI w7 (w2.heap.size) (w3.heap.size) (.slice At0 zt0.length ct0) zt0 ∧ OwnI w7 (w3.heap.size) (w4.heap.size) (.slice At1 zt1.length ct1) zt1 ∧ OwnI w7 (w4.heap.size) (w4.heap.size + 1) (.slice (some ⟨w4.heap.size, 0, none⟩) 1 1) zn ∧ OwnI w7 (w4.heap.size + 1) (w5.heap.size) (.slice Ap zp.length cp) zp ∧ OwnI w7 (w5.heap.size + 1) (w6.heap.size) (.slice Ax (putsW zr0 [zn, zn]).length cx) (putsW zr0 [zn, zn]) ∧ OwnI w7 (w6.heap.size + 1) (w7.heap.size) (.slice Ay (putsW zr0 [zn]).length cy) (putsW zr0 [zn]) ∧ Below w.heap.size w w7 ∧ Blk w7 w.heap.size #[.slice none 0 0, .slice none 0 0] 72) := Lib.hid ⟨(P6.out.1).below hb, (P6.out.2.1).below hb, (P6.out.2.2.1).below hb, (P6.out.2.2.2.1).below hb, (P6.out.2.2.2.2.1).below hb, (P6.out.2.2.2.2.2.1).below hb, (P6.out.2.2.2.2.2.2.1).below hb, ho, (P6.out.2.2.2.2.2.2.2.1).trans (hb.mono (by omega)), (P6.out.2.2.2.2.2.2.2.2).below hb (by omega)⟩
    clear hb ho hal6 hrd6 P6
    obtain ⟨cc0, cc1, ff0, ff1⟩ := blk_two (P7.out.2.2.2.2.2.2.2.2.2)
    obtain ⟨e0, e1⟩ := blk_two_out (P7.out.2.2.2.2.2.2.2.2.2) (x := .slice Ax (putsW zr0 [zn, zn]).length cx) (y := .slice Ay (putsW zr0 [zn]).length cy)
    have R := Lib.hid (eff_end true (P7.out.2.2.2.2.2.2.1) (P7.out.2.2.2.2.2.2.2.1) (P7.out.2.2.2.2.2.2.2.2.1) (by omega) (by omega) (by omega) (by omega) (by omega) (by omega) (by omega))
    clear P7
    go_wp2
    refine bodyPost_ret (v := .tuple #[.agg #[.slice Ax (putsW zr0 [zn, zn]).length cx, .slice Ay (putsW zr0 [zn]).length cy], .bool true]) (by simp [results, Tryz.results35, go_sem, e0, e1]) rfl ?_
    exact R.out
  have b1008 : (n == 1008) = false := by simpa using h1008
  by_cases h1009 : n = 1009
  · subst h1009
    have he : (putsW zr0 [zn, zn], putsW zr0 [zn], true) = (y0, y1, y2) := by rw [← HR.out, HQ.out.2.1, HQ.out.2.2.2.2.2.1]; simp [wordR]
    obtain ⟨rfl, rfl, rfl⟩ : putsW zr0 [zn, zn] = y0 ∧ putsW zr0 [zn] = y1 ∧ true = y2 := by simpa using he
    clear he
    have hal5 : Below w5.heap.size w5 (w5.alloc (.cells #[.slice (some ⟨w4.heap.size, 0, none⟩) 1 1, .slice (some ⟨w4.heap.size, 0, none⟩) 1 1] 23)) := (Below.refl _ _).alloc (Nat.le_refl _) _
    have hrd5 := rdS_lit w5 [.slice (some ⟨w4.heap.size, 0, none⟩) 1 1, .slice (some ⟨w4.heap.size, 0, none⟩) 1 1] [zn, zn] rfl (by simp) (by
      intro j u zs hu hz
      rcases j with _ | _ | j
      · simp at hu hz; subst hu; subst hz; exact (P5.out.2.2.2.2.1).rd
      · simp at hu hz; subst hu; subst hz; exact (P5.out.2.2.2.2.1).rd
      · simp at hu)
    simp only [List.length_cons, List.length_nil] at hrd5
    go_wp2_with fail
    refine (withValues_any _ _ zr0 [zn, zn] _ ((P5.out.1).below hal5).rd hrd5 ⟨by simp, by simp⟩ (by omega) (by simp only [List.mem_cons, List.not_mem_nil, or_false]; intro t ht; rcases ht with rfl | rfl <;> omega)).mono ?_
    rintro e w6 ⟨ux, rfl, ho, hb⟩
    obtain ⟨Ax, cx, rfl, _⟩ := ho.rd
    have hs6 : w5.heap.size + 1 ≤ w6.heap.size := by have := hb.size; rw [World.size_alloc] at this; exact this
    replace hb : Below w5.heap.size w5 w6 := hal5.trans (hb.mono (by rw [World.size_alloc]; omega))
    rw [World.size_alloc] at ho
    have P6 : Hid (OwnI w6 (w.heap.size + 1) (w1.heap.size) (.slice Ar0 zr0.length cr0) zr0 ∧ OwnI w6 (w1.heap.size) (w2.heap.size) (.slice Ar1 zr1.length cr1) zr1 ∧ OwnI w6 (w2.heap.size) (w3.heap.size) (.slice At0 zt0.length ct0) zt0 ∧ OwnI w6 (w3.heap.size) (w4.heap.size) (.slice At1 zt1.length ct1) zt1 ∧ OwnI w6 (w4.heap.size) (w4.heap.size + 1) (.slice (some ⟨w4.heap.size, 0, none⟩) 1 1) zn ∧ OwnI w6 (w4.heap.size + 1) (w5.heap.size) (.slice Ap zp.length cp) zp ∧ OwnI w6 (w5.heap.size + 1) (w6.heap.size) (.slice Ax (putsW zr0 [zn, zn]).length cx) (putsW zr0 [zn, zn]) ∧ Below w.heap.size w w6 ∧ Blk w6 w.heap.size #[.slice none 0 0, .slice none 0 0] 72) := Lib.hid ⟨(P5.out.1).below hb, (P5.out.2.1).below hb, (P5.out.2.2.1).below hb, (P5.out.2.2.2.1).below hb, (P5.out.2.2.2.2.1).below hb, (P5.out.2.2.2.2.2.1).below hb, ho, (P5.out.2.2.2.2.2.2.1).trans (hb.mono (by omega)), (P5.out.2.2.2.2.2.2.2).below hb (by omega)⟩
    clear hb ho hal5 hrd5 P5
    have hal6 : Below w6.heap.size w6 (w6.alloc (.cells #[.slice (some ⟨w4.heap.size, 0, none⟩) 1 1] 23)) := (Below.refl _ _).alloc (Nat.le_refl _) _
    have hrd6 := rdS_lit w6 [.slice (some ⟨w4.heap.size, 0, none⟩) 1 1] [zn] rfl (by simp) (by
      intro j u zs hu hz
      rcases j with _ | j
      · simp at hu hz; subst hu; subst hz; exact (P6.out.2.2.2.2.1).rd
      · simp at hu)
    simp only [List.length_cons, List.length_nil] at hrd6
    go_wp2_with fail
    refine (withValues_any _ _ zr0 [zn] _ ((P6.out.1).below hal6).rd hrd6 ⟨by simp, by simp⟩ (by omega) (by simp only [List.mem_cons, List.not_mem_nil, or_false]; intro t ht; rcases ht with rfl <;> omega)).mono ?_
    rintro e w7 ⟨uy, rfl, ho, hb⟩
    obtain ⟨Ay, cy, rfl, _⟩ := ho.rd
    have hs7 : w6.heap.size + 1 ≤ w7.heap.size := by have := hb.size; rw [World.size_alloc] at this; exact this
    replace hb : Below w6.heap.size w6 w7 := hal6.trans (hb.mono (by rw [World.size_alloc]; omega))
    rw [World.size_alloc] at ho
    have P7 : Hid (OwnI w7 (w.heap.size + 1) (w1.heap.size) (.slice Ar0 zr0.length cr0) zr0 ∧ OwnI w7 (w1.heap.size) (w2.heap.size) (.slice Ar1 zr1.length cr1) zr1 ∧ OwnI w7 (w2.heap.size) (w3.heap.size) (.slice At0 zt0.length ct0) zt0 ∧ OwnI w7 (w3.heap.size) (w4.heap.size) (.slice At1 zt1.length ct1) zt1 ∧ OwnI w7 (w4.heap.size) (w4.heap.size + 1) (.slice (some ⟨w4.heap.size, 0, none⟩) 1 1) zn ∧ OwnI w7 (w4.heap.size + 1) (w5.heap.size) (.slice Ap zp.length cp) zp ∧ OwnI w7 (w5.heap.size + 1) (w6.heap.size) (.slice Ax (putsW zr0 [zn, zn]).length cx) (putsW zr0 [zn, zn]) ∧ OwnI w7 (w6.heap.size + 1) (w7.heap.size) (.slice Ay (putsW zr0 [zn]).length cy) (putsW zr0 [zn]) ∧ Below w.heap.size w w7 ∧ Blk w7 w.heap.size #[.slice none 0 0, .slice none 0 0] 72) := Lib.hid ⟨(P6.out.1).below hb, (P6.out.2.1).below hb, (P6.out.2.2.1).below hb, (P6.out.2.2.2.1).below hb, (P6.out.2.2.2.2.1).below hb, (P6.out.2.2.2.2.2.1).below hb, (P6.out.2.2.2.2.2.2.1).below hb, ho, (P6.out.2.2.2.2.2.2.2.1).trans (hb.mono (by omega)), (P6.out.2.2.2.2.2.2.2.2).below hb (by omega)⟩
    clear hb ho hal6 hrd6 P6
    obtain ⟨cc0, cc1, ff0, ff1⟩ := blk_two (P7.out.2.2.2.2.2.2.2.2.2)
    obtain ⟨e0, e1⟩ := blk_two_out (P7.out.2.2.2.2.2.2.2.2.2) (x := .slice Ax (putsW zr0 [zn, zn]).length cx) (y := .slice Ay (putsW zr0 [zn]).length cy)
    have R := Lib.hid (eff_end true (P7.out.2.2.2.2.2.2.1) (P7.out.2.2.2.2.2.2.2.1) (P7.out.2.2.2.2.2.2.2.2.1) (by omega) (by omega) (by omega) (by omega) (by omega) (by omega) (by omega))
    clear P7
    go_wp2
    refine bodyPost_ret (v := .tuple #[.agg #[.slice Ax (putsW zr0 [zn, zn]).length cx, .slice Ay (putsW zr0 [zn]).length cy], .bool true]) (by simp [results, Tryz.results35, go_sem, e0, e1]) rfl ?_
    exact R.out
  have b1009 : (n == 1009) = false := by simpa using h1009
  by_cases h1010 : n = 1010
  · subst h1010
    have he : (putsW zr0 [zn, zp, zp], zr1, true) = (y0, y1, y2) := by rw [← HR.out, HQ.out.2.1, HQ.out.2.2.1, HQ.out.2.2.2.2.2.1, HQ.out.2.2.2.2.2.2.1]; simp [wordR]
    obtain ⟨rfl, rfl, rfl⟩ : putsW zr0 [zn, zp, zp] = y0 ∧ zr1 = y1 ∧ true = y2 := by simpa using he
    clear he
    have hal5 : Below w5.heap.size w5 (w5.alloc (.cells #[.slice (some ⟨w4.heap.size, 0, none⟩) 1 1, .slice Ap zp.length cp, .slice Ap zp.length cp] 23)) := (Below.refl _ _).alloc (Nat.le_refl _) _
    have hrd5 := rdS_lit w5 [.slice (some ⟨w4.heap.size, 0, none⟩) 1 1, .slice Ap zp.length cp, .slice Ap zp.length cp] [zn, zp, zp] rfl (by simp) (by
      intro j u zs hu hz
      rcases j with _ | _ | _ | j
      · simp at hu hz; subst hu; subst hz; exact (P5.out.2.2.2.2.1).rd
      · simp at hu hz; subst hu; subst hz; exact (P5.out.2.2.2.2.2.1).rd
      · simp at hu hz; subst hu; subst hz; exact (P5.out.2.2.2.2.2.1).rd
      · simp at hu)
    simp only [List.length_cons, List.length_nil] at hrd5
    go_wp2_with fail
    refine (withValues_any _ _ zr0 [zn, zp, zp] _ ((P5.out.1).below hal5).rd hrd5 ⟨by simp, by simp⟩ (by omega) (by simp only [List.mem_cons, List.not_mem_nil, or_false]; intro t ht; rcases ht with rfl | rfl | rfl <;> omega)).mono ?_
    rintro e w6 ⟨ux, rfl, ho, hb⟩
    obtain ⟨Ax, cx, rfl, _⟩ := ho.rd
    have hs6 : w5.heap.size + 1 ≤ w6.heap.size := by have := hb.size; rw [World.size_alloc] at this; exact this
    replace hb : Below w5.heap.size w5 w6 := hal5.trans (hb.mono (by rw [World.size_alloc]; omega))
    rw [World.size_alloc] at ho
    have P6 : Hid (OwnI w6 (w.heap.size + 1) (w1.heap.size) (.slice Ar0 zr0.length cr0) zr0 ∧ OwnI w6 (w1.heap.size) (w2.heap.size) (.slice Ar1 zr1.length cr1) zr1 ∧ OwnI w6 (w2.heap.size) (w3.heap.size) (.slice At0 zt0.length ct0) zt0 ∧ OwnI w6 (w3.heap.size) (w4.heap.size) (.slice At1 zt1.length ct1) zt1 ∧ OwnI w6 (w4.heap.size) (w4.heap.size + 1) (.slice (some ⟨w4.heap.size, 0, none⟩) 1 1) zn ∧ OwnI w6 (w4.heap.size + 1) (w5.heap.size) (.slice Ap zp.length cp) zp ∧ OwnI w6 (w5.heap.size + 1) (w6.heap.size) (.slice Ax (putsW zr0 [zn, zp, zp]).length cx) (putsW zr0 [zn, zp, zp]) ∧ Below w.heap.size w w6 ∧ Blk w6 w.heap.size #[.slice none 0 0, .slice none 0 0] 72) := Lib.hid ⟨(P5.out.1).below hb, (P5.out.2.1).below hb, (P5.out.2.2.1).below hb, (P5.out.2.2.2.1).below hb, (P5.out.2.2.2.2.1).below hb, (P5.out.2.2.2.2.2.1).below hb, ho, (P5.out.2.2.2.2.2.2.1).trans (hb.mono (by omega)), (P5.out.2.2.2.2.2.2.2).below hb (by omega)⟩
    clear hb ho hal5 hrd5 P5
    obtain ⟨cc0, cc1, ff0, ff1⟩ := blk_two (P6.out.2.2.2.2.2.2.2.2)
    obtain ⟨e0, e1⟩ := blk_two_out (P6.out.2.2.2.2.2.2.2.2) (x := .slice Ax (putsW zr0 [zn, zp, zp]).length cx) (y := .slice Ar1 zr1.length cr1)
    have R := Lib.hid (eff_end true (P6.out.2.2.2.2.2.2.1) (P6.out.2.1) (P6.out.2.2.2.2.2.2.2.1) (by omega) (by omega) (by omega) (by omega) (by omega) (by omega) (by omega))
    clear P6
    go_wp2
    refine bodyPost_ret (v := .tuple #[.agg #[.slice Ax (putsW zr0 [zn, zp, zp]).length cx, .slice Ar1 zr1.length cr1], .bool true]) (by simp [results, Tryz.results35, go_sem, e0, e1]) rfl ?_
    exact R.out
  have b1010 : (n == 1010) = false := by simpa using h1010
  by_cases h1011 : n = 1011
  · subst h1011
    have he : (putsW zr0 [zn, zq], zr0, true) = (y0, y1, y2) := by rw [← HR.out, HQ.out.2.1, HQ.out.2.2.2.2.2.1, HQ.out.2.2.2.2.2.2.2]; simp [wordR]
    obtain ⟨rfl, rfl, rfl⟩ : putsW zr0 [zn, zq] = y0 ∧ zr0 = y1 ∧ true = y2 := by simpa using he
    clear he
    go_wp2_with fail
    refine (progType_any _ _ zr0 zr0 _ (P5.out.1).rd (P5.out.1).rd (by omega)).mono ?_
    rintro e w6 ⟨uq, rfl, ho, hb⟩
    rw [HQ.out.1] at ho
    obtain ⟨Aq, cq, rfl, _⟩ := ho.rd
    have hs6 := hb.size
    have P6 : Hid (OwnI w6 (w.heap.size + 1) (w1.heap.size) (.slice Ar0 zr0.length cr0) zr0 ∧ OwnI w6 (w1.heap.size) (w2.heap.size) (.slice Ar1 zr1.length cr1) zr1 ∧ OwnI w6 (w2.heap.size) (w3.heap.size) (.slice At0 zt0.length ct0) zt0 ∧ OwnI w6 (w3.heap.size) (w4.heap.size) (.slice At1 zt1.length ct1) zt1 ∧ OwnI w6 (w4.heap.size) (w4.heap.size + 1) (.slice (some ⟨w4.heap.size, 0, none⟩) 1 1) zn ∧ OwnI w6 (w4.heap.size + 1) (w5.heap.size) (.slice Ap zp.length cp) zp ∧ OwnI w6 (w5.heap.size) (w6.heap.size) (.slice Aq zq.length cq) zq ∧ Below w.heap.size w w6 ∧ Blk w6 w.heap.size #[.slice none 0 0, .slice none 0 0] 72) := Lib.hid ⟨(P5.out.1).below hb, (P5.out.2.1).below hb, (P5.out.2.2.1).below hb, (P5.out.2.2.2.1).below hb, (P5.out.2.2.2.2.1).below hb, (P5.out.2.2.2.2.2.1).below hb, ho, (P5.out.2.2.2.2.2.2.1).trans (hb.mono (by omega)), (P5.out.2.2.2.2.2.2.2).below hb (by omega)⟩
    clear hb ho P5
    have hal6 : Below w6.heap.size w6 (w6.alloc (.cells #[.slice (some ⟨w4.heap.size, 0, none⟩) 1 1, .slice Aq zq.length cq] 23)) := (Below.refl _ _).alloc (Nat.le_refl _) _
    have hrd6 := rdS_lit w6 [.slice (some ⟨w4.heap.size, 0, none⟩) 1 1, .slice Aq zq.length cq] [zn, zq] rfl (by simp) (by
      intro j u zs hu hz
      rcases j with _ | _ | j
      · simp at hu hz; subst hu; subst hz; exact (P6.out.2.2.2.2.1).rd
      · simp at hu hz; subst hu; subst hz; exact (P6.out.2.2.2.2.2.2.1).rd
      · simp at hu)
    simp only [List.length_cons, List.length_nil] at hrd6
    go_wp2_with fail
    refine (withValues_any _ _ zr0 [zn, zq] _ ((P6.out.1).below hal6).rd hrd6 ⟨by simp, by simp⟩ (by omega) (by simp only [List.mem_cons, List.not_mem_nil, or_false]; intro t ht; rcases ht with rfl | rfl <;> omega)).mono ?_
    rintro e w7 ⟨ux, rfl, ho, hb⟩
    obtain ⟨Ax, cx, rfl, _⟩ := ho.rd
    have hs7 : w6.heap.size + 1 ≤ w7.heap.size := by have := hb.size; rw [World.size_alloc] at this; exact this
    replace hb : Below w6.heap.size w6 w7 := hal6.trans (hb.mono (by rw [World.size_alloc]; omega))
    rw [World.size_alloc] at ho
    have P7 : Hid (OwnI w7 (w.heap.size + 1) (w1.heap.size) (.slice Ar0 zr0.length cr0) zr0 ∧ OwnI w7 (w1.heap.size) (w2.heap.size) (.slice Ar1 zr1.length cr1) zr1 ∧ OwnI w7 (w2.heap.size) (w3.heap.size) (.slice At0 zt0.length ct0) zt0 ∧ OwnI w7 (w3.heap.size) (w4.heap.size) (.slice At1 zt1.length ct1) zt1 ∧ OwnI w7 (w4.heap.size) (w4.heap.size + 1) (.slice (some ⟨w4.heap.size, 0, none⟩) 1 1) zn ∧ OwnI w7 (w4.heap.size + 1) (w5.heap.size) (.slice Ap zp.length cp) zp ∧ OwnI w7 (w5.heap.size) (w6.heap.size) (.slice Aq zq.length cq) zq ∧ OwnI w7 (w6.heap.size + 1) (w7.heap.size) (.slice Ax (putsW zr0 [zn, zq]).length cx) (putsW zr0 [zn, zq]) ∧ Below w.heap.size w w7 ∧ Blk w7 w.heap.size #[.slice none 0 0, .slice none 0 0] 72) := Lib.hid ⟨(P6.out.1).below hb, (P6.out.2.1).below hb, (P6.out.2.2.1).below hb, (P6.out.2.2.2.1).below hb, (P6.out.2.2.2.2.1).below hb, (P6.out.2.2.2.2.2.1).below hb, (P6.out.2.2.2.2.2.2.1).below hb, ho, (P6.out.2.2.2.2.2.2.2.1).trans (hb.mono (by omega)), (P6.out.2.2.2.2.2.2.2.2).below hb (by omega)⟩
    clear hb ho hal6 hrd6 P6
    obtain ⟨cc0, cc1, ff0, ff1⟩ := blk_two (P7.out.2.2.2.2.2.2.2.2.2)
    obtain ⟨e0, e1⟩ := blk_two_out (P7.out.2.2.2.2.2.2.2.2.2) (x := .slice Ax (putsW zr0 [zn, zq]).length cx) (y := .slice Ar0 zr0.length cr0)
    have R := Lib.hid (eff_end true (P7.out.2.2.2.2.2.2.2.1) (P7.out.1) (P7.out.2.2.2.2.2.2.2.2.1) (by omega) (by omega) (by omega) (by omega) (by omega) (by omega) (by omega))
    clear P7
    go_wp2
    refine bodyPost_ret (v := .tuple #[.agg #[.slice Ax (putsW zr0 [zn, zq]).length cx, .slice Ar0 zr0.length cr0], .bool true]) (by simp [results, Tryz.results35, go_sem, e0, e1]) rfl ?_
    exact R.out
  have b1011 : (n == 1011) = false := by simpa using h1011
  have he : ([], [], false) = (y0, y1, y2) := by
    rw [← HR.out, wordR, if_neg HZ.out, if_neg h1001, if_neg h1002, if_neg h1003, if_neg h1004, if_neg h1005, if_neg (by omega), if_neg h1010, if_neg h1011]
  obtain ⟨rfl, rfl, rfl⟩ : [] = y0 ∧ [] = y1 ∧ false = y2 := by simpa using he
  clear he
  obtain ⟨cc0, cc1, ff0, ff1⟩ := blk_two (P5.out.2.2.2.2.2.2.2)
  obtain ⟨e0, e1⟩ := blk_two_out (P5.out.2.2.2.2.2.2.2) (x := .slice none 0 0) (y := .slice none 0 0)
  have R := Lib.hid (eff_end false (ownI_nil w5 (w.heap.size + 1) (w.heap.size + 1)) (ownI_nil w5 (w.heap.size + 1) (w.heap.size + 1)) (P5.out.2.2.2.2.2.2.1) (by omega) (by omega) (by omega) (by omega) (by omega) (by omega) (by omega))
  clear P5 h1001 h1002 h1003 h1004 h1005 h1006 h1007 h1008 h1009 h1010 h1011
  go_wp2
  refine bodyPost_ret (v := .tuple #[.agg #[.slice none 0 0, .slice none 0 0], .bool false]) (by simp [results, Tryz.results35, go_sem, e0, e1]) rfl ?_
  exact R.out
end Go.Proofs.YtpdhdiidkjgjmaaGreat

/- WordEffect, the model's. -/
namespace Go.Proofs.YtpdhdiidkjgjmaaGreat
set_option maxRecDepth 100000
open Go.RowKit Go.WideShapes

def letW (c : Nat) : List Int := if c = 110 then [0] else if c = 97 then [1, 0] else if c = 98 then [1, 1] else if c = 112 then progW else [2, 3, 0, 3, 0]
def strW (s : List UInt8) (bottom : Int) : List Int := s.foldl (fun t c => putW t (letW c.toNat)) [3, bottom]
theorem letW_of (c : Nat) : (((c : Int) == 110) = true → letW c = [0]) ∧ (((c : Int) == 110) = false → ((c : Int) == 97) = true → letW c = [1, 0]) ∧ (((c : Int) == 110) = false → ((c : Int) == 97) = false → ((c : Int) == 98) = true → letW c = [1, 1]) ∧
    (((c : Int) == 110) = false → ((c : Int) == 97) = false → ((c : Int) == 98) = false → ((c : Int) == 112) = true → letW c = progW) ∧ (((c : Int) == 110) = false → ((c : Int) == 97) = false → ((c : Int) == 98) = false → ((c : Int) == 112) = false → letW c = [2, 3, 0, 3, 0]) := by
  have h : ∀ k : Nat, (((c : Int) == (k : Int)) = decide (c = k)) := fun k => by
    rw [Bool.eq_iff_iff, decide_eq_true_eq, beq_iff_eq]; omega
  have h1 : ((c : Int) == 110) = decide (c = 110) := h 110
  have h2 : ((c : Int) == 97) = decide (c = 97) := h 97
  have h3 : ((c : Int) == 98) = decide (c = 98) := h 98
  have h4 : ((c : Int) == 112) = decide (c = 112) := h 112
  rw [h1, h2, h3, h4]
  simp only [decide_eq_true_eq, decide_eq_false_iff_not]
  unfold letW
  refine ⟨fun a => if_pos a, fun a b => ?_, fun a b c => ?_, fun a b c d => ?_, fun a b c d => ?_⟩
  · rw [if_neg a, if_pos b]
  · rw [if_neg a, if_neg b, if_pos c]
  · rw [if_neg a, if_neg b, if_neg c, if_pos d]
  · rw [if_neg a, if_neg b, if_neg c, if_neg d]
theorem strW_succ {s : ByteArray} {j : Nat} (h : j < s.size) (bottom : Int) : strW (s.toList.take (j + 1)) bottom = 4 :: (strW (s.toList.take j) bottom ++ letW s[j].toNat) := by
  have hg : s.toList[j]? = some s[j] := by
    rw [Go.ByteArray.toList_eq]
    have h2 : j < s.data.size := h
    rw [Array.getElem?_toList, Array.getElem?_eq_getElem h2]; rfl
  rw [List.take_add_one, hg, strW, List.foldl_append]; rfl
def LRow (w : World) (s : List UInt8) (bottom : Int) (v k : Value) (wr : World) : Prop := ∃ (j : Nat), k = .int .i64 j ∧ j ≤ s.length ∧ OwnI wr w.heap.size wr.heap.size v (strW (s.take j) bottom) ∧ (strW (s.take j) bottom).length ≤ 2 + 6 * j ∧ Below w.heap.size w wr
set_option maxHeartbeats 1000000 in
theorem l4Row_any (s : ByteArray) (bottom : Int) (w : World) (hs : s.size ≤ 20) (hb : 0 ≤ bottom ∧ bottom ≤ 1000) :
    Calls Tryz.prog 90 #[.string s, .int .i64 bottom] w fun e w' => ∃ u, e = .returned u ∧ OwnI w' w.heap.size w'.heap.size u (strW s.toList bottom) ∧ Below w.heap.size w w' := by
  have hlen : s.toList.length = s.size := by rw [Go.ByteArray.toList_eq]; rfl
  have ho := lits_own w [3, bottom] (by simp) (by intro q hq; simp only [List.mem_cons, List.not_mem_nil, or_false] at hq; exact wf_near _ (by omega))
  have hal : Below w.heap.size w (w.alloc (.cells #[.int .i64 3, .int .i64 bottom] 3)) := (Below.refl _ _).alloc (Nat.le_refl _) _
  have hst : LRow w s.toList bottom (.slice (some ⟨w.heap.size, 0, none⟩) 2 2) (.int .i64 ((0 : Nat) : Int)) (w.alloc (.cells #[.int .i64 3, .int .i64 bottom] 3)) := ⟨0, rfl, Nat.zero_le _, ⟨ho.own, fun k hk => by simpa using ho.lt k hk⟩, by simp [strW], hal⟩
  have Hst := Lib.hid hst; clear hst ho hal
  go_enter Tryz.func90, Tryz.ntmps90
  go_wp2
  go_loopw [5, 6] (fun v k wr => LRow w s.toList bottom v k wr) (fun _ k _ => s.size - (intOf k).toNat)
  case atStart => exact Hst.out
  case round =>
    clear Hst
    obtain ⟨j, rfl, hj, hown, hl, hbw⟩ := hrel
    have hsw := hbw.size
    rw [hlen] at hj
    by_cases hlt : j < s.size
    · have hltI : (j : Int) < s.size := by omega
      obtain ⟨A, c, rfl, _⟩ := hown.rd
      have hal1 : Below wr.heap.size wr (wr.alloc (.cells #[.int .i64 4] 3)) := (Below.refl _ _).alloc (Nat.le_refl _) _
      have L1 := lits_own wr [4] (by simp) (by intro q hq; simp only [List.mem_cons, List.not_mem_nil, or_false] at hq; subst hq; exact wf_near _ (by omega))
      have X := Lib.hid (And.intro L1 (And.intro ((hown.below hal1).rd) (hbw.trans (hal1.mono hsw)))); clear L1 hown hal1 hbw
      generalize hz : strW (s.toList.take j) bottom = zs at *
      have HZ := Lib.hid hz; clear hz
      go_wp2_with (at_builtin; refine wpList_append_V rfl _ _ _ rfl Tryz.underlying23 intInfo wr.heap.size (wr.heap.size + 1) _ [4] rfl X.out.1 (by simp) _ zs rfl X.out.2.1 (by simp; omega) ?_)
      intro v2 w2 ho2 hb2
      replace ho2 : OwnI w2 wr.heap.size w2.heap.size v2 (4 :: zs) := ho2
      obtain ⟨q, hq⟩ : ∃ q : List Int, 4 :: zs = q := ⟨_, rfl⟩
      rw [hq] at ho2
      have hql : q.length ≤ 2 + 6 * j + 1 := by rw [← hq, List.length_cons]; omega
      obtain ⟨A2, c2, rfl, _⟩ := ho2.rd
      have hs2 : wr.heap.size + 1 ≤ w2.heap.size := by have := hb2.size; rw [World.size_alloc] at this; exact this
      have hsuc := strW_succ hlt bottom
      rw [HZ.out] at hsuc
      have hsuc2 : strW (s.toList.take (j + 1)) bottom = q ++ letW s[j].toNat := by rw [hsuc, ← hq]; rfl
      have Y := Lib.hid (And.intro ho2 (And.intro (X.out.2.2.trans (hb2.mono hsw)) hsuc2)); clear ho2 hb2 hsuc hsuc2 hq X HZ
      have hsw2 : w.heap.size ≤ w2.heap.size := by omega
      have F0 : Hid (OwnI (w2.alloc (.cells #[.int .i64 0] 3)) wr.heap.size w2.heap.size (.slice A2 q.length c2) q ∧ RdI (w2.alloc (.cells #[.int .i64 0] 3)) (.slice (some ⟨w2.heap.size, 0, none⟩) 1 1) [0] ∧ Below w.heap.size w (w2.alloc (.cells #[.int .i64 0] 3))) := by
        have hal : Below w2.heap.size w2 (w2.alloc (.cells #[.int .i64 0] 3)) := (Below.refl _ _).alloc (Nat.le_refl _) _
        have hl := (lits_own w2 [0] (by simp) (by intro q hq; simp only [List.mem_cons, List.not_mem_nil, or_false] at hq; exact wf_near _ (by omega))).rd
        exact Lib.hid ⟨Y.out.1.below hal, by simpa [progW] using hl, Y.out.2.1.trans (hal.mono hsw2)⟩
      have F1 : Hid (OwnI (w2.alloc (.cells #[.int .i64 1, .int .i64 0] 3)) wr.heap.size w2.heap.size (.slice A2 q.length c2) q ∧ RdI (w2.alloc (.cells #[.int .i64 1, .int .i64 0] 3)) (.slice (some ⟨w2.heap.size, 0, none⟩) 2 2) [1, 0] ∧ Below w.heap.size w (w2.alloc (.cells #[.int .i64 1, .int .i64 0] 3))) := by
        have hal : Below w2.heap.size w2 (w2.alloc (.cells #[.int .i64 1, .int .i64 0] 3)) := (Below.refl _ _).alloc (Nat.le_refl _) _
        have hl := (lits_own w2 [1, 0] (by simp) (by intro q hq; simp only [List.mem_cons, List.not_mem_nil, or_false] at hq; exact wf_near _ (by omega))).rd
        exact Lib.hid ⟨Y.out.1.below hal, by simpa [progW] using hl, Y.out.2.1.trans (hal.mono hsw2)⟩
      have F2 : Hid (OwnI (w2.alloc (.cells #[.int .i64 1, .int .i64 1] 3)) wr.heap.size w2.heap.size (.slice A2 q.length c2) q ∧ RdI (w2.alloc (.cells #[.int .i64 1, .int .i64 1] 3)) (.slice (some ⟨w2.heap.size, 0, none⟩) 2 2) [1, 1] ∧ Below w.heap.size w (w2.alloc (.cells #[.int .i64 1, .int .i64 1] 3))) := by
        have hal : Below w2.heap.size w2 (w2.alloc (.cells #[.int .i64 1, .int .i64 1] 3)) := (Below.refl _ _).alloc (Nat.le_refl _) _
        have hl := (lits_own w2 [1, 1] (by simp) (by intro q hq; simp only [List.mem_cons, List.not_mem_nil, or_false] at hq; exact wf_near _ (by omega))).rd
        exact Lib.hid ⟨Y.out.1.below hal, by simpa [progW] using hl, Y.out.2.1.trans (hal.mono hsw2)⟩
      have F3 : Hid (OwnI (w2.alloc (.cells #[.int .i64 2, .int .i64 3, .int .i64 0, .int .i64 3, .int .i64 1] 3)) wr.heap.size w2.heap.size (.slice A2 q.length c2) q ∧ RdI (w2.alloc (.cells #[.int .i64 2, .int .i64 3, .int .i64 0, .int .i64 3, .int .i64 1] 3)) (.slice (some ⟨w2.heap.size, 0, none⟩) 5 5) progW ∧ Below w.heap.size w (w2.alloc (.cells #[.int .i64 2, .int .i64 3, .int .i64 0, .int .i64 3, .int .i64 1] 3))) := by
        have hal : Below w2.heap.size w2 (w2.alloc (.cells #[.int .i64 2, .int .i64 3, .int .i64 0, .int .i64 3, .int .i64 1] 3)) := (Below.refl _ _).alloc (Nat.le_refl _) _
        have hl := (lits_own w2 [2, 3, 0, 3, 1] (by simp) (by intro q hq; simp only [List.mem_cons, List.not_mem_nil, or_false] at hq; exact wf_near _ (by omega))).rd
        exact Lib.hid ⟨Y.out.1.below hal, by simpa [progW] using hl, Y.out.2.1.trans (hal.mono hsw2)⟩
      have F4 : Hid (OwnI (w2.alloc (.cells #[.int .i64 2, .int .i64 3, .int .i64 0, .int .i64 3, .int .i64 0] 3)) wr.heap.size w2.heap.size (.slice A2 q.length c2) q ∧ RdI (w2.alloc (.cells #[.int .i64 2, .int .i64 3, .int .i64 0, .int .i64 3, .int .i64 0] 3)) (.slice (some ⟨w2.heap.size, 0, none⟩) 5 5) [2, 3, 0, 3, 0] ∧ Below w.heap.size w (w2.alloc (.cells #[.int .i64 2, .int .i64 3, .int .i64 0, .int .i64 3, .int .i64 0] 3))) := by
        have hal : Below w2.heap.size w2 (w2.alloc (.cells #[.int .i64 2, .int .i64 3, .int .i64 0, .int .i64 3, .int .i64 0] 3)) := (Below.refl _ _).alloc (Nat.le_refl _) _
        have hl := (lits_own w2 [2, 3, 0, 3, 0] (by simp) (by intro q hq; simp only [List.mem_cons, List.not_mem_nil, or_false] at hq; exact wf_near _ (by omega))).rd
        exact Lib.hid ⟨Y.out.1.below hal, by simpa [progW] using hl, Y.out.2.1.trans (hal.mono hsw2)⟩
      go_wp2_with (at_builtin; first | (refine wpList_append_V rfl _ _ _ rfl Tryz.underlying23 intInfo wr.heap.size w2.heap.size _ q rfl F0.out.1 (by simp; omega) (.slice (some ⟨w2.heap.size, 0, none⟩) 1 1) [0] rfl F0.out.2.1 (by first | (simp only [List.length_cons, List.length_nil]; omega) | (have : progW.length ≤ 5 := (by decide); omega)) ?_; intro v3 w3 ho3 hb3; have hlet := (letW_of _).1 (by assumption); have hs3 : wr.heap.size ≤ (w2.alloc (.cells #[.int .i64 0] 3)).heap.size := (by rw [World.size_alloc]; omega); have heq : strW (s.toList.take (j + 1)) bottom = q ++ [0] := Y.out.2.2.trans (by rw [hlet]); have h5 : ([0] : List Int).length ≤ 5 := (by decide); have K : Hid (OwnI w3 w.heap.size w3.heap.size v3 (strW (s.toList.take (j + 1)) bottom) ∧ (strW (s.toList.take (j + 1)) bottom).length ≤ 2 + 6 * (j + 1) ∧ Below w.heap.size w w3) := Lib.hid ⟨(by rw [heq]; exact ⟨ho3.own.mono hsw, ho3.lt⟩), (by rw [heq, List.length_append]; omega), F0.out.2.2.trans (hb3.mono hsw)⟩; clear ho3 hb3 hlet hs3 heq h5) | (refine wpList_append_V rfl _ _ _ rfl Tryz.underlying23 intInfo wr.heap.size w2.heap.size _ q rfl F1.out.1 (by simp; omega) (.slice (some ⟨w2.heap.size, 0, none⟩) 2 2) [1, 0] rfl F1.out.2.1 (by first | (simp only [List.length_cons, List.length_nil]; omega) | (have : progW.length ≤ 5 := (by decide); omega)) ?_; intro v3 w3 ho3 hb3; have hlet := (letW_of _).2.1 (by assumption) (by assumption); have hs3 : wr.heap.size ≤ (w2.alloc (.cells #[.int .i64 1, .int .i64 0] 3)).heap.size := (by rw [World.size_alloc]; omega); have heq : strW (s.toList.take (j + 1)) bottom = q ++ [1, 0] := Y.out.2.2.trans (by rw [hlet]); have h5 : ([1, 0] : List Int).length ≤ 5 := (by decide); have K : Hid (OwnI w3 w.heap.size w3.heap.size v3 (strW (s.toList.take (j + 1)) bottom) ∧ (strW (s.toList.take (j + 1)) bottom).length ≤ 2 + 6 * (j + 1) ∧ Below w.heap.size w w3) := Lib.hid ⟨(by rw [heq]; exact ⟨ho3.own.mono hsw, ho3.lt⟩), (by rw [heq, List.length_append]; omega), F1.out.2.2.trans (hb3.mono hsw)⟩; clear ho3 hb3 hlet hs3 heq h5) | (refine wpList_append_V rfl _ _ _ rfl Tryz.underlying23 intInfo wr.heap.size w2.heap.size _ q rfl F2.out.1 (by simp; omega) (.slice (some ⟨w2.heap.size, 0, none⟩) 2 2) [1, 1] rfl F2.out.2.1 (by first | (simp only [List.length_cons, List.length_nil]; omega) | (have : progW.length ≤ 5 := (by decide); omega)) ?_; intro v3 w3 ho3 hb3; have hlet := (letW_of _).2.2.1 (by assumption) (by assumption) (by assumption); have hs3 : wr.heap.size ≤ (w2.alloc (.cells #[.int .i64 1, .int .i64 1] 3)).heap.size := (by rw [World.size_alloc]; omega); have heq : strW (s.toList.take (j + 1)) bottom = q ++ [1, 1] := Y.out.2.2.trans (by rw [hlet]); have h5 : ([1, 1] : List Int).length ≤ 5 := (by decide); have K : Hid (OwnI w3 w.heap.size w3.heap.size v3 (strW (s.toList.take (j + 1)) bottom) ∧ (strW (s.toList.take (j + 1)) bottom).length ≤ 2 + 6 * (j + 1) ∧ Below w.heap.size w w3) := Lib.hid ⟨(by rw [heq]; exact ⟨ho3.own.mono hsw, ho3.lt⟩), (by rw [heq, List.length_append]; omega), F2.out.2.2.trans (hb3.mono hsw)⟩; clear ho3 hb3 hlet hs3 heq h5) | (refine wpList_append_V rfl _ _ _ rfl Tryz.underlying23 intInfo wr.heap.size w2.heap.size _ q rfl F3.out.1 (by simp; omega) (.slice (some ⟨w2.heap.size, 0, none⟩) 5 5) progW rfl F3.out.2.1 (by first | (simp only [List.length_cons, List.length_nil]; omega) | (have : progW.length ≤ 5 := (by decide); omega)) ?_; intro v3 w3 ho3 hb3; have hlet := (letW_of _).2.2.2.1 (by assumption) (by assumption) (by assumption) (by assumption); have hs3 : wr.heap.size ≤ (w2.alloc (.cells #[.int .i64 2, .int .i64 3, .int .i64 0, .int .i64 3, .int .i64 1] 3)).heap.size := (by rw [World.size_alloc]; omega); have heq : strW (s.toList.take (j + 1)) bottom = q ++ progW := Y.out.2.2.trans (by rw [hlet]); have h5 : (progW : List Int).length ≤ 5 := (by decide); have K : Hid (OwnI w3 w.heap.size w3.heap.size v3 (strW (s.toList.take (j + 1)) bottom) ∧ (strW (s.toList.take (j + 1)) bottom).length ≤ 2 + 6 * (j + 1) ∧ Below w.heap.size w w3) := Lib.hid ⟨(by rw [heq]; exact ⟨ho3.own.mono hsw, ho3.lt⟩), (by rw [heq, List.length_append]; omega), F3.out.2.2.trans (hb3.mono hsw)⟩; clear ho3 hb3 hlet hs3 heq h5) | (refine wpList_append_V rfl _ _ _ rfl Tryz.underlying23 intInfo wr.heap.size w2.heap.size _ q rfl F4.out.1 (by simp; omega) (.slice (some ⟨w2.heap.size, 0, none⟩) 5 5) [2, 3, 0, 3, 0] rfl F4.out.2.1 (by first | (simp only [List.length_cons, List.length_nil]; omega) | (have : progW.length ≤ 5 := (by decide); omega)) ?_; intro v3 w3 ho3 hb3; have hlet := (letW_of _).2.2.2.2 (by assumption) (by assumption) (by assumption) (by assumption); have hs3 : wr.heap.size ≤ (w2.alloc (.cells #[.int .i64 2, .int .i64 3, .int .i64 0, .int .i64 3, .int .i64 0] 3)).heap.size := (by rw [World.size_alloc]; omega); have heq : strW (s.toList.take (j + 1)) bottom = q ++ [2, 3, 0, 3, 0] := Y.out.2.2.trans (by rw [hlet]); have h5 : ([2, 3, 0, 3, 0] : List Int).length ≤ 5 := (by decide); have K : Hid (OwnI w3 w.heap.size w3.heap.size v3 (strW (s.toList.take (j + 1)) bottom) ∧ (strW (s.toList.take (j + 1)) bottom).length ≤ 2 + 6 * (j + 1) ∧ Below w.heap.size w w3) := Lib.hid ⟨(by rw [heq]; exact ⟨ho3.own.mono hsw, ho3.lt⟩), (by rw [heq, List.length_append]; omega), F4.out.2.2.trans (hb3.mono hsw)⟩; clear ho3 hb3 hlet hs3 heq h5))
      all_goals (
        go_wp2
        go_roundw
        case rel => exact ⟨j + 1, by go_num, by omega, K.out.1, K.out.2.1, K.out.2.2⟩
        case measure => simp [intOf]; omega)
    · have hall : s.toList.take j = s.toList := List.take_of_length_le (by omega)
      rw [hall] at hown
      have X := Lib.hid (And.intro hown hbw); clear hown hbw
      go_wp2
      go_ret
      exact ⟨_, rfl, X.out⟩

def RowsPost (w : World) (a b : List Int) (e : Ending) (w' : World) : Prop := ∃ u0 u1 lo0 hi0 lo1 hi1, e = .returned (.agg #[u0, u1]) ∧ OwnI w' lo0 hi0 u0 a ∧ OwnI w' lo1 hi1 u1 b ∧ w.heap.size + 1 ≤ lo0 ∧ w.heap.size + 1 ≤ lo1 ∧ Below w.heap.size w w'
set_option maxHeartbeats 1000000 in
theorem l4Rows_any (si so : ByteArray) (n : Int) (w : World) (hi : si.size ≤ 20) (ho : so.size ≤ 20) (hn : 0 ≤ n ∧ n ≤ 1000) :
    Calls Tryz.prog 70 #[.string si, .string so, .int .i64 n] w (RowsPost w (strW si.toList 0) (strW so.toList n)) := by
  have hal : Below w.heap.size w (w.alloc (.cells #[.slice none 0 0, .slice none 0 0] 72)) := (Below.refl _ _).alloc (Nat.le_refl _) _
  have hbk := Blk.new w #[.slice none 0 0, .slice none 0 0] 72
  have S0 := Lib.hid (And.intro hal hbk); clear hal hbk
  go_enter Tryz.func70, Tryz.ntmps70
  go_wp2_with fail
  refine (l4Row_any si 0 _ hi (by omega)).mono ?_
  rintro e w1 ⟨u0, rfl, o0, hb⟩
  rw [World.size_alloc] at o0
  have hs1 : w.heap.size + 1 ≤ w1.heap.size := by have := hb.size; rw [World.size_alloc] at this; exact this
  obtain ⟨A0, c0, rfl, _⟩ := o0.rd
  generalize strW si.toList 0 = a at *
  have S1 := Lib.hid (And.intro o0 (And.intro (S0.out.1.trans (hb.mono (by rw [World.size_alloc]; omega))) (S0.out.2.below hb (by rw [World.size_alloc]; omega)))); clear S0 o0 hb
  go_wp2_with fail
  refine (l4Row_any so n _ ho (by omega)).mono ?_
  rintro e w2 ⟨u1, rfl, o1, hb⟩
  have hs2 := hb.size
  obtain ⟨A1, c1, rfl, _⟩ := o1.rd
  generalize strW so.toList n = b at *
  have hB := S1.out.2.2.below hb (by omega)
  obtain ⟨cc0, cc1, ff0, ff1⟩ := blk_two hB
  obtain ⟨e0, e1⟩ := blk_two_out hB (x := .slice A0 a.length c0) (y := .slice A1 b.length c1)
  have k0 := ((S1.out.1.below hb).apart (within_setCell _ w.heap.size 0 (.slice A0 a.length c0)) (.inr (by omega))).apart (within_setCell _ w.heap.size 1 (.slice A1 b.length c1)) (.inr (by omega))
  have k1 := (o1.apart (within_setCell _ w.heap.size 0 (.slice A0 a.length c0)) (.inr (by omega))).apart (within_setCell _ w.heap.size 1 (.slice A1 b.length c1)) (.inr (by omega))
  have kb := ((S1.out.2.1.trans (hb.mono (by omega))).setCell (p := ⟨w.heap.size, 0, none⟩) (Nat.le_refl _) (.slice A0 a.length c0)).setCell (p := ⟨w.heap.size, 1, none⟩) (Nat.le_refl _) (.slice A1 b.length c1)
  have R := Lib.hid (And.intro k0 (And.intro k1 kb)); clear k0 k1 kb hB o1 hb S1
  go_wp2
  refine bodyPost_ret (v := .agg #[.slice A0 a.length c0, .slice A1 b.length c1]) (by simp [results, Tryz.results70, go_sem, e0, e1]) rfl ?_
  exact ⟨_, _, _, _, _, _, rfl, R.out.1, R.out.2.1, Nat.le_refl _, hs1, R.out.2.2⟩

def EdPost (w : World) (y0 y1 : List Int) (y2 : Bool) (e : Ending) (w' : World) : Prop := ∃ u0 u1, e = .returned (.tuple #[.agg #[u0, u1], .bool y2]) ∧ RdI w' u0 y0 ∧ RdI w' u1 y1 ∧ Below w.heap.size w w'
theorem ed_end {w w1 : World} {A0 A1 : Option Addr} {c0 c1 lo0 hi0 lo1 hi1 : Nat} {q0 q1 : List Int} (h0 : OwnI w1 lo0 hi0 (.slice A0 q0.length c0) q0) (h1 : OwnI w1 lo1 hi1 (.slice A1 q1.length c1) q1) (k0 : w.heap.size + 1 + 1 ≤ lo0) (k1 : w.heap.size + 1 + 1 ≤ lo1) (hb : Below w.heap.size w w1) :
    EdPost w q0 q1 true (.returned (.tuple #[.agg #[.slice A0 q0.length c0, .slice A1 q1.length c1], .bool true])) ((w1.setCell ⟨w.heap.size, 0, none⟩ (.slice A0 q0.length c0)).setCell ⟨w.heap.size, 1, none⟩ (.slice A1 q1.length c1)) :=
  ⟨_, _, rfl, ((h0.apart (within_setCell _ w.heap.size 0 (.slice A0 q0.length c0)) (.inr (by omega))).apart (within_setCell _ w.heap.size 1 (.slice A1 q1.length c1)) (.inr (by omega))).rd,
    ((h1.apart (within_setCell _ w.heap.size 0 (.slice A0 q0.length c0)) (.inr (by omega))).apart (within_setCell _ w.heap.size 1 (.slice A1 q1.length c1)) (.inr (by omega))).rd, (hb.setCell (Nat.le_refl _) _).setCell (Nat.le_refl _) _⟩
theorem strW_data (l : Array UInt8) (n : Int) : strW (ByteArray.mk l).toList n = strW l.toList n := by rw [Go.ByteArray.toList_eq]
set_option maxHeartbeats 8000000 in
theorem WordEffect_S (n : Int) (w : World) (_ : InK .i64 n) (y0 y1 : List Int) (y2 : Bool) (hR : wordR n = (y0, y1, y2)) :
    Calls Tryz.prog 41 #[.int .i64 n] w (EdPost w y0 y1 y2) := by
  have HR := Lib.hid hR; clear hR
  have hal : Below w.heap.size w (w.alloc (.cells #[.slice none 0 0, .slice none 0 0] 72)) := (Below.refl _ _).alloc (Nat.le_refl _) _
  have hbk := Blk.new w #[.slice none 0 0, .slice none 0 0] 72
  have S0 := Lib.hid (And.intro hal hbk); clear hal hbk
  go_enter Tryz.func41, Tryz.ntmps41
  go_wp2_with fail
  refine (l1In_any n 0 999 _).mono ?_
  rintro e w' ⟨rfl, rfl⟩
  rcases hz : (decide (0 ≤ n) && decide (n ≤ 999)) with _ | _
  case true =>
    have hz2 : 0 ≤ n ∧ n ≤ 999 := by simpa using hz
    have he : (strW [] 0, strW [110] 0, true) = (y0, y1, y2) := by rw [← HR.out, wordR]; rw [if_pos hz2]; rfl
    have HE := Lib.hid he; clear he HR
    go_wp2_with fail
    refine (l4Rows_any ⟨#[]⟩ ⟨#[110]⟩ 0 _ (by decide) (by decide) (by omega)).mono ?_
    rw [strW_data, strW_data]
    rintro e w1 ⟨u0, u1, lo0, hi0, lo1, hi1, rfl, h0, h1, k0, k1, hb⟩
    rw [World.size_alloc] at k0 k1
    obtain ⟨rfl, rfl, rfl⟩ : strW [] 0 = y0 ∧ strW [110] 0 = y1 ∧ true = y2 := by have := HE.out; simp only [Prod.mk.injEq] at this; exact this
    replace h0 : OwnI w1 lo0 hi0 u0 (strW [] 0) := h0
    replace h1 : OwnI w1 lo1 hi1 u1 (strW [110] 0) := h1
    clear HE
    generalize strW [] 0 = q0 at *
    generalize strW [110] 0 = q1 at *
    obtain ⟨A0, c0, rfl, _⟩ := h0.rd
    obtain ⟨A1, c1, rfl, _⟩ := h1.rd
    have hB := S0.out.2.below hb (by rw [World.size_alloc]; omega)
    obtain ⟨cc0, cc1, ff0, ff1⟩ := blk_two hB
    obtain ⟨e0, e1⟩ := blk_two_out hB (x := .slice A0 q0.length c0) (y := .slice A1 q1.length c1)
    have R := Lib.hid (ed_end h0 h1 k0 k1 (S0.out.1.trans (hb.mono (by rw [World.size_alloc]; omega)))); clear h0 h1 hb hB S0
    go_wp2
    refine bodyPost_ret (v := .tuple #[.agg #[.slice A0 q0.length c0, .slice A1 q1.length c1], .bool true]) (by simp [results, Tryz.results41, go_sem, e0, e1]) rfl ?_
    exact R.out
  have hz2 : ¬ (0 ≤ n ∧ n ≤ 999) := by
    intro h; simp only [Bool.and_eq_false_iff, decide_eq_false_iff_not] at hz; omega
  have HZ := Lib.hid hz2; clear hz hz2
  by_cases h1001 : n = 1001
  · subst h1001
    have he : (strW [97] 0, strW [97, 97] 0, true) = (y0, y1, y2) := by rw [← HR.out, wordR]; rw [if_neg HZ.out, if_pos rfl]; rfl
    have HE := Lib.hid he; clear he HR
    go_wp2_with fail
    refine (l4Rows_any ⟨#[97]⟩ ⟨#[97, 97]⟩ 0 _ (by decide) (by decide) (by omega)).mono ?_
    rw [strW_data, strW_data]
    rintro e w1 ⟨u0, u1, lo0, hi0, lo1, hi1, rfl, h0, h1, k0, k1, hb⟩
    rw [World.size_alloc] at k0 k1
    obtain ⟨rfl, rfl, rfl⟩ : strW [97] 0 = y0 ∧ strW [97, 97] 0 = y1 ∧ true = y2 := by have := HE.out; simp only [Prod.mk.injEq] at this; exact this
    replace h0 : OwnI w1 lo0 hi0 u0 (strW [97] 0) := h0
    replace h1 : OwnI w1 lo1 hi1 u1 (strW [97, 97] 0) := h1
    clear HE
    generalize strW [97] 0 = q0 at *
    generalize strW [97, 97] 0 = q1 at *
    obtain ⟨A0, c0, rfl, _⟩ := h0.rd
    obtain ⟨A1, c1, rfl, _⟩ := h1.rd
    have hB := S0.out.2.below hb (by rw [World.size_alloc]; omega)
    obtain ⟨cc0, cc1, ff0, ff1⟩ := blk_two hB
    obtain ⟨e0, e1⟩ := blk_two_out hB (x := .slice A0 q0.length c0) (y := .slice A1 q1.length c1)
    have R := Lib.hid (ed_end h0 h1 k0 k1 (S0.out.1.trans (hb.mono (by rw [World.size_alloc]; omega)))); clear h0 h1 hb hB S0
    go_wp2
    refine bodyPost_ret (v := .tuple #[.agg #[.slice A0 q0.length c0, .slice A1 q1.length c1], .bool true]) (by simp [results, Tryz.results41, go_sem, e0, e1]) rfl ?_
    exact R.out
  have b1001 : (n == 1001) = false := by simpa using h1001
  by_cases h1002 : n = 1002
  · subst h1002
    have he : (strW [97] 0, strW [] 0, true) = (y0, y1, y2) := by rw [← HR.out, wordR]; rw [if_neg HZ.out, if_neg (by omega), if_pos rfl]; rfl
    have HE := Lib.hid he; clear he HR
    go_wp2_with fail
    refine (l4Rows_any ⟨#[97]⟩ ⟨#[]⟩ 0 _ (by decide) (by decide) (by omega)).mono ?_
    rw [strW_data, strW_data]
    rintro e w1 ⟨u0, u1, lo0, hi0, lo1, hi1, rfl, h0, h1, k0, k1, hb⟩
    rw [World.size_alloc] at k0 k1
    obtain ⟨rfl, rfl, rfl⟩ : strW [97] 0 = y0 ∧ strW [] 0 = y1 ∧ true = y2 := by have := HE.out; simp only [Prod.mk.injEq] at this; exact this
    replace h0 : OwnI w1 lo0 hi0 u0 (strW [97] 0) := h0
    replace h1 : OwnI w1 lo1 hi1 u1 (strW [] 0) := h1
    clear HE
    generalize strW [97] 0 = q0 at *
    generalize strW [] 0 = q1 at *
    obtain ⟨A0, c0, rfl, _⟩ := h0.rd
    obtain ⟨A1, c1, rfl, _⟩ := h1.rd
    have hB := S0.out.2.below hb (by rw [World.size_alloc]; omega)
    obtain ⟨cc0, cc1, ff0, ff1⟩ := blk_two hB
    obtain ⟨e0, e1⟩ := blk_two_out hB (x := .slice A0 q0.length c0) (y := .slice A1 q1.length c1)
    have R := Lib.hid (ed_end h0 h1 k0 k1 (S0.out.1.trans (hb.mono (by rw [World.size_alloc]; omega)))); clear h0 h1 hb hB S0
    go_wp2
    refine bodyPost_ret (v := .tuple #[.agg #[.slice A0 q0.length c0, .slice A1 q1.length c1], .bool true]) (by simp [results, Tryz.results41, go_sem, e0, e1]) rfl ?_
    exact R.out
  have b1002 : (n == 1002) = false := by simpa using h1002
  by_cases h1003 : n = 1003
  · subst h1003
    have he : (strW [97, 98] 0, strW [98, 97] 0, true) = (y0, y1, y2) := by rw [← HR.out, wordR]; rw [if_neg HZ.out, if_neg (by omega), if_neg (by omega), if_pos rfl]; rfl
    have HE := Lib.hid he; clear he HR
    go_wp2_with fail
    refine (l4Rows_any ⟨#[97, 98]⟩ ⟨#[98, 97]⟩ 0 _ (by decide) (by decide) (by omega)).mono ?_
    rw [strW_data, strW_data]
    rintro e w1 ⟨u0, u1, lo0, hi0, lo1, hi1, rfl, h0, h1, k0, k1, hb⟩
    rw [World.size_alloc] at k0 k1
    obtain ⟨rfl, rfl, rfl⟩ : strW [97, 98] 0 = y0 ∧ strW [98, 97] 0 = y1 ∧ true = y2 := by have := HE.out; simp only [Prod.mk.injEq] at this; exact this
    replace h0 : OwnI w1 lo0 hi0 u0 (strW [97, 98] 0) := h0
    replace h1 : OwnI w1 lo1 hi1 u1 (strW [98, 97] 0) := h1
    clear HE
    generalize strW [97, 98] 0 = q0 at *
    generalize strW [98, 97] 0 = q1 at *
    obtain ⟨A0, c0, rfl, _⟩ := h0.rd
    obtain ⟨A1, c1, rfl, _⟩ := h1.rd
    have hB := S0.out.2.below hb (by rw [World.size_alloc]; omega)
    obtain ⟨cc0, cc1, ff0, ff1⟩ := blk_two hB
    obtain ⟨e0, e1⟩ := blk_two_out hB (x := .slice A0 q0.length c0) (y := .slice A1 q1.length c1)
    have R := Lib.hid (ed_end h0 h1 k0 k1 (S0.out.1.trans (hb.mono (by rw [World.size_alloc]; omega)))); clear h0 h1 hb hB S0
    go_wp2
    refine bodyPost_ret (v := .tuple #[.agg #[.slice A0 q0.length c0, .slice A1 q1.length c1], .bool true]) (by simp [results, Tryz.results41, go_sem, e0, e1]) rfl ?_
    exact R.out
  have b1003 : (n == 1003) = false := by simpa using h1003
  by_cases h1004 : n = 1004
  · subst h1004
    have he : (strW [97, 112] 0, strW [97] 1, true) = (y0, y1, y2) := by rw [← HR.out, wordR]; rw [if_neg HZ.out, if_neg (by omega), if_neg (by omega), if_neg (by omega), if_pos rfl]; rfl
    have HE := Lib.hid he; clear he HR
    go_wp2_with fail
    refine (l4Rows_any ⟨#[97, 112]⟩ ⟨#[97]⟩ 1 _ (by decide) (by decide) (by omega)).mono ?_
    rw [strW_data, strW_data]
    rintro e w1 ⟨u0, u1, lo0, hi0, lo1, hi1, rfl, h0, h1, k0, k1, hb⟩
    rw [World.size_alloc] at k0 k1
    obtain ⟨rfl, rfl, rfl⟩ : strW [97, 112] 0 = y0 ∧ strW [97] 1 = y1 ∧ true = y2 := by have := HE.out; simp only [Prod.mk.injEq] at this; exact this
    replace h0 : OwnI w1 lo0 hi0 u0 (strW [97, 112] 0) := h0
    replace h1 : OwnI w1 lo1 hi1 u1 (strW [97] 1) := h1
    clear HE
    generalize strW [97, 112] 0 = q0 at *
    generalize strW [97] 1 = q1 at *
    obtain ⟨A0, c0, rfl, _⟩ := h0.rd
    obtain ⟨A1, c1, rfl, _⟩ := h1.rd
    have hB := S0.out.2.below hb (by rw [World.size_alloc]; omega)
    obtain ⟨cc0, cc1, ff0, ff1⟩ := blk_two hB
    obtain ⟨e0, e1⟩ := blk_two_out hB (x := .slice A0 q0.length c0) (y := .slice A1 q1.length c1)
    have R := Lib.hid (ed_end h0 h1 k0 k1 (S0.out.1.trans (hb.mono (by rw [World.size_alloc]; omega)))); clear h0 h1 hb hB S0
    go_wp2
    refine bodyPost_ret (v := .tuple #[.agg #[.slice A0 q0.length c0, .slice A1 q1.length c1], .bool true]) (by simp [results, Tryz.results41, go_sem, e0, e1]) rfl ?_
    exact R.out
  have b1004 : (n == 1004) = false := by simpa using h1004
  by_cases h1005 : n = 1005
  · subst h1005
    have he : (strW [112] 0, strW [] 1, true) = (y0, y1, y2) := by rw [← HR.out, wordR]; rw [if_neg HZ.out, if_neg (by omega), if_neg (by omega), if_neg (by omega), if_neg (by omega), if_pos rfl]; rfl
    have HE := Lib.hid he; clear he HR
    go_wp2_with fail
    refine (l4Rows_any ⟨#[112]⟩ ⟨#[]⟩ 1 _ (by decide) (by decide) (by omega)).mono ?_
    rw [strW_data, strW_data]
    rintro e w1 ⟨u0, u1, lo0, hi0, lo1, hi1, rfl, h0, h1, k0, k1, hb⟩
    rw [World.size_alloc] at k0 k1
    obtain ⟨rfl, rfl, rfl⟩ : strW [112] 0 = y0 ∧ strW [] 1 = y1 ∧ true = y2 := by have := HE.out; simp only [Prod.mk.injEq] at this; exact this
    replace h0 : OwnI w1 lo0 hi0 u0 (strW [112] 0) := h0
    replace h1 : OwnI w1 lo1 hi1 u1 (strW [] 1) := h1
    clear HE
    generalize strW [112] 0 = q0 at *
    generalize strW [] 1 = q1 at *
    obtain ⟨A0, c0, rfl, _⟩ := h0.rd
    obtain ⟨A1, c1, rfl, _⟩ := h1.rd
    have hB := S0.out.2.below hb (by rw [World.size_alloc]; omega)
    obtain ⟨cc0, cc1, ff0, ff1⟩ := blk_two hB
    obtain ⟨e0, e1⟩ := blk_two_out hB (x := .slice A0 q0.length c0) (y := .slice A1 q1.length c1)
    have R := Lib.hid (ed_end h0 h1 k0 k1 (S0.out.1.trans (hb.mono (by rw [World.size_alloc]; omega)))); clear h0 h1 hb hB S0
    go_wp2
    refine bodyPost_ret (v := .tuple #[.agg #[.slice A0 q0.length c0, .slice A1 q1.length c1], .bool true]) (by simp [results, Tryz.results41, go_sem, e0, e1]) rfl ?_
    exact R.out
  have b1005 : (n == 1005) = false := by simpa using h1005
  have HN := Lib.hid (And.intro h1001 (And.intro h1002 (And.intro h1003 (And.intro h1004 h1005)))); clear h1001 h1002 h1003 h1004 h1005
  go_wp2_with fail
  refine (l1In_any n 1006 1009 _).mono ?_
  rintro e w' ⟨rfl, rfl⟩
  rcases hz : (decide (1006 ≤ n) && decide (n ≤ 1009)) with _ | _
  case true =>
    have hz2 : 1006 ≤ n ∧ n ≤ 1009 := by simpa using hz
    have he : (strW [110, 110] 0, strW [110] 0, true) = (y0, y1, y2) := by rw [← HR.out, wordR]; rw [if_neg HZ.out, if_neg HN.out.1, if_neg HN.out.2.1, if_neg HN.out.2.2.1, if_neg HN.out.2.2.2.1, if_neg HN.out.2.2.2.2, if_pos hz2]; rfl
    have HE := Lib.hid he; clear he HR
    go_wp2_with fail
    refine (l4Rows_any ⟨#[110, 110]⟩ ⟨#[110]⟩ 0 _ (by decide) (by decide) (by omega)).mono ?_
    rw [strW_data, strW_data]
    rintro e w1 ⟨u0, u1, lo0, hi0, lo1, hi1, rfl, h0, h1, k0, k1, hb⟩
    rw [World.size_alloc] at k0 k1
    obtain ⟨rfl, rfl, rfl⟩ : strW [110, 110] 0 = y0 ∧ strW [110] 0 = y1 ∧ true = y2 := by have := HE.out; simp only [Prod.mk.injEq] at this; exact this
    replace h0 : OwnI w1 lo0 hi0 u0 (strW [110, 110] 0) := h0
    replace h1 : OwnI w1 lo1 hi1 u1 (strW [110] 0) := h1
    clear HE
    generalize strW [110, 110] 0 = q0 at *
    generalize strW [110] 0 = q1 at *
    obtain ⟨A0, c0, rfl, _⟩ := h0.rd
    obtain ⟨A1, c1, rfl, _⟩ := h1.rd
    have hB := S0.out.2.below hb (by rw [World.size_alloc]; omega)
    obtain ⟨cc0, cc1, ff0, ff1⟩ := blk_two hB
    obtain ⟨e0, e1⟩ := blk_two_out hB (x := .slice A0 q0.length c0) (y := .slice A1 q1.length c1)
    have R := Lib.hid (ed_end h0 h1 k0 k1 (S0.out.1.trans (hb.mono (by rw [World.size_alloc]; omega)))); clear h0 h1 hb hB S0
    go_wp2
    refine bodyPost_ret (v := .tuple #[.agg #[.slice A0 q0.length c0, .slice A1 q1.length c1], .bool true]) (by simp [results, Tryz.results41, go_sem, e0, e1]) rfl ?_
    exact R.out
  have hz2 : ¬ (1006 ≤ n ∧ n ≤ 1009) := by
    intro h; simp only [Bool.and_eq_false_iff, decide_eq_false_iff_not] at hz; omega
  have HZ2 := Lib.hid hz2; clear hz hz2
  by_cases h1010 : n = 1010
  · subst h1010
    have he : (strW [110, 112, 112] 0, strW [] 1, true) = (y0, y1, y2) := by rw [← HR.out, wordR]; rw [if_neg HZ.out, if_neg HN.out.1, if_neg HN.out.2.1, if_neg HN.out.2.2.1, if_neg HN.out.2.2.2.1, if_neg HN.out.2.2.2.2, if_neg HZ2.out, if_pos rfl]; rfl
    have HE := Lib.hid he; clear he HR
    go_wp2_with fail
    refine (l4Rows_any ⟨#[110, 112, 112]⟩ ⟨#[]⟩ 1 _ (by decide) (by decide) (by omega)).mono ?_
    rw [strW_data, strW_data]
    rintro e w1 ⟨u0, u1, lo0, hi0, lo1, hi1, rfl, h0, h1, k0, k1, hb⟩
    rw [World.size_alloc] at k0 k1
    obtain ⟨rfl, rfl, rfl⟩ : strW [110, 112, 112] 0 = y0 ∧ strW [] 1 = y1 ∧ true = y2 := by have := HE.out; simp only [Prod.mk.injEq] at this; exact this
    replace h0 : OwnI w1 lo0 hi0 u0 (strW [110, 112, 112] 0) := h0
    replace h1 : OwnI w1 lo1 hi1 u1 (strW [] 1) := h1
    clear HE
    generalize strW [110, 112, 112] 0 = q0 at *
    generalize strW [] 1 = q1 at *
    obtain ⟨A0, c0, rfl, _⟩ := h0.rd
    obtain ⟨A1, c1, rfl, _⟩ := h1.rd
    have hB := S0.out.2.below hb (by rw [World.size_alloc]; omega)
    obtain ⟨cc0, cc1, ff0, ff1⟩ := blk_two hB
    obtain ⟨e0, e1⟩ := blk_two_out hB (x := .slice A0 q0.length c0) (y := .slice A1 q1.length c1)
    have R := Lib.hid (ed_end h0 h1 k0 k1 (S0.out.1.trans (hb.mono (by rw [World.size_alloc]; omega)))); clear h0 h1 hb hB S0
    go_wp2
    refine bodyPost_ret (v := .tuple #[.agg #[.slice A0 q0.length c0, .slice A1 q1.length c1], .bool true]) (by simp [results, Tryz.results41, go_sem, e0, e1]) rfl ?_
    exact R.out
  have b1010 : (n == 1010) = false := by simpa using h1010
  by_cases h1011 : n = 1011
  · subst h1011
    have he : (strW [110, 113] 0, strW [] 0, true) = (y0, y1, y2) := by rw [← HR.out, wordR]; rw [if_neg HZ.out, if_neg HN.out.1, if_neg HN.out.2.1, if_neg HN.out.2.2.1, if_neg HN.out.2.2.2.1, if_neg HN.out.2.2.2.2, if_neg HZ2.out, if_neg (by omega), if_pos rfl]; rfl
    have HE := Lib.hid he; clear he HR
    go_wp2_with fail
    refine (l4Rows_any ⟨#[110, 113]⟩ ⟨#[]⟩ 0 _ (by decide) (by decide) (by omega)).mono ?_
    rw [strW_data, strW_data]
    rintro e w1 ⟨u0, u1, lo0, hi0, lo1, hi1, rfl, h0, h1, k0, k1, hb⟩
    rw [World.size_alloc] at k0 k1
    obtain ⟨rfl, rfl, rfl⟩ : strW [110, 113] 0 = y0 ∧ strW [] 0 = y1 ∧ true = y2 := by have := HE.out; simp only [Prod.mk.injEq] at this; exact this
    replace h0 : OwnI w1 lo0 hi0 u0 (strW [110, 113] 0) := h0
    replace h1 : OwnI w1 lo1 hi1 u1 (strW [] 0) := h1
    clear HE
    generalize strW [110, 113] 0 = q0 at *
    generalize strW [] 0 = q1 at *
    obtain ⟨A0, c0, rfl, _⟩ := h0.rd
    obtain ⟨A1, c1, rfl, _⟩ := h1.rd
    have hB := S0.out.2.below hb (by rw [World.size_alloc]; omega)
    obtain ⟨cc0, cc1, ff0, ff1⟩ := blk_two hB
    obtain ⟨e0, e1⟩ := blk_two_out hB (x := .slice A0 q0.length c0) (y := .slice A1 q1.length c1)
    have R := Lib.hid (ed_end h0 h1 k0 k1 (S0.out.1.trans (hb.mono (by rw [World.size_alloc]; omega)))); clear h0 h1 hb hB S0
    go_wp2
    refine bodyPost_ret (v := .tuple #[.agg #[.slice A0 q0.length c0, .slice A1 q1.length c1], .bool true]) (by simp [results, Tryz.results41, go_sem, e0, e1]) rfl ?_
    exact R.out
  have b1011 : (n == 1011) = false := by simpa using h1011
  have he : ([], [], false) = (y0, y1, y2) := by rw [← HR.out, wordR, if_neg HZ.out, if_neg HN.out.1, if_neg HN.out.2.1, if_neg HN.out.2.2.1, if_neg HN.out.2.2.2.1, if_neg HN.out.2.2.2.2, if_neg HZ2.out, if_neg h1010, if_neg h1011]
  obtain ⟨rfl, rfl, rfl⟩ : [] = y0 ∧ [] = y1 ∧ false = y2 := by simpa using he
  clear he HR h1010 h1011
  obtain ⟨cc0, cc1, ff0, ff1⟩ := blk_two S0.out.2
  have R : Hid (EdPost w [] [] false (.returned (.tuple #[.agg #[.slice none 0 0, .slice none 0 0], .bool false])) (w.alloc (.cells #[.slice none 0 0, .slice none 0 0] 72))) := Lib.hid ⟨_, _, rfl, (ownI_nil _ 0 0).rd, (ownI_nil _ 0 0).rd, S0.out.1⟩
  clear S0
  go_wp2
  refine bodyPost_ret (v := .tuple #[.agg #[.slice none 0 0, .slice none 0 0], .bool false]) (by simp [results, Tryz.results41, go_sem]) rfl ?_
  exact R.out
end Go.Proofs.YtpdhdiidkjgjmaaGreat
