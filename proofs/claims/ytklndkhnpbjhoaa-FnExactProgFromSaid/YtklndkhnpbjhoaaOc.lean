/- Registers of the laws, by value: measured, copied, compared, marked. -/
import Derived.Test.YtklndkhnpbjhoaaOb
namespace Go.Proofs.Ytklndkhnpbjhoaa
set_option maxRecDepth 100000
open Go.RowKit Go.WideShapes Go.ChangeShapes Go.Deep

theorem widenG {w : World} {lo hi hi' : Nat} {v : Value} {zs : List Int} (h : OwnI w lo hi v zs) (hh : hi ≤ hi') : OwnI w lo hi' v zs := ⟨h.own, fun g hg => Nat.lt_of_lt_of_le (h.lt g hg) hh⟩
def leftG (n : Int) (r : List (Int × Int × Int)) (s : List Int) : Int := if n < (r.length : Int) then -1 else if n - (r.length : Int) < (s.length : Int) then -1 else n - r.length - s.length
theorem leftG_ok {r : List (Int × Int × Int)} {s : List Int} (h : ¬ leftG 1048576 r s < 0) : r.length ≤ 1048576 ∧ s.length ≤ 1048576 ∧ True := by
  unfold leftG at h
  split at h
  · omega
  · split at h
    · omega
    · exact ⟨by omega, by omega, trivial⟩
theorem szG_any (t : Int) (v0 v1 : Value) (r : List (Int × Int × Int)) (s : List Int) (n : Int) (w : World) (h0 : Rd3 w v0 r) (h1 : RdI w v1 s) (hn : 0 ≤ n ∧ n ≤ 1048576) :
    Calls Try.prog 26 #[.agg #[.int .i64 t, v0, v1], .int .i64 n] w fun e w' => e = .returned (.int .i64 (leftG n r s)) ∧ Below w.heap.size w w' := by
  have hb : Below w.heap.size w (w.alloc (.cells #[.int .i64 t, v0, v1] 45)) := (Below.refl _ _).alloc (Nat.le_refl _) _
  have H1 := Lib.hid (RdI.step h1 hb)
  have HB := Lib.hid hb
  have hrl := h0.len_le
  obtain ⟨A0, c0, rfl, _⟩ := h0
  obtain ⟨A1, c1, rfl, _⟩ := h1
  clear hb
  by_cases hq : n < (r.length : Int)
  · have HQ : Hid (leftG n r s = -1) := Lib.hid (by rw [leftG, if_pos hq])
    go_enter Try.func26, Try.ntmps26
    go_wp2_with fail
    refine (szOpS_any _ _ r.length n _ hrl hn).mono ?_
    rw [if_pos (by omega)]
    rintro e w' ⟨rfl, rfl⟩
    go_wp2
    go_ret
    exact ⟨ret_i64 HQ.out.symm, HB.out⟩
  · by_cases hq2 : n - (r.length : Int) < (s.length : Int)
    · have HQ : Hid (leftG n r s = -1) := Lib.hid (by rw [leftG, if_neg hq, if_pos hq2])
      go_enter Try.func26, Try.ntmps26
      go_wp2_with fail
      refine (szOpS_any _ _ r.length n _ hrl hn).mono ?_
      rw [if_neg (by omega)]
      rintro e w' ⟨rfl, rfl⟩
      go_wp2_with fail
      refine (szI_any _ s _ _ H1.out (by omega)).mono ?_
      rw [if_pos (by omega)]
      rintro e w' ⟨rfl, rfl⟩
      go_wp2
      go_ret
      exact ⟨ret_i64 HQ.out.symm, HB.out⟩
    · have HQ : Hid (leftG n r s = n - r.length - s.length) := Lib.hid (by rw [leftG, if_neg hq, if_neg hq2])
      go_enter Try.func26, Try.ntmps26
      go_wp2_with fail
      refine (szOpS_any _ _ r.length n _ hrl hn).mono ?_
      rw [if_neg (by omega)]
      rintro e w' ⟨rfl, rfl⟩
      go_wp2_with fail
      refine (szI_any _ s _ _ H1.out (by omega)).mono ?_
      rw [if_neg (by omega)]
      rintro e w' ⟨rfl, rfl⟩
      go_wp2
      go_ret
      exact ⟨ret_i64 HQ.out.symm, HB.out⟩

theorem eqG (a b : Int) (u0 u1 v0 v1 : Value) (r q : List (Int × Int × Int)) (s t : List Int) (w : World) (h0 : Rd3 w u0 r) (h1 : RdI w u1 s) (k0 : Rd3 w v0 q) (k1 : RdI w v1 t) (y : Bool) (hy : (decide (a = b) && (decide (r = q) && decide (s = t))) = y) :
    Calls Try.prog 21 #[.agg #[.int .i64 a, u0, u1], .agg #[.int .i64 b, v0, v1]] w fun e w' => e = .returned (.bool y) ∧ Below w.heap.size w w' := by
  have hw : Below w.heap.size w ((w.alloc (.cells #[.int .i64 a, u0, u1] 26)).alloc (.cells #[.int .i64 b, v0, v1] 26)) := ((Below.refl _ _).alloc (Nat.le_refl _) _).alloc (by simp) _
  have H0 := Lib.hid (Rd3.step h0 hw)
  have H1 := RdI.step h1 hw
  have K0 := Lib.hid (Rd3.step k0 hw)
  have K1 := RdI.step k1 hw
  have HW := Lib.hid hw
  have HH1 := Lib.hid H1
  have KK1 := Lib.hid K1
  obtain ⟨A0, c0, rfl, _⟩ := h0
  obtain ⟨A1, c1, rfl, _⟩ := h1
  obtain ⟨A2, c2, rfl, _⟩ := k0
  obtain ⟨A3, c3, rfl, _⟩ := k1
  clear hw H1 K1
  have HBq := Lib.hid hy; clear hy
  by_cases hab : a = b
  case neg =>
    have hI : (a != b) = true := by simp [hab]
    obtain rfl : false = y := by rw [← HBq.out]; simp [hab]
    clear hab
    go_enter Try.func21, Try.ntmps21
    go_wp2
    go_ret
    exact ⟨rfl, HW.out⟩
  have hI : (a != b) = false := by simp [hab]
  have HBr : Hid ((decide (r = q) && decide (s = t)) = y) := Lib.hid (by rw [← HBq.out]; simp [hab])
  clear hab HBq
  rcases hd : decide (r = q) with _ | _ <;> have Hd := Lib.hid hd <;> clear hd
  · go_enter Try.func21, Try.ntmps21
    go_wp2_with fail
    refine (eqO _ _ r q _ H0.out K0.out false Hd.out).mono ?_
    rintro e w1 ⟨rfl, hb⟩
    have X := Lib.hid (HW.out.trans (hb.mono HW.out.size)); clear hb
    go_wp2
    go_ret
    exact ⟨ret_bool (by rw [← HBr.out, Hd.out]; rfl), X.out⟩
  · go_enter Try.func21, Try.ntmps21
    go_wp2_with fail
    refine (eqO _ _ r q _ H0.out K0.out true Hd.out).mono ?_
    rintro e w1 ⟨rfl, hb⟩
    have Y1 := Lib.hid (HH1.out.step hb)
    have Y2 := Lib.hid (KK1.out.step hb)
    have hcs : w1.cell? ⟨w.heap.size, 2, none⟩ = some (.slice A1 s.length c1) ∧ w1.cell? ⟨w.heap.size + 1, 2, none⟩ = some (.slice A3 t.length c3) := by
      constructor
      · rw [hb.cell (p := ⟨w.heap.size, 2, none⟩) (by simp; omega), World.cell?_alloc_lt _ _ _ (by simp), cell_of_row _ _ _ _ _ _ (heap_alloc_new w _)]; rfl
      · rw [hb.cell (p := ⟨w.heap.size + 1, 2, none⟩) (by simp)]
        exact cell_new2 _ _ _ _ 2 _ rfl
    obtain ⟨hc1, hc2⟩ := hcs
    have X := Lib.hid (HW.out.trans (hb.mono HW.out.size)); clear hb
    have hsz := X.out.size
    go_wp2_with fail
    refine (eqI _ _ s t _ Y1.out Y2.out y (by rw [← HBr.out, Hd.out]; rfl)).mono ?_
    rintro e w2 ⟨rfl, hb⟩
    have Z := Lib.hid (X.out.trans (hb.mono hsz)); clear hb
    rcases y with _ | _
    all_goals
      go_wp2
      go_ret
      exact ⟨rfl, Z.out⟩

def ToG (w : World) (t : Int) (r : List (Int × Int × Int)) (s : List Int) (e : Ending) (w' : World) : Prop := ∃ u0 u1 m, e = .returned (.agg #[.int .i64 t, u0, u1]) ∧ w.heap.size ≤ m ∧ m ≤ w'.heap.size ∧ OwnO w' w.heap.size m u0 r ∧ OwnI w' m w'.heap.size u1 s ∧ Below w.heap.size w w'
theorem toG (t : Int) (v0 v1 : Value) (r : List (Int × Int × Int)) (s : List Int) (w : World) (h0 : Rd3 w v0 r) (h1 : RdI w v1 s) (hl : r.length ≤ 1048576) (hn : s.length ≤ 1048576) :
    Calls Try.prog 27 #[.agg #[.int .i64 t, v0, v1]] w (ToG w t r s) := by
  have hb : Below w.heap.size w (((w.alloc (.cells #[.int .i64 t, v0, v1] 45)).alloc (.cells #[.int .i64 0, .slice none 0 0, .slice none 0 0] 26)).alloc (.cells #[.int .i64 t, .slice none 0 0, .slice none 0 0] 26)) := (((Below.refl _ _).alloc (Nat.le_refl _) _).alloc (by simp) _).alloc (by simp; omega) _
  have H0 := Lib.hid (Rd3.step h0 hb)
  have HB := Lib.hid hb
  have h1' := h1.at_
  obtain ⟨A0, c0, rfl, _⟩ := h0
  obtain ⟨A1, c1, rfl, _⟩ := h1
  clear hb
  go_enter Try.func27, Try.ntmps27
  go_wp2_with fail
  refine (toO _ r _ H0.out hl).mono ?_
  rintro e w1 ⟨u, rfl, ho, hb⟩
  obtain ⟨hc1, hf1⟩ := bcell hb
  have hz1 : w.heap.size + 3 ≤ w1.heap.size := by have := hb.size; simp at this; omega
  obtain ⟨B0, d0, rfl, _⟩ := ho.rd
  have hw2 : Below w.heap.size w (w1.setCell ⟨w.heap.size + 1 + 1, 1, none⟩ (.slice B0 r.length d0)) := (HB.out.trans (hb.mono (by simp; omega))).setCell (by simp; omega) _
  have hs2 := (h1'.below hw2).rd hw2.size
  have ho2 := ho.apart (within_setCell w1 (w.heap.size + 1 + 1) 1 (.slice B0 r.length d0)) (by simp)
  have b2 : Blk (w1.setCell ⟨w.heap.size + 1 + 1, 1, none⟩ (.slice B0 r.length d0)) (w.heap.size + 1 + 1) #[.int .i64 t, .slice B0 r.length d0, .slice none 0 0] 26 := by
    have h3 := Blk.new ((w.alloc (.cells #[.int .i64 t, .slice A0 r.length c0, .slice A1 s.length c1] 45)).alloc (.cells #[.int .i64 0, .slice none 0 0, .slice none 0 0] 26)) #[.int .i64 t, .slice none 0 0, .slice none 0 0] 26
    simp only [World.size_alloc] at h3
    exact (h3.below hb (by simp)).set 1 _
  have b1 : Blk (w1.setCell ⟨w.heap.size + 1 + 1, 1, none⟩ (.slice B0 r.length d0)) (w.heap.size + 1) #[.int .i64 0, .slice none 0 0, .slice none 0 0] 26 := by
    have h3 := Blk.new (w.alloc (.cells #[.int .i64 t, .slice A0 r.length c0, .slice A1 s.length c1] 45)) #[.int .i64 0, .slice none 0 0, .slice none 0 0] 26
    simp only [World.size_alloc] at h3
    exact ((h3.below ((Below.refl _ _).alloc (Nat.le_refl _) _) (by simp)).below hb (by simp <;> omega)).other (by omega) _ _
  have X := Lib.hid (And.intro ho2 (And.intro hw2 (And.intro hs2 (And.intro b1 b2)))); clear ho ho2 hb hw2 hs2 h1' H0 HB b1 b2
  go_wp2_with fail
  refine (toI _ s _ X.out.2.2.1 hn).mono ?_
  rintro e w3 ⟨u1, rfl, hp, hb⟩
  have hz3 : w1.heap.size ≤ w3.heap.size := by have := hb.size; simpa [World.setCell] using this
  obtain ⟨B1, d1, rfl, _⟩ := hp.rd
  have b1 := X.out.2.2.2.1.below hb (by simp [World.setCell] <;> omega)
  have b2 := X.out.2.2.2.2.below hb (by simp [World.setCell] <;> omega)
  obtain ⟨c10, c11, c12, f10, f11, f12⟩ := blkThree b1
  obtain ⟨c20, c21, c22, f20, f21, f22⟩ := blkThree b2
  have Y := Lib.hid (And.intro (X.out.1.below hb) (And.intro hp (And.intro (X.out.2.1.trans (hb.mono (by simp [World.setCell]; omega))) (And.intro b1 b2)))); clear hp hb X b1 b2 hc1 hf1
  go_wp2
  have e0 := (((Y.out.2.2.2.1.other (g' := w.heap.size + 1 + 1) (by omega) 2 (.slice B1 s.length d1)).set 0 (.int .i64 t)))
  have e1 := e0.set 1 (.slice B0 r.length d0)
  have e2 := e1.set 2 (.slice B1 s.length d1)
  have k0 := (blkThree e0).1
  have k1 := (blkThree e1).2.1
  have k2 := (blkThree e2).2.2.1
  refine bodyPost_ret (v := .agg #[.int .i64 t, .slice B0 r.length d0, .slice B1 s.length d1]) (by simp [results, Try.results27, go_sem, k0, k1, k2]) rfl ?_
  have y0 := Y.out.1
  have y1 := Y.out.2.1
  have y2 := Y.out.2.2.1
  clear Y e0 e1 e2 k0 k1 k2 c10 c11 c12 c20 c21 c22 f10 f11 f12 f20 f21 f22
  simp only [World.size_alloc] at y0
  have hz : (w1.setCell ⟨w.heap.size + 1 + 1, 1, none⟩ (.slice B0 r.length d0)).heap.size = w1.heap.size := by simp [World.setCell]
  rw [hz] at y1
  refine ⟨_, _, w1.heap.size, rfl, by omega, by simp [World.setCell]; omega, ?_, ?_, ?_⟩
  · have h := (((y0.apart (within_setCell _ (w.heap.size + 1 + 1) 2 (.slice B1 s.length d1)) (.inr (by omega))).apart (within_setCell _ (w.heap.size + 1) 0 (.int .i64 t)) (.inr (by omega))).apart (within_setCell _ (w.heap.size + 1) 1 (.slice B0 r.length d0)) (.inr (by omega))).apart (within_setCell _ (w.heap.size + 1) 2 (.slice B1 s.length d1)) (.inr (by omega))
    exact Own3.mono h (by omega) (Nat.le_refl _)
  · exact widenG ((((y1.apart (within_setCell _ (w.heap.size + 1 + 1) 2 (.slice B1 s.length d1)) (.inr (by omega))).apart (within_setCell _ (w.heap.size + 1) 0 (.int .i64 t)) (.inr (by omega))).apart (within_setCell _ (w.heap.size + 1) 1 (.slice B0 r.length d0)) (.inr (by omega))).apart (within_setCell _ (w.heap.size + 1) 2 (.slice B1 s.length d1)) (.inr (by omega))) (by simp [World.setCell])
  · exact (((y2.setCell (by simp; omega) _).setCell (by simp) _).setCell (by simp) _).setCell (by simp) _
theorem markG (t : Int) (v0 v1 : Value) (r : List (Int × Int × Int)) (s : List Int) (a : Int) (lo mid hi : Nat) (w : World) (ha : 0 ≤ a ∧ a ≤ 1000000) (hl : sz3 r ≤ 4000000) (hn : s.length ≤ 1048576) (h0 : OwnO w lo mid v0 r) (h1 : OwnI w mid hi v1 s) (h2 : lo ≤ mid) (h3 : mid ≤ hi) (h4 : hi ≤ w.heap.size) :
    Calls Try.prog 24 #[.agg #[.int .i64 t, v0, v1], .int .i64 a] w fun e w' => e = .returned (.int .i64 (a + (sz3 r : Int) + (s.length : Int))) ∧ Within lo hi w w' := by
  have hb : Below w.heap.size w (w.alloc (.cells #[.int .i64 t, v0, v1] 26)) := (Below.refl _ _).alloc (Nat.le_refl _) _
  have hbk := Blk.new w #[.int .i64 t, v0, v1] 26
  have H := Lib.hid (And.intro (h0.below hb) (And.intro (h1.below hb) (And.intro hb hbk)))
  obtain ⟨A0, c0, rfl, _⟩ := h0.rd
  obtain ⟨A1, c1, rfl, _⟩ := h1.rd
  clear h0 h1 hb hbk
  go_enter Try.func24, Try.ntmps24
  go_wp2_with fail
  refine (markO _ r a lo mid _ (by omega) (by omega) H.out.1).mono ?_
  rintro e w1 ⟨rfl, ho, hw⟩
  have hz1 : w.heap.size + 1 ≤ w1.heap.size := by have := hw.size; simpa using this
  obtain ⟨_, b1, b2, _, _, _⟩ := blkThree (show Blk w1 w.heap.size _ 26 from (hw.block w.heap.size (by simp) (by omega)).trans H.out.2.2.2)
  have hw0 : Within lo hi w (w.alloc (.cells #[.int .i64 t, .slice A0 r.length c0, .slice A1 s.length c1] 26)) := Within.of_below H.out.2.2.1
  have hw1 : Within lo hi (w.alloc (.cells #[.int .i64 t, .slice A0 r.length c0, .slice A1 s.length c1] 26)) w1 := ⟨hw.os, hw.tape, hw.output, hw.size, fun k hk h => hw.block k hk (by omega)⟩
  have X := Lib.hid (And.intro (hw0.trans hw1) (H.out.2.1.apart hw (.inr (Nat.le_refl _)))); clear hw ho hw0 hw1
  have hz3 : (sz3 r : Int) ≤ 4000000 := by omega
  go_wp2_with fail
  refine (markI _ s _ mid hi _ (by omega) (by unfold szI; omega) X.out.2).mono ?_
  rintro e w2 ⟨rfl, ho, hw⟩
  have hw2 : Within lo hi w1 w2 := ⟨hw.os, hw.tape, hw.output, hw.size, fun k hk h => hw.block k hk (by omega)⟩
  have Y := Lib.hid (X.out.1.trans hw2); clear hw ho hw2 X
  go_wp2
  go_ret
  exact ⟨rfl, Y.out⟩
end Go.Proofs.Ytklndkhnpbjhoaa
