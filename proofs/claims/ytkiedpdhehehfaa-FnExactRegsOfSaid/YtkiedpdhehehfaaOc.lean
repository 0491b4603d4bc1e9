/- Registers of the laws, by value: measured, copied, compared, marked. -/
import Derived.Test.YtkiedpdhehehfaaOb
namespace Go.Proofs.Ytkiedpdhehehfaa
set_option maxRecDepth 100000
open Go.RowKit Go.WideShapes Go.ChangeShapes Go.Deep

theorem widenG {w : World} {lo hi hi' : Nat} {v : Value} {zs : List Int} (h : OwnI w lo hi v zs) (hh : hi ≤ hi') : OwnI w lo hi' v zs := ⟨h.own, fun g hg => Nat.lt_of_lt_of_le (h.lt g hg) hh⟩
def leftG (n : Int) (r : List (Int × Int × Int)) (s : List Int) : Int := if n < (r.length : Int) then -1 else if n - (r.length : Int) < (s.length : Int) then -1 else n - r.length - s.length
theorem leftG_ok {r : List (Int × Int × Int)} {s : List Int} (h : ¬ leftG 1048576 r s < 0) : r.length ≤ 1048576 ∧ s.length ≤ 1048576 ∧ True := by
  unfold leftG at h
  split at h
  · omega
  · split at h
    · omega
    · exact ⟨by omega, by omega, trivial⟩
theorem eqG (a b : Int) (u0 u1 v0 v1 : Value) (r q : List (Int × Int × Int)) (s t : List Int) (w : World) (h0 : Rd3 w u0 r) (h1 : RdI w u1 s) (k0 : Rd3 w v0 q) (k1 : RdI w v1 t) (y : Bool) (hy : (decide (a = b) && (decide (r = q) && decide (s = t))) = y) :
    Calls Try.prog 16 #[.agg #[.int .i64 a, u0, u1], .agg #[.int .i64 b, v0, v1]] w fun e w' => e = .returned (.bool y) ∧ Below w.heap.size w w' := by
  have hw : Below w.heap.size w ((w.alloc (.cells #[.int .i64 a, u0, u1] 25)).alloc (.cells #[.int .i64 b, v0, v1] 25)) := ((Below.refl _ _).alloc (Nat.le_refl _) _).alloc (by simp) _
  have H0 := Lib.hid (Rd3.step h0 hw)
  have H1 := RdI.step h1 hw
  have K0 := Lib.hid (Rd3.step k0 hw)
  have K1 := RdI.step k1 hw
  have HW := Lib.hid hw
  have HH1 := Lib.hid H1
  have KK1 := Lib.hid K1
  obtain ⟨A0, c0, rfl, _⟩ := h0
  obtain ⟨A1, c1, rfl, _⟩ := h1
  obtain ⟨A2, c2, rfl, _⟩ := k0
  obtain ⟨A3, c3, rfl, _⟩ := k1
  clear hw H1 K1
  have HBq := Lib.hid hy; clear hy
  by_cases hab : a = b
  case neg =>
    have hI : (a != b) = true := by simp [hab]
    obtain rfl : false = y := by rw [← HBq.out]; simp [hab]
    clear hab
    go_enter Try.func16, Try.ntmps16
    go_wp2
    go_ret
    exact ⟨rfl, HW.out⟩
  have hI : (a != b) = false := by simp [hab]
  have HBr : Hid ((decide (r = q) && decide (s = t)) = y) := Lib.hid (by rw [← HBq.out]; simp [hab])
  clear hab HBq
  rcases hd : decide (r = q) with _ | _ <;> have Hd := Lib.hid hd <;> clear hd
  · go_enter Try.func16, Try.ntmps16
    go_wp2_with fail
    refine (eqO _ _ r q _ H0.out K0.out false Hd.out).mono ?_
    rintro e w1 ⟨rfl, hb⟩
    have X := Lib.hid (HW.out.trans (hb.mono HW.out.size)); clear hb
    go_wp2
    go_ret
    exact ⟨ret_bool (by rw [← HBr.out, Hd.out]; rfl), X.out⟩
  · go_enter Try.func16, Try.ntmps16
    go_wp2_with fail
    refine (eqO _ _ r q _ H0.out K0.out true Hd.out).mono ?_
    rintro e w1 ⟨rfl, hb⟩
    have Y1 := Lib.hid (HH1.out.step hb)
    have Y2 := Lib.hid (KK1.out.step hb)
    have hcs : w1.cell? ⟨w.heap.size, 2, none⟩ = some (.slice A1 s.length c1) ∧ w1.cell? ⟨w.heap.size + 1, 2, none⟩ = some (.slice A3 t.length c3) := by
      constructor
      · rw [hb.cell (p := ⟨w.heap.size, 2, none⟩) (by simp; omega), World.cell?_alloc_lt _ _ _ (by simp), cell_of_row _ _ _ _ _ _ (heap_alloc_new w _)]; rfl
      · rw [hb.cell (p := ⟨w.heap.size + 1, 2, none⟩) (by simp)]
        exact cell_new2 _ _ _ _ 2 _ rfl
    obtain ⟨hc1, hc2⟩ := hcs
    have X := Lib.hid (HW.out.trans (hb.mono HW.out.size)); clear hb
    have hsz := X.out.size
    go_wp2_with fail
    refine (eqI _ _ s t _ Y1.out Y2.out y (by rw [← HBr.out, Hd.out]; rfl)).mono ?_
    rintro e w2 ⟨rfl, hb⟩
    have Z := Lib.hid (X.out.trans (hb.mono hsz)); clear hb
    rcases y with _ | _
    all_goals
      go_wp2
      go_ret
      exact ⟨rfl, Z.out⟩

def ToG (w : World) (t : Int) (r : List (Int × Int × Int)) (s : List Int) (e : Ending) (w' : World) : Prop := ∃ u0 u1 m, e = .returned (.agg #[.int .i64 t, u0, u1]) ∧ w.heap.size ≤ m ∧ m ≤ w'.heap.size ∧ OwnO w' w.heap.size m u0 r ∧ OwnI w' m w'.heap.size u1 s ∧ Below w.heap.size w w'
theorem markG (t : Int) (v0 v1 : Value) (r : List (Int × Int × Int)) (s : List Int) (a : Int) (lo mid hi : Nat) (w : World) (ha : 0 ≤ a ∧ a ≤ 1000000) (hl : sz3 r ≤ 4000000) (hn : s.length ≤ 1048576) (h0 : OwnO w lo mid v0 r) (h1 : OwnI w mid hi v1 s) (h2 : lo ≤ mid) (h3 : mid ≤ hi) (h4 : hi ≤ w.heap.size) :
    Calls Try.prog 19 #[.agg #[.int .i64 t, v0, v1], .int .i64 a] w fun e w' => e = .returned (.int .i64 (a + (sz3 r : Int) + (s.length : Int))) ∧ Within lo hi w w' := by
  have hb : Below w.heap.size w (w.alloc (.cells #[.int .i64 t, v0, v1] 25)) := (Below.refl _ _).alloc (Nat.le_refl _) _
  have hbk := Blk.new w #[.int .i64 t, v0, v1] 25
  have H := Lib.hid (And.intro (h0.below hb) (And.intro (h1.below hb) (And.intro hb hbk)))
  obtain ⟨A0, c0, rfl, _⟩ := h0.rd
  obtain ⟨A1, c1, rfl, _⟩ := h1.rd
  clear h0 h1 hb hbk
  go_enter Try.func19, Try.ntmps19
  go_wp2_with fail
  refine (markO _ r a lo mid _ (by omega) (by omega) H.out.1).mono ?_
  rintro e w1 ⟨rfl, ho, hw⟩
  have hz1 : w.heap.size + 1 ≤ w1.heap.size := by have := hw.size; simpa using this
  obtain ⟨_, b1, b2, _, _, _⟩ := blkThree (show Blk w1 w.heap.size _ 25 from (hw.block w.heap.size (by simp) (by omega)).trans H.out.2.2.2)
  have hw0 : Within lo hi w (w.alloc (.cells #[.int .i64 t, .slice A0 r.length c0, .slice A1 s.length c1] 25)) := Within.of_below H.out.2.2.1
  have hw1 : Within lo hi (w.alloc (.cells #[.int .i64 t, .slice A0 r.length c0, .slice A1 s.length c1] 25)) w1 := ⟨hw.os, hw.tape, hw.output, hw.size, fun k hk h => hw.block k hk (by omega)⟩
  have X := Lib.hid (And.intro (hw0.trans hw1) (H.out.2.1.apart hw (.inr (Nat.le_refl _)))); clear hw ho hw0 hw1
  have hz3 : (sz3 r : Int) ≤ 4000000 := by omega
  go_wp2_with fail
  refine (markI _ s _ mid hi _ (by omega) (by unfold szI; omega) X.out.2).mono ?_
  rintro e w2 ⟨rfl, ho, hw⟩
  have hw2 : Within lo hi w1 w2 := ⟨hw.os, hw.tape, hw.output, hw.size, fun k hk h => hw.block k hk (by omega)⟩
  have Y := Lib.hid (X.out.1.trans hw2); clear hw ho hw2 X
  go_wp2
  go_ret
  exact ⟨rfl, Y.out⟩
end Go.Proofs.Ytkiedpdhehehfaa
