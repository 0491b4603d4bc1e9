/- States of the laws: the marks written into them, and read again. -/
import Derived.Test.YtkdpfiaegimnlaaB5
import Derived.Test.YtkdpfiaegimnlaaB2
namespace Go.Proofs.Ytkdpfiaegimnlaa
set_option maxRecDepth 100000
open Go.RowKit Go.WideShapes

theorem within_wide {lo hi lo' hi' : Nat} {a b : World} (h : Within lo hi a b) (h1 : lo' ≤ lo) (h2 : hi ≤ hi') : Within lo' hi' a b := ⟨h.os, h.tape, h.output, h.size, fun k hk hn => h.block k hk (by omega)⟩
theorem within_seq {lo hi : Nat} {a b c : World} (h : Within lo hi a b) (k : Within lo hi b c) : Within lo hi a c :=
  ⟨k.os.trans h.os, k.tape.trans h.tape, k.output.trans h.output, Nat.le_trans h.size k.size, fun q hq hn => (k.block q (Nat.lt_of_lt_of_le hq h.size) hn).trans (h.block q hq hn)⟩
theorem Blk.apart {w w' : World} {g lo hi : Nat} {cs : Array Value} {T : TypeId} (h : Blk w g cs T) (hw : Within lo hi w w') (hd : g < lo ∨ hi ≤ g) : Blk w' g cs T := (hw.block g h.lt (by omega)).trans h

theorem markT (u0 u1 : Value) (r : List Int) (s : List (List Int)) (a : Int) (lo m hi : Nat) (w : World) (ha : 0 ≤ a ∧ a ≤ 800000000) (hr : szI r ≤ 10000000) (hs : szS s ≤ 10000000) (h0 : OwnI w lo m u0 r) (h1 : OwnS w m hi u1 s) (h01 : lo ≤ m) (h12 : m ≤ hi) (h2 : hi ≤ w.heap.size) :
    Calls Try.prog 47 #[.agg #[u0, u1], .int .i64 a] w fun e w' => e = .returned (.int .i64 (a + r.length + szS s)) ∧ OwnI w' lo m u0 (mkI a r) ∧ OwnS w' m hi u1 (mkS (a + r.length) s) ∧ Within lo hi w w' := by
  have hal : Below w.heap.size w (w.alloc (.cells #[u0, u1] 58)) := (Below.refl _ _).alloc (Nat.le_refl _) _
  have hb0 := Blk.new w #[u0, u1] 58
  have H := Lib.hid (And.intro (h0.below hal) (And.intro (h1.below hal) (And.intro (within_wide (Within.of_below hal) (show lo ≤ w.heap.size by omega) (Nat.le_refl w.heap.size)) hb0)))
  have hwa : Within lo hi w (w.alloc (.cells #[u0, u1] 58)) := ⟨hal.os, hal.tape, hal.output, hal.size, fun k hk _ => hal.block k hk⟩
  have HW := Lib.hid hwa; clear hwa hal hb0
  obtain ⟨A0, c0, rfl, _⟩ := h0.rd
  obtain ⟨A1, c1, rfl, _⟩ := h1.rd
  clear h0 h1
  have hrl : (r.length : Int) ≤ 10000000 := by have : r.length ≤ 10000000 := hr; omega
  go_enter Try.func47, Try.ntmps47
  go_wp2_with fail
  refine (markI _ r a lo m _ (by omega) (Nat.le_trans hr (by omega)) H.out.1).mono ?_
  rintro e w1 ⟨rfl, ho, hw⟩
  have hz : w.heap.size + 1 ≤ w1.heap.size := by have := hw.size; simpa using this
  have hB := H.out.2.2.2.apart hw (.inr (by omega))
  obtain ⟨q0, q1⟩ : w1.cell? ⟨w.heap.size, 0, none⟩ = some (.slice A0 r.length c0) ∧ w1.cell? ⟨w.heap.size, 1, none⟩ = some (.slice A1 s.length c1) := ⟨hB.cell 0, hB.cell 1⟩
  have X := Lib.hid (And.intro ho (And.intro (H.out.2.1.apart hw (.inr (Nat.le_refl _))) (within_seq HW.out (within_wide hw (Nat.le_refl _) h12)))); clear ho hw hB H
  go_wp2_with fail
  refine (markS _ s (a + r.length) m hi _ (by omega) (Nat.le_trans hs (by omega)) X.out.2.1).mono ?_
  rintro e w2 ⟨rfl, ho, hw⟩
  have Y := Lib.hid (And.intro (X.out.1.apart hw (.inl (Nat.le_refl _))) (And.intro ho (within_seq X.out.2.2 (within_wide hw h01 (Nat.le_refl _))))); clear ho hw X
  go_wp2
  go_ret
  exact ⟨rfl, Y.out⟩

theorem heldT (u0 u1 : Value) (r : List Int) (s : List (List Int)) (a : Int) (w : World) (ha : 0 ≤ a ∧ a ≤ 800000000) (hr : szI r ≤ 10000000) (hs : szS s ≤ 10000000) (h0 : RdI w u0 (mkI a r)) (h1 : RdS w u1 (mkS (a + r.length) s)) :
    Calls Try.prog 48 #[.agg #[u0, u1], .int .i64 a] w fun e w' => e = .returned (.int .i64 (a + r.length + szS s)) ∧ Below w.heap.size w w' := by
  have hal : Below w.heap.size w (w.alloc (.cells #[u0, u1] 58)) := (Below.refl _ _).alloc (Nat.le_refl _) _
  have hb0 := Blk.new w #[u0, u1] 58
  have H := Lib.hid (And.intro (h0.step hal) (And.intro (h1.step hal) (And.intro hal hb0))); clear hal hb0
  obtain ⟨A0, c0, rfl, _⟩ := h0
  obtain ⟨A1, c1, rfl, _⟩ := h1
  have hrl : (r.length : Int) ≤ 10000000 := by have : r.length ≤ 10000000 := hr; omega
  go_enter Try.func48, Try.ntmps48
  go_wp2_with fail
  refine (heldI _ r a _ (by omega) (Nat.le_trans hr (by omega)) H.out.1).mono ?_
  rintro e w1 ⟨rfl, hb⟩
  have hz : w.heap.size + 1 ≤ w1.heap.size := by have := hb.size; simpa using this
  have hB := H.out.2.2.2.below hb (by simp)
  obtain ⟨q0, q1⟩ : w1.cell? ⟨w.heap.size, 0, none⟩ = some _ ∧ w1.cell? ⟨w.heap.size, 1, none⟩ = some _ := ⟨hB.cell 0, hB.cell 1⟩
  have X := Lib.hid (And.intro (H.out.2.1.step hb) (H.out.2.2.1.trans (hb.mono (by simp)))); clear hb hB H
  go_wp2_with fail
  refine (heldS _ s (a + r.length) _ (by omega) (Nat.le_trans hs (by omega)) X.out.1).mono ?_
  rintro e w2 ⟨rfl, hb⟩
  have Y := Lib.hid (X.out.2.trans (hb.mono (by omega))); clear hb X
  go_wp2
  go_ret
  exact ⟨rfl, Y.out⟩
end Go.Proofs.Ytkdpfiaegimnlaa
