/- Effects of the laws: compared, the marks written into them, and read again. -/
import Derived.Test.YthnpcgmidnkffaaWf
namespace Go.Proofs.Ythnpcgmidnkffaa
set_option maxRecDepth 100000
open Go.RowKit Go.WideShapes

theorem eqE (u0 u1 v0 v1 : Value) (r q s t : List Int) (w : World) (h0 : RdI w u0 r) (h1 : RdI w u1 s) (k0 : RdI w v0 q) (k1 : RdI w v1 t) (b : Bool) (hb : (decide (r = q) && decide (s = t)) = b) :
    Calls Try.prog 14 #[.agg #[u0, u1], .agg #[v0, v1]] w fun e w' => e = .returned (.bool b) ∧ Below w.heap.size w w' := by
  have hw : Below w.heap.size w ((w.alloc (.cells #[u0, u1] 24)).alloc (.cells #[v0, v1] 24)) := ((Below.refl _ _).alloc (Nat.le_refl _) _).alloc (by simp) _
  have b1 := Blk.new w #[u0, u1] 24
  have b2 := Blk.new (w.alloc (.cells #[u0, u1] 24)) #[v0, v1] 24
  rw [World.size_alloc] at b2
  replace b1 := b1.below ((Below.refl (w.heap.size + 1) _).alloc (by simp) (.cells #[v0, v1] 24)) (by omega)
  have H := Lib.hid (And.intro (h0.step hw) (And.intro (h1.step hw) (And.intro (k0.step hw) (And.intro (k1.step hw) (And.intro hw (And.intro b1 b2)))))); clear hw b1 b2
  obtain ⟨A0, c0, rfl, _⟩ := h0
  obtain ⟨A1, c1, rfl, _⟩ := h1
  obtain ⟨A2, c2, rfl, _⟩ := k0
  obtain ⟨A3, c3, rfl, _⟩ := k1
  have HBq := Lib.hid hb; clear hb
  rcases hd : decide (r = q) with _ | _ <;> have Hd := Lib.hid hd <;> clear hd
  · go_enter Try.func14, Try.ntmps14
    go_wp2_with fail
    refine (eqI _ _ r q _ H.out.1 H.out.2.2.1 false Hd.out).mono ?_
    rintro e w1 ⟨rfl, hb⟩
    have X := Lib.hid (H.out.2.2.2.2.1.trans (hb.mono H.out.2.2.2.2.1.size)); clear hb
    go_wp2
    go_ret
    exact ⟨ret_bool (by rw [← HBq.out, Hd.out]; rfl), X.out⟩
  · go_enter Try.func14, Try.ntmps14
    go_wp2_with fail
    refine (eqI _ _ r q _ H.out.1 H.out.2.2.1 true Hd.out).mono ?_
    rintro e w1 ⟨rfl, hb⟩
    have hB1 := H.out.2.2.2.2.2.1.below hb (by simp; omega)
    have hB2 := H.out.2.2.2.2.2.2.below hb (by simp)
    obtain ⟨x0, x1, _, _⟩ := blk_two hB1
    obtain ⟨z0, z1, _, _⟩ := blk_two hB2
    have X := Lib.hid (And.intro (H.out.2.1.step hb) (And.intro (H.out.2.2.2.1.step hb) (H.out.2.2.2.2.1.trans (hb.mono H.out.2.2.2.2.1.size)))); clear hb hB1 hB2
    have hsz := X.out.2.2.size
    go_wp2_with fail
    refine (eqI _ _ s t _ X.out.1 X.out.2.1 b (by rw [← HBq.out, Hd.out]; rfl)).mono ?_
    rintro e w2 ⟨rfl, hb⟩
    have Z := Lib.hid (X.out.2.2.trans (hb.mono hsz)); clear hb
    rcases b with _ | _
    all_goals
      go_wp2
      go_ret
      exact ⟨rfl, Z.out⟩

theorem markE (u0 u1 : Value) (r s : List Int) (a : Int) (lo0 hi0 lo1 hi1 B : Nat) (w : World) (ha : 0 ≤ a ∧ a ≤ 800000000) (hr : r.length ≤ 10000000) (hs : s.length ≤ 10000000) (h0 : OwnI w lo0 hi0 u0 r) (h1 : OwnI w lo1 hi1 u1 s) (hd : hi0 ≤ lo1 ∨ hi1 ≤ lo0) (k0 : B ≤ lo0) (k1 : B ≤ lo1) (k2 : hi0 ≤ w.heap.size) (_ : hi1 ≤ w.heap.size) (k4 : B ≤ w.heap.size) :
    Calls Try.prog 15 #[.agg #[u0, u1], .int .i64 a] w fun e w' => e = .returned (.int .i64 (a + r.length + s.length)) ∧ OwnI w' lo0 hi0 u0 (mkI a r) ∧ OwnI w' lo1 hi1 u1 (mkI (a + r.length) s) ∧ Below B w w' ∧ (∀ k, k < w.heap.size → ¬ (lo0 ≤ k ∧ k < hi0) → ¬ (lo1 ≤ k ∧ k < hi1) → w'.heap[k]? = w.heap[k]?) := by
  have hal : Below w.heap.size w (w.alloc (.cells #[u0, u1] 24)) := (Below.refl _ _).alloc (Nat.le_refl _) _
  have hb0 := Blk.new w #[u0, u1] 24
  have H := Lib.hid (And.intro (h0.below hal) (And.intro (h1.below hal) (And.intro (hal.mono k4) hb0)))
  have HA := Lib.hid (fun k (hk : k < w.heap.size) => hal.block k hk); clear hal hb0
  obtain ⟨A0, c0, rfl, _⟩ := h0.rd
  obtain ⟨A1, c1, rfl, _⟩ := h1.rd
  clear h0 h1
  go_enter Try.func15, Try.ntmps15
  go_wp2_with fail
  refine (markI _ r a lo0 hi0 _ (by omega) (show r.length ≤ 1000000000 by omega) H.out.1).mono ?_
  rintro e w1 ⟨rfl, ho, hw⟩
  have hz : w.heap.size + 1 ≤ w1.heap.size := by have := hw.size; simpa using this
  have hB : Blk w1 w.heap.size #[.slice A0 r.length c0, .slice A1 s.length c1] 24 := (hw.block _ (by simp) (by omega)).trans H.out.2.2.2
  obtain ⟨q0, q1, _, _⟩ := blk_two hB
  have hk1 : ∀ k, k < w.heap.size → ¬ (lo0 ≤ k ∧ k < hi0) → w1.heap[k]? = w.heap[k]? := fun k hk hn => (hw.block k (by simp; omega) hn).trans (HA.out k hk)
  have X := Lib.hid (And.intro ho (And.intro (H.out.2.1.apart hw (by omega)) (And.intro (H.out.2.2.1.trans (hw.below k0 (by simp; omega))) hk1))); clear ho hw hB H hk1
  go_wp2_with fail
  refine (markI _ s (a + r.length) lo1 hi1 _ (by omega) (show s.length ≤ 1000000000 by omega) X.out.2.1).mono ?_
  rintro e w2 ⟨rfl, ho, hw⟩
  have Y := Lib.hid (And.intro (X.out.1.apart hw (by omega)) (And.intro ho (And.intro (X.out.2.2.1.trans (hw.below k1 (by omega))) (fun k (hk : k < w.heap.size) hn hm => (hw.block k (by omega) hm).trans (X.out.2.2.2 k hk hn))))); clear ho hw X
  go_wp2
  go_ret
  exact ⟨rfl, Y.out⟩
theorem heldE (u0 u1 : Value) (r s : List Int) (a : Int) (w : World) (ha : 0 ≤ a ∧ a ≤ 800000000) (hr : r.length ≤ 10000000) (hs : s.length ≤ 10000000) (h0 : RdI w u0 (mkI a r)) (h1 : RdI w u1 (mkI (a + r.length) s)) :
    Calls Try.prog 16 #[.agg #[u0, u1], .int .i64 a] w fun e w' => e = .returned (.int .i64 (a + r.length + s.length)) ∧ Below w.heap.size w w' := by
  have hal : Below w.heap.size w (w.alloc (.cells #[u0, u1] 24)) := (Below.refl _ _).alloc (Nat.le_refl _) _
  have hb0 := Blk.new w #[u0, u1] 24
  have H := Lib.hid (And.intro (h0.step hal) (And.intro (h1.step hal) (And.intro hal hb0))); clear hal hb0
  obtain ⟨A0, c0, rfl, _⟩ := h0
  obtain ⟨A1, c1, rfl, _⟩ := h1
  go_enter Try.func16, Try.ntmps16
  go_wp2_with fail
  refine (heldI _ r a _ (by omega) (show r.length ≤ 1000000000 by omega) H.out.1).mono ?_
  rintro e w1 ⟨rfl, hb⟩
  have hz : w.heap.size + 1 ≤ w1.heap.size := by have := hb.size; simpa using this
  have hB := H.out.2.2.2.below hb (by simp)
  obtain ⟨q0, q1, _, _⟩ := blk_two hB
  have X := Lib.hid (And.intro (H.out.2.1.step hb) (H.out.2.2.1.trans (hb.mono (by simp)))); clear hb hB H
  go_wp2_with fail
  refine (heldI _ s (a + r.length) _ (by omega) (show s.length ≤ 1000000000 by omega) X.out.1).mono ?_
  rintro e w2 ⟨rfl, hb⟩
  have Y := Lib.hid (X.out.2.trans (hb.mono (by omega))); clear hb X
  go_wp2
  go_ret
  exact ⟨rfl, Y.out⟩
end Go.Proofs.Ythnpcgmidnkffaa
