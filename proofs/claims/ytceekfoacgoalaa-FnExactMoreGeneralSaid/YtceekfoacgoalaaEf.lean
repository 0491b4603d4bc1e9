/- Effects of the laws: compared, the marks written into them, and read again. -/
import Derived.Test.YtceekfoacgoalaaBs
namespace Go.Proofs.Ytceekfoacgoalaa
set_option maxRecDepth 100000
open Go.RowKit Go.WideShapes

theorem eqE (u0 u1 v0 v1 : Value) (r q s t : List Int) (w : World) (h0 : RdI w u0 r) (h1 : RdI w u1 s) (k0 : RdI w v0 q) (k1 : RdI w v1 t) (b : Bool) (hb : (decide (r = q) && decide (s = t)) = b) :
    Calls Try.prog 20 #[.agg #[u0, u1], .agg #[v0, v1]] w fun e w' => e = .returned (.bool b) ∧ Below w.heap.size w w' := by
  have hw : Below w.heap.size w ((w.alloc (.cells #[u0, u1] 25)).alloc (.cells #[v0, v1] 25)) := ((Below.refl _ _).alloc (Nat.le_refl _) _).alloc (by simp) _
  have b1 := Blk.new w #[u0, u1] 25
  have b2 := Blk.new (w.alloc (.cells #[u0, u1] 25)) #[v0, v1] 25
  rw [World.size_alloc] at b2
  replace b1 := b1.below ((Below.refl (w.heap.size + 1) _).alloc (by simp) (.cells #[v0, v1] 25)) (by omega)
  have H := Lib.hid (And.intro (h0.step hw) (And.intro (h1.step hw) (And.intro (k0.step hw) (And.intro (k1.step hw) (And.intro hw (And.intro b1 b2)))))); clear hw b1 b2
  obtain ⟨A0, c0, rfl, _⟩ := h0
  obtain ⟨A1, c1, rfl, _⟩ := h1
  obtain ⟨A2, c2, rfl, _⟩ := k0
  obtain ⟨A3, c3, rfl, _⟩ := k1
  have HBq := Lib.hid hb; clear hb
  rcases hd : decide (r = q) with _ | _ <;> have Hd := Lib.hid hd <;> clear hd
  · go_enter Try.func20, Try.ntmps20
    go_wp2_with fail
    refine (eqI _ _ r q _ H.out.1 H.out.2.2.1 false Hd.out).mono ?_
    rintro e w1 ⟨rfl, hb⟩
    have X := Lib.hid (H.out.2.2.2.2.1.trans (hb.mono H.out.2.2.2.2.1.size)); clear hb
    go_wp2
    go_ret
    exact ⟨ret_bool (by rw [← HBq.out, Hd.out]; rfl), X.out⟩
  · go_enter Try.func20, Try.ntmps20
    go_wp2_with fail
    refine (eqI _ _ r q _ H.out.1 H.out.2.2.1 true Hd.out).mono ?_
    rintro e w1 ⟨rfl, hb⟩
    have hB1 := H.out.2.2.2.2.2.1.below hb (by simp; omega)
    have hB2 := H.out.2.2.2.2.2.2.below hb (by simp)
    obtain ⟨x0, x1, _, _⟩ := blk_two hB1
    obtain ⟨z0, z1, _, _⟩ := blk_two hB2
    have X := Lib.hid (And.intro (H.out.2.1.step hb) (And.intro (H.out.2.2.2.1.step hb) (H.out.2.2.2.2.1.trans (hb.mono H.out.2.2.2.2.1.size)))); clear hb hB1 hB2
    have hsz := X.out.2.2.size
    go_wp2_with fail
    refine (eqI _ _ s t _ X.out.1 X.out.2.1 b (by rw [← HBq.out, Hd.out]; rfl)).mono ?_
    rintro e w2 ⟨rfl, hb⟩
    have Z := Lib.hid (X.out.2.2.trans (hb.mono hsz)); clear hb
    rcases b with _ | _
    all_goals
      go_wp2
      go_ret
      exact ⟨rfl, Z.out⟩

end Go.Proofs.Ytceekfoacgoalaa
