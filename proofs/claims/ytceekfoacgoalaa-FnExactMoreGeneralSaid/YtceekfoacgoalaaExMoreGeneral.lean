/- MoreGeneral answers at every two effects as its model, and writes into no argument. For every input. -/
import Derived.Test.YtceekfoacgoalaaQl
import Derived.Test.YtceekfoacgoalaaEg
import Derived.Test.YtceekfoacgoalaaEf
import Derived.Test.YtceekfoacgoalaaLift
import Derived.Test.YtceekfoacgoalaaF1
import Derived.Test.YtceekfoacgoalaaF2
import Derived.Test.YtceekfoacgoalaaF3
import Derived.Deep.RegionHeld3
import Derived.Deep.DeepCutAuto
namespace Go.Proofs.Ytceekfoacgoalaa
set_option maxRecDepth 100000
open Go.RowKit Go.WideShapes Go.ChangeShapes Go.Deep

/-- Two effects in a law's variables, and what a call keeps of them. -/
structure Tf (w0 X : World) (b2 b3 : Nat) (u0 u1 u2 u3 : Value) (a b c d : List Int) : Prop where
  bl : Below w0.heap.size w0 X
  k2 : Blk X b2 #[u0, u1] 34
  k3 : Blk X b3 #[u2, u3] 34
  ra : RdI X u0 a
  rb : RdI X u1 b
  rc : RdI X u2 c
  rd : RdI X u3 d
theorem Tf.step {w0 X Y : World} {b2 b3 : Nat} {u0 u1 u2 u3 : Value} {a b c d : List Int} (h : Tf w0 X b2 b3 u0 u1 u2 u3 a b c d) (hb : Below X.heap.size X Y) : Tf w0 Y b2 b3 u0 u1 u2 u3 a b c d :=
  ⟨h.bl.trans (hb.mono h.bl.size), h.k2.below hb h.k2.lt, h.k3.below hb h.k3.lt, h.ra.step hb, h.rb.step hb, h.rc.step hb, h.rd.step hb⟩
theorem Tf.cells {w0 X : World} {b2 b3 : Nat} {u0 u1 u2 u3 : Value} {a b c d : List Int} (h : Tf w0 X b2 b3 u0 u1 u2 u3 a b c d) : X.cell? ⟨b2, 0, none⟩ = some u0 ∧ X.cell? ⟨b2, 1, none⟩ = some u1 ∧ X.cell? ⟨b3, 0, none⟩ = some u2 ∧ X.cell? ⟨b3, 1, none⟩ = some u3 := ⟨h.k2.cell 0, h.k2.cell 1, h.k3.cell 0, h.k3.cell 1⟩
structure Ief (X : World) (g : Nat) (u0 u1 : Value) (a b : List Int) : Prop where
  k : Blk X g #[u0, u1] 25
  ra : RdI X u0 a
  rb : RdI X u1 b
theorem Ief.step {X Y : World} {g : Nat} {u0 u1 : Value} {a b : List Int} (h : Ief X g u0 u1 a b) (hb : Below X.heap.size X Y) : Ief Y g u0 u1 a b := ⟨h.k.below hb h.k.lt, h.ra.step hb, h.rb.step hb⟩
theorem toE9 (v0 v1 : Value) (r s : List Int) (w : World) (h0 : RdI w v0 r) (h1 : RdI w v1 s) (hl : r.length ≤ 1048576) (hs : s.length ≤ 1048576) :
    Calls Try.prog 18 #[.agg #[v0, v1]] w fun e w' => ∃ A c B d, e = .returned (.agg #[.slice A r.length c, .slice B s.length d]) ∧ RdI w' (.slice A r.length c) r ∧ RdI w' (.slice B s.length d) s ∧ Below w.heap.size w w' := by
  refine (toE v0 v1 r s w h0 h1 hl hs).mono ?_
  rintro e w' ⟨q0, q1, m, rfl, _, _, h0, h1, hb⟩
  obtain ⟨A, c, rfl, _⟩ := id h0.rd
  obtain ⟨B, d, rfl, _⟩ := id h1.rd
  exact ⟨A, c, B, d, rfl, h0.rd, h1.rd, hb⟩
theorem leftE_le {r s : List Int} {n : Int} (hq : ¬ leftE n r s < 0) (hn : n ≤ 1048576) : 0 ≤ leftE n r s ∧ leftE n r s ≤ 1048576 ∧ r.length ≤ 1048576 ∧ s.length ≤ 1048576 := by
  unfold leftE at hq ⊢
  split at hq
  · omega
  · split at hq
    · omega
    · rename_i h1 h2; rw [if_neg h1, if_neg h2]; omega
set_option maxHeartbeats 4000000 in
theorem exMoreGeneral_any (A0 : Option Addr) (c0 : Nat) (a : List Int) (A1 : Option Addr) (c1 : Nat) (b : List Int) (A2 : Option Addr) (c2 : Nat) (c : List Int) (A3 : Option Addr) (c3 : Nat) (d : List Int) (w0 : World) (h0 : RdI w0 (.slice A0 a.length c0) a) (h1 : RdI w0 (.slice A1 b.length c1) b) (h2 : RdI w0 (.slice A2 c.length c2) c) (h3 : RdI w0 (.slice A3 d.length c3) d) :
    Calls Try.prog 5 #[.agg #[.slice A0 a.length c0, .slice A1 b.length c1], .agg #[.slice A2 c.length c2, .slice A3 d.length c3]] w0 fun e w' => e = .returned (.bool true) ∧ Below w0.heap.size w0 w' := by
  obtain ⟨W, hW⟩ : ∃ W, (w0.alloc (.cells #[.slice A0 a.length c0, .slice A1 b.length c1] 34)).alloc (.cells #[.slice A2 c.length c2, .slice A3 d.length c3] 34) = W := ⟨_, rfl⟩
  have hb : Below w0.heap.size w0 W := by rw [← hW]; exact ((Below.refl _ _).alloc (Nat.le_refl _) _).alloc (by simp) _
  have hz : W.heap.size = w0.heap.size + 2 := by rw [← hW]; simp
  have k3 : Blk W (w0.heap.size + 1) #[.slice A2 c.length c2, .slice A3 d.length c3] 34 := by
    have := Blk.new (w0.alloc (.cells #[.slice A0 a.length c0, .slice A1 b.length c1] 34)) #[.slice A2 c.length c2, .slice A3 d.length c3] 34
    rw [World.size_alloc, hW] at this
    exact this
  have k2 : Blk W w0.heap.size #[.slice A0 a.length c0, .slice A1 b.length c1] 34 := by rw [← hW]; exact (Blk.new w0 #[.slice A0 a.length c0, .slice A1 b.length c1] 34).below ((Below.refl (w0.heap.size + 1) _).alloc (by simp) _) (by omega)
  have T0 : Hid (Tf w0 W w0.heap.size (w0.heap.size + 1) (.slice A0 a.length c0) (.slice A1 b.length c1) (.slice A2 c.length c2) (.slice A3 d.length c3) a b c d) := Lib.hid ⟨hb, k2, k3, h0.step hb, h1.step hb, h2.step hb, h3.step hb⟩
  clear h0 h1 h2 h3 hb k2 k3
  obtain ⟨p0, p1, p2, p3⟩ := T0.out.cells
  by_cases hq : leftE 1048576 a b < 0
  · go_enter Try.func5, Try.ntmps5
    go_wp2_with fail
    try rw [hW]
    refine (szE_any _ _ a b 1048576 _ T0.out.ra T0.out.rb (by omega)).mono ?_
    rintro e w1 ⟨rfl, hb⟩
    have X := Lib.hid (T0.out.step hb); clear hb
    go_wp2
    go_ret
    exact ⟨rfl, X.out.bl⟩
  obtain ⟨l0, l1, la, lb⟩ := leftE_le hq (by omega)
  obtain ⟨q, hqe⟩ : ∃ q, leftE 1048576 a b = q := ⟨_, rfl⟩
  rw [hqe] at hq l0 l1
  by_cases hr : leftE q c d < 0
  · go_enter Try.func5, Try.ntmps5
    go_wp2_with fail
    try rw [hW]
    refine (szE_any _ _ a b 1048576 _ T0.out.ra T0.out.rb (by omega)).mono ?_
    rw [hqe]
    rintro e w1 ⟨rfl, hb⟩
    have X := Lib.hid (T0.out.step hb); clear hb
    clear p0 p1 p2 p3
    obtain ⟨p0, p1, p2, p3⟩ := X.out.cells
    go_wp2_with fail
    refine (szE_any _ _ c d q _ X.out.rc X.out.rd ⟨l0, l1⟩).mono ?_
    rintro e w2 ⟨rfl, hb⟩
    have Y := Lib.hid (X.out.step hb); clear hb
    go_wp2
    go_ret
    exact ⟨rfl, Y.out.bl⟩
  obtain ⟨r0, r1, lc, ld⟩ := leftE_le hr l1
  obtain ⟨r, hre⟩ : ∃ r, leftE q c d = r := ⟨_, rfl⟩
  rw [hre] at hr r0 r1
  obtain ⟨y, hy⟩ := isMore_ex a b c d
  have HY := Lib.hid hy; clear hy
  have hyy : (y != y) = false := by simp
  go_enter Try.func5, Try.ntmps5
  go_wp2_with fail
  try rw [hW]
  refine (szE_any _ _ a b 1048576 _ T0.out.ra T0.out.rb (by omega)).mono ?_
  rw [hqe]
  rintro e w1 ⟨rfl, hb⟩
  have T1 := Lib.hid (T0.out.step hb); clear hb T0 p0 p1 p2 p3
  obtain ⟨p0, p1, p2, p3⟩ := T1.out.cells
  go_wp2_with fail
  refine (szE_any _ _ c d q _ T1.out.rc T1.out.rd ⟨l0, l1⟩).mono ?_
  rw [hre]
  rintro e w2 ⟨rfl, hb⟩
  have T2 := Lib.hid (T1.out.step hb); clear hb T1 p0 p1 p2 p3 hqe hre hW
  obtain ⟨p0, p1, p2, p3⟩ := T2.out.cells
  have kl2 := T2.out.k2.lt
  have kl3 := T2.out.k3.lt
  have bD : Below w2.heap.size w2 w2.drew := (Below.refl _ _).drew
  have HE1 : Hid (∀ X, Below w2.heap.size w2 X → Calls Try.prog 18 #[.agg #[.slice A0 a.length c0, .slice A1 b.length c1]] X fun e w' => ∃ A c B d, e = .returned (.agg #[.slice A a.length c, .slice B b.length d]) ∧ RdI w' (.slice A a.length c) a ∧ RdI w' (.slice B b.length d) b ∧ Below X.heap.size X w') := Lib.hid fun X hX => toE9 _ _ a b X (T2.out.ra.step hX) (T2.out.rb.step hX) la lb
  have HE2 : Hid (∀ X, Below w2.heap.size w2 X → Calls Try.prog 18 #[.agg #[.slice A2 c.length c2, .slice A3 d.length c3]] X fun e w' => ∃ A c' B d', e = .returned (.agg #[.slice A c.length c', .slice B d.length d']) ∧ RdI w' (.slice A c.length c') c ∧ RdI w' (.slice B d.length d') d ∧ Below X.heap.size X w') := Lib.hid fun X hX => toE9 _ _ c d X (T2.out.rc.step hX) (T2.out.rd.step hX) lc ld
  go_upto_region 8 with fail
  go_cut [6] (fun b6 wx => b6 = .bool y ∧ Below w2.heap.size w2 wx)
  case first =>
    go_region_held3 (fun w' => w'.cell? ⟨w0.heap.size, 0, none⟩ = some (.slice A0 a.length c0) ∧ w'.cell? ⟨w0.heap.size, 1, none⟩ = some (.slice A1 b.length c1) ∧ w'.cell? ⟨w0.heap.size + 1, 0, none⟩ = some (.slice A2 c.length c2) ∧ w'.cell? ⟨w0.heap.size + 1, 1, none⟩ = some (.slice A3 d.length c3)) (repeat' (first | with_reducible exact p0 | with_reducible exact p1 | with_reducible exact p2 | with_reducible exact p3 | with_reducible exact m0 | with_reducible exact m1 | with_reducible exact m2 | with_reducible exact m3 | apply And.intro | rw [World.cell?_drew])) (first
      | (have h9 := F2; clear h9; go_at_call 17; refine (MoreGeneral_S _ _ _ _ a b c d _ F2.out.1 F2.out.2.1 F2.out.2.2.1 F2.out.2.2.2.1 la lb lc ld y HY.out).mono ?_; rintro e w5 ⟨rfl, hb5⟩; have b5 : Below w2.heap.size w2 w5 := F2.out.2.2.2.2.trans (hb5.mono F2.out.2.2.2.2.size); clear m0 m1 m2 m3; have m0 := (b5.cell (p := ⟨w0.heap.size, 0, none⟩) kl2).trans p0; have m1 := (b5.cell (p := ⟨w0.heap.size, 1, none⟩) kl2).trans p1; have m2 := (b5.cell (p := ⟨w0.heap.size + 1, 0, none⟩) kl3).trans p2; have m3 := (b5.cell (p := ⟨w0.heap.size + 1, 1, none⟩) kl3).trans p3; have B5 := Lib.hid b5; clear hb5 b5)
      | (have h9 := F1; clear h9; go_at_call 18; refine (HE2.out _ F1.out.2.2).mono ?_; rintro e w4 ⟨Y0, f0, Y1, f1, rfl, rc, rd, hb4⟩; have b4 : Below w2.heap.size w2 w4 := F1.out.2.2.trans (hb4.mono F1.out.2.2.size); clear m0 m1 m2 m3; have m0 := (b4.cell (p := ⟨w0.heap.size, 0, none⟩) kl2).trans p0; have m1 := (b4.cell (p := ⟨w0.heap.size, 1, none⟩) kl2).trans p1; have m2 := (b4.cell (p := ⟨w0.heap.size + 1, 0, none⟩) kl3).trans p2; have m3 := (b4.cell (p := ⟨w0.heap.size + 1, 1, none⟩) kl3).trans p3; have F2 := Lib.hid (And.intro (F1.out.1.step hb4) (And.intro (F1.out.2.1.step hb4) (And.intro rc (And.intro rd b4)))); clear hb4 b4 rc rd)
      | (go_at_call 18; refine (HE1.out _ (by first | exact bD | exact Below.refl _ _)).mono ?_; rintro e w3 ⟨X0, e0, X1, e1, rfl, ra, rb, hb3⟩; have b3 : Below w2.heap.size w2 w3 := (by first | exact bD.trans hb3 | exact hb3); have m0 := (b3.cell (p := ⟨w0.heap.size, 0, none⟩) kl2).trans p0; have m1 := (b3.cell (p := ⟨w0.heap.size, 1, none⟩) kl2).trans p1; have m2 := (b3.cell (p := ⟨w0.heap.size + 1, 0, none⟩) kl3).trans p2; have m3 := (b3.cell (p := ⟨w0.heap.size + 1, 1, none⟩) kl3).trans p3; have F1 := Lib.hid (And.intro ra (And.intro rb b3)); clear hb3 b3 ra rb)
      | fail)
    go_wp2_with fail
    go_meet
    exact ⟨rfl, B5.out⟩
  case rest =>
    obtain ⟨rfl, hb⟩ := hcut
    obtain ⟨w3, hwc⟩ : ∃ w, w = wc := ⟨_, rfl⟩
    subst hwc
    have T3 := Lib.hid (T2.out.step hb); clear hb T2 p0 p1 p2 p3 bD HE1 HE2 kl2 kl3
    obtain ⟨p0, p1, p2, p3⟩ := T3.out.cells
    go_wp2_with fail
    refine (toE9 _ _ a b _ T3.out.ra T3.out.rb la lb).mono ?_
    rintro e w4 ⟨X0, e0, X1, e1, rfl, ra, rb, hb4⟩
    obtain ⟨V4, hV4⟩ : ∃ V, w4.alloc (.cells #[.slice X0 a.length e0, .slice X1 b.length e1] 25) = V := ⟨_, rfl⟩
    have hal : Below w4.heap.size w4 V4 := by rw [← hV4]; exact (Below.refl _ _).alloc (Nat.le_refl _) _
    have I4 : Hid (Ief V4 w4.heap.size (.slice X0 a.length e0) (.slice X1 b.length e1) a b) := Lib.hid ⟨by rw [← hV4]; exact Blk.new _ _ _, ra.step hal, rb.step hal⟩
    have T4 := Lib.hid ((T3.out.step hb4).step hal); clear hb4 hal ra rb T3 p0 p1 p2 p3
    obtain ⟨g7, hg7⟩ : ∃ g, w4.heap.size = g := ⟨_, rfl⟩
    rw [hg7] at I4
    obtain ⟨p0, p1, p2, p3⟩ := T4.out.cells
    go_wp2_with fail
    try rw [hV4]
    try rw [hg7]
    refine (toE9 _ _ c d _ T4.out.rc T4.out.rd lc ld).mono ?_
    rintro e w5 ⟨Y0, f0, Y1, f1, rfl, rc, rd, hb5⟩
    obtain ⟨V5, hV5⟩ : ∃ V, w5.alloc (.cells #[.slice Y0 c.length f0, .slice Y1 d.length f1] 25) = V := ⟨_, rfl⟩
    have hal : Below w5.heap.size w5 V5 := by rw [← hV5]; exact (Below.refl _ _).alloc (Nat.le_refl _) _
    have J5 : Hid (Ief V5 w5.heap.size (.slice Y0 c.length f0) (.slice Y1 d.length f1) c d) := Lib.hid ⟨by rw [← hV5]; exact Blk.new _ _ _, rc.step hal, rd.step hal⟩
    have T5 := Lib.hid ((T4.out.step hb5).step hal)
    have I5 := Lib.hid ((I4.out.step hb5).step hal); clear hb5 hal rc rd T4 I4 p0 p1 p2 p3 hV4 hg7
    obtain ⟨g8, hg8⟩ : ∃ g, w5.heap.size = g := ⟨_, rfl⟩
    rw [hg8] at J5
    obtain ⟨p0, p1, p2, p3⟩ := T5.out.cells
    obtain ⟨i0, i1⟩ := blk_two2 I5.out.k
    obtain ⟨j0, j1⟩ := blk_two2 J5.out.k
    go_wp2_with fail
    try rw [hV5]
    try rw [hg8]
    refine (MoreGeneral_I _ _ _ _ a b c d _ I5.out.ra I5.out.rb J5.out.ra J5.out.rb y HY.out).mono ?_
    rintro e w6 ⟨rfl, hb6⟩
    have T6 := Lib.hid (T5.out.step hb6)
    have I6 := Lib.hid (I5.out.step hb6)
    have J6 := Lib.hid (J5.out.step hb6); clear hb6 T5 I5 J5 p0 p1 p2 p3 i0 i1 j0 j1 hV5 hg8
    obtain ⟨p0, p1, p2, p3⟩ := T6.out.cells
    obtain ⟨i0, i1⟩ := blk_two2 I6.out.k
    have kl2 := T6.out.k2.lt
    have kl3 := T6.out.k3.lt
    have kl7 := I6.out.k.lt
    have bD : Below w6.heap.size w6 w6.drew := (Below.refl _ _).drew
    have HE1 : Hid (∀ X, Below w6.heap.size w6 X → Calls Try.prog 18 #[.agg #[.slice A0 a.length c0, .slice A1 b.length c1]] X fun e w' => ∃ A c B d, e = .returned (.agg #[.slice A a.length c, .slice B b.length d]) ∧ RdI w' (.slice A a.length c) a ∧ RdI w' (.slice B b.length d) b ∧ Below X.heap.size X w') := Lib.hid fun X hX => toE9 _ _ a b X (T6.out.ra.step hX) (T6.out.rb.step hX) la lb
    go_upto_region 14 with fail
    go_cut [39] (fun b6 wx => b6 = .bool false ∧ Below w6.heap.size w6 wx)
    case first =>
      go_region_held3 (fun w' => w'.cell? ⟨w0.heap.size, 0, none⟩ = some (.slice A0 a.length c0) ∧ w'.cell? ⟨w0.heap.size, 1, none⟩ = some (.slice A1 b.length c1) ∧ w'.cell? ⟨g7, 0, none⟩ = some (.slice X0 a.length e0) ∧ w'.cell? ⟨g7, 1, none⟩ = some (.slice X1 b.length e1)) (repeat' (first | with_reducible exact p0 | with_reducible exact p1 | with_reducible exact i0 | with_reducible exact i1 | with_reducible exact m0 | with_reducible exact m1 | with_reducible exact m2 | with_reducible exact m3 | apply And.intro | rw [World.cell?_drew])) (first
        | (have h9 := F1; clear h9; go_at_call 20; refine (eqE _ _ _ _ a a b b _ F1.out.1 F1.out.2.1 F1.out.2.2.1 F1.out.2.2.2.1 true (by simp)).mono ?_; rintro e we ⟨rfl, hbe⟩; have b9 : Below w6.heap.size w6 we := F1.out.2.2.2.2.trans (hbe.mono F1.out.2.2.2.2.size); clear m0 m1 m2 m3; have m0 := (b9.cell (p := ⟨w0.heap.size, 0, none⟩) kl2).trans p0; have m1 := (b9.cell (p := ⟨w0.heap.size, 1, none⟩) kl2).trans p1; have m2 := (b9.cell (p := ⟨g7, 0, none⟩) kl7).trans i0; have m3 := (b9.cell (p := ⟨g7, 1, none⟩) kl7).trans i1; have B9 := Lib.hid b9; clear hbe b9)
        | (go_at_call 18; refine (HE1.out _ (by first | exact bD | exact Below.refl _ _)).mono ?_; rintro e wd ⟨Z0, z0, Z1, z1, rfl, ra, rb, hb3⟩; have b3 : Below w6.heap.size w6 wd := (by first | exact bD.trans hb3 | exact hb3); have m0 := (b3.cell (p := ⟨w0.heap.size, 0, none⟩) kl2).trans p0; have m1 := (b3.cell (p := ⟨w0.heap.size, 1, none⟩) kl2).trans p1; have m2 := (b3.cell (p := ⟨g7, 0, none⟩) kl7).trans i0; have m3 := (b3.cell (p := ⟨g7, 1, none⟩) kl7).trans i1; have F1 := Lib.hid (And.intro (I6.out.ra.step b3) (And.intro (I6.out.rb.step b3) (And.intro ra (And.intro rb b3)))); clear hb3 b3 ra rb)
        | fail)
      go_wp2_with fail
      go_meet
      exact ⟨rfl, B9.out⟩
    case rest =>
      obtain ⟨rfl, hb⟩ := hcut
      obtain ⟨w7, hwc⟩ : ∃ w, w = wc := ⟨_, rfl⟩
      subst hwc
      have T7 := Lib.hid (T6.out.step hb)
      have J7 := Lib.hid (J6.out.step hb); clear hb T6 I6 J6 p0 p1 p2 p3 i0 i1 bD HE1 kl2 kl3 kl7
      obtain ⟨p0, p1, p2, p3⟩ := T7.out.cells
      obtain ⟨j0, j1⟩ := blk_two2 J7.out.k
      have kl3 := T7.out.k3.lt
      have kl8 := J7.out.k.lt
      have bD : Below w7.heap.size w7 w7.drew := (Below.refl _ _).drew
      have HE1 : Hid (∀ X, Below w7.heap.size w7 X → Calls Try.prog 18 #[.agg #[.slice A2 c.length c2, .slice A3 d.length c3]] X fun e w' => ∃ A c' B d', e = .returned (.agg #[.slice A c.length c', .slice B d.length d']) ∧ RdI w' (.slice A c.length c') c ∧ RdI w' (.slice B d.length d') d ∧ Below X.heap.size X w') := Lib.hid fun X hX => toE9 _ _ c d X (T7.out.rc.step hX) (T7.out.rd.step hX) lc ld
      go_upto_region 16 with fail
      go_region_held3 (fun w' => w'.cell? ⟨w0.heap.size + 1, 0, none⟩ = some (.slice A2 c.length c2) ∧ w'.cell? ⟨w0.heap.size + 1, 1, none⟩ = some (.slice A3 d.length c3) ∧ w'.cell? ⟨g8, 0, none⟩ = some (.slice Y0 c.length f0) ∧ w'.cell? ⟨g8, 1, none⟩ = some (.slice Y1 d.length f1)) (repeat' (first | with_reducible exact p2 | with_reducible exact p3 | with_reducible exact j0 | with_reducible exact j1 | with_reducible exact m0 | with_reducible exact m1 | with_reducible exact m2 | with_reducible exact m3 | apply And.intro | rw [World.cell?_drew])) (first
        | (have h9 := F1; clear h9; go_at_call 20; refine (eqE _ _ _ _ c c d d _ F1.out.1 F1.out.2.1 F1.out.2.2.1 F1.out.2.2.2.1 true (by simp)).mono ?_; rintro e we ⟨rfl, hbe⟩; have b9 : Below w7.heap.size w7 we := F1.out.2.2.2.2.trans (hbe.mono F1.out.2.2.2.2.size); clear m0 m1 m2 m3; have m0 := (b9.cell (p := ⟨w0.heap.size + 1, 0, none⟩) kl3).trans p2; have m1 := (b9.cell (p := ⟨w0.heap.size + 1, 1, none⟩) kl3).trans p3; have m2 := (b9.cell (p := ⟨g8, 0, none⟩) kl8).trans j0; have m3 := (b9.cell (p := ⟨g8, 1, none⟩) kl8).trans j1; have B9 := Lib.hid b9; clear hbe b9)
        | (go_at_call 18; refine (HE1.out _ (by first | exact bD | exact Below.refl _ _)).mono ?_; rintro e wd ⟨Z0, z0, Z1, z1, rfl, ra, rb, hb3⟩; have b3 : Below w7.heap.size w7 wd := (by first | exact bD.trans hb3 | exact hb3); have m0 := (b3.cell (p := ⟨w0.heap.size + 1, 0, none⟩) kl3).trans p2; have m1 := (b3.cell (p := ⟨w0.heap.size + 1, 1, none⟩) kl3).trans p3; have m2 := (b3.cell (p := ⟨g8, 0, none⟩) kl8).trans j0; have m3 := (b3.cell (p := ⟨g8, 1, none⟩) kl8).trans j1; have F1 := Lib.hid (And.intro (J7.out.ra.step b3) (And.intro (J7.out.rb.step b3) (And.intro ra (And.intro rb b3)))); clear hb3 b3 ra rb)
        | fail)
      have B8 := Lib.hid (T7.out.bl.trans (B9.out.mono T7.out.bl.size))
      go_wp2
      go_ret
      exact ⟨rfl, B8.out⟩
theorem exMoreGeneral_walk : LawWalk 5 Try.f5 := by
  intro H enc W base args ds ps hval hA
  rw [Try.params5] at hA hval
  obtain ⟨v0, v1, d0, d1, p0, p1, rfl, rfl, rfl, h0, h1⟩ := trodAll_two hA
  obtain ⟨A0, c0, zs0, B0, d0, ss0, rfl, hi0, hj0⟩ := effect_of_trod (hval 0 _ _ rfl rfl) h0
  obtain ⟨A1, c1, zs1, B1, d1, ss1, rfl, hi1, hj1⟩ := effect_of_trod (hval 1 _ _ rfl rfl) h1
  exact exMoreGeneral_any A0 c0 zs0 B0 d0 ss0 A1 c1 zs1 B1 d1 ss1 W hi0 hj0 hi1 hj1

set_option maxRecDepth 100000 in
theorem exMoreGeneral_lifted (os : Os) (started : os.Started) (H : Type) (enc : TypeId × Value → H) :
    ReturnsInHanded {} Try.checked os 5 .any (Rows.fnExactMoreGeneralSpec.pre6 enc Try.prog Try.f5 Rows.fnExactMoreGeneralRow.domain false) (Rows.fnExactMoreGeneralSpec.post enc Try.prog Try.f5 false true false false) := by
  refine returnsInHanded_of_change (C := Try.checked) own started (by kernel_rfl) Try.func5
    (ChangeSpec.witness6 (enc := enc) (C := Try.checked) false ⟨#[], #[.agg #[.slice none 0 0, .slice none 0 0], .agg #[.slice none 0 0, .slice none 0 0]], []⟩ 8 (by kernel_rfl) (by kernel_rfl) (by kernel_rfl) (by kernel_rfl)) ?_
  intro W base args ds gs before hval hW _ _
  exact law_contract laidOut rfl (by kernel_rfl) rfl (fun H ds hd => by
    match ds, hd with
    | [d0, d1], _ => exact ⟨rfl, rfl, rfl⟩) exMoreGeneral_walk W base args ds gs before hval hW

/-- FnExactMoreGeneral: the row as it is given. -/
theorem exMoreGeneral_holds : Rows.FnExactMoreGeneralSaid :=
  OpenClaim.holds_of_wide 5 Try.f5 rfl rfl rfl rfl rfl rfl rfl ⟨rfl, rfl, rfl, rfl, rfl⟩ rfl rfl rfl rfl rfl (by kernel_rfl) Try.func5 (by unfold joinedFacts; rw [pf_enter, pf_lifts, pf_make]; kernel_rfl)
    (of_decide_eq_true (by kernel_rfl)) (by unfold Func.isWrapper; first | (rw [if_pos (by decide +kernel)]; kernel_rfl) | (rw [if_neg (by decide +kernel)]; exact ⟨rfl, rfl⟩))
    (fun os started H enc _ => exMoreGeneral_lifted os started H enc)

end Go.Proofs.Ytceekfoacgoalaa
