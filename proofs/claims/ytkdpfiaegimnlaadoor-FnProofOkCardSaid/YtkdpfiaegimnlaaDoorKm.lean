/- The draws of moves: l20Can, l20Moved, DrawProofRun, DrawProofOk. -/
import Derived.Test.YtkdpfiaegimnlaaDoorKd
import Derived.Test.YtkdpfiaegimnlaaDoorVp
import Derived.Test.YtkdpfiaegimnlaaDoorB9
import Derived.Test.YtkdpfiaegimnlaaDoorSb
namespace Go.Proofs.YtkdpfiaegimnlaaDoor
set_option maxRecDepth 100000
open Go.RowKit Go.WideShapes Go.Deep

theorem Blk.apart0 {w w' : World} {g lo hi : Nat} {cs : Array Value} {T : TypeId} (h : Blk w g cs T) (hw : Within lo hi w w') (hd : g < lo ∨ hi ≤ g) : Blk w' g cs T := (hw.block g h.lt (by omega)).trans h
def CanPost (w0 : World) (g p : Nat) (bs : List Int) (w : World) (e : Ending) (w' : World) : Prop := ∃ (z1 z2 : Int) (p' : Nat), e = .returned (.agg #[.int .i64 z1, .int .i64 z2]) ∧ RS w0 w' g bs p' ∧ p' ≤ p + 42 ∧ Within g (g + 1) w w'
set_option maxHeartbeats 4000000 in
theorem can (w0 : World) (g p lo : Nat) (bs : List Int) (v : Value) (zp : List Int) (w : World) (h : RS w0 w g bs p) (hp : p ≤ 300000000000) (hgl : g + 1 ≤ lo) (hv : RdG lo w v zp) (hl : zp.length ≤ 61) :
    Calls Tryd.prog 37 #[.pointer (some ⟨g, 0, none⟩), v] w (CanPost w0 g p bs w) := by
  have hgw := h.rdr.lt
  have hs0 : w0.heap.size ≤ w.heap.size := h.size
  have hb0 : Below w.heap.size w (w.alloc (.cells #[.int .i64 0, .int .i64 0] 62)) := (Below.refl _ _).alloc (Nat.le_refl _) _
  have S0 := Lib.hid (And.intro (h.below hb0 hs0) (And.intro (hv.below hb0) (And.intro (Blk.new w #[.int .i64 0, .int .i64 0] 62) (Within.of_below (lo := g) (hi := g + 1) hb0)))); clear hb0 h
  obtain ⟨A, c, rfl, _⟩ := hv.1
  clear hv
  have hc := partsR_count (p := zp)
  go_enter Tryd.func37, Tryd.ntmps37
  go_wp2_with fail
  refine (ProgParts_S _ zp _ S0.out.2.1.1 (by omega) _ rfl).mono ?_
  obtain ⟨ps, hps⟩ : ∃ ps, partsR zp = ps := ⟨_, rfl⟩
  rw [hps] at hc ⊢
  clear hps
  rintro e w1 ⟨u, rfl, ho, hb⟩
  have hz1 : w.heap.size + 1 ≤ w1.heap.size := by have := hb.size; simpa using this
  obtain ⟨Ap, cp, rfl, _⟩ := ho.rd
  have S1 := Lib.hid (And.intro (S0.out.1.below hb (by simp; omega)) (And.intro (S0.out.2.1.below hb) (And.intro (S0.out.2.2.1.below hb (by simp)) (S0.out.2.2.2.then_below hb (by simp))))); clear hb ho S0
  obtain ⟨m, hm1, hm2⟩ : ∃ m : Int, 1 ≤ m ∧ m ≤ 60 ∧ m = max (ps.length : Int) 1 := ⟨max (ps.length : Int) 1, by omega, by omega, rfl⟩
  obtain ⟨hm2, hm3⟩ := hm2
  have HM := Lib.hid hm3; clear hm3
  have hn0 : 0 ≤ (ps.length : Int) := by omega
  go_wp2
  go_loopw [6] (fun i wr => ∃ (k p' : Nat), k ≤ 20 ∧ i = .int .i64 k ∧ w.heap.size + 1 ≤ wr.heap.size ∧ RS w0 wr g bs p' ∧ p' ≤ p + 2 * k ∧ RdG lo wr (.slice A zp.length c) zp ∧ Blk wr w.heap.size #[.int .i64 0, .int .i64 0] 62 ∧ Within g (g + 1) w wr) (fun i _ => 20 - (intOf i).toNat)
  case atStart => exact ⟨0, p, by omega, rfl, hz1, S1.out.1, by omega, S1.out.2⟩
  case round =>
    clear S1
    obtain ⟨k, p', hk, rfl, hsz, q1, hpp, q2, q3, q4⟩ := hrel
    have X := Lib.hid (And.intro q1 (And.intro q2 (And.intro q3 q4))); clear q1 q2 q3 q4
    by_cases hlt : k < 20
    · have hltI : (k : Int) < 20 := by omega
      go_wp2_with fail
      refine (pick w0 g p' 9 bs _ X.out.1 (by omega) (by omega)).mono ?_
      rintro e w2 ⟨x, rfl, hx0, hx1, hr, hg2⟩
      have hz2 := hg2.size
      have Y := Lib.hid (And.intro hr (And.intro (X.out.2.1.within hg2 hgl) (And.intro (X.out.2.2.1.apart0 hg2 (by omega)) (X.out.2.2.2.trans hg2)))); clear hr hg2 X
      go_wp2_with fail
      case inl =>
        refine (pick w0 g (p' + 1) 1 bs _ Y.out.1 (by omega) (by omega)).mono ?_
        rintro e w3 ⟨y, rfl, hy0, hy1, hr, hg3⟩
        have hz3 := hg3.size
        have hba : Below w3.heap.size w3 (w3.alloc (.cells #[.int .i64 x, .int .i64 y] 62)) := (Below.refl _ _).alloc (Nat.le_refl _) _
        have Z := Lib.hid (And.intro (hr.below hba (by have := hr.size; omega)) (And.intro ((Y.out.2.1.within hg3 hgl).below hba) (And.intro ((Y.out.2.2.1.apart0 hg3 (by omega)).below hba (by omega)) ((Y.out.2.2.2.trans hg3).then_below hba (by omega))))); clear hr hg3 Y
        have bk := Blk.new w3 #[.int .i64 x, .int .i64 y] 62
        rcases hm : moveDoR zp x y with ⟨q, ok⟩
        have HMD := Lib.hid hm; clear hm
        go_wp2_with fail
        refine (MoveDo_S _ zp x y _ Z.out.2.1.1 (by omega) q ok HMD.out).mono ?_
        rintro e w4 ⟨un, rfl, ho, hb4⟩
        have hz4 : w3.heap.size + 1 ≤ w4.heap.size := by have := hb4.size; simpa using this
        have V := Lib.hid (And.intro (Z.out.1.below hb4 (by have := Z.out.1.size; exact this)) (And.intro (Z.out.2.1.below hb4) (And.intro (Z.out.2.2.1.below hb4 (by simp; omega)) (Z.out.2.2.2.then_below hb4 (by simp; omega))))); clear ho Z
        obtain ⟨m0, m1, _, _⟩ := (bk.below hb4 (by simp)).two
        obtain ⟨r0, r1, r2, r3⟩ := V.out.2.2.1.two
        clear hb4 bk
        have hne : w.heap.size ≠ w3.heap.size := by omega
        rcases ok with _ | _
        · go_wp2
          go_roundw
          case rel => exact ⟨k + 1, p' + 1 + 1, by omega, by go_num, by omega, V.out.1, by omega, V.out.2⟩
          case measure => simp [intOf]; omega
        · skip
          go_wp2
          obtain ⟨c0, c1⟩ := V.out.2.2.1.two_out (x := .int .i64 (x)) (y := .int .i64 (y))
          have hbs : Below w.heap.size w4 ((w4.setCell ⟨w.heap.size, 0, none⟩ (.int .i64 (x))).setCell ⟨w.heap.size, 1, none⟩ (.int .i64 (y))) := ((Below.refl w.heap.size _).setCell (Nat.le_refl w.heap.size) _).setCell (Nat.le_refl w.heap.size) _
          refine bodyPost_ret (v := .agg #[.int .i64 (x), .int .i64 (y)]) (by simp [results, Tryd.results37, go_sem, c0, c1]) rfl ?_
          exact ⟨_, _, p' + 1 + 1, rfl, V.out.1.below hbs hs0, by omega, V.out.2.2.2.then_below hbs (Nat.le_refl _)⟩
      case inr =>
        refine (pick w0 g (p' + 1) (ps.length : Int) bs _ Y.out.1 (by omega) (by omega)).mono ?_
        rintro e w3 ⟨y, rfl, hy0, hy1, hr, hg3⟩
        have hz3 := hg3.size
        have hba : Below w3.heap.size w3 (w3.alloc (.cells #[.int .i64 x, .int .i64 y] 62)) := (Below.refl _ _).alloc (Nat.le_refl _) _
        have Z := Lib.hid (And.intro (hr.below hba (by have := hr.size; omega)) (And.intro ((Y.out.2.1.within hg3 hgl).below hba) (And.intro ((Y.out.2.2.1.apart0 hg3 (by omega)).below hba (by omega)) ((Y.out.2.2.2.trans hg3).then_below hba (by omega))))); clear hr hg3 Y
        have bk := Blk.new w3 #[.int .i64 x, .int .i64 y] 62
        rcases hm : moveDoR zp x y with ⟨q, ok⟩
        have HMD := Lib.hid hm; clear hm
        go_wp2_with fail
        refine (MoveDo_S _ zp x y _ Z.out.2.1.1 (by omega) q ok HMD.out).mono ?_
        rintro e w4 ⟨un, rfl, ho, hb4⟩
        have hz4 : w3.heap.size + 1 ≤ w4.heap.size := by have := hb4.size; simpa using this
        have V := Lib.hid (And.intro (Z.out.1.below hb4 (by have := Z.out.1.size; exact this)) (And.intro (Z.out.2.1.below hb4) (And.intro (Z.out.2.2.1.below hb4 (by simp; omega)) (Z.out.2.2.2.then_below hb4 (by simp; omega))))); clear ho Z
        obtain ⟨m0, m1, _, _⟩ := (bk.below hb4 (by simp)).two
        obtain ⟨r0, r1, r2, r3⟩ := V.out.2.2.1.two
        clear hb4 bk
        have hne : w.heap.size ≠ w3.heap.size := by omega
        rcases ok with _ | _
        · go_wp2
          go_roundw
          case rel => exact ⟨k + 1, p' + 1 + 1, by omega, by go_num, by omega, V.out.1, by omega, V.out.2⟩
          case measure => simp [intOf]; omega
        · skip
          go_wp2
          obtain ⟨c0, c1⟩ := V.out.2.2.1.two_out (x := .int .i64 (x)) (y := .int .i64 (y))
          have hbs : Below w.heap.size w4 ((w4.setCell ⟨w.heap.size, 0, none⟩ (.int .i64 (x))).setCell ⟨w.heap.size, 1, none⟩ (.int .i64 (y))) := ((Below.refl w.heap.size _).setCell (Nat.le_refl w.heap.size) _).setCell (Nat.le_refl w.heap.size) _
          refine bodyPost_ret (v := .agg #[.int .i64 (x), .int .i64 (y)]) (by simp [results, Tryd.results37, go_sem, c0, c1]) rfl ?_
          exact ⟨_, _, p' + 1 + 1, rfl, V.out.1.below hbs hs0, by omega, V.out.2.2.2.then_below hbs (Nat.le_refl _)⟩
    · obtain rfl : k = 20 := by omega
      go_wp2_with fail
      refine (pick w0 g p' 11 bs _ X.out.1 (by omega) (by omega)).mono ?_
      rintro e w2 ⟨x, rfl, hx0, hx1, hr, hg2⟩
      have hz2 := hg2.size
      have Y := Lib.hid (And.intro hr (And.intro (X.out.2.2.1.apart0 hg2 (by omega)) (X.out.2.2.2.trans hg2))); clear hr hg2 X
      have m1 : IntKind.i64.wrap ((ps.length : Int) + 2) = (ps.length : Int) + 2 := IntWalk.i64_in _ (by omega)
      go_wp2_with fail
      refine (pick w0 g (p' + 1) ((ps.length : Int) + 2) bs _ Y.out.1 (by omega) (by omega)).mono ?_
      rintro e w3 ⟨y, rfl, hy0, hy1, hr, hg3⟩
      have hz3 := hg3.size
      have Z := Lib.hid (And.intro hr (And.intro (Y.out.2.1.apart0 hg3 (by omega)) (Y.out.2.2.trans hg3))); clear hr hg3 Y
      obtain ⟨e0, e1, e2, e3⟩ := Z.out.2.1.two
      go_wp2
      obtain ⟨c0, c1⟩ := Z.out.2.1.two_out (x := .int .i64 (x - 1)) (y := .int .i64 (y - 1))
      have hbs : Below w.heap.size w3 ((w3.setCell ⟨w.heap.size, 0, none⟩ (.int .i64 (x - 1))).setCell ⟨w.heap.size, 1, none⟩ (.int .i64 (y - 1))) := ((Below.refl w.heap.size _).setCell (Nat.le_refl w.heap.size) _).setCell (Nat.le_refl w.heap.size) _
      refine bodyPost_ret (v := .agg #[.int .i64 (x - 1), .int .i64 (y - 1)]) (by simp [results, Tryd.results37, go_sem, c0, c1]) rfl ?_
      exact ⟨_, _, p' + 1 + 1, rfl, Z.out.1.below hbs hs0, by omega, Z.out.2.2.then_below hbs (Nat.le_refl _)⟩
end Go.Proofs.YtkdpfiaegimnlaaDoor
