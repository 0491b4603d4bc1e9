/- ProgFrom answers at all arguments as its model, writes into no argument, and its answer owns its memory. For every input. -/
import Derived.Test.YtklndkhnpbjhoaaOl
import Derived.Test.YtklndkhnpbjhoaaOc
import Derived.Test.YtklndkhnpbjhoaaLift
import Derived.Test.YtklndkhnpbjhoaaF1
import Derived.Test.YtklndkhnpbjhoaaF2
import Derived.Test.YtklndkhnpbjhoaaF3
import Derived.Deep.RegionHeld3
namespace Go.Proofs.Ytklndkhnpbjhoaa
set_option maxRecDepth 100000
open Go.RowKit Go.WideShapes Go.ChangeShapes Go.Deep

theorem regs_of_trod {H : Type} {enc : TypeId × Value → H} {W : World} {v : Value} {d : DataW H} {ps : List MemPlace} {base : Nat}
    (hval : Value.okWide Try.prog W .any base 45 v) (h : DataW.Trod enc Try.prog W 0 (fun _ => true) true 45 v d ps) : ∃ t A c ms B c' zs, v = .agg #[.int .i64 t, .slice A ms.length c, .slice B zs.length c'] ∧ Rd3 W (.slice A ms.length c) ms ∧ RdI W (.slice B zs.length c') zs := by
  obtain ⟨v0, v1, v2, y0, y1, y2, n, rfl, _, _, h0, h1, h2⟩ := Go.Joins.open_agg3 Try.underlying45 (by kernel_rfl) (by kernel_rfl) hval h
  obtain ⟨z0, hz0, _⟩ := DataW.trod_int Try.underlying3 h0
  obtain rfl : v0 = .int .i64 z0 := by simpa using hz0
  obtain ⟨A, c, ms, rfl, hm⟩ := trips_of_fuel Try.underlying43 Try.underlying99 Try.underlying3 Try.underlying3 Try.underlying3 (rfl : 0 = 0) (by kernel_rfl) (by kernel_rfl) h1
  obtain ⟨B, c', zs, rfl, hi⟩ := ints_of_fuel Try.underlying24 Try.underlying3 cells_int' h2
  exact ⟨z0, A, c, ms, B, c', zs, rfl, hm, hi⟩
set_option maxHeartbeats 8000000 in
theorem exProgFrom_any (t : Int) (A0 : Option Addr) (c0 : Nat) (r : List (Int × Int × Int)) (A1 : Option Addr) (c1 : Nat) (s : List Int) (w0 : World) (h0 : Rd3 w0 (.slice A0 r.length c0) r) (h1 : RdI w0 (.slice A1 s.length c1) s) :
    Calls Try.prog 9 #[.agg #[.int .i64 t, .slice A0 r.length c0, .slice A1 s.length c1]] w0 fun e w' => e = .returned (.bool true) ∧ Below w0.heap.size w0 w' := by
  have hb0 : Below w0.heap.size w0 (w0.alloc (.cells #[.int .i64 t, .slice A0 r.length c0, .slice A1 s.length c1] 45)) := (Below.refl _ _).alloc (Nat.le_refl _) _
  have ha0 := RdB3.at_ h0
  have ha1 := h1.at_
  have S0 : Hid (Below w0.heap.size w0 (w0.alloc (.cells #[.int .i64 t, .slice A0 r.length c0, .slice A1 s.length c1] 45)) ∧ RdB3 (w0.alloc (.cells #[.int .i64 t, .slice A0 r.length c0, .slice A1 s.length c1] 45)) w0.heap.size (.slice A0 r.length c0) r ∧ RdBI (w0.alloc (.cells #[.int .i64 t, .slice A0 r.length c0, .slice A1 s.length c1] 45)) w0.heap.size (.slice A1 s.length c1) s ∧ Blk (w0.alloc (.cells #[.int .i64 t, .slice A0 r.length c0, .slice A1 s.length c1] 45)) w0.heap.size #[.int .i64 t, .slice A0 r.length c0, .slice A1 s.length c1] 45) := Lib.hid ⟨hb0, RdB3.below ha0 hb0, ha1.below hb0, Blk.new w0 #[.int .i64 t, .slice A0 r.length c0, .slice A1 s.length c1] 45⟩
  clear hb0 ha0 ha1
  by_cases hq : leftG 1048576 r s < 0
  · go_enter Try.func9, Try.ntmps9
    go_wp2_with fail
    refine (szG_any t _ _ r s 1048576 _ ((S0.out.2.1).rd (by first | omega | (simp; done) | (simp; omega))) ((S0.out.2.2.1).rd (by first | omega | (simp; done) | (simp; omega))) (by omega)).mono ?_
    rintro e w1 ⟨rfl, hb⟩
    have X := Lib.hid ((S0.out.1).trans (hb.mono (by first | omega | (simp; done) | (simp; omega)))); clear hb
    go_wp2
    go_ret
    exact ⟨rfl, X.out⟩
  obtain ⟨hl, hn, _⟩ := leftG_ok hq
  clear h0 h1
  rcases hR : progFromR t r s with ⟨y0, y1⟩
  have hyl : y0.length ≤ 1000 := by have := progFromR_len t r s; rw [hR] at this; exact this
  have HR := Lib.hid hR; clear hR
  have hbb : (y1 != y1) = false := by simp
  go_enter Try.func9, Try.ntmps9
  go_wp2_with fail
  refine (szG_any t _ _ r s 1048576 _ ((S0.out.2.1).rd (by first | omega | (simp; done) | (simp; omega))) ((S0.out.2.2.1).rd (by first | omega | (simp; done) | (simp; omega))) (by omega)).mono ?_
  rintro e w1 ⟨rfl, hb⟩
  have hs1 : w0.heap.size + 1 ≤ w1.heap.size := by have := hb.size; simpa using this
  have S1 : Hid (Below w0.heap.size w0 w1 ∧ RdB3 w1 w0.heap.size (.slice A0 r.length c0) r ∧ RdBI w1 w0.heap.size (.slice A1 s.length c1) s ∧ Blk w1 w0.heap.size #[.int .i64 t, .slice A0 r.length c0, .slice A1 s.length c1] 45) := Lib.hid ⟨(S0.out.1).trans ((hb).mono (by first | omega | (simp; done) | (simp; omega))), (S0.out.2.1).below ((hb).mono (by first | omega | (simp; done) | (simp; omega))), (S0.out.2.2.1).below ((hb).mono (by first | omega | (simp; done) | (simp; omega))), (S0.out.2.2.2).below hb (by first | omega | (simp; done) | (simp; omega))⟩
  clear S0
  clear hb
  obtain ⟨a0, a1, a2, _, _, _⟩ := blkThree (S1.out.2.2.2)
  go_wp2_with fail
  refine (toG t _ _ r s _ ((S1.out.2.1).rd (by first | omega | (simp; done) | (simp; omega))) ((S1.out.2.2.1).rd (by first | omega | (simp; done) | (simp; omega))) hl hn).mono ?_
  rintro e w2 ⟨k0, k1, km, rfl, hmk1, hmk2, ho0, ho1, hb⟩
  have hsw2 := hb.size
  obtain ⟨kB0, kd0, rfl, _⟩ := ho0.rd
  obtain ⟨kB1, kd1, rfl, _⟩ := ho1.rd
  have S2 : Hid (Below w0.heap.size w0 w2 ∧ RdB3 w2 w0.heap.size (.slice A0 r.length c0) r ∧ RdBI w2 w0.heap.size (.slice A1 s.length c1) s ∧ Blk w2 w0.heap.size #[.int .i64 t, .slice A0 r.length c0, .slice A1 s.length c1] 45 ∧ OwnO w2 w1.heap.size km (.slice kB0 r.length kd0) r ∧ OwnI w2 km w2.heap.size (.slice kB1 s.length kd1) s) := Lib.hid ⟨(S1.out.1).trans ((hb).mono (by first | omega | (simp; done) | (simp; omega))), (S1.out.2.1).below ((hb).mono (by first | omega | (simp; done) | (simp; omega))), (S1.out.2.2.1).below ((hb).mono (by first | omega | (simp; done) | (simp; omega))), (S1.out.2.2.2).below hb (by first | omega | (simp; done) | (simp; omega)), ho0, ho1⟩
  clear S1
  clear hb ho0 ho1 a0 a1 a2
  go_wp2_with fail
  refine (ProgFrom_S t _ _ r _ _ s _ (S2.out.2.2.2.2.1).rd hl (S2.out.2.2.2.2.2).rd hn y0 y1 HR.out).mono ?_
  rintro e w3 ⟨m, rfl, ho, hb⟩
  have hsw3 := hb.size
  obtain ⟨mB, md, rfl, _⟩ := ho.rd
  have S3 : Hid (Below w0.heap.size w0 w3 ∧ RdB3 w3 w0.heap.size (.slice A0 r.length c0) r ∧ RdBI w3 w0.heap.size (.slice A1 s.length c1) s ∧ Blk w3 w0.heap.size #[.int .i64 t, .slice A0 r.length c0, .slice A1 s.length c1] 45 ∧ OwnI w3 w2.heap.size w3.heap.size (.slice mB y0.length md) y0) := Lib.hid ⟨(S2.out.1).trans ((hb).mono (by first | omega | (simp; done) | (simp; omega))), (S2.out.2.1).below ((hb).mono (by first | omega | (simp; done) | (simp; omega))), (S2.out.2.2.1).below ((hb).mono (by first | omega | (simp; done) | (simp; omega))), (S2.out.2.2.2.1).below hb (by first | omega | (simp; done) | (simp; omega)), ho⟩
  clear S2
  clear hb ho
  obtain ⟨a0, a1, a2, _, _, _⟩ := blkThree (S3.out.2.2.2.1)
  go_wp2_with fail
  refine (toG t _ _ r s _ ((S3.out.2.1).rd (by first | omega | (simp; done) | (simp; omega))) ((S3.out.2.2.1).rd (by first | omega | (simp; done) | (simp; omega))) hl hn).mono ?_
  rintro e w4 ⟨x0, x1, xm, rfl, hmx1, hmx2, ho0, ho1, hb⟩
  have hsw4 := hb.size
  obtain ⟨xB0, xd0, rfl, _⟩ := ho0.rd
  obtain ⟨xB1, xd1, rfl, _⟩ := ho1.rd
  have S4 : Hid (Below w0.heap.size w0 w4 ∧ RdB3 w4 w0.heap.size (.slice A0 r.length c0) r ∧ RdBI w4 w0.heap.size (.slice A1 s.length c1) s ∧ Blk w4 w0.heap.size #[.int .i64 t, .slice A0 r.length c0, .slice A1 s.length c1] 45 ∧ OwnI w4 w2.heap.size w3.heap.size (.slice mB y0.length md) y0 ∧ OwnO w4 w3.heap.size xm (.slice xB0 r.length xd0) r ∧ OwnI w4 xm w4.heap.size (.slice xB1 s.length xd1) s) := Lib.hid ⟨(S3.out.1).trans ((hb).mono (by first | omega | (simp; done) | (simp; omega))), (S3.out.2.1).below ((hb).mono (by first | omega | (simp; done) | (simp; omega))), (S3.out.2.2.1).below ((hb).mono (by first | omega | (simp; done) | (simp; omega))), (S3.out.2.2.2.1).below hb (by first | omega | (simp; done) | (simp; omega)), (S3.out.2.2.2.2).below hb, ho0, ho1⟩
  clear S3
  clear hb ho0 ho1 a0 a1 a2
  have hba : Below w4.heap.size w4 (w4.alloc (.cells #[.int .i64 t, (.slice xB0 r.length xd0), (.slice xB1 s.length xd1)] 26)) := (Below.refl _ _).alloc (Nat.le_refl _) _
  have hbx := Blk.new w4 #[.int .i64 t, (.slice xB0 r.length xd0), (.slice xB1 s.length xd1)] 26
  have hgz : w4.heap.size + 1 ≤ (w4.alloc (.cells #[.int .i64 t, (.slice xB0 r.length xd0), (.slice xB1 s.length xd1)] 26)).heap.size := by simp
  have S5 : Hid (Below w0.heap.size w0 (w4.alloc (.cells #[.int .i64 t, (.slice xB0 r.length xd0), (.slice xB1 s.length xd1)] 26)) ∧ RdB3 (w4.alloc (.cells #[.int .i64 t, (.slice xB0 r.length xd0), (.slice xB1 s.length xd1)] 26)) w0.heap.size (.slice A0 r.length c0) r ∧ RdBI (w4.alloc (.cells #[.int .i64 t, (.slice xB0 r.length xd0), (.slice xB1 s.length xd1)] 26)) w0.heap.size (.slice A1 s.length c1) s ∧ Blk (w4.alloc (.cells #[.int .i64 t, (.slice xB0 r.length xd0), (.slice xB1 s.length xd1)] 26)) w0.heap.size #[.int .i64 t, .slice A0 r.length c0, .slice A1 s.length c1] 45 ∧ OwnI (w4.alloc (.cells #[.int .i64 t, (.slice xB0 r.length xd0), (.slice xB1 s.length xd1)] 26)) w2.heap.size w3.heap.size (.slice mB y0.length md) y0 ∧ OwnO (w4.alloc (.cells #[.int .i64 t, (.slice xB0 r.length xd0), (.slice xB1 s.length xd1)] 26)) w3.heap.size xm (.slice xB0 r.length xd0) r ∧ OwnI (w4.alloc (.cells #[.int .i64 t, (.slice xB0 r.length xd0), (.slice xB1 s.length xd1)] 26)) xm w4.heap.size (.slice xB1 s.length xd1) s ∧ Blk (w4.alloc (.cells #[.int .i64 t, (.slice xB0 r.length xd0), (.slice xB1 s.length xd1)] 26)) w4.heap.size #[.int .i64 t, (.slice xB0 r.length xd0), (.slice xB1 s.length xd1)] 26) := Lib.hid ⟨(S4.out.1).trans ((hba).mono (by first | omega | (simp; done) | (simp; omega))), (S4.out.2.1).below ((hba).mono (by first | omega | (simp; done) | (simp; omega))), (S4.out.2.2.1).below ((hba).mono (by first | omega | (simp; done) | (simp; omega))), (S4.out.2.2.2.1).below hba (by first | omega | (simp; done) | (simp; omega)), (S4.out.2.2.2.2.1).below hba, (S4.out.2.2.2.2.2.1).below hba, (S4.out.2.2.2.2.2.2).below hba, hbx⟩
  clear S4
  clear hba hbx
  go_wp2_with fail
  generalize hG : (w4.alloc (.cells #[.int .i64 t, (.slice xB0 r.length xd0), (.slice xB1 s.length xd1)] 26)) = w5 at *
  clear hG
  have hsG : w4.heap.size ≤ w5.heap.size := by omega
  refine (ProgFrom_I t _ _ r _ _ s _ (S5.out.2.2.2.2.2.1).rd (S5.out.2.2.2.2.2.2.1).rd y0 y1 HR.out).mono ?_
  rintro e w6 ⟨g, rfl, ho, hb⟩
  have hsw6 := hb.size
  obtain ⟨gB, gd, rfl, _⟩ := ho.rd
  have S6 : Hid (Below w0.heap.size w0 w6 ∧ RdB3 w6 w0.heap.size (.slice A0 r.length c0) r ∧ RdBI w6 w0.heap.size (.slice A1 s.length c1) s ∧ Blk w6 w0.heap.size #[.int .i64 t, .slice A0 r.length c0, .slice A1 s.length c1] 45 ∧ OwnI w6 w2.heap.size w3.heap.size (.slice mB y0.length md) y0 ∧ OwnO w6 w3.heap.size xm (.slice xB0 r.length xd0) r ∧ OwnI w6 xm w4.heap.size (.slice xB1 s.length xd1) s ∧ Blk w6 w4.heap.size #[.int .i64 t, (.slice xB0 r.length xd0), (.slice xB1 s.length xd1)] 26 ∧ OwnI w6 w5.heap.size w6.heap.size (.slice gB y0.length gd) y0) := Lib.hid ⟨(S5.out.1).trans ((hb).mono (by first | omega | (simp; done) | (simp; omega))), (S5.out.2.1).below ((hb).mono (by first | omega | (simp; done) | (simp; omega))), (S5.out.2.2.1).below ((hb).mono (by first | omega | (simp; done) | (simp; omega))), (S5.out.2.2.2.1).below hb (by first | omega | (simp; done) | (simp; omega)), (S5.out.2.2.2.2.1).below hb, (S5.out.2.2.2.2.2.1).below hb, (S5.out.2.2.2.2.2.2.1).below hb, (S5.out.2.2.2.2.2.2.2).below hb (by first | omega | (simp; done) | (simp; omega)), ho⟩
  clear S5
  clear hb ho
  go_wp2_with fail
  refine (eqI _ _ y0 y0 _ (S6.out.2.2.2.2.2.2.2.2).rd (S6.out.2.2.2.2.1).rd true (by simp)).mono ?_
  rintro e w7 ⟨rfl, hb⟩
  have hsw7 := hb.size
  have S7 : Hid (Below w0.heap.size w0 w7 ∧ RdB3 w7 w0.heap.size (.slice A0 r.length c0) r ∧ RdBI w7 w0.heap.size (.slice A1 s.length c1) s ∧ Blk w7 w0.heap.size #[.int .i64 t, .slice A0 r.length c0, .slice A1 s.length c1] 45 ∧ OwnI w7 w2.heap.size w3.heap.size (.slice mB y0.length md) y0 ∧ OwnO w7 w3.heap.size xm (.slice xB0 r.length xd0) r ∧ OwnI w7 xm w4.heap.size (.slice xB1 s.length xd1) s ∧ Blk w7 w4.heap.size #[.int .i64 t, (.slice xB0 r.length xd0), (.slice xB1 s.length xd1)] 26 ∧ OwnI w7 w5.heap.size w6.heap.size (.slice gB y0.length gd) y0) := Lib.hid ⟨(S6.out.1).trans ((hb).mono (by first | omega | (simp; done) | (simp; omega))), (S6.out.2.1).below ((hb).mono (by first | omega | (simp; done) | (simp; omega))), (S6.out.2.2.1).below ((hb).mono (by first | omega | (simp; done) | (simp; omega))), (S6.out.2.2.2.1).below hb (by first | omega | (simp; done) | (simp; omega)), (S6.out.2.2.2.2.1).below hb, (S6.out.2.2.2.2.2.1).below hb, (S6.out.2.2.2.2.2.2.1).below hb, (S6.out.2.2.2.2.2.2.2.1).below hb (by first | omega | (simp; done) | (simp; omega)), (S6.out.2.2.2.2.2.2.2.2).below hb⟩
  clear S6
  clear hb
  obtain ⟨a0, a1, a2, _, _, _⟩ := blkThree (S7.out.2.2.2.1)
  obtain ⟨b0, b1, b2, _, _, _⟩ := blkThree (S7.out.2.2.2.2.2.2.2.1)
  have hd : Below w7.heap.size w7 w7.drew := (Below.refl _ _).drew
  have hdz : w7.drew.heap.size = w7.heap.size := rfl
  have HDZ := Lib.hid hdz; clear hdz
  go_wp2_with fail
  go_region_held3 (fun w' => w'.cell? ⟨w0.heap.size, 0, none⟩ = some (.int .i64 t) ∧ w'.cell? ⟨w0.heap.size, 1, none⟩ = some (.slice A0 r.length c0) ∧ w'.cell? ⟨w0.heap.size, 2, none⟩ = some (.slice A1 s.length c1) ∧ w'.cell? ⟨w4.heap.size, 0, none⟩ = some (.int .i64 t) ∧ w'.cell? ⟨w4.heap.size, 1, none⟩ = some (.slice xB0 r.length xd0) ∧ w'.cell? ⟨w4.heap.size, 2, none⟩ = some (.slice xB1 s.length xd1)) (repeat' (first | assumption | apply And.intro | rw [World.cell?_drew])) (first
    | (go_at_call 27; refine (toG t _ _ r s _ (((S7.out.2.1).below (hd.mono (by omega))).rd (by rw [HDZ.out]; omega)) (((S7.out.2.2.1).below (hd.mono (by omega))).rd (by rw [HDZ.out]; omega)) hl hn).mono ?_; rintro e wA ⟨q0, q1, mq, rfl, hmq1, hmq2, hoA0, hoA1, hbA⟩; have hsA : w7.heap.size ≤ wA.heap.size := hbA.size; have mA0 := (hbA.cell (p := ⟨w0.heap.size, 0, none⟩) (by show w0.heap.size < w7.heap.size; omega)).trans a0; have mA1 := (hbA.cell (p := ⟨w0.heap.size, 1, none⟩) (by show w0.heap.size < w7.heap.size; omega)).trans a1; have mA2 := (hbA.cell (p := ⟨w0.heap.size, 2, none⟩) (by show w0.heap.size < w7.heap.size; omega)).trans a2; have mX0 := (hbA.cell (p := ⟨w4.heap.size, 0, none⟩) (by show w4.heap.size < w7.heap.size; omega)).trans b0; have mX1 := (hbA.cell (p := ⟨w4.heap.size, 1, none⟩) (by show w4.heap.size < w7.heap.size; omega)).trans b1; have mX2 := (hbA.cell (p := ⟨w4.heap.size, 2, none⟩) (by show w4.heap.size < w7.heap.size; omega)).trans b2; obtain ⟨C0, f0, rfl, _⟩ := hoA0.rd; obtain ⟨C1, f1, rfl, _⟩ := hoA1.rd)
    | (go_at_call 21; refine (eqG t t _ _ _ _ r r s s _ (((S7.out.2.2.2.2.2.1).below hd).below hbA).rd (((S7.out.2.2.2.2.2.2.1).below hd).below hbA).rd hoA0.rd hoA1.rd true (by simp)).mono ?_; rintro e w8 ⟨rfl, hbB⟩; have hsB := hbB.size; have nA0 := ((hbB.mono (show w7.heap.size ≤ wA.heap.size by omega)).cell (p := ⟨w0.heap.size, 0, none⟩) (by show w0.heap.size < w7.heap.size; omega)).trans mA0; have nA1 := ((hbB.mono (show w7.heap.size ≤ wA.heap.size by omega)).cell (p := ⟨w0.heap.size, 1, none⟩) (by show w0.heap.size < w7.heap.size; omega)).trans mA1; have nA2 := ((hbB.mono (show w7.heap.size ≤ wA.heap.size by omega)).cell (p := ⟨w0.heap.size, 2, none⟩) (by show w0.heap.size < w7.heap.size; omega)).trans mA2; have nX0 := ((hbB.mono (show w7.heap.size ≤ wA.heap.size by omega)).cell (p := ⟨w4.heap.size, 0, none⟩) (by show w4.heap.size < w7.heap.size; omega)).trans mX0; have nX1 := ((hbB.mono (show w7.heap.size ≤ wA.heap.size by omega)).cell (p := ⟨w4.heap.size, 1, none⟩) (by show w4.heap.size < w7.heap.size; omega)).trans mX1; have nX2 := ((hbB.mono (show w7.heap.size ≤ wA.heap.size by omega)).cell (p := ⟨w4.heap.size, 2, none⟩) (by show w4.heap.size < w7.heap.size; omega)).trans mX2))
  have hb : Below w7.heap.size w7 w8 := hd.trans ((show Below w7.heap.size w7.drew wA from hbA).trans (hbB.mono hsA))
  have hsw8 := hb.size
  have S8 : Hid (Below w0.heap.size w0 w8 ∧ RdB3 w8 w0.heap.size (.slice A0 r.length c0) r ∧ RdBI w8 w0.heap.size (.slice A1 s.length c1) s ∧ Blk w8 w0.heap.size #[.int .i64 t, .slice A0 r.length c0, .slice A1 s.length c1] 45 ∧ OwnI w8 w2.heap.size w3.heap.size (.slice mB y0.length md) y0 ∧ OwnO w8 w3.heap.size xm (.slice xB0 r.length xd0) r ∧ OwnI w8 xm w4.heap.size (.slice xB1 s.length xd1) s ∧ Blk w8 w4.heap.size #[.int .i64 t, (.slice xB0 r.length xd0), (.slice xB1 s.length xd1)] 26 ∧ OwnI w8 w5.heap.size w6.heap.size (.slice gB y0.length gd) y0) := Lib.hid ⟨(S7.out.1).trans ((hb).mono (by first | omega | (simp; done) | (simp; omega))), (S7.out.2.1).below ((hb).mono (by first | omega | (simp; done) | (simp; omega))), (S7.out.2.2.1).below ((hb).mono (by first | omega | (simp; done) | (simp; omega))), (S7.out.2.2.2.1).below hb (by first | omega | (simp; done) | (simp; omega)), (S7.out.2.2.2.2.1).below hb, (S7.out.2.2.2.2.2.1).below hb, (S7.out.2.2.2.2.2.2.1).below hb, (S7.out.2.2.2.2.2.2.2.1).below hb (by first | omega | (simp; done) | (simp; omega)), (S7.out.2.2.2.2.2.2.2.2).below hb⟩
  clear S7
  clear hb hbA hbB hoA0 hoA1 hd mA0 mA1 mA2 mX0 mX1 mX2 nA0 nA1 nA2 nX0 nX1 nX2 a0 a1 a2 b0 b1 b2
  obtain ⟨b0, b1, b2, _, _, _⟩ := blkThree (S8.out.2.2.2.2.2.2.2.1)
  go_wp2_with fail
  refine (markG t _ _ r s 1 (w3.heap.size) (xm) (w4.heap.size) _ (by omega) (by unfold sz3; omega) hn (S8.out.2.2.2.2.2.1) (S8.out.2.2.2.2.2.2.1) (by omega) (by omega) (by omega)).mono ?_
  rintro e w9 ⟨rfl, hw⟩
  have hsw9 := hw.size
  have S9 : Hid (Below w0.heap.size w0 w9 ∧ RdB3 w9 w0.heap.size (.slice A0 r.length c0) r ∧ RdBI w9 w0.heap.size (.slice A1 s.length c1) s ∧ Blk w9 w0.heap.size #[.int .i64 t, .slice A0 r.length c0, .slice A1 s.length c1] 45 ∧ OwnI w9 w2.heap.size w3.heap.size (.slice mB y0.length md) y0 ∧ OwnI w9 w5.heap.size w6.heap.size (.slice gB y0.length gd) y0) := Lib.hid ⟨(S8.out.1).trans ((hw).below (B := w0.heap.size) (by first | omega | (simp; done) | (simp; omega)) (by first | omega | (simp; done) | (simp; omega))), (S8.out.2.1).below ((hw).below (by first | omega | (simp; done) | (simp; omega)) (by first | omega | (simp; done) | (simp; omega))), (S8.out.2.2.1).below ((hw).below (by first | omega | (simp; done) | (simp; omega)) (by first | omega | (simp; done) | (simp; omega))), ((hw).block (w0.heap.size) (by first | omega | (simp; done) | (simp; omega)) (by first | omega | (simp; done) | (simp; omega))).trans (S8.out.2.2.2.1), (S8.out.2.2.2.2.1).apart hw (by first | omega | (simp; done) | (simp; omega)), (S8.out.2.2.2.2.2.2.2.2).apart hw (by first | omega | (simp; done) | (simp; omega))⟩
  clear S8
  clear hw b0 b1 b2
  have hz3 : (sz3 r : Int) ≤ 4000000 := by unfold sz3; omega
  have hk1 : ¬ 1 + (sz3 r : Int) + (s.length : Int) < 0 := by omega
  go_wp2_with fail
  refine (eqI _ _ y0 y0 _ (S9.out.2.2.2.2.2).rd (S9.out.2.2.2.2.1).rd true (by simp)).mono ?_
  rintro e w10 ⟨rfl, hb⟩
  have hsw10 := hb.size
  have S10 : Hid (Below w0.heap.size w0 w10 ∧ RdB3 w10 w0.heap.size (.slice A0 r.length c0) r ∧ RdBI w10 w0.heap.size (.slice A1 s.length c1) s ∧ Blk w10 w0.heap.size #[.int .i64 t, .slice A0 r.length c0, .slice A1 s.length c1] 45 ∧ OwnI w10 w2.heap.size w3.heap.size (.slice mB y0.length md) y0 ∧ OwnI w10 w5.heap.size w6.heap.size (.slice gB y0.length gd) y0) := Lib.hid ⟨(S9.out.1).trans ((hb).mono (by first | omega | (simp; done) | (simp; omega))), (S9.out.2.1).below ((hb).mono (by first | omega | (simp; done) | (simp; omega))), (S9.out.2.2.1).below ((hb).mono (by first | omega | (simp; done) | (simp; omega))), (S9.out.2.2.2.1).below hb (by first | omega | (simp; done) | (simp; omega)), (S9.out.2.2.2.2.1).below hb, (S9.out.2.2.2.2.2).below hb⟩
  clear S9
  clear hb
  go_wp2_with fail
  refine (markI _ y0 1 (w5.heap.size) (w6.heap.size) _ (by omega) (by unfold szI; omega) (S10.out.2.2.2.2.2)).mono ?_
  rintro e w11 ⟨rfl, ho, hw⟩
  have hsw11 := hw.size
  have S11 : Hid (Below w0.heap.size w0 w11 ∧ RdB3 w11 w0.heap.size (.slice A0 r.length c0) r ∧ RdBI w11 w0.heap.size (.slice A1 s.length c1) s ∧ Blk w11 w0.heap.size #[.int .i64 t, .slice A0 r.length c0, .slice A1 s.length c1] 45 ∧ OwnI w11 w2.heap.size w3.heap.size (.slice mB y0.length md) y0 ∧ OwnI w11 (w5.heap.size) (w6.heap.size) (.slice gB y0.length gd) (mkI 1 y0)) := Lib.hid ⟨(S10.out.1).trans ((hw).below (B := w0.heap.size) (by first | omega | (simp; done) | (simp; omega)) (by first | omega | (simp; done) | (simp; omega))), (S10.out.2.1).below ((hw).below (by first | omega | (simp; done) | (simp; omega)) (by first | omega | (simp; done) | (simp; omega))), (S10.out.2.2.1).below ((hw).below (by first | omega | (simp; done) | (simp; omega)) (by first | omega | (simp; done) | (simp; omega))), ((hw).block (w0.heap.size) (by first | omega | (simp; done) | (simp; omega)) (by first | omega | (simp; done) | (simp; omega))).trans (S10.out.2.2.2.1), (S10.out.2.2.2.2.1).apart hw (by first | omega | (simp; done) | (simp; omega)), ho⟩
  clear S10
  clear hw ho
  go_wp2_with fail
  refine (heldI _ y0 1 _ (by omega) (by unfold szI; omega) (S11.out.2.2.2.2.2).rd).mono ?_
  rintro e w12 ⟨rfl, hb⟩
  have hsw12 := hb.size
  have S12 : Hid (Below w0.heap.size w0 w12 ∧ RdB3 w12 w0.heap.size (.slice A0 r.length c0) r ∧ RdBI w12 w0.heap.size (.slice A1 s.length c1) s ∧ Blk w12 w0.heap.size #[.int .i64 t, .slice A0 r.length c0, .slice A1 s.length c1] 45 ∧ OwnI w12 w2.heap.size w3.heap.size (.slice mB y0.length md) y0 ∧ OwnI w12 (w5.heap.size) (w6.heap.size) (.slice gB y0.length gd) (mkI 1 y0)) := Lib.hid ⟨(S11.out.1).trans ((hb).mono (by first | omega | (simp; done) | (simp; omega))), (S11.out.2.1).below ((hb).mono (by first | omega | (simp; done) | (simp; omega))), (S11.out.2.2.1).below ((hb).mono (by first | omega | (simp; done) | (simp; omega))), (S11.out.2.2.2.1).below hb (by first | omega | (simp; done) | (simp; omega)), (S11.out.2.2.2.2.1).below hb, (S11.out.2.2.2.2.2).below hb⟩
  clear S11
  clear hb
  have hk2 : ¬ (1 + (y0.length : Int)) < 0 := by omega
  have hk3 : ((1 + (y0.length : Int)) != (1 + (y0.length : Int))) = false := by simp
  obtain ⟨a0, a1, a2, _, _, _⟩ := blkThree (S12.out.2.2.2.1)
  go_wp2_with fail
  refine (toG t _ _ r s _ ((S12.out.2.1).rd (by first | omega | (simp; done) | (simp; omega))) ((S12.out.2.2.1).rd (by first | omega | (simp; done) | (simp; omega))) hl hn).mono ?_
  rintro e w13 ⟨h0, h1, hm, rfl, hmh1, hmh2, ho0, ho1, hb⟩
  have hsw13 := hb.size
  obtain ⟨hB0, hd0, rfl, _⟩ := ho0.rd
  obtain ⟨hB1, hd1, rfl, _⟩ := ho1.rd
  have S13 : Hid (Below w0.heap.size w0 w13 ∧ RdB3 w13 w0.heap.size (.slice A0 r.length c0) r ∧ RdBI w13 w0.heap.size (.slice A1 s.length c1) s ∧ Blk w13 w0.heap.size #[.int .i64 t, .slice A0 r.length c0, .slice A1 s.length c1] 45 ∧ OwnI w13 w2.heap.size w3.heap.size (.slice mB y0.length md) y0 ∧ OwnI w13 (w5.heap.size) (w6.heap.size) (.slice gB y0.length gd) (mkI 1 y0) ∧ OwnO w13 w12.heap.size hm (.slice hB0 r.length hd0) r ∧ OwnI w13 hm w13.heap.size (.slice hB1 s.length hd1) s) := Lib.hid ⟨(S12.out.1).trans ((hb).mono (by first | omega | (simp; done) | (simp; omega))), (S12.out.2.1).below ((hb).mono (by first | omega | (simp; done) | (simp; omega))), (S12.out.2.2.1).below ((hb).mono (by first | omega | (simp; done) | (simp; omega))), (S12.out.2.2.2.1).below hb (by first | omega | (simp; done) | (simp; omega)), (S12.out.2.2.2.2.1).below hb, (S12.out.2.2.2.2.2).below hb, ho0, ho1⟩
  clear S12
  clear hb ho0 ho1 a0 a1 a2
  go_wp2_with fail
  refine (ProgFrom_I t _ _ r _ _ s _ (S13.out.2.2.2.2.2.2.1).rd (S13.out.2.2.2.2.2.2.2).rd y0 y1 HR.out).mono ?_
  rintro e w14 ⟨u, rfl, ho, hb⟩
  have hsw14 := hb.size
  obtain ⟨uB, ud, rfl, _⟩ := ho.rd
  have S14 : Hid (Below w0.heap.size w0 w14 ∧ RdB3 w14 w0.heap.size (.slice A0 r.length c0) r ∧ RdBI w14 w0.heap.size (.slice A1 s.length c1) s ∧ Blk w14 w0.heap.size #[.int .i64 t, .slice A0 r.length c0, .slice A1 s.length c1] 45 ∧ OwnI w14 w2.heap.size w3.heap.size (.slice mB y0.length md) y0 ∧ OwnI w14 (w5.heap.size) (w6.heap.size) (.slice gB y0.length gd) (mkI 1 y0) ∧ OwnI w14 w13.heap.size w14.heap.size (.slice uB y0.length ud) y0) := Lib.hid ⟨(S13.out.1).trans ((hb).mono (by first | omega | (simp; done) | (simp; omega))), (S13.out.2.1).below ((hb).mono (by first | omega | (simp; done) | (simp; omega))), (S13.out.2.2.1).below ((hb).mono (by first | omega | (simp; done) | (simp; omega))), (S13.out.2.2.2.1).below hb (by first | omega | (simp; done) | (simp; omega)), (S13.out.2.2.2.2.1).below hb, (S13.out.2.2.2.2.2.1).below hb, ho⟩
  clear S13
  clear hb ho
  go_wp2_with fail
  refine (eqI _ _ y0 y0 _ (S14.out.2.2.2.2.2.2).rd (S14.out.2.2.2.2.1).rd true (by simp)).mono ?_
  rintro e w15 ⟨rfl, hb⟩
  have hsw15 := hb.size
  have S15 : Hid (Below w0.heap.size w0 w15 ∧ RdB3 w15 w0.heap.size (.slice A0 r.length c0) r ∧ RdBI w15 w0.heap.size (.slice A1 s.length c1) s ∧ Blk w15 w0.heap.size #[.int .i64 t, .slice A0 r.length c0, .slice A1 s.length c1] 45 ∧ OwnI w15 w2.heap.size w3.heap.size (.slice mB y0.length md) y0 ∧ OwnI w15 (w5.heap.size) (w6.heap.size) (.slice gB y0.length gd) (mkI 1 y0) ∧ OwnI w15 w13.heap.size w14.heap.size (.slice uB y0.length ud) y0) := Lib.hid ⟨(S14.out.1).trans ((hb).mono (by first | omega | (simp; done) | (simp; omega))), (S14.out.2.1).below ((hb).mono (by first | omega | (simp; done) | (simp; omega))), (S14.out.2.2.1).below ((hb).mono (by first | omega | (simp; done) | (simp; omega))), (S14.out.2.2.2.1).below hb (by first | omega | (simp; done) | (simp; omega)), (S14.out.2.2.2.2.1).below hb, (S14.out.2.2.2.2.2.1).below hb, (S14.out.2.2.2.2.2.2).below hb⟩
  clear S14
  clear hb
  go_wp2_with fail
  refine (heldI _ y0 1 _ (by omega) (by unfold szI; omega) (S15.out.2.2.2.2.2.1).rd).mono ?_
  rintro e w16 ⟨rfl, hb⟩
  have hsw16 := hb.size
  have S16 : Hid (Below w0.heap.size w0 w16 ∧ RdB3 w16 w0.heap.size (.slice A0 r.length c0) r ∧ RdBI w16 w0.heap.size (.slice A1 s.length c1) s ∧ Blk w16 w0.heap.size #[.int .i64 t, .slice A0 r.length c0, .slice A1 s.length c1] 45 ∧ OwnI w16 w2.heap.size w3.heap.size (.slice mB y0.length md) y0 ∧ OwnI w16 (w5.heap.size) (w6.heap.size) (.slice gB y0.length gd) (mkI 1 y0) ∧ OwnI w16 w13.heap.size w14.heap.size (.slice uB y0.length ud) y0) := Lib.hid ⟨(S15.out.1).trans ((hb).mono (by first | omega | (simp; done) | (simp; omega))), (S15.out.2.1).below ((hb).mono (by first | omega | (simp; done) | (simp; omega))), (S15.out.2.2.1).below ((hb).mono (by first | omega | (simp; done) | (simp; omega))), (S15.out.2.2.2.1).below hb (by first | omega | (simp; done) | (simp; omega)), (S15.out.2.2.2.2.1).below hb, (S15.out.2.2.2.2.2.1).below hb, (S15.out.2.2.2.2.2.2).below hb⟩
  clear S15
  clear hb
  go_wp2
  go_ret
  exact ⟨rfl, S16.out.1⟩
theorem exProgFrom_walk : LawWalk 9 Try.f9 := by
  intro H enc W base args ds ps hval hA
  rw [Try.params9] at hA hval
  obtain ⟨v0, d0, rfl, rfl, h0⟩ := trodAll_one hA
  obtain ⟨t0, A0, c0, zs0, B0, d0, ss0, rfl, hi0, hj0⟩ := regs_of_trod (hval 0 _ _ rfl rfl) h0
  exact exProgFrom_any t0 A0 c0 zs0 B0 d0 ss0 W hi0 hj0

set_option maxRecDepth 100000 in
theorem exProgFrom_lifted (os : Os) (started : os.Started) (H : Type) (enc : TypeId × Value → H) :
    ReturnsInHanded {} Try.checked os 9 .any (Rows.fnExactProgFromSpec.pre6 enc Try.prog Try.f9 Rows.fnExactProgFromRow.domain false) (Rows.fnExactProgFromSpec.post enc Try.prog Try.f9 false true false false) := by
  refine returnsInHanded_of_change (C := Try.checked) own started (by kernel_rfl) Try.func9
    (ChangeSpec.witness6 (enc := enc) (C := Try.checked) false ⟨#[], #[.agg #[.int .i64 0, .slice none 0 0, .slice none 0 0]], []⟩ 8 (by kernel_rfl) (by kernel_rfl) (by kernel_rfl) (by kernel_rfl)) ?_
  intro W base args ds gs before hval hW _ _
  exact law_contract laidOut rfl (by kernel_rfl) rfl (fun H ds hd => by
    match ds, hd with
    | [d0], _ => exact ⟨rfl, rfl, rfl⟩) exProgFrom_walk W base args ds gs before hval hW

/-- FnExactProgFrom: the row as it is given. -/
theorem exProgFrom_holds : Rows.FnExactProgFromSaid :=
  OpenClaim.holds_of_wide 9 Try.f9 rfl rfl rfl rfl rfl rfl rfl ⟨rfl, rfl, rfl, rfl, rfl⟩ rfl rfl rfl rfl rfl (by kernel_rfl) Try.func9 (by unfold joinedFacts; rw [pf_enter, pf_lifts, pf_make]; kernel_rfl)
    (of_decide_eq_true (by kernel_rfl)) (by unfold Func.isWrapper; first | (rw [if_pos (by decide +kernel)]; kernel_rfl) | (rw [if_neg (by decide +kernel)]; exact ⟨rfl, rfl⟩))
    (fun os started H enc _ => exProgFrom_lifted os started H enc)

end Go.Proofs.Ytklndkhnpbjhoaa
