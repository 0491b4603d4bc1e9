/- The draws of the laws of registers; FnRegsValid. -/
import Derived.Test.YtaehaalaeikloaaZr
import Derived.Test.YtaehaalaeikloaaB2
import Derived.Test.YtaehaalaeikloaaOe
import Derived.Test.YtaehaalaeikloaaOf
namespace Go.Proofs.Ytaehaalaeikloaa
set_option maxRecDepth 100000
open Go.RowKit Go.WideShapes Go.ChangeShapes Go.Deep

def DrawnRV (w : World) (e : Ending) (w' : World) : Prop :=
  ∃ (t : Int) (u0 u1 : Value) (ms : List (Int × Int × Int)) (row : List Int), e = .returned (.agg #[.int .i64 t, u0, u1]) ∧ Rd3 w' u0 ms ∧ RdI w' u1 row ∧ (-1 ≤ t ∧ t ≤ 120 ∧ ms.length ≤ 61 ∧ row.length ≤ 241) ∧ Below w.heap.size w w'
set_option maxHeartbeats 2000000 in
theorem DrawRegsValid_any (v : Value) (zs : List Int) (w : World) (h : RdC w v zs) : Calls Try.prog 32 #[v] w (DrawnRV w) := by
  have hb0 : Below w.heap.size w (w.alloc (.cells #[.int .i64 0, .slice none 0 0, .slice none 0 0] 43)) := (Below.refl _ _).alloc (Nat.le_refl _) _
  have S0 := Lib.hid (And.intro (RdBC.rd (RdBC.below (B := w.heap.size) h hb0) (by simp)) (And.intro hb0 (Blk.new w #[.int .i64 0, .slice none 0 0, .slice none 0 0] 43))); clear h hb0
  go_enter Try.func32, Try.ntmps32
  go_wp2_with fail
  refine (l20Open_any v zs _ S0.out.1).mono ?_
  rintro e w1 ⟨g, bs, rfl, hr, hg, hb⟩
  have hz1 : w.heap.size + 1 ≤ w1.heap.size := by have := hb.size; simpa using this
  have hgF : w.heap.size + 1 ≤ g := by simpa using hg
  have X := Lib.hid (And.intro hr (And.intro (S0.out.2.1.trans (hb.mono (by simp))) (S0.out.2.2.below hb (by simp)))); clear hr hb S0
  have hgw := X.out.1.lt
  go_wp2_with fail
  refine (regs_any w1 g 0 9 2 bs _ (RS.refl X.out.1) (by omega) (by omega) (by omega)).mono ?_
  rintro e w2 ⟨t, u0, u1, ms, row, p', rfl, ⟨hi, h3⟩, ho, hbd, _, _, hg2⟩
  have hz2 : w1.heap.size ≤ w2.heap.size := hg2.size
  obtain ⟨Aa, ca, rfl, _⟩ := h3.rd
  obtain ⟨Ab, cb, rfl, _⟩ := ho.ints
  have hB := Blk.apart9 X.out.2.2 hg2 (.inl (by omega))
  have hbw : Below w.heap.size w w2 := X.out.2.1.trans (hg2.below (by omega) (by omega))
  have Y := Lib.hid (And.intro h3 (And.intro ho (And.intro hbd (And.intro hbw hB)))); clear h3 ho hbd hbw hB hg2
  obtain ⟨n0, n1, n2, q0, q1, q2⟩ := blkThree Y.out.2.2.2.2
  have eF := (((Y.out.2.2.2.2.set 0 (.int .i64 t)).set 1 (.slice Aa ms.length ca)).set 2 (.slice Ab row.length cb))
  obtain ⟨m0, m1, m2, _, _, _⟩ := blkThree eF
  have FIN := Lib.hid (show DrawnRV w (.returned (.agg #[.int .i64 t, .slice Aa ms.length ca, .slice Ab row.length cb])) (((w2.setCell ⟨w.heap.size, 0, none⟩ (.int .i64 t)).setCell ⟨w.heap.size, 1, none⟩ (.slice Aa ms.length ca)).setCell ⟨w.heap.size, 2, none⟩ (.slice Ab row.length cb)) from
    ⟨t, _, _, ms, row, rfl, (((Y.out.1.setO (show w.heap.size < w1.heap.size by omega)).setO (show w.heap.size < w1.heap.size by omega)).setO (show w.heap.size < w1.heap.size by omega)).rd,
      (((Y.out.2.1.setO (show w.heap.size < w1.heap.size by omega)).setO (show w.heap.size < w1.heap.size by omega)).setO (show w.heap.size < w1.heap.size by omega)).within.rd, Y.out.2.2.1,
      ((Y.out.2.2.2.1.setCell (p := ⟨w.heap.size, 0, none⟩) (Nat.le_refl _) _).setCell (p := ⟨w.heap.size, 1, none⟩) (Nat.le_refl _) _).setCell (p := ⟨w.heap.size, 2, none⟩) (Nat.le_refl _) _⟩)
  clear Y eF
  go_wp2
  refine bodyPost_ret (v := .agg #[.int .i64 t, .slice Aa ms.length ca, .slice Ab row.length cb]) (by simp [results, Try.results32, go_sem, m0, m1, m2]) rfl ?_
  exact FIN.out
theorem regsB_less {t : Int} {ms : List (Int × Int × Int)} {row : List Int} (h : regsB t ms row = true) : regsB t ms [] = true := by
  unfold regsB at h ⊢
  rw [Bool.and_eq_true, Bool.and_eq_true, decide_eq_true_eq] at h
  rw [Bool.and_eq_true, Bool.and_eq_true, decide_eq_true_eq]
  exact ⟨⟨h.1.1, h.1.2.1, h.1.2.2.1, by simp⟩, h.2.1, by simp⟩
end Go.Proofs.Ytaehaalaeikloaa
