/- StepOf, the model's. -/
import Derived.Test.YtenaeiedoiepdaaSx
import Derived.Test.YtenaeiedoiepdaaTo
namespace Go.Proofs.Ytenaeiedoiepdaa
set_option maxRecDepth 100000
open Go.RowKit Go.WideShapes

def SdPost (w : World) (r : List Int) (s : List (List Int)) (b : Bool) (e : Ending) (w' : World) : Prop := ∃ u0 u1, e = .returned (.tuple #[.agg #[u0, u1], .bool b]) ∧ RdI w' u0 r ∧ RdS w' u1 s ∧ Below w.heap.size w w'
theorem rdI_nil0 (w : World) : RdI w (.slice none 0 0) [] := (OwnI.nil w 0 0).rd
theorem rdS_nil0 (w : World) : RdS w (.slice none 0 0) [] := (OwnS.nil w 0 0).rd

set_option maxHeartbeats 1000000 in
theorem StepOf_S (v0 v1 : Value) (x0 : List Int) (x1 : List (List Int)) (w : World) (h0 : RdI w v0 x0) (hl0 : x0.length ≤ 1048576) (h1 : RdS w v1 x1) (y0 : List Int) (y1 : List (List Int)) (y2 : Bool) (hR : stepOfR x0 x1 = (y0, y1, y2)) :
    Calls Try.prog 6 #[.agg #[v0, v1]] w (SdPost w y0 y1 y2) := by
  have hb0 : Below w.heap.size w ((w.alloc (.cells #[v0, v1] 26)).alloc (.cells #[.slice none 0 0, .slice none 0 0] 26)) := ((Below.refl _ _).alloc (Nat.le_refl _) _).alloc (by simp) _
  have k1 := Blk.new w #[v0, v1] 26
  have k2 := Blk.new (w.alloc (.cells #[v0, v1] 26)) #[.slice none 0 0, .slice none 0 0] 26
  replace k1 := k1.below ((Below.refl (w.heap.size + 1) _).alloc (by simp) (.cells #[.slice none 0 0, .slice none 0 0] 26)) (by omega)
  rw [World.size_alloc] at k2
  have S0 := Lib.hid (And.intro (h0.step hb0) (And.intro (h1.step hb0) (And.intro hb0 (And.intro k1 k2)))); clear hb0 k1 k2
  obtain ⟨A0, c0, rfl, _⟩ := h0
  obtain ⟨A1, c1, rfl, _⟩ := h1
  have HR := Lib.hid hR; clear hR
  rcases hs : stateB x0 x1 with _ | _ <;> have Hs := Lib.hid hs <;> clear hs
  · have he : ([], [], false) = (y0, y1, y2) := by have := HR.out; rw [stepOfR, Hs.out] at this; exact this
    cases he
    go_enter Try.func6, Try.ntmps6
    go_wp2_with fail
    refine (specStateOk_any _ _ x0 x1 _ S0.out.1 S0.out.2.1).mono ?_
    rw [Hs.out]
    rintro e w1 ⟨rfl, hb⟩
    have hB := S0.out.2.2.2.2.below hb (by simp)
    obtain ⟨cc0, cc1, ff0, ff1⟩ := hB.two
    obtain ⟨e0, e1⟩ := hB.two_out (x := .slice none 0 0) (y := .slice none 0 0)
    have hbw : Below w.heap.size w w1 := S0.out.2.2.1.trans (hb.mono (by simp; omega))
    have X := Lib.hid ((hbw.setCell (p := ⟨w.heap.size + 1, 0, none⟩) (by simp) (.slice none 0 0)).setCell (p := ⟨w.heap.size + 1, 1, none⟩) (by simp) (.slice none 0 0)); clear hb hB hbw
    go_wp2
    refine bodyPost_ret (v := .tuple #[.agg #[.slice none 0 0, .slice none 0 0], .bool false]) (by simp [results, Try.results6, go_sem, e0, e1]) rfl ?_
    exact ⟨_, _, rfl, rdI_nil0 _, rdS_nil0 _, X.out⟩
  · have hst : okS x0 x1.reverse ∧ stackB x1 = true := by
      have := Hs.out
      simp only [stateB, Bool.and_eq_true] at this
      exact ⟨⟨this.1, by rw [stackB_reverse]; exact this.2⟩, this.2⟩
    obtain ⟨hok, hsk⟩ := hst
    have Hok := Lib.hid hok; clear hok hsk
    rcases x0 with _ | ⟨z, r⟩
    · have he : ([], [], false) = (y0, y1, y2) := by have := HR.out; rw [stepOfR, if_pos Hs.out] at this; exact this
      cases he
      go_enter Try.func6, Try.ntmps6
      go_wp2_with fail
      refine (specStateOk_any _ _ [] x1 _ S0.out.1 S0.out.2.1).mono ?_
      rw [Hs.out]
      rintro e w1 ⟨rfl, hb⟩
      have hA := S0.out.2.2.2.1.below hb (by simp; omega)
      obtain ⟨a0, a1, _, _⟩ := hA.two
      have hB := S0.out.2.2.2.2.below hb (by simp)
      obtain ⟨cc0, cc1, ff0, ff1⟩ := hB.two
      obtain ⟨e0, e1⟩ := hB.two_out (x := .slice none 0 0) (y := .slice none 0 0)
      have hbw : Below w.heap.size w w1 := S0.out.2.2.1.trans (hb.mono (by simp; omega))
      have X := Lib.hid ((hbw.setCell (p := ⟨w.heap.size + 1, 0, none⟩) (by simp) (.slice none 0 0)).setCell (p := ⟨w.heap.size + 1, 1, none⟩) (by simp) (.slice none 0 0)); clear hb hB hbw hA
      rw [List.length_nil] at a0
      go_wp2
      refine bodyPost_ret (v := .tuple #[.agg #[.slice none 0 0, .slice none 0 0], .bool false]) (by simp [results, Try.results6, go_sem, e0, e1]) rfl ?_
      exact ⟨_, _, rfl, rdI_nil0 _, rdS_nil0 _, X.out⟩
    · have hlz : (((z :: r).length : Int) == 0) = false := by rw [beq_eq_false_iff_ne, List.length_cons]; omega
      have hrl : r.length ≤ 1048576 := by rw [List.length_cons] at hl0; omega
      clear hl0
      go_enter Try.func6, Try.ntmps6
      go_wp2_with fail
      refine (specStateOk_any _ _ (z :: r) x1 _ S0.out.1 S0.out.2.1).mono ?_
      rw [Hs.out]
      rintro e w1 ⟨rfl, hb⟩
      have hz1 : w.heap.size + 1 + 1 ≤ w1.heap.size := by have := hb.size; simpa using this
      have hA := S0.out.2.2.2.1.below hb (by simp; omega)
      obtain ⟨a0, a1, _, _⟩ := hA.two
      have hB := S0.out.2.2.2.2.below hb (by simp)
      have X := Lib.hid (And.intro (S0.out.1.step hb) (And.intro (S0.out.2.1.step hb) (And.intro (S0.out.2.2.1.trans (hb.mono (by simp; omega))) hB))); clear hb hB S0 hA
      go_wp2_with fail
      refine (l2Step_any _ _ z r x1.reverse _ X.out.1 (by rw [List.reverse_reverse]; exact X.out.2.1) hrl Hok.out).mono ?_
      rintro e w2 ⟨E0, m2, d2, E1, m3, d3, hb2, rfl, hx⟩
      have hz2 := hb2.size
      have hal : Below w2.heap.size w2 (w2.alloc (.cells #[.slice E0 m2 d2, .slice E1 m3 d3] 26)) := (Below.refl _ _).alloc (Nat.le_refl _) _
      have hB3 := (X.out.2.2.2.below hb2 (by omega)).below hal (by omega)
      have hN := Blk.new w2 #[.slice E0 m2 d2, .slice E1 m3 d3] 26
      have hbw : Below w.heap.size w (w2.alloc (.cells #[.slice E0 m2 d2, .slice E1 m3 d3] 26)) := X.out.2.2.1.trans ((hb2.mono (by omega)).trans (hal.mono (by omega)))
      obtain ⟨n0, n1, _, _⟩ := hN.two
      obtain ⟨cc0, cc1, ff0, ff1⟩ := hB3.two
      clear a0 a1
      rcases hx2 : l2R (z :: r) x1.reverse with _ | y <;> have Hx2 := Lib.hid hx2 <;> clear hx2
      · have he : ([], [], false) = (y0, y1, y2) := by have := HR.out; rw [stepOfR, if_pos Hs.out, stepR_none Hx2.out] at this; exact this
        cases he
        obtain ⟨e0, e1⟩ := hB3.two_out (x := .slice none 0 0) (y := .slice none 0 0)
        have Z := Lib.hid ((hbw.setCell (p := ⟨w.heap.size + 1, 0, none⟩) (by simp) (.slice none 0 0)).setCell (p := ⟨w.heap.size + 1, 1, none⟩) (by simp) (.slice none 0 0)); clear hbw hB3 hN hal hb2 hx X
        go_wp2
        refine bodyPost_ret (v := .tuple #[.agg #[.slice none 0 0, .slice none 0 0], .bool false]) (by simp [results, Try.results6, go_sem, e0, e1]) rfl ?_
        exact ⟨_, _, rfl, rdI_nil0 _, rdS_nil0 _, Z.out⟩
      · try rw [Hx2.out] at hx
        obtain ⟨p0, p1⟩ := hx y rfl
        clear hx
        have Y := Lib.hid (And.intro (p0.below hal) (And.intro (p1.below hal) (And.intro hbw (And.intro hB3 hN)))); clear p0 p1 hbw hB3 hN hal hb2 X
        go_wp2_with fail
        rcases hs2 : stackB y.2 with _ | _ <;> have Hs2 := Lib.hid hs2 <;> clear hs2
        · have he : ([], [], false) = (y0, y1, y2) := by have := HR.out; rw [stepOfR, if_pos Hs.out, stepR_bad Hx2.out Hs2.out] at this; exact this
          cases he
          obtain ⟨e0, e1⟩ := Y.out.2.2.2.1.two_out (x := .slice none 0 0) (y := .slice none 0 0)
          have Z := Lib.hid ((Y.out.2.2.1.setCell (p := ⟨w.heap.size + 1, 0, none⟩) (by simp) (.slice none 0 0)).setCell (p := ⟨w.heap.size + 1, 1, none⟩) (by simp) (.slice none 0 0))
          refine (specStackOk_any _ y.2.reverse _ Y.out.2.1.rd).mono ?_
          rw [stackB_reverse, Hs2.out]
          rintro e w' ⟨rfl, rfl⟩
          clear Y
          go_wp2
          refine bodyPost_ret (v := .tuple #[.agg #[.slice none 0 0, .slice none 0 0], .bool false]) (by simp [results, Try.results6, go_sem, e0, e1]) rfl ?_
          exact ⟨_, _, rfl, rdI_nil0 _, rdS_nil0 _, Z.out⟩
        · have he : (y.1, y.2.reverse, true) = (y0, y1, y2) := by have := HR.out; rw [stepOfR, if_pos Hs.out, stepR_some Hx2.out Hs2.out] at this; exact this
          cases he
          obtain ⟨e0, e1⟩ := Y.out.2.2.2.1.two_out (x := .slice E0 m2 d2) (y := .slice E1 m3 d3)
          have hle : w.heap.size + 1 + 1 ≤ w1.heap.size + 1 + 1 := by omega
          have g0 := (Y.out.1.within (within_setCell _ (w.heap.size + 1) 0 (.slice E0 m2 d2)) hle).within (within_setCell _ (w.heap.size + 1) 1 (.slice E1 m3 d3)) hle
          have g1 := (Y.out.2.1.within (within_setCell _ (w.heap.size + 1) 0 (.slice E0 m2 d2)) hle).within (within_setCell _ (w.heap.size + 1) 1 (.slice E1 m3 d3)) hle
          have Z := Lib.hid (And.intro g0.1 (And.intro g1.rd ((Y.out.2.2.1.setCell (p := ⟨w.heap.size + 1, 0, none⟩) (by simp) (.slice E0 m2 d2)).setCell (p := ⟨w.heap.size + 1, 1, none⟩) (by simp) (.slice E1 m3 d3)))); clear g0 g1 hle
          refine (specStackOk_any _ y.2.reverse _ Y.out.2.1.rd).mono ?_
          rw [stackB_reverse, Hs2.out]
          rintro e w' ⟨rfl, rfl⟩
          clear Y
          go_wp2
          refine bodyPost_ret (v := .tuple #[.agg #[.slice E0 m2 d2, .slice E1 m3 d3], .bool true]) (by simp [results, Try.results6, go_sem, e0, e1]) rfl ?_
          exact ⟨_, _, rfl, Z.out⟩
end Go.Proofs.Ytenaeiedoiepdaa
