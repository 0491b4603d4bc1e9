/- Effects of the laws: weighed and copied; what the reader gives of one. -/
import Derived.Test.YtceekfoacgoalaaEf
import Derived.Test.YtceekfoacgoalaaB5
namespace Go.Proofs.Ytceekfoacgoalaa
set_option maxRecDepth 100000
open Go.RowKit Go.WideShapes Go.Joins

def leftE (n : Int) (r s : List Int) : Int := if n - (r.length : Int) < 0 then -1 else if n - (r.length : Int) - (s.length : Int) < 0 then -1 else n - (r.length : Int) - (s.length : Int)
theorem leftE_ok {r s : List Int} (hq : ¬ leftE 1048576 r s < 0) : r.length ≤ 1048576 ∧ s.length ≤ 1048576 := by
  unfold leftE at hq
  split at hq
  · omega
  split at hq
  · omega
  · omega
theorem szE_any (v0 v1 : Value) (r s : List Int) (n : Int) (w : World) (h0 : RdI w v0 r) (h1 : RdI w v1 s) (hn : 0 ≤ n ∧ n ≤ 1048576) :
    Calls Try.prog 16 #[.agg #[v0, v1], .int .i64 n] w fun e w' => e = .returned (.int .i64 (leftE n r s)) ∧ Below w.heap.size w w' := by
  have hb : Below w.heap.size w (w.alloc (.cells #[v0, v1] 34)) := (Below.refl _ _).alloc (Nat.le_refl _) _
  have H0 := Lib.hid (RdI.step h0 hb)
  have H1 := Lib.hid (RdI.step h1 hb)
  have HB := Lib.hid hb
  obtain ⟨A0, c0, rfl, _⟩ := h0
  obtain ⟨A1, c1, rfl, _⟩ := h1
  clear hb
  by_cases hq : n - (r.length : Int) < 0
  · have HQ : Hid (leftE n r s = -1) := Lib.hid (by rw [leftE, if_pos hq])
    go_enter Try.func16, Try.ntmps16
    go_wp2_with fail
    refine (szI_any _ r n _ H0.out hn).mono ?_
    rw [if_pos (by omega)]
    rintro e w' ⟨rfl, rfl⟩
    go_wp2
    go_ret
    exact ⟨ret_i64 HQ.out.symm, HB.out⟩
  · by_cases hq2 : n - (r.length : Int) - (s.length : Int) < 0
    · have HQ : Hid (leftE n r s = -1) := Lib.hid (by rw [leftE, if_neg hq, if_pos hq2])
      go_enter Try.func16, Try.ntmps16
      go_wp2_with fail
      refine (szI_any _ r n _ H0.out hn).mono ?_
      rw [if_neg (by omega)]
      rintro e w' ⟨rfl, rfl⟩
      go_wp2_with fail
      refine (szI_any _ s _ _ H1.out (by omega)).mono ?_
      rw [if_pos (by omega)]
      rintro e w' ⟨rfl, rfl⟩
      go_wp2
      go_ret
      exact ⟨ret_i64 HQ.out.symm, HB.out⟩
    · have HQ : Hid (leftE n r s = n - (r.length : Int) - (s.length : Int)) := Lib.hid (by rw [leftE, if_neg hq, if_neg hq2])
      go_enter Try.func16, Try.ntmps16
      go_wp2_with fail
      refine (szI_any _ r n _ H0.out hn).mono ?_
      rw [if_neg (by omega)]
      rintro e w' ⟨rfl, rfl⟩
      go_wp2_with fail
      refine (szI_any _ s _ _ H1.out (by omega)).mono ?_
      rw [if_neg (by omega)]
      rintro e w' ⟨rfl, rfl⟩
      go_wp2
      go_ret
      exact ⟨ret_i64 HQ.out.symm, HB.out⟩

def ToE (w : World) (r s : List Int) (e : Ending) (w' : World) : Prop := ∃ u0 u1 m, e = .returned (.agg #[u0, u1]) ∧ w.heap.size ≤ m ∧ m ≤ w'.heap.size ∧ OwnI w' w.heap.size m u0 r ∧ OwnI w' m w'.heap.size u1 s ∧ Below w.heap.size w w'
theorem toE (v0 v1 : Value) (r s : List Int) (w : World) (h0 : RdI w v0 r) (h1 : RdI w v1 s) (hl : r.length ≤ 1048576) (hs : s.length ≤ 1048576) :
    Calls Try.prog 18 #[.agg #[v0, v1]] w (ToE w r s) := by
  have hb : Below w.heap.size w (((w.alloc (.cells #[v0, v1] 34)).alloc (.cells #[.slice none 0 0, .slice none 0 0] 25)).alloc (.cells #[.slice none 0 0, .slice none 0 0] 25)) := (((Below.refl _ _).alloc (Nat.le_refl _) _).alloc (by simp) _).alloc (by simp; omega) _
  have H0 := Lib.hid (RdI.step h0 hb)
  have h1' := h1.at_
  have HB := Lib.hid hb
  obtain ⟨A0, c0, rfl, _⟩ := h0
  obtain ⟨A1, c1, rfl, _⟩ := h1
  clear hb
  have bz0 : Blk (((w.alloc (.cells #[.slice A0 r.length c0, .slice A1 s.length c1] 34)).alloc (.cells #[.slice none 0 0, .slice none 0 0] 25)).alloc (.cells #[.slice none 0 0, .slice none 0 0] 25)) w.heap.size #[.slice A0 r.length c0, .slice A1 s.length c1] 34 :=
    ((Blk.new w _ _).below ((Below.refl (w.heap.size + 1) _).alloc (by simp) _) (by omega)).below ((Below.refl (w.heap.size + 1) _).alloc (by simp) _) (by omega)
  have HZ := Lib.hid bz0; clear bz0
  go_enter Try.func18, Try.ntmps18
  go_wp2_with fail
  refine (toI _ r _ H0.out hl).mono ?_
  rintro e w1 ⟨u, rfl, ho, hb⟩
  obtain ⟨hc1, hf1⟩ := bcell hb
  have hz1 : w.heap.size + 3 ≤ w1.heap.size := by have := hb.size; simp at this; omega
  obtain ⟨B0, d0, rfl, _⟩ := ho.rd
  have hw2 : Below w.heap.size w (w1.setCell ⟨w.heap.size + 1 + 1, 0, none⟩ (.slice B0 r.length d0)) := (HB.out.trans (hb.mono (by simp; omega))).setCell (by simp; omega) _
  have hs2 := (h1'.below hw2).rd hw2.size
  have ho2 := ho.apart (within_setCell w1 (w.heap.size + 1 + 1) 0 (.slice B0 r.length d0)) (by simp)
  have b0 : Blk (w1.setCell ⟨w.heap.size + 1 + 1, 0, none⟩ (.slice B0 r.length d0)) w.heap.size #[.slice A0 r.length c0, .slice A1 s.length c1] 34 := (HZ.out.below hb (by simp; omega)).other (by omega) _ _
  have b2 : Blk (w1.setCell ⟨w.heap.size + 1 + 1, 0, none⟩ (.slice B0 r.length d0)) (w.heap.size + 1 + 1) #[.slice B0 r.length d0, .slice none 0 0] 25 := by
    have h3 := Blk.new ((w.alloc (.cells #[.slice A0 r.length c0, .slice A1 s.length c1] 34)).alloc (.cells #[.slice none 0 0, .slice none 0 0] 25)) #[.slice none 0 0, .slice none 0 0] 25
    simp only [World.size_alloc] at h3
    exact (h3.below hb (by simp)).set 0 _
  have b1 : Blk (w1.setCell ⟨w.heap.size + 1 + 1, 0, none⟩ (.slice B0 r.length d0)) (w.heap.size + 1) #[.slice none 0 0, .slice none 0 0] 25 := by
    have h3 := Blk.new (w.alloc (.cells #[.slice A0 r.length c0, .slice A1 s.length c1] 34)) #[.slice none 0 0, .slice none 0 0] 25
    simp only [World.size_alloc] at h3
    exact ((h3.below ((Below.refl _ _).alloc (Nat.le_refl _) _) (by simp)).below hb (by simp <;> omega)).other (by omega) _ _
  have X := Lib.hid (And.intro ho2 (And.intro hw2 (And.intro hs2 (And.intro b1 b2)))); clear ho ho2 hb hw2 hs2 h1' H0 HB b0 b1 b2 HZ
  go_wp2_with fail
  refine (toI _ s _ X.out.2.2.1 hs).mono ?_
  rintro e w3 ⟨u1, rfl, hp, hb⟩
  have hz3 : w1.heap.size ≤ w3.heap.size := by have := hb.size; simpa [World.setCell] using this
  obtain ⟨B1, d1, rfl, _⟩ := hp.rd
  have b1 := X.out.2.2.2.1.below hb (by simp [World.setCell] <;> omega)
  have b2 := X.out.2.2.2.2.below hb (by simp [World.setCell] <;> omega)
  have c10 := b1.cell 0
  have c11 := b1.cell 1
  have c20 := b2.cell 0
  have c21 := b2.cell 1
  have f10 := b1.free 0
  have f11 := b1.free 1
  have f20 := b2.free 0
  have f21 := b2.free 1
  simp only [List.getElem?_toArray, List.getElem?_cons_zero, List.getElem?_cons_succ] at c10 c11 c20 c21
  have Y := Lib.hid (And.intro (X.out.1.below hb) (And.intro hp (And.intro (X.out.2.1.trans (hb.mono (by simp [World.setCell]; omega))) (And.intro b1 b2)))); clear hp hb X b1 b2 hc1 hf1
  go_wp2
  have e0 := (((Y.out.2.2.2.1.other (g' := w.heap.size + 1 + 1) (by omega) 1 (.slice B1 s.length d1)).set 0 (.slice B0 r.length d0))).cell 0
  have e1 := ((((Y.out.2.2.2.1.other (g' := w.heap.size + 1 + 1) (by omega) 1 (.slice B1 s.length d1)).set 0 (.slice B0 r.length d0))).set 1 (.slice B1 s.length d1)).cell 1
  simp only [List.setIfInBounds_toArray, List.set_cons_zero, List.set_cons_succ, List.getElem?_toArray, List.getElem?_cons_zero, List.getElem?_cons_succ] at e0 e1
  refine bodyPost_ret (v := .agg #[.slice B0 r.length d0, .slice B1 s.length d1]) (by simp [results, Try.results18, go_sem, e0, e1]) rfl ?_
  have y0 := Y.out.1
  have y1 := Y.out.2.1
  have y2 := Y.out.2.2.1
  clear Y e0 e1 c10 c11 c20 c21 f10 f11 f20 f21
  simp only [World.size_alloc] at y0
  have hz : (w1.setCell ⟨w.heap.size + 1 + 1, 0, none⟩ (.slice B0 r.length d0)).heap.size = w1.heap.size := by simp [World.setCell]
  rw [hz] at y1
  refine ⟨_, _, w1.heap.size, rfl, by omega, by simp [World.setCell]; omega, ?_, ?_, ?_⟩
  · have h := ((y0.apart (within_setCell _ (w.heap.size + 1 + 1) 1 (.slice B1 s.length d1)) (.inr (by omega))).apart (within_setCell _ (w.heap.size + 1) 0 (.slice B0 r.length d0)) (.inr (by omega))).apart (within_setCell _ (w.heap.size + 1) 1 (.slice B1 s.length d1)) (.inr (by omega))
    exact ⟨h.own.mono (by omega), h.lt⟩
  · have h := ((y1.apart (within_setCell _ (w.heap.size + 1 + 1) 1 (.slice B1 s.length d1)) (.inr (by omega))).apart (within_setCell _ (w.heap.size + 1) 0 (.slice B0 r.length d0)) (.inr (by omega))).apart (within_setCell _ (w.heap.size + 1) 1 (.slice B1 s.length d1)) (.inr (by omega))
    exact ⟨h.own, fun k hk => by have := h.lt k hk; simp [World.setCell]; omega⟩
  · exact ((y2.setCell (by simp; omega) _).setCell (by simp) _).setCell (by simp) _

theorem effect_of_trod {H : Type} {enc : TypeId × Value → H} {W : World} {v : Value} {d : DataW H} {ps : List MemPlace} {base : Nat}
    (hval : Value.okWide Try.prog W .any base 34 v) (h : DataW.Trod enc Try.prog W 0 (fun _ => true) true 34 v d ps) :
    ∃ A0 c0 r A1 c1 s, v = .agg #[.slice A0 r.length c0, .slice A1 s.length c1] ∧ RdI W (.slice A0 r.length c0) r ∧ RdI W (.slice A1 s.length c1) s := by
  obtain ⟨v0, v1, y0, y1, n, rfl, _, _, h0, h1⟩ := open_agg2 Try.underlying34 (by kernel_rfl) (by kernel_rfl) hval h
  obtain ⟨A0, c0, r, rfl, hr⟩ := ints_of_fuel Try.underlying23 Try.underlying3 cells_int' h0
  obtain ⟨A1, c1, s, rfl, hs⟩ := ints_of_fuel Try.underlying23 Try.underlying3 cells_int' h1
  exact ⟨A0, c0, r, A1, c1, s, rfl, hr, hs⟩
end Go.Proofs.Ytceekfoacgoalaa
