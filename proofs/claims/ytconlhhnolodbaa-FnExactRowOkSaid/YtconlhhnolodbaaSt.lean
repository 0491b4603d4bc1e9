/- States by value: the exact laws' helpers, StateOk of the program and of the model. -/
import Derived.Test.YtconlhhnolodbaaQf
import Derived.Test.YtconlhhnolodbaaLr
namespace Go.Proofs.Ytconlhhnolodbaa
set_option maxRecDepth 100000
open Go.RowKit Go.WideShapes

def leftT (n : Int) (r : List Int) (s : List (List Int)) : Int := if n - (r.length : Int) < 0 then -1 else leftS (n - (r.length : Int)) s
theorem szT_any (v0 v1 : Value) (r : List Int) (s : List (List Int)) (n : Int) (w : World) (h0 : RdI w v0 r) (h1 : RdS w v1 s) (hn : 0 ≤ n ∧ n ≤ 1048576) :
    Calls Try.prog 46 #[.agg #[v0, v1], .int .i64 n] w fun e w' => e = .returned (.int .i64 (leftT n r s)) ∧ Below w.heap.size w w' := by
  have hb : Below w.heap.size w (w.alloc (.cells #[v0, v1] 56)) := (Below.refl _ _).alloc (Nat.le_refl _) _
  have H0 := Lib.hid (RdI.step h0 hb)
  have H1 := Lib.hid (RdS.step h1 hb)
  have HB := Lib.hid hb
  obtain ⟨A0, c0, rfl, _⟩ := h0
  obtain ⟨A1, c1, rfl, _⟩ := h1
  clear hb
  by_cases hq : n - (r.length : Int) < 0
  · have HQ : Hid (leftT n r s = -1) := Lib.hid (by rw [leftT, if_pos hq])
    go_enter Try.func46, Try.ntmps46
    go_wp2_with fail
    refine (szI_any _ r n _ H0.out hn).mono ?_
    rw [if_pos (by omega)]
    rintro e w' ⟨rfl, rfl⟩
    go_wp2
    go_ret
    exact ⟨ret_i64 HQ.out.symm, HB.out⟩
  · have HQ : Hid (leftT n r s = leftS (n - (r.length : Int)) s) := Lib.hid (by rw [leftT, if_neg hq])
    have hr := (leftS (n - (r.length : Int)) s)
    by_cases hq2 : leftS (n - (r.length : Int)) s < 0
    · have hm : leftS (n - (r.length : Int)) s = -1 := by
        unfold leftS at hq2 ⊢
        split
        · rfl
        · rename_i h; rw [if_neg h] at hq2; split
          · rfl
          · rename_i h'; rw [if_neg h'] at hq2; omega
      have HM := Lib.hid hm; clear hm
      go_enter Try.func46, Try.ntmps46
      go_wp2_with fail
      refine (szI_any _ r n _ H0.out hn).mono ?_
      rw [if_neg (by omega)]
      rintro e w' ⟨rfl, rfl⟩
      go_wp2_with fail
      refine (szS_any _ s _ _ H1.out (by omega)).mono ?_
      rintro e w' ⟨rfl, rfl⟩
      go_wp2
      go_ret
      exact ⟨ret_i64 (by rw [HQ.out, HM.out]), HB.out⟩
    · go_enter Try.func46, Try.ntmps46
      go_wp2_with fail
      refine (szI_any _ r n _ H0.out hn).mono ?_
      rw [if_neg (by omega)]
      rintro e w' ⟨rfl, rfl⟩
      go_wp2_with fail
      refine (szS_any _ s _ _ H1.out (by omega)).mono ?_
      rintro e w' ⟨rfl, rfl⟩
      go_wp2
      go_ret
      exact ⟨ret_i64 (by rw [HQ.out]), HB.out⟩

def stateB (r : List Int) (s : List (List Int)) : Bool := restB r && stackB s
theorem StateOk_any (v0 v1 : Value) (r : List Int) (s : List (List Int)) (w : World) (h0 : RdI w v0 r) (h1 : RdS w v1 s) :
    Calls Try.prog 55 #[.agg #[v0, v1]] w fun e w' => e = .returned (.bool (stateB r s)) ∧ Below w.heap.size w w' := by
  have hb : Below w.heap.size w (w.alloc (.cells #[v0, v1] 58)) := (Below.refl _ _).alloc (Nat.le_refl _) _
  have H0 := RdI.step h0 hb
  have H1 := Lib.hid (RdS.step h1 hb)
  have HB := Lib.hid hb
  obtain ⟨A0, c0, rfl, hi, _⟩ := H0
  obtain ⟨A1, c1, rfl, _⟩ := h1
  have HI := Lib.hid hi
  clear hb hi h0
  rcases ha : r.all isWordB with _ | _ <;> have Ha := Lib.hid ha <;> clear ha
  · go_enter Try.func55, Try.ntmps55
    go_wp2_with fail
    refine (allWords_any _ _ r _ HI.out).mono ?_
    rw [Ha.out]
    rintro e w' ⟨rfl, rfl⟩
    go_wp2
    go_ret
    exact ⟨ret_bool (by simp [stateB, restB, Ha.out]), HB.out⟩
  · rcases hf : fitsFrom 0 r with _ | _ <;> have Hf := Lib.hid hf <;> clear hf
    · go_enter Try.func55, Try.ntmps55
      go_wp2_with fail
      refine (allWords_any _ _ r _ HI.out).mono ?_
      rw [Ha.out]
      rintro e w' ⟨rfl, rfl⟩
      go_wp2_with fail
      refine (bracketsFit_any _ _ r _ HI.out).mono ?_
      rw [Hf.out]
      rintro e w' ⟨rfl, rfl⟩
      go_wp2
      go_ret
      exact ⟨ret_bool (by simp [stateB, restB, Hf.out]), HB.out⟩
    · go_enter Try.func55, Try.ntmps55
      go_wp2_with fail
      refine (allWords_any _ _ r _ HI.out).mono ?_
      rw [Ha.out]
      rintro e w' ⟨rfl, rfl⟩
      go_wp2_with fail
      refine (bracketsFit_any _ _ r _ HI.out).mono ?_
      rw [Hf.out]
      rintro e w' ⟨rfl, rfl⟩
      go_wp2_with fail
      refine (StackOk_any _ s _ H1.out).mono ?_
      rintro e w' ⟨rfl, rfl⟩
      go_wp2
      go_ret
      exact ⟨ret_bool (by simp [stateB, restB, Ha.out, Hf.out]), HB.out⟩
theorem specStateOk_any (v0 v1 : Value) (r : List Int) (s : List (List Int)) (w : World) (h0 : RdI w v0 r) (h1 : RdS w v1 s) :
    Calls Try.prog 57 #[.agg #[v0, v1]] w fun e w' => e = .returned (.bool (stateB r s)) ∧ Below w.heap.size w w' := by
  have hb : Below w.heap.size w (w.alloc (.cells #[v0, v1] 58)) := (Below.refl _ _).alloc (Nat.le_refl _) _
  have H0 := RdI.step h0 hb
  have H1 := Lib.hid (RdS.step h1 hb)
  have HB := Lib.hid hb
  obtain ⟨A0, c0, rfl, hi, _⟩ := H0
  obtain ⟨A1, c1, rfl, _⟩ := h1
  have HI := Lib.hid hi
  clear hb hi h0
  have hl : l1From 0 r = restB r := by rw [l1From_eq 0 r (by omega)]; rfl
  have Hl := Lib.hid hl; clear hl
  rcases ha : restB r with _ | _ <;> have Ha := Lib.hid ha <;> clear ha
  · go_enter Try.func57, Try.ntmps57
    go_wp2_with fail
    refine (l1Fits_any _ _ r _ HI.out).mono ?_
    rw [Hl.out, Ha.out]
    rintro e w' ⟨rfl, rfl⟩
    go_wp2
    go_ret
    exact ⟨ret_bool (by simp [stateB, Ha.out]), HB.out⟩
  · go_enter Try.func57, Try.ntmps57
    go_wp2_with fail
    refine (l1Fits_any _ _ r _ HI.out).mono ?_
    rw [Hl.out, Ha.out]
    rintro e w' ⟨rfl, rfl⟩
    go_wp2_with fail
    refine (specStackOk_any _ s _ H1.out).mono ?_
    rintro e w' ⟨rfl, rfl⟩
    go_wp2
    go_ret
    exact ⟨ret_bool (by simp [stateB, Ha.out]), HB.out⟩

theorem cell_new2 (w : World) (o : Obj) (cs : Array Value) (T : TypeId) (j : Nat) (u : Value) (h : cs[j]? = some u) : ((w.alloc o).alloc (.cells cs T)).cell? ⟨w.heap.size + 1, j, none⟩ = some u := by
  have hh := heap_alloc_new (w.alloc o) (.cells cs T)
  rw [show (w.alloc o).heap.size = w.heap.size + 1 from by simp] at hh
  rw [cell_of_row _ _ _ _ _ _ hh, h]
theorem eqT (u0 u1 v0 v1 : Value) (r q : List Int) (s t : List (List Int)) (w : World) (h0 : RdI w u0 r) (h1 : RdS w u1 s) (k0 : RdI w v0 q) (k1 : RdS w v1 t) (b : Bool) (hb : (decide (r = q) && decide (s = t)) = b) :
    Calls Try.prog 50 #[.agg #[u0, u1], .agg #[v0, v1]] w fun e w' => e = .returned (.bool b) ∧ Below w.heap.size w w' := by
  have hw : Below w.heap.size w ((w.alloc (.cells #[u0, u1] 58)).alloc (.cells #[v0, v1] 58)) := ((Below.refl _ _).alloc (Nat.le_refl _) _).alloc (by simp) _
  have H0 := Lib.hid (RdI.step h0 hw)
  have H1 := RdS.step h1 hw
  have K0 := Lib.hid (RdI.step k0 hw)
  have K1 := RdS.step k1 hw
  have HW := Lib.hid hw
  have HH1 := Lib.hid H1
  have KK1 := Lib.hid K1
  obtain ⟨A0, c0, rfl, _⟩ := h0
  obtain ⟨A1, c1, rfl, _⟩ := h1
  obtain ⟨A2, c2, rfl, _⟩ := k0
  obtain ⟨A3, c3, rfl, _⟩ := k1
  clear hw H1 K1
  have HBq := Lib.hid hb; clear hb
  rcases hd : decide (r = q) with _ | _ <;> have Hd := Lib.hid hd <;> clear hd
  · go_enter Try.func50, Try.ntmps50
    go_wp2_with fail
    refine (eqI _ _ r q _ H0.out K0.out false Hd.out).mono ?_
    rintro e w1 ⟨rfl, hb⟩
    have X := Lib.hid (HW.out.trans (hb.mono HW.out.size)); clear hb
    go_wp2
    go_ret
    exact ⟨ret_bool (by rw [← HBq.out, Hd.out]; rfl), X.out⟩
  · go_enter Try.func50, Try.ntmps50
    go_wp2_with fail
    refine (eqI _ _ r q _ H0.out K0.out true Hd.out).mono ?_
    rintro e w1 ⟨rfl, hb⟩
    have Y1 := Lib.hid (HH1.out.step hb)
    have Y2 := Lib.hid (KK1.out.step hb)
    have hcs : w1.cell? ⟨w.heap.size, 1, none⟩ = some (.slice A1 s.length c1) ∧ w1.cell? ⟨w.heap.size + 1, 1, none⟩ = some (.slice A3 t.length c3) := by
      constructor
      · rw [hb.cell (p := ⟨w.heap.size, 1, none⟩) (by simp; omega), World.cell?_alloc_lt _ _ _ (by simp), cell_of_row _ _ _ _ _ _ (heap_alloc_new w _)]; rfl
      · rw [hb.cell (p := ⟨w.heap.size + 1, 1, none⟩) (by simp)]
        exact cell_new2 _ _ _ _ 1 _ rfl
    obtain ⟨hc1, hc2⟩ := hcs
    have X := Lib.hid (HW.out.trans (hb.mono HW.out.size)); clear hb
    have hsz := X.out.size
    go_wp2_with fail
    refine (eqS _ _ s t _ Y1.out Y2.out b (by rw [← HBq.out, Hd.out]; rfl)).mono ?_
    rintro e w2 ⟨rfl, hb⟩
    have Z := Lib.hid (X.out.trans (hb.mono hsz)); clear hb
    rcases b with _ | _
    all_goals
      go_wp2
      go_ret
      exact ⟨rfl, Z.out⟩

theorem bcell {W w1 : World} (hb : Below W.heap.size W w1) : (∀ b o, b < W.heap.size → w1.cell? ⟨b, o, none⟩ = W.cell? ⟨b, o, none⟩) ∧ (∀ b o, b < W.heap.size → w1.frozen? ⟨b, o, none⟩ = W.frozen? ⟨b, o, none⟩) :=
  ⟨fun b o h => hb.cell (p := ⟨b, o, none⟩) h, fun b o h => hb.frozen (p := ⟨b, o, none⟩) h⟩
/-- Block g holds these cells, none of them frozen. -/
def Blk (w : World) (g : Nat) (cs : Array Value) (T : TypeId) : Prop := w.heap[g]? = some (.cells cs T (0, 0))
theorem Blk.cell {w : World} {g : Nat} {cs : Array Value} {T : TypeId} (h : Blk w g cs T) (j : Nat) : w.cell? ⟨g, j, none⟩ = cs[j]? := by
  simpa using cell_of_row _ _ _ _ _ _ h
theorem Blk.free {w : World} {g : Nat} {cs : Array Value} {T : TypeId} (h : Blk w g cs T) (j : Nat) : w.frozen? ⟨g, j, none⟩ = false := by
  unfold Blk at h; simp [World.frozen?, h]
theorem Blk.lt {w : World} {g : Nat} {cs : Array Value} {T : TypeId} (h : Blk w g cs T) : g < w.heap.size := by
  unfold Blk at h
  rcases Nat.lt_or_ge g w.heap.size with h1 | h1
  · exact h1
  · rw [Array.getElem?_eq_none h1] at h; cases h
theorem Blk.below {w w' : World} {g B : Nat} {cs : Array Value} {T : TypeId} (h : Blk w g cs T) (hb : Below B w w') (hg : g < B) : Blk w' g cs T := (hb.block g hg).trans h
theorem Blk.set {w : World} {g : Nat} {cs : Array Value} {T : TypeId} (h : Blk w g cs T) (j : Nat) (u : Value) : Blk (w.setCell ⟨g, j, none⟩ u) g (cs.setIfInBounds j u) T := by
  unfold Blk at *; simp [World.setCell, Array.getElem?_modify, h]
theorem Blk.other {w : World} {g g' : Nat} {cs : Array Value} {T : TypeId} (h : Blk w g cs T) (hne : g ≠ g') (j : Nat) (u : Value) : Blk (w.setCell ⟨g', j, none⟩ u) g cs T := (Below.heap_setCell _ _ _ _ (by simpa using hne)).trans h
theorem Blk.new (w : World) (cs : Array Value) (T : TypeId) : Blk (w.alloc (.cells cs T)) w.heap.size cs T := heap_alloc_new w _
theorem within_setCell (w : World) (g o : Nat) (u : Value) : Within g (g + 1) w (w.setCell ⟨g, o, none⟩ u) :=
  ⟨rfl, rfl, rfl, by simp [World.setCell], fun k _ hn => Below.heap_setCell _ _ _ _ (by simp only; omega)⟩
/-- A copy of a state: both rows of the call's own. -/
def ToT (w : World) (r : List Int) (s : List (List Int)) (e : Ending) (w' : World) : Prop := ∃ u0 u1 m, e = .returned (.agg #[u0, u1]) ∧ w.heap.size ≤ m ∧ m ≤ w'.heap.size ∧ OwnI w' w.heap.size m u0 r ∧ OwnS w' m w'.heap.size u1 s ∧ Below w.heap.size w w'
theorem toT (v0 v1 : Value) (r : List Int) (s : List (List Int)) (w : World) (h0 : RdI w v0 r) (h1 : RdS w v1 s) (hl : r.length ≤ 1048576) (hn : s.length ≤ 1048576) (hs : szS s ≤ 1048576) :
    Calls Try.prog 48 #[.agg #[v0, v1]] w (ToT w r s) := by
  have hb : Below w.heap.size w (((w.alloc (.cells #[v0, v1] 56)).alloc (.cells #[.slice none 0 0, .slice none 0 0] 58)).alloc (.cells #[.slice none 0 0, .slice none 0 0] 58)) := (((Below.refl _ _).alloc (Nat.le_refl _) _).alloc (by simp) _).alloc (by simp; omega) _
  have H0 := Lib.hid (RdI.step h0 hb)
  have H1 := Lib.hid (RdS.step h1 hb)
  have HB := Lib.hid hb
  have h1' := h1.at_
  obtain ⟨A0, c0, rfl, _⟩ := h0
  obtain ⟨A1, c1, rfl, _⟩ := h1
  clear hb
  go_enter Try.func48, Try.ntmps48
  go_wp2_with fail
  refine (toI _ r _ H0.out hl).mono ?_
  rintro e w1 ⟨u, rfl, ho, hb⟩
  obtain ⟨hc1, hf1⟩ := bcell hb
  have hz1 : w.heap.size + 3 ≤ w1.heap.size := by have := hb.size; simp at this; omega
  obtain ⟨B0, d0, rfl, _⟩ := ho.rd
  have hw2 : Below w.heap.size w (w1.setCell ⟨w.heap.size + 1 + 1, 0, none⟩ (.slice B0 r.length d0)) := (HB.out.trans (hb.mono (by simp; omega))).setCell (by simp; omega) _
  have hs2 := (h1'.below hw2).rd hw2.size
  have ho2 := ho.apart (within_setCell w1 (w.heap.size + 1 + 1) 0 (.slice B0 r.length d0)) (by simp)
  have b2 : Blk (w1.setCell ⟨w.heap.size + 1 + 1, 0, none⟩ (.slice B0 r.length d0)) (w.heap.size + 1 + 1) #[.slice B0 r.length d0, .slice none 0 0] 58 := by
    have h3 := Blk.new ((w.alloc (.cells #[.slice A0 r.length c0, .slice A1 s.length c1] 56)).alloc (.cells #[.slice none 0 0, .slice none 0 0] 58)) #[.slice none 0 0, .slice none 0 0] 58
    simp only [World.size_alloc] at h3
    exact (h3.below hb (by simp)).set 0 _
  have b1 : Blk (w1.setCell ⟨w.heap.size + 1 + 1, 0, none⟩ (.slice B0 r.length d0)) (w.heap.size + 1) #[.slice none 0 0, .slice none 0 0] 58 := by
    have h3 := Blk.new (w.alloc (.cells #[.slice A0 r.length c0, .slice A1 s.length c1] 56)) #[.slice none 0 0, .slice none 0 0] 58
    simp only [World.size_alloc] at h3
    exact ((h3.below ((Below.refl _ _).alloc (Nat.le_refl _) _) (by simp)).below hb (by simp <;> omega)).other (by omega) _ _
  have X := Lib.hid (And.intro ho2 (And.intro hw2 (And.intro hs2 (And.intro b1 b2)))); clear ho ho2 hb hw2 hs2 h1' H0 H1 HB b1 b2
  go_wp2_with fail
  refine (toS _ s _ X.out.2.2.1 hn (fun zs h => Nat.le_trans (szS_mem h) hs)).mono ?_
  rintro e w3 ⟨u1, rfl, hp, hb⟩
  have hz3 : w1.heap.size ≤ w3.heap.size := by have := hb.size; simpa [World.setCell] using this
  obtain ⟨B1, d1, rfl, _⟩ := hp.rd
  have b1 := X.out.2.2.2.1.below hb (by simp [World.setCell] <;> omega)
  have b2 := X.out.2.2.2.2.below hb (by simp [World.setCell] <;> omega)
  have c10 := b1.cell 0
  have c11 := b1.cell 1
  have c20 := b2.cell 0
  have c21 := b2.cell 1
  have f10 := b1.free 0
  have f11 := b1.free 1
  have f20 := b2.free 0
  have f21 := b2.free 1
  simp only [List.getElem?_toArray, List.getElem?_cons_zero, List.getElem?_cons_succ] at c10 c11 c20 c21
  have Y := Lib.hid (And.intro (X.out.1.below hb) (And.intro hp (And.intro (X.out.2.1.trans (hb.mono (by simp [World.setCell]; omega))) (And.intro b1 b2)))); clear hp hb X b1 b2 hc1 hf1
  go_wp2
  have e0 := (((Y.out.2.2.2.1.other (g' := w.heap.size + 1 + 1) (by omega) 1 (.slice B1 s.length d1)).set 0 (.slice B0 r.length d0))).cell 0
  have e1 := ((((Y.out.2.2.2.1.other (g' := w.heap.size + 1 + 1) (by omega) 1 (.slice B1 s.length d1)).set 0 (.slice B0 r.length d0))).set 1 (.slice B1 s.length d1)).cell 1
  simp only [List.setIfInBounds_toArray, List.set_cons_zero, List.set_cons_succ, List.getElem?_toArray, List.getElem?_cons_zero, List.getElem?_cons_succ] at e0 e1
  refine bodyPost_ret (v := .agg #[.slice B0 r.length d0, .slice B1 s.length d1]) (by simp [results, Try.results48, go_sem, e0, e1]) rfl ?_
  have y0 := Y.out.1
  have y1 := Y.out.2.1
  have y2 := Y.out.2.2.1
  clear Y e0 e1 c10 c11 c20 c21 f10 f11 f20 f21
  simp only [World.size_alloc] at y0
  have hz : (w1.setCell ⟨w.heap.size + 1 + 1, 0, none⟩ (.slice B0 r.length d0)).heap.size = w1.heap.size := by simp [World.setCell]
  rw [hz] at y1
  refine ⟨_, _, w1.heap.size, rfl, by omega, by simp [World.setCell]; omega, ?_, ?_, ?_⟩
  · have h := ((y0.apart (within_setCell _ (w.heap.size + 1 + 1) 1 (.slice B1 s.length d1)) (.inr (by omega))).apart (within_setCell _ (w.heap.size + 1) 0 (.slice B0 r.length d0)) (.inr (by omega))).apart (within_setCell _ (w.heap.size + 1) 1 (.slice B1 s.length d1)) (.inr (by omega))
    exact ⟨h.own.mono (by omega), h.lt⟩
  · exact (((y1.apart (within_setCell _ (w.heap.size + 1 + 1) 1 (.slice B1 s.length d1)) (.inr (by omega))).apart (within_setCell _ (w.heap.size + 1) 0 (.slice B0 r.length d0)) (.inr (by omega))).apart (within_setCell _ (w.heap.size + 1) 1 (.slice B1 s.length d1)) (.inr (by omega))).widen (by simp [World.setCell])
  · exact ((y2.setCell (by simp; omega) _).setCell (by simp) _).setCell (by simp) _
end Go.Proofs.Ytconlhhnolodbaa