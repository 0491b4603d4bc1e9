/- Benches of the laws: weighed, copied, compared; what the reader gives of one. -/
import Derived.Test.YtdabbjlefpgkmaaDoorAd
import Derived.Test.YtdabbjlefpgkmaaDoorAa
import Derived.Test.YtdabbjlefpgkmaaDoorB5
import Derived.Deep.Fields
namespace Go.Proofs.YtdabbjlefpgkmaaDoor
set_option maxRecDepth 100000
open Go.RowKit Go.WideShapes Go.Joins

def leftB (n : Int) (r : List Int) (ps : List (List UInt8)) : Int := if n - (r.length : Int) < 0 then -1 else leftX (n - (r.length : Int)) ps
theorem leftB_ok {r : List Int} {ps : List (List UInt8)} (hq : ¬ leftB 1048576 r ps < 0) : r.length ≤ 1048576 ∧ ps.length ≤ 1048576 ∧ ∀ t ∈ ps, t.length ≤ 1048576 := by
  unfold leftB at hq
  split at hq
  · omega
  · obtain ⟨h1, h2, _⟩ := leftX_ok hq
    refine ⟨by omega, by omega, fun t ht => ?_⟩
    have := szT_mem ht
    omega
theorem szB_any (v0 v1 : Value) (r : List Int) (ps : List (List UInt8)) (w : World) (h0 : RdI w v0 r) (h1 : RdT w v1 ps) (hwf : ∀ s ∈ ps, s.length ≤ 9223372036854775807) :
    Calls Tryd.prog 11 #[.agg #[v0, v1], .int .i64 1048576] w fun e w' => e = .returned (.int .i64 (leftB 1048576 r ps)) ∧ Below w.heap.size w w' := by
  have hb : Below w.heap.size w (w.alloc (.cells #[v0, v1] 25)) := (Below.refl _ _).alloc (Nat.le_refl _) _
  have H0 := Lib.hid (RdI.step h0 hb)
  have H1 := Lib.hid (RdT.step h1 hb)
  have HB := Lib.hid hb
  have HW := Lib.hid hwf; clear hwf
  obtain ⟨A0, c0, rfl, _⟩ := h0
  obtain ⟨A1, c1, rfl, _⟩ := h1
  clear hb
  by_cases hq : (1048576 : Int) - (r.length : Int) < 0
  · have HQ : Hid (leftB 1048576 r ps = -1) := Lib.hid (by rw [leftB, if_pos hq])
    go_enter Tryd.func11, Tryd.ntmps11
    go_wp2_with fail
    refine (szI_any _ r 1048576 _ H0.out (by omega)).mono ?_
    rw [if_pos (by omega)]
    rintro e w' ⟨rfl, rfl⟩
    go_wp2
    go_ret
    exact ⟨ret_i64 HQ.out.symm, HB.out⟩
  · have HQ : Hid (leftB 1048576 r ps = leftX (1048576 - (r.length : Int)) ps) := Lib.hid (by rw [leftB, if_neg hq])
    obtain ⟨q, hQ2⟩ : ∃ q, leftX (1048576 - (r.length : Int)) ps = q := ⟨_, rfl⟩
    rw [hQ2] at HQ
    by_cases hq2 : q < 0
    · have hq3 : q = -1 := by
        rw [← hQ2] at hq2 ⊢
        unfold leftX at hq2 ⊢
        split
        · rfl
        · rename_i h1
          rw [if_neg h1] at hq2
          split
          · rfl
          · rename_i h2
            rw [if_neg h2] at hq2; omega
      subst hq3
      have H2 := Lib.hid hQ2; clear hQ2
      go_enter Tryd.func11, Tryd.ntmps11
      go_wp2_with fail
      refine (szI_any _ r 1048576 _ H0.out (by omega)).mono ?_
      rw [if_neg (by omega)]
      rintro e w' ⟨rfl, rfl⟩
      go_wp2_with fail
      refine (szX_any _ ps _ _ H1.out (by omega) HW.out).mono ?_
      rw [H2.out]
      rintro e w' ⟨rfl, rfl⟩
      go_wp2
      go_ret
      exact ⟨ret_i64 HQ.out.symm, HB.out⟩
    · have H2 := Lib.hid hQ2; clear hQ2
      go_enter Tryd.func11, Tryd.ntmps11
      go_wp2_with fail
      refine (szI_any _ r 1048576 _ H0.out (by omega)).mono ?_
      rw [if_neg (by omega)]
      rintro e w' ⟨rfl, rfl⟩
      go_wp2_with fail
      refine (szX_any _ ps _ _ H1.out (by omega) HW.out).mono ?_
      rw [H2.out]
      rintro e w' ⟨rfl, rfl⟩
      go_wp2
      go_ret
      exact ⟨ret_i64 HQ.out.symm, HB.out⟩

def ToB (w : World) (r : List Int) (s : List (List UInt8)) (e : Ending) (w' : World) : Prop := ∃ u0 u1 m, e = .returned (.agg #[u0, u1]) ∧ w.heap.size ≤ m ∧ m ≤ w'.heap.size ∧ OwnI w' w.heap.size m u0 r ∧ OwnT w' m w'.heap.size u1 s ∧ Below w.heap.size w w'
theorem toB (v0 v1 : Value) (r : List Int) (s : List (List UInt8)) (w : World) (h0 : RdI w v0 r) (h1 : RdT w v1 s) (hl : r.length ≤ 1048576) (hs : s.length ≤ 1048576) :
    Calls Tryd.prog 13 #[.agg #[v0, v1]] w (ToB w r s) := by
  have hb : Below w.heap.size w (((w.alloc (.cells #[v0, v1] 25)).alloc (.cells #[.slice none 0 0, .slice none 0 0] 28)).alloc (.cells #[.slice none 0 0, .slice none 0 0] 28)) := (((Below.refl _ _).alloc (Nat.le_refl _) _).alloc (by simp) _).alloc (by simp; omega) _
  have H0 := Lib.hid (RdI.step h0 hb)
  have h1' := h1
  have HB := Lib.hid hb
  obtain ⟨A0, c0, rfl, _⟩ := h0
  obtain ⟨A1, c1, rfl, _⟩ := h1
  clear hb
  have bz0 : Blk (((w.alloc (.cells #[.slice A0 r.length c0, .slice A1 s.length c1] 25)).alloc (.cells #[.slice none 0 0, .slice none 0 0] 28)).alloc (.cells #[.slice none 0 0, .slice none 0 0] 28)) w.heap.size #[.slice A0 r.length c0, .slice A1 s.length c1] 25 :=
    ((Blk.new w _ _).below ((Below.refl (w.heap.size + 1) _).alloc (by simp) _) (by omega)).below ((Below.refl (w.heap.size + 1) _).alloc (by simp) _) (by omega)
  have HZ := Lib.hid bz0; clear bz0
  go_enter Tryd.func13, Tryd.ntmps13
  go_wp2_with fail
  refine (toI _ r _ H0.out hl).mono ?_
  rintro e w1 ⟨u, rfl, ho, hb⟩
  obtain ⟨hc1, hf1⟩ := bcell hb
  have hz1 : w.heap.size + 3 ≤ w1.heap.size := by have := hb.size; simp at this; omega
  obtain ⟨B0, d0, rfl, _⟩ := ho.rd
  have hw2 : Below w.heap.size w (w1.setCell ⟨w.heap.size + 1 + 1, 0, none⟩ (.slice B0 r.length d0)) := (HB.out.trans (hb.mono (by simp; omega))).setCell (by simp; omega) _
  have hs2 := RdT.step h1' hw2
  have ho2 := ho.apart (within_setCell w1 (w.heap.size + 1 + 1) 0 (.slice B0 r.length d0)) (by simp)
  have b0 : Blk (w1.setCell ⟨w.heap.size + 1 + 1, 0, none⟩ (.slice B0 r.length d0)) w.heap.size #[.slice A0 r.length c0, .slice A1 s.length c1] 25 := (HZ.out.below hb (by simp; omega)).other (by omega) _ _
  have b2 : Blk (w1.setCell ⟨w.heap.size + 1 + 1, 0, none⟩ (.slice B0 r.length d0)) (w.heap.size + 1 + 1) #[.slice B0 r.length d0, .slice none 0 0] 28 := by
    have h3 := Blk.new ((w.alloc (.cells #[.slice A0 r.length c0, .slice A1 s.length c1] 25)).alloc (.cells #[.slice none 0 0, .slice none 0 0] 28)) #[.slice none 0 0, .slice none 0 0] 28
    simp only [World.size_alloc] at h3
    exact (h3.below hb (by simp)).set 0 _
  have b1 : Blk (w1.setCell ⟨w.heap.size + 1 + 1, 0, none⟩ (.slice B0 r.length d0)) (w.heap.size + 1) #[.slice none 0 0, .slice none 0 0] 28 := by
    have h3 := Blk.new (w.alloc (.cells #[.slice A0 r.length c0, .slice A1 s.length c1] 25)) #[.slice none 0 0, .slice none 0 0] 28
    simp only [World.size_alloc] at h3
    exact ((h3.below ((Below.refl _ _).alloc (Nat.le_refl _) _) (by simp)).below hb (by simp <;> omega)).other (by omega) _ _
  have X := Lib.hid (And.intro ho2 (And.intro hw2 (And.intro hs2 (And.intro b1 b2)))); clear ho ho2 hb hw2 hs2 h1' H0 HB b0 b1 b2 HZ
  go_wp2_with fail
  refine (toX _ s _ X.out.2.2.1 hs).mono ?_
  rintro e w3 ⟨u1, rfl, hp, hb⟩
  have hz3 : w1.heap.size ≤ w3.heap.size := by have := hb.size; simpa [World.setCell] using this
  obtain ⟨B1, d1, rfl, _⟩ := hp.rd
  have b1 := X.out.2.2.2.1.below hb (by simp [World.setCell] <;> omega)
  have b2 := X.out.2.2.2.2.below hb (by simp [World.setCell] <;> omega)
  have c10 := b1.cell 0
  have c11 := b1.cell 1
  have c20 := b2.cell 0
  have c21 := b2.cell 1
  have f10 := b1.free 0
  have f11 := b1.free 1
  have f20 := b2.free 0
  have f21 := b2.free 1
  simp only [List.getElem?_toArray, List.getElem?_cons_zero, List.getElem?_cons_succ] at c10 c11 c20 c21
  have Y := Lib.hid (And.intro (X.out.1.below hb) (And.intro hp (And.intro (X.out.2.1.trans (hb.mono (by simp [World.setCell]; omega))) (And.intro b1 b2)))); clear hp hb X b1 b2 hc1 hf1
  go_wp2
  have e0 := (((Y.out.2.2.2.1.other (g' := w.heap.size + 1 + 1) (by omega) 1 (.slice B1 s.length d1)).set 0 (.slice B0 r.length d0))).cell 0
  have e1 := ((((Y.out.2.2.2.1.other (g' := w.heap.size + 1 + 1) (by omega) 1 (.slice B1 s.length d1)).set 0 (.slice B0 r.length d0))).set 1 (.slice B1 s.length d1)).cell 1
  simp only [List.setIfInBounds_toArray, List.set_cons_zero, List.set_cons_succ, List.getElem?_toArray, List.getElem?_cons_zero, List.getElem?_cons_succ] at e0 e1
  refine bodyPost_ret (v := .agg #[.slice B0 r.length d0, .slice B1 s.length d1]) (by simp [results, Tryd.results13, go_sem, e0, e1]) rfl ?_
  have y0 := Y.out.1
  have y1 := Y.out.2.1
  have y2 := Y.out.2.2.1
  clear Y e0 e1 c10 c11 c20 c21 f10 f11 f20 f21
  simp only [World.size_alloc] at y0
  have hz : (w1.setCell ⟨w.heap.size + 1 + 1, 0, none⟩ (.slice B0 r.length d0)).heap.size = w1.heap.size := by simp [World.setCell]
  rw [hz] at y1
  refine ⟨_, _, w1.heap.size, rfl, by omega, by simp [World.setCell]; omega, ?_, ?_, ?_⟩
  · have h := ((y0.apart (within_setCell _ (w.heap.size + 1 + 1) 1 (.slice B1 s.length d1)) (.inr (by omega))).apart (within_setCell _ (w.heap.size + 1) 0 (.slice B0 r.length d0)) (.inr (by omega))).apart (within_setCell _ (w.heap.size + 1) 1 (.slice B1 s.length d1)) (.inr (by omega))
    exact ⟨h.own.mono (by omega), h.lt⟩
  · have h := ((y1.apart (within_setCell _ (w.heap.size + 1 + 1) 1 (.slice B1 s.length d1)) (.inr (by omega))).apart (within_setCell _ (w.heap.size + 1) 0 (.slice B0 r.length d0)) (.inr (by omega))).apart (within_setCell _ (w.heap.size + 1) 1 (.slice B1 s.length d1)) (.inr (by omega))
    exact h.widen (by simp [World.setCell])
  · exact ((y2.setCell (by simp; omega) _).setCell (by simp) _).setCell (by simp) _

theorem eqB_any (v0 v1 u0 u1 : Value) (r r' : List Int) (s s' : List (List UInt8)) (w : World) (h0 : RdI w v0 r) (h1 : RdT w v1 s) (k0 : RdI w u0 r') (k1 : RdT w u1 s') (hr : r = r') (hs : s = s') :
    Calls Tryd.prog 15 #[.agg #[v0, v1], .agg #[u0, u1]] w fun e w' => e = .returned (.bool true) ∧ Below w.heap.size w w' := by
  subst hr hs
  have hb : Below w.heap.size w ((w.alloc (.cells #[v0, v1] 28)).alloc (.cells #[u0, u1] 28)) := ((Below.refl _ _).alloc (Nat.le_refl _) _).alloc (by simp) _
  have H := Lib.hid (And.intro (RdI.step h0 hb) (And.intro (RdT.step h1 hb) (And.intro (RdI.step k0 hb) (And.intro (RdT.step k1 hb) hb))))
  obtain ⟨A0, c0, rfl, _⟩ := h0
  obtain ⟨A1, c1, rfl, _⟩ := h1
  obtain ⟨B0, d0, rfl, _⟩ := k0
  obtain ⟨B1, d1, rfl, _⟩ := k1
  clear hb
  go_enter Tryd.func15, Tryd.ntmps15
  go_wp2_with fail
  refine (eqI _ _ r r _ H.out.1 H.out.2.2.1 true (decide_eq_true rfl)).mono ?_
  rintro e w1 ⟨rfl, hb⟩
  have hs1 := hb.size
  simp only [World.size_alloc] at hs1
  have bk := (Blk.new (w.alloc (.cells #[.slice A0 r.length c0, .slice A1 s.length c1] 28)) #[.slice B0 r.length d0, .slice B1 s.length d1] 28).below hb (by simp)
  have ck := ((Blk.new w #[.slice A0 r.length c0, .slice A1 s.length c1] 28).below ((Below.refl (w.heap.size + 1) _).alloc (by simp) (.cells #[.slice B0 r.length d0, .slice B1 s.length d1] 28)) (by omega)).below hb (by simp; omega)
  rw [World.size_alloc] at bk
  obtain ⟨b0, b1, _, _⟩ := blk_pair bk
  obtain ⟨e0, e1, _, _⟩ := blk_pair ck
  have K := Lib.hid (And.intro (RdT.step H.out.2.1 hb) (And.intro (RdT.step H.out.2.2.2.1 hb) (H.out.2.2.2.2.trans (hb.mono (by simp; omega))))); clear hb H bk ck
  go_wp2_with fail
  refine (eqX _ _ s s _ K.out.1 K.out.2.1 true (decide_eq_true rfl)).mono ?_
  rintro e w2 ⟨rfl, hb⟩
  have K2 := Lib.hid (K.out.2.2.trans (hb.mono (by omega))); clear hb K
  go_wp2
  go_ret
  exact ⟨rfl, K2.out⟩

theorem texts_of_fuel {H : Type} {enc : TypeId × Value → H} {W : World} {t : TypeId} {fuel : Nat} {v : Value} {x : DataW H × List MemPlace} {base : Nat} (ht : Tryd.prog.underlying t = some (.slice 9))
    (h : DataW.trod enc Tryd.prog W base (fun _ => true) true fuel t [v] = some x) :
    ∃ A c ss, v = .slice A ss.length c ∧ RdT W (.slice A ss.length c) ss ∧ ∀ s ∈ ss, s.length ≤ 9223372036854775807 := by
  rcases Go.ChangeShapes.open_strings ht Tryd.underlying9 (by kernel_rfl) h with ⟨hcs, _⟩ | ⟨a, len, cap, ss, hcs, _, hl, hm, hz, _, hc, hsz⟩
  · obtain rfl : v = .slice none 0 0 := by simpa using hcs
    exact ⟨none, 0, [], rfl, ⟨none, 0, rfl, by simp, by simp, fun h => by simp at h⟩, by simp⟩
  · obtain rfl : v = .slice (some a) len cap := by simpa using hcs
    simp only [if_true] at hz
    have hlen : ((ss.take len).map bytesOf).length = len := by simp; omega
    refine ⟨some a, cap, (ss.take len).map bytesOf, by rw [hlen], ⟨some a, cap, by rw [hlen], by rw [hlen]; exact hl, by rw [hlen]; unfold maxLen at hm; omega, fun hp => ?_⟩, ?_⟩
    · rw [hlen] at hp
      have h0 := hc 0 (by omega)
      have h3 := spot_of_cell h0
      obtain ⟨b, off, sp⟩ := a
      obtain rfl : sp = none := by simpa [Addr.add] using h3
      refine ⟨b, off, rfl, lt_of_cell (by simpa [Addr.add] using h0), fun j s hj => ?_⟩
      have hjl : j < len := by
        have := (List.getElem?_eq_some_iff.1 hj).1
        rwa [hlen] at this
      rw [List.getElem?_map, List.getElem?_take_of_lt hjl] at hj
      have hcj := hc j (by omega)
      rw [add_plain] at hcj
      rw [hcj, List.getD_eq_getElem?_getD]
      rcases hs : ss[j]? with _ | S
      · rw [hs] at hj; simp at hj
      · rw [hs] at hj
        simp at hj
        subst hj
        rw [Option.getD_some, ba_eta]
    · intro s hs
      obtain ⟨S, hS, rfl⟩ := List.mem_map.1 hs
      have := hsz S (List.mem_of_mem_take hS)
      rw [bytes_len]; unfold maxLen at this; omega
theorem bench_of_trod {H : Type} {enc : TypeId × Value → H} {W : World} {v : Value} {d : DataW H} {ps : List MemPlace} {base : Nat}
    (hval : Value.okWide Tryd.prog W .any base 25 v) (h : DataW.Trod enc Tryd.prog W 0 (fun _ => true) true 25 v d ps) :
    ∃ A0 c0 r A1 c1 s, v = .agg #[.slice A0 r.length c0, .slice A1 s.length c1] ∧ RdI W (.slice A0 r.length c0) r ∧ RdT W (.slice A1 s.length c1) s ∧ ∀ t ∈ s, t.length ≤ 9223372036854775807 := by
  obtain ⟨v0, v1, y0, y1, n, rfl, _, _, h0, h1⟩ := open_agg2 Tryd.underlying25 (by kernel_rfl) (by kernel_rfl) hval h
  obtain ⟨A0, c0, r, rfl, hr⟩ := ints_of_fuel Tryd.underlying22 Tryd.underlying3 cells_int' h0
  obtain ⟨A1, c1, s, rfl, hs, hz⟩ := texts_of_fuel Tryd.underlying23 h1
  exact ⟨A0, c0, r, A1, c1, s, rfl, hr, hs, hz⟩
end Go.Proofs.YtdabbjlefpgkmaaDoor
