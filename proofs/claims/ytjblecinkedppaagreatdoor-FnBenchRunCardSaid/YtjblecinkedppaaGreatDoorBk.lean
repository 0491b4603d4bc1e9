/- Several texts in one. -/
import Derived.Test.YtjblecinkedppaaGreatDoorBj
import Derived.Test.YtjblecinkedppaaGreatDoorSl
import Derived.Carry
import Derived.Deep.RegionLaw
/- The model's BenchDo. -/
namespace Go.Proofs.YtjblecinkedppaaGreatDoor
set_option maxRecDepth 100000
open Go.RowKit Go.WideShapes Go.Deep

theorem RdI.at9 {w : World} {A : Option Addr} {c : Nat} {zs : List Int} (h : RdI w (.slice A zs.length c) zs) : Ints w A zs := by
  obtain ⟨A', c', he, hi, _⟩ := h
  cases he; exact hi
theorem BenchDo_Sno (vn vp : Value) (n : List Int) (ps : List (List UInt8)) (k : Int) (S : ByteArray) (w : World) (h0 : RdI w vn n) (h1 : RdT w vp ps) (hl0 : n.length ≤ 1048576) (hl1 : ps.length ≤ 1048576) (hl2 : ∀ t ∈ ps, t.length ≤ 100000000) (_hS : S.size ≤ 100000000) (hv : benchB n ps = false) :
    Calls Tryz.prog 7 #[.agg #[vn, vp], .agg #[.int .i64 k, .string S]] w (BdPost w (benchDoR n ps k (bytesOf S)).1 (.bool (benchDoR n ps k (bytesOf S)).2)) := by
  obtain ⟨W, hW⟩ : ∃ W, ((w.alloc (.cells #[vn, vp] 26)).alloc (.cells #[.int .i64 k, .string S] 28)).alloc (.cells #[.slice none 0 0, .slice none 0 0] 26) = W := ⟨_, rfl⟩
  have hbW : Below w.heap.size w W := by rw [← hW]; exact (((Below.refl _ _).alloc (Nat.le_refl _) _).alloc (by simp) _).alloc (by simp; omega) _
  have hz : W.heap.size = w.heap.size + 3 := by rw [← hW]; simp
  have hB0 : Blk W w.heap.size #[vn, vp] 26 := by rw [← hW]; exact ((Blk.new w _ _).below ((Below.refl (w.heap.size + 1) _).alloc (by simp) _) (by omega)).below ((Below.refl (w.heap.size + 1) _).alloc (by simp) _) (by omega)
  have hB1 : Blk W (w.heap.size + 1) #[.int .i64 k, .string S] 28 := by
    have h3 := Blk.new (w.alloc (.cells #[vn, vp] 26)) #[.int .i64 k, .string S] 28
    rw [World.size_alloc] at h3
    rw [← hW]; exact h3.below ((Below.refl (w.heap.size + 2) _).alloc (by simp) _) (by omega)
  have hB2 : Blk W (w.heap.size + 2) #[.slice none 0 0, .slice none 0 0] 26 := by
    have h3 := Blk.new ((w.alloc (.cells #[vn, vp] 26)).alloc (.cells #[.int .i64 k, .string S] 28)) #[.slice none 0 0, .slice none 0 0] 26
    simp only [World.size_alloc] at h3
    rw [← hW]; exact h3
  obtain ⟨A0, c0, rfl, _⟩ := id h0
  obtain ⟨A1, c1, rfl, _⟩ := id h1
  obtain ⟨b0, b1, _, _⟩ := blk_pair hB0
  have S0 := Lib.hid (And.intro (h0.step hbW) (And.intro (RdT.step h1 hbW) (And.intro hbW (And.intro hB0 (And.intro hB1 hB2))))); clear h0 h1 hbW hB0 hB1 hB2
  have HL := Lib.hid hl2; clear hl2
  have HV := Lib.hid hv
  have HR := Lib.hid (show benchDoR n ps k (bytesOf S) = (([], []), false) by rw [benchDoR, hv]; rfl); clear hv
  go_enter Tryz.func7, Tryz.ntmps7
  go_wp2_with fail
  try rw [hW]
  refine (BenchValid_S _ _ n ps W S0.out.1 S0.out.2.1 hl0 hl1 HL.out).mono ?_
  rw [HV.out]
  rintro e w1 ⟨rfl, hb⟩
  have hz1 := hb.size
  have hR := S0.out.2.2.2.2.2.below hb (by omega)
  have X := Lib.hid (And.intro (S0.out.2.2.1.trans (hb.mono (by omega))) hR)
  obtain ⟨r0, r1, s0, s1⟩ := blk_pair hR
  clear hb hR b0 b1
  go_wp2
  obtain ⟨q0, q1, _, _⟩ := blk_pair ((X.out.2.set 0 (.slice none 0 0)).set 1 (.slice none 0 0))
  refine bodyPost_ret (v := .tuple #[.agg #[.slice none 0 0, .slice none 0 0], .bool false]) (by simp [results, Tryz.results7, go_sem, q0, q1]) rfl ?_
  rw [HR.out]
  exact ⟨_, _, rfl, Own.nil _ _, .inl ⟨rfl, rfl⟩, (X.out.1.setCell (by simp; omega) _).setCell (by simp; omega) _⟩
set_option maxHeartbeats 2000000 in
theorem BenchDo_Sdef (vn vp : Value) (n : List Int) (ps : List (List UInt8)) (k : Int) (S : ByteArray) (w : World) (h0 : RdI w vn n) (h1 : RdT w vp ps) (hl0 : n.length ≤ 1048576) (hl1 : ps.length ≤ 1048576) (hl2 : ∀ t ∈ ps, t.length ≤ 100000000) (hS : S.size ≤ 100000000) (hv : benchB n ps = true) (hk : k ≠ 0) (hq : bytesOf S ≠ [] ∨ (k ≠ 1 ∧ k ≠ 2) ∨ (k = 2 ∧ ps = [])) :
    Calls Tryz.prog 7 #[.agg #[vn, vp], .agg #[.int .i64 k, .string S]] w (BdPost w (benchDoR n ps k (bytesOf S)).1 (.bool (benchDoR n ps k (bytesOf S)).2)) := by
  obtain ⟨W, hW⟩ : ∃ W, ((w.alloc (.cells #[vn, vp] 26)).alloc (.cells #[.int .i64 k, .string S] 28)).alloc (.cells #[.slice none 0 0, .slice none 0 0] 26) = W := ⟨_, rfl⟩
  have hbW : Below w.heap.size w W := by rw [← hW]; exact (((Below.refl _ _).alloc (Nat.le_refl _) _).alloc (by simp) _).alloc (by simp; omega) _
  have hz : W.heap.size = w.heap.size + 3 := by rw [← hW]; simp
  have hB0 : Blk W w.heap.size #[vn, vp] 26 := by rw [← hW]; exact ((Blk.new w _ _).below ((Below.refl (w.heap.size + 1) _).alloc (by simp) _) (by omega)).below ((Below.refl (w.heap.size + 1) _).alloc (by simp) _) (by omega)
  have hB1 : Blk W (w.heap.size + 1) #[.int .i64 k, .string S] 28 := by
    have h3 := Blk.new (w.alloc (.cells #[vn, vp] 26)) #[.int .i64 k, .string S] 28
    rw [World.size_alloc] at h3
    rw [← hW]; exact h3.below ((Below.refl (w.heap.size + 2) _).alloc (by simp) _) (by omega)
  have hB2 : Blk W (w.heap.size + 2) #[.slice none 0 0, .slice none 0 0] 26 := by
    have h3 := Blk.new ((w.alloc (.cells #[vn, vp] 26)).alloc (.cells #[.int .i64 k, .string S] 28)) #[.slice none 0 0, .slice none 0 0] 26
    simp only [World.size_alloc] at h3
    rw [← hW]; exact h3
  obtain ⟨A0, c0, rfl, _⟩ := id h0
  obtain ⟨A1, c1, rfl, _⟩ := id h1
  obtain ⟨b0, b1, _, _⟩ := blk_pair hB0
  have S0 := Lib.hid (And.intro (h0.step hbW) (And.intro (RdT.step h1 hbW) (And.intro hbW (And.intro hB0 (And.intro hB1 hB2))))); clear h0 h1 hbW hB0 hB1 hB2
  have HL := Lib.hid hl2; clear hl2
  obtain ⟨hn, hp, hm⟩ := benchB_parts hv
  have hmz : ∀ t ∈ ps, t.length ≤ 400 := fun t h => tsB_len (hm t h)
  have HM := Lib.hid (And.intro hmz hn); clear hmz hm hn
  have HV := Lib.hid hv
  have HR := Lib.hid (show benchDoR n ps k (bytesOf S) = ((n, ps), false) by
    rw [benchDoR, if_pos hv, doR, if_neg hk]
    by_cases h : bytesOf S = []
    · rw [if_neg (by simp [h])]
      rcases hq with hq | hq | hq
      · exact absurd h hq
      · rw [if_neg hq.1, if_neg hq.2]
      · rw [if_neg (by omega), if_pos hq.1, backR, if_pos hq.2]
    · rw [if_pos h]); clear hv
  have HK := Lib.hid hk
  have hkb : (k == 0) = false := by simpa using hk
  by_cases hs : bytesOf S = []
  · obtain rfl := ba_nil hs
    by_cases hk2 : k = 2
    · have hps : ps = [] := by
        rcases hq with hq | hq | hq
        · exact absurd hs hq
        · exact absurd hk2 hq.2
        · exact hq.2
      have hpl : ps.length = 0 := by rw [hps]; rfl
      have hplI : ¬ (0 : Int) < ps.length := by omega
      clear hq hs hpl hps
      subst hk2
      go_enter Tryz.func7, Tryz.ntmps7
      go_wp2_with fail
      try rw [hW]
      refine (BenchValid_S _ _ n ps W S0.out.1 S0.out.2.1 hl0 hl1 HL.out).mono ?_
      rw [HV.out]
      rintro e w1 ⟨rfl, hb⟩
      have hz1 := hb.size
      have hA := S0.out.2.2.2.1.below hb (by omega)
      have X := Lib.hid (And.intro (S0.out.1.step hb) (And.intro (RdT.step S0.out.2.1 hb) (And.intro (S0.out.2.2.1.trans (hb.mono (by omega))) (And.intro hA (And.intro (S0.out.2.2.2.2.1.below hb (by omega)) (S0.out.2.2.2.2.2.below hb (by omega)))))))
      obtain ⟨a0, a1, _, _⟩ := blk_pair hA
      clear hb hA b0 b1 S0
      go_wp2_with fail
      refine (l10Copy_any _ _ n ps w1 X.out.1 X.out.2.1 hl0 hl1).mono ?_
      rintro e w2 ⟨u0, u1, rfl, ho0, ho1, hb⟩
      have hz2 := hb.size
      obtain ⟨A7, c7, rfl, _⟩ := ho0.ints
      obtain ⟨A8, c8, rfl, _⟩ := ho1.rd
      obtain ⟨U, hU⟩ : ∃ U, (w2.alloc (.cells #[.slice A7 n.length c7, .slice A8 ps.length c8] 26)).alloc (.cells #[] 3) = U := ⟨_, rfl⟩
      have hbU : Below w2.heap.size w2 U := by rw [← hU]; exact ((Below.refl _ _).alloc (Nat.le_refl _) _).alloc (by simp) _
      have hBU : Blk U w2.heap.size #[.slice A7 n.length c7, .slice A8 ps.length c8] 26 := by rw [← hU]; exact (Blk.new w2 _ _).keepH
      have hzU : w2.heap.size < U.heap.size := hBU.lt
      have hBn : BnAt U w1.heap.size w2.heap.size (.slice A7 n.length c7) (.slice A8 ps.length c8) n ps := ⟨hz2, hBU, ho0.below hbU, (OwnW.below ho1 hbU).mono (Nat.le_refl _) hbU.size⟩
      have hb2U : Below w1.heap.size w1 U := hb.trans (hbU.mono hz2)
      have Y := Lib.hid (And.intro hBn (And.intro (X.out.2.2.1.trans (hb2U.mono (by omega))) (And.intro (X.out.1.step hb2U) (And.intro (RdT.step X.out.2.1 hb2U) (And.intro (X.out.2.2.2.1.below hb2U (by omega)) (And.intro (X.out.2.2.2.2.1.below hb2U (by omega)) (X.out.2.2.2.2.2.below hb2U (by omega)))))))); clear ho0 ho1 hb hbU hBU hBn hb2U X a0 a1
      obtain ⟨p0, p1, _, _⟩ := blk_pair Y.out.2.2.2.2.1
      obtain ⟨d0, d1, _, _⟩ := blk_pair Y.out.2.2.2.2.2.1
      obtain ⟨r0, r1, s0, s1⟩ := blk_pair Y.out.2.2.2.2.2.2
      obtain ⟨e0, e1, f0, f1⟩ := Y.out.1.cells
      go_wp2
      all_goals (
        obtain ⟨q0, q1, _, _⟩ := blk_pair ((Y.out.2.2.2.2.2.2).set 0 (.slice A7 n.length c7) |>.set 1 (.slice A8 ps.length c8))
        refine bodyPost_ret (v := .tuple #[.agg #[.slice A7 n.length c7, .slice A8 ps.length c8], .bool false]) (by simp [results, Tryz.results7, go_sem, q0, q1]) rfl ?_
        rw [HR.out]
        exact ⟨_, _, rfl, (((Y.out.1).now.far9 (by omega) 0 _).far9 (by omega) 1 _).mono (by omega), (((Y.out.1).past.far9 (by omega) 0 _).far9 (by omega) 1 _).mono (by omega) (by simp [World.setCell]), ((Y.out.2.1).setCell (by simp; omega) _).setCell (by simp; omega) _⟩)
    · have hk1 : k ≠ 1 := by
        rcases hq with hq | hq | hq
        · exact absurd hs hq
        · exact hq.1
        · omega
      clear hq hs
      go_enter Tryz.func7, Tryz.ntmps7
      go_wp2_with fail
      try rw [hW]
      refine (BenchValid_S _ _ n ps W S0.out.1 S0.out.2.1 hl0 hl1 HL.out).mono ?_
      rw [HV.out]
      rintro e w1 ⟨rfl, hb⟩
      have hz1 := hb.size
      have hA := S0.out.2.2.2.1.below hb (by omega)
      have X := Lib.hid (And.intro (S0.out.1.step hb) (And.intro (RdT.step S0.out.2.1 hb) (And.intro (S0.out.2.2.1.trans (hb.mono (by omega))) (And.intro hA (And.intro (S0.out.2.2.2.2.1.below hb (by omega)) (S0.out.2.2.2.2.2.below hb (by omega)))))))
      obtain ⟨a0, a1, _, _⟩ := blk_pair hA
      clear hb hA b0 b1 S0
      go_wp2_with fail
      refine (l10Copy_any _ _ n ps w1 X.out.1 X.out.2.1 hl0 hl1).mono ?_
      rintro e w2 ⟨u0, u1, rfl, ho0, ho1, hb⟩
      have hz2 := hb.size
      obtain ⟨A7, c7, rfl, _⟩ := ho0.ints
      obtain ⟨A8, c8, rfl, _⟩ := ho1.rd
      obtain ⟨U, hU⟩ : ∃ U, (w2.alloc (.cells #[.slice A7 n.length c7, .slice A8 ps.length c8] 26)).alloc (.cells #[] 3) = U := ⟨_, rfl⟩
      have hbU : Below w2.heap.size w2 U := by rw [← hU]; exact ((Below.refl _ _).alloc (Nat.le_refl _) _).alloc (by simp) _
      have hBU : Blk U w2.heap.size #[.slice A7 n.length c7, .slice A8 ps.length c8] 26 := by rw [← hU]; exact (Blk.new w2 _ _).keepH
      have hzU : w2.heap.size < U.heap.size := hBU.lt
      have hBn : BnAt U w1.heap.size w2.heap.size (.slice A7 n.length c7) (.slice A8 ps.length c8) n ps := ⟨hz2, hBU, ho0.below hbU, (OwnW.below ho1 hbU).mono (Nat.le_refl _) hbU.size⟩
      have hb2U : Below w1.heap.size w1 U := hb.trans (hbU.mono hz2)
      have Y := Lib.hid (And.intro hBn (And.intro (X.out.2.2.1.trans (hb2U.mono (by omega))) (And.intro (X.out.1.step hb2U) (And.intro (RdT.step X.out.2.1 hb2U) (And.intro (X.out.2.2.2.1.below hb2U (by omega)) (And.intro (X.out.2.2.2.2.1.below hb2U (by omega)) (X.out.2.2.2.2.2.below hb2U (by omega)))))))); clear ho0 ho1 hb hbU hBU hBn hb2U X a0 a1
      obtain ⟨p0, p1, _, _⟩ := blk_pair Y.out.2.2.2.2.1
      obtain ⟨d0, d1, _, _⟩ := blk_pair Y.out.2.2.2.2.2.1
      obtain ⟨r0, r1, s0, s1⟩ := blk_pair Y.out.2.2.2.2.2.2
      obtain ⟨e0, e1, f0, f1⟩ := Y.out.1.cells
      go_wp2
      all_goals (
        obtain ⟨q0, q1, _, _⟩ := blk_pair ((Y.out.2.2.2.2.2.2).set 0 (.slice A7 n.length c7) |>.set 1 (.slice A8 ps.length c8))
        refine bodyPost_ret (v := .tuple #[.agg #[.slice A7 n.length c7, .slice A8 ps.length c8], .bool false]) (by simp [results, Tryz.results7, go_sem, q0, q1]) rfl ?_
        rw [HR.out]
        exact ⟨_, _, rfl, (((Y.out.1).now.far9 (by omega) 0 _).far9 (by omega) 1 _).mono (by omega), (((Y.out.1).past.far9 (by omega) 0 _).far9 (by omega) 1 _).mono (by omega) (by simp [World.setCell]), ((Y.out.2.1).setCell (by simp; omega) _).setCell (by simp; omega) _⟩)
  · have hse := ba_ne hs
    clear hq hs
    go_enter Tryz.func7, Tryz.ntmps7
    go_wp2_with fail
    try rw [hW]
    refine (BenchValid_S _ _ n ps W S0.out.1 S0.out.2.1 hl0 hl1 HL.out).mono ?_
    rw [HV.out]
    rintro e w1 ⟨rfl, hb⟩
    have hz1 := hb.size
    have hA := S0.out.2.2.2.1.below hb (by omega)
    have X := Lib.hid (And.intro (S0.out.1.step hb) (And.intro (RdT.step S0.out.2.1 hb) (And.intro (S0.out.2.2.1.trans (hb.mono (by omega))) (And.intro hA (And.intro (S0.out.2.2.2.2.1.below hb (by omega)) (S0.out.2.2.2.2.2.below hb (by omega)))))))
    obtain ⟨a0, a1, _, _⟩ := blk_pair hA
    clear hb hA b0 b1 S0
    go_wp2_with fail
    refine (l10Copy_any _ _ n ps w1 X.out.1 X.out.2.1 hl0 hl1).mono ?_
    rintro e w2 ⟨u0, u1, rfl, ho0, ho1, hb⟩
    have hz2 := hb.size
    obtain ⟨A7, c7, rfl, _⟩ := ho0.ints
    obtain ⟨A8, c8, rfl, _⟩ := ho1.rd
    obtain ⟨U, hU⟩ : ∃ U, (w2.alloc (.cells #[.slice A7 n.length c7, .slice A8 ps.length c8] 26)).alloc (.cells #[] 3) = U := ⟨_, rfl⟩
    have hbU : Below w2.heap.size w2 U := by rw [← hU]; exact ((Below.refl _ _).alloc (Nat.le_refl _) _).alloc (by simp) _
    have hBU : Blk U w2.heap.size #[.slice A7 n.length c7, .slice A8 ps.length c8] 26 := by rw [← hU]; exact (Blk.new w2 _ _).keepH
    have hzU : w2.heap.size < U.heap.size := hBU.lt
    have hBn : BnAt U w1.heap.size w2.heap.size (.slice A7 n.length c7) (.slice A8 ps.length c8) n ps := ⟨hz2, hBU, ho0.below hbU, (OwnW.below ho1 hbU).mono (Nat.le_refl _) hbU.size⟩
    have hb2U : Below w1.heap.size w1 U := hb.trans (hbU.mono hz2)
    have Y := Lib.hid (And.intro hBn (And.intro (X.out.2.2.1.trans (hb2U.mono (by omega))) (And.intro (X.out.1.step hb2U) (And.intro (RdT.step X.out.2.1 hb2U) (And.intro (X.out.2.2.2.1.below hb2U (by omega)) (And.intro (X.out.2.2.2.2.1.below hb2U (by omega)) (X.out.2.2.2.2.2.below hb2U (by omega)))))))); clear ho0 ho1 hb hbU hBU hBn hb2U X a0 a1
    obtain ⟨p0, p1, _, _⟩ := blk_pair Y.out.2.2.2.2.1
    obtain ⟨d0, d1, _, _⟩ := blk_pair Y.out.2.2.2.2.2.1
    obtain ⟨r0, r1, s0, s1⟩ := blk_pair Y.out.2.2.2.2.2.2
    obtain ⟨e0, e1, f0, f1⟩ := Y.out.1.cells
    go_wp2
    all_goals (
      obtain ⟨q0, q1, _, _⟩ := blk_pair ((Y.out.2.2.2.2.2.2).set 0 (.slice A7 n.length c7) |>.set 1 (.slice A8 ps.length c8))
      refine bodyPost_ret (v := .tuple #[.agg #[.slice A7 n.length c7, .slice A8 ps.length c8], .bool false]) (by simp [results, Tryz.results7, go_sem, q0, q1]) rfl ?_
      rw [HR.out]
      exact ⟨_, _, rfl, (((Y.out.1).now.far9 (by omega) 0 _).far9 (by omega) 1 _).mono (by omega), (((Y.out.1).past.far9 (by omega) 0 _).far9 (by omega) 1 _).mono (by omega) (by simp [World.setCell]), ((Y.out.2.1).setCell (by simp; omega) _).setCell (by simp; omega) _⟩)
set_option maxHeartbeats 4000000 in
theorem BenchDo_Sclear (vn vp : Value) (n : List Int) (ps : List (List UInt8)) (k : Int) (S : ByteArray) (w : World) (h0 : RdI w vn n) (h1 : RdT w vp ps) (hl0 : n.length ≤ 1048576) (hl1 : ps.length ≤ 1048576) (hl2 : ∀ t ∈ ps, t.length ≤ 100000000) (hS : S.size ≤ 100000000) (hv : benchB n ps = true) (hk : k = 1) (hs : bytesOf S = []) :
    Calls Tryz.prog 7 #[.agg #[vn, vp], .agg #[.int .i64 k, .string S]] w (BdPost w (benchDoR n ps k (bytesOf S)).1 (.bool (benchDoR n ps k (bytesOf S)).2)) := by
  obtain ⟨W, hW⟩ : ∃ W, ((w.alloc (.cells #[vn, vp] 26)).alloc (.cells #[.int .i64 k, .string S] 28)).alloc (.cells #[.slice none 0 0, .slice none 0 0] 26) = W := ⟨_, rfl⟩
  have hbW : Below w.heap.size w W := by rw [← hW]; exact (((Below.refl _ _).alloc (Nat.le_refl _) _).alloc (by simp) _).alloc (by simp; omega) _
  have hz : W.heap.size = w.heap.size + 3 := by rw [← hW]; simp
  have hB0 : Blk W w.heap.size #[vn, vp] 26 := by rw [← hW]; exact ((Blk.new w _ _).below ((Below.refl (w.heap.size + 1) _).alloc (by simp) _) (by omega)).below ((Below.refl (w.heap.size + 1) _).alloc (by simp) _) (by omega)
  have hB1 : Blk W (w.heap.size + 1) #[.int .i64 k, .string S] 28 := by
    have h3 := Blk.new (w.alloc (.cells #[vn, vp] 26)) #[.int .i64 k, .string S] 28
    rw [World.size_alloc] at h3
    rw [← hW]; exact h3.below ((Below.refl (w.heap.size + 2) _).alloc (by simp) _) (by omega)
  have hB2 : Blk W (w.heap.size + 2) #[.slice none 0 0, .slice none 0 0] 26 := by
    have h3 := Blk.new ((w.alloc (.cells #[vn, vp] 26)).alloc (.cells #[.int .i64 k, .string S] 28)) #[.slice none 0 0, .slice none 0 0] 26
    simp only [World.size_alloc] at h3
    rw [← hW]; exact h3
  obtain ⟨A0, c0, rfl, _⟩ := id h0
  obtain ⟨A1, c1, rfl, _⟩ := id h1
  obtain ⟨b0, b1, _, _⟩ := blk_pair hB0
  have S0 := Lib.hid (And.intro (h0.step hbW) (And.intro (RdT.step h1 hbW) (And.intro hbW (And.intro hB0 (And.intro hB1 hB2))))); clear h0 h1 hbW hB0 hB1 hB2
  have HL := Lib.hid hl2; clear hl2
  obtain ⟨hn, hp, hm⟩ := benchB_parts hv
  have hmz : ∀ t ∈ ps, t.length ≤ 400 := fun t h => tsB_len (hm t h)
  have HM := Lib.hid (And.intro hmz hn); clear hmz hm hn
  have HV := Lib.hid hv
  have HG := Lib.hid (show benchDoR n ps k (bytesOf S) = goOnR n ps [] by rw [benchDoR, if_pos hv, doR, if_neg (by omega), if_neg (by simp [hs]), if_pos hk]); clear hv
  obtain rfl := ba_nil hs
  clear hs
  subst hk
  go_enter Tryz.func7, Tryz.ntmps7
  go_wp2_with fail
  try rw [hW]
  refine (BenchValid_S _ _ n ps W S0.out.1 S0.out.2.1 hl0 hl1 HL.out).mono ?_
  rw [HV.out]
  rintro e w1 ⟨rfl, hb⟩
  have hz1 := hb.size
  have hA := S0.out.2.2.2.1.below hb (by omega)
  have X := Lib.hid (And.intro (S0.out.1.step hb) (And.intro (RdT.step S0.out.2.1 hb) (And.intro (S0.out.2.2.1.trans (hb.mono (by omega))) (And.intro hA (And.intro (S0.out.2.2.2.2.1.below hb (by omega)) (S0.out.2.2.2.2.2.below hb (by omega)))))))
  obtain ⟨a0, a1, _, _⟩ := blk_pair hA
  clear hb hA b0 b1 S0
  go_wp2_with fail
  refine (l10Copy_any _ _ n ps w1 X.out.1 X.out.2.1 hl0 hl1).mono ?_
  rintro e w2 ⟨u0, u1, rfl, ho0, ho1, hb⟩
  have hz2 := hb.size
  obtain ⟨A7, c7, rfl, _⟩ := ho0.ints
  obtain ⟨A8, c8, rfl, _⟩ := ho1.rd
  obtain ⟨U, hU⟩ : ∃ U, (w2.alloc (.cells #[.slice A7 n.length c7, .slice A8 ps.length c8] 26)).alloc (.cells #[] 3) = U := ⟨_, rfl⟩
  have hbU : Below w2.heap.size w2 U := by rw [← hU]; exact ((Below.refl _ _).alloc (Nat.le_refl _) _).alloc (by simp) _
  have hBU : Blk U w2.heap.size #[.slice A7 n.length c7, .slice A8 ps.length c8] 26 := by rw [← hU]; exact (Blk.new w2 _ _).keepH
  have hzU : w2.heap.size < U.heap.size := hBU.lt
  have hBn : BnAt U w1.heap.size w2.heap.size (.slice A7 n.length c7) (.slice A8 ps.length c8) n ps := ⟨hz2, hBU, ho0.below hbU, (OwnW.below ho1 hbU).mono (Nat.le_refl _) hbU.size⟩
  have hb2U : Below w1.heap.size w1 U := hb.trans (hbU.mono hz2)
  have Y := Lib.hid (And.intro hBn (And.intro (X.out.2.2.1.trans (hb2U.mono (by omega))) (And.intro (X.out.1.step hb2U) (And.intro (RdT.step X.out.2.1 hb2U) (And.intro (X.out.2.2.2.1.below hb2U (by omega)) (And.intro (X.out.2.2.2.2.1.below hb2U (by omega)) (X.out.2.2.2.2.2.below hb2U (by omega)))))))); clear ho0 ho1 hb hbU hBU hBn hb2U X a0 a1
  obtain ⟨p0, p1, _, _⟩ := blk_pair Y.out.2.2.2.2.1
  obtain ⟨d0, d1, _, _⟩ := blk_pair Y.out.2.2.2.2.2.1
  obtain ⟨r0, r1, s0, s1⟩ := blk_pair Y.out.2.2.2.2.2.2
  obtain ⟨e0, e1, f0, f1⟩ := Y.out.1.cells
  obtain ⟨M, hM⟩ : ∃ M, U.alloc (.cells #[] 3) = M := ⟨_, rfl⟩
  have bM : Below U.heap.size U M := by rw [← hM]; exact (Below.refl _ _).alloc (Nat.le_refl _) _
  have oM : Own M w1.heap.size (.slice (some ⟨U.heap.size, 0, none⟩) 0 0) [] := by
    rw [← hM]; exact ⟨World.ownsRow_made U #[] 0 (by omega) (Nat.zero_le _) rfl, by simp⟩
  have T0 : Hid (BnAt M w1.heap.size w2.heap.size (.slice A7 n.length c7) (.slice A8 ps.length c8) n ps ∧ Below w.heap.size w M ∧ RdI M (.slice A0 n.length c0) n ∧ Blk M w.heap.size #[.slice A0 n.length c0, .slice A1 ps.length c1] 26 ∧ Blk M (w.heap.size + 2) #[.slice none 0 0, .slice none 0 0] 26 ∧ Own M w1.heap.size (.slice (some ⟨U.heap.size, 0, none⟩) 0 0) []) := Lib.hid ⟨Y.out.1.step bM, Y.out.2.1.trans (bM.mono (by omega)), Y.out.2.2.1.step bM, Y.out.2.2.2.2.1.below bM (by omega), Y.out.2.2.2.2.2.2.below bM (by omega), oM⟩
  have HYd := Lib.hid (Y.out.2.2.2.2.2.1.below bM (by omega))
  clear oM bM r0 r1 s0 s1 e0 e1 f0 f1
  obtain ⟨p2, p3, _, _⟩ := blk_pair T0.out.2.2.2.1
  obtain ⟨r0, r1, s0, s1⟩ := blk_pair T0.out.2.2.2.2.1
  obtain ⟨e0, e1, f0, f1⟩ := T0.out.1.cells
  have hMl := T0.out.1.low
  have hMg := T0.out.1.lt
  by_cases he : [] = n
  · have HR := Lib.hid (show benchDoR n ps 1 (bytesOf ⟨#[]⟩) = ((n, ps), false) by rw [HG.out, goOnR, if_pos he])
    have HE := Lib.hid (decide_eq_true he); clear he
    go_wp2_with fail
    refine (l1Same_any _ _ 0 c0 [] n M T0.out.2.2.2.2.2.within.rd.at9 T0.out.2.2.1.at9).mono ?_
    rw [HE.out]
    rintro e w' ⟨rfl, nq, rfl⟩
    have hb := below_drewN (Below.refl M.heap.size M) nq
    have hBR := T0.out.2.2.2.2.1.below hb (by omega)
    have T1 := Lib.hid (And.intro (T0.out.1.step hb) (And.intro (T0.out.2.1.trans (hb.mono (by omega))) hBR)); clear hb
    obtain ⟨V, hV⟩ : ∃ V, M.drewN nq = V := ⟨_, rfl⟩
    rw [hV] at T1 ⊢
    clear p0 p1 r0 r1 s0 s1 e0 e1 f0 f1 hBR hV
    obtain ⟨e0, e1, f0, f1⟩ := T1.out.1.cells
    obtain ⟨r0, r1, s0, s1⟩ := blk_pair T1.out.2.2
    go_wp2
    all_goals (
      obtain ⟨q0, q1, _, _⟩ := blk_pair ((T1.out.2.2).set 0 (.slice A7 n.length c7) |>.set 1 (.slice A8 ps.length c8))
      refine bodyPost_ret (v := .tuple #[.agg #[.slice A7 n.length c7, .slice A8 ps.length c8], .bool false]) (by simp [results, Tryz.results7, go_sem, q0, q1]) rfl ?_
      rw [HR.out]
      exact ⟨_, _, rfl, (((T1.out.1).now.far9 (by omega) 0 _).far9 (by omega) 1 _).mono (by omega), (((T1.out.1).past.far9 (by omega) 0 _).far9 (by omega) 1 _).mono (by omega) (by simp [World.setCell]), ((T1.out.2.1).setCell (by simp; omega) _).setCell (by simp; omega) _⟩)
  · obtain ⟨t, HT⟩ : ∃ t, Hid (progT n = t) := ⟨_, Lib.hid rfl⟩
    obtain ⟨qs, hqs⟩ : ∃ qs, ps ++ [t] = qs := ⟨_, rfl⟩
    have hql : qs.length = ps.length + 1 := by rw [← hqs]; simp
    have HQ := Lib.hid (And.intro hqs hql)
    have hqI : 1 ≤ qs.length ∧ qs.length ≤ 21 := by omega
    have hps : ps.length ≤ 1000000000 := by omega
    clear hqs hql
    obtain ⟨B9, hT⟩ : ∃ B9 : ByteArray, (⟨t.toArray⟩ : ByteArray) = B9 := ⟨_, rfl⟩
    have HT2 := Lib.hid hT; clear hT
    have HR := Lib.hid (show benchDoR n ps 1 (bytesOf ⟨#[]⟩) = (([], pastR ps t), true) by rw [HG.out, goOnR, if_neg he, HT.out])
    have HE := Lib.hid (decide_eq_false he); clear he
    go_wp2_with fail
    refine (l1Same_any _ _ 0 c0 [] n M T0.out.2.2.2.2.2.within.rd.at9 T0.out.2.2.1.at9).mono ?_
    rw [HE.out]
    rintro e w' ⟨rfl, nq, rfl⟩
    have hb := below_drewN (Below.refl M.heap.size M) nq
    have hzd : (M.drewN nq).heap.size = M.heap.size := Nat.le_antisymm (by simp) hb.size
    have T1 := Lib.hid (And.intro (T0.out.1.step hb) (And.intro (T0.out.2.1.trans (hb.mono (by omega))) (And.intro (T0.out.2.2.1.step hb) (And.intro (T0.out.2.2.2.1.below hb (by omega)) (And.intro (T0.out.2.2.2.2.1.below hb (by omega)) (T0.out.2.2.2.2.2.below hb)))))); clear hb
    obtain ⟨V, hV⟩ : ∃ V, M.drewN nq = V := ⟨_, rfl⟩
    rw [hV] at T1 hzd ⊢
    clear p0 p1 r0 r1 s0 s1 e0 e1 f0 f1 hV T0
    obtain ⟨p0, p1, _, _⟩ := blk_pair T1.out.2.2.2.1
    obtain ⟨e0, e1, f0, f1⟩ := T1.out.1.cells
    have bD : Below V.heap.size V V.drew := (Below.refl _ _).drew
    have BD := Lib.hid bD
    have hPT : Calls Tryz.prog 31 #[.slice A0 n.length c0] V.drew fun e w' => e = .returned (.string B9) ∧ Below V.drew.heap.size V.drew w' := by
      refine (ProgText_S _ n _ (T1.out.2.2.1.step bD)).mono ?_
      rintro e w' ⟨rfl, hb⟩
      exact ⟨by rw [HT.out, HT2.out], hb⟩
    have HPT := Lib.hid hPT; clear hPT bD
    have HARM : Hid (∀ w3, Below V.drew.heap.size V.drew w3 → V.heap.size ≤ w3.heap.size ∧ (w3.cell? ⟨w2.heap.size, 0, none⟩ = some (.slice A7 n.length c7) ∧ w3.cell? ⟨w2.heap.size, 1, none⟩ = some (.slice A8 ps.length c8)) ∧ BnAt (w3.alloc (.cells #[.string B9] 9)) w1.heap.size w2.heap.size (.slice A7 n.length c7) (.slice A8 ps.length c8) n ps ∧ Own (w3.alloc (.cells #[.string B9] 9)) w1.heap.size (.slice (some ⟨U.heap.size, 0, none⟩) 0 0) [] ∧ Below w.heap.size w (w3.alloc (.cells #[.string B9] 9)) ∧ Blk (w3.alloc (.cells #[.string B9] 9)) (w.heap.size + 2) #[.slice none 0 0, .slice none 0 0] 26 ∧ (w3.alloc (.cells #[.string B9] 9)).cell? ⟨w3.heap.size, 0, none⟩ = some (.string B9)) := Lib.hid fun w3 hb3 => by
      have hs3 : V.heap.size ≤ w3.heap.size := hb3.size
      have bb3 : Below V.heap.size V w3 := BD.out.trans hb3
      have bb4 : Below V.heap.size V (w3.alloc (.cells #[.string B9] 9)) := bb3.alloc (by omega) _
      have kk := (T1.out.1.step bb3).cells
      exact ⟨hs3, ⟨kk.1, kk.2.1⟩, T1.out.1.step bb4, T1.out.2.2.2.2.2.below bb4, T1.out.2.1.trans (bb4.mono (by omega)), T1.out.2.2.2.2.1.below bb4 (by omega), (Blk.new w3 #[.string B9] 9).cell 0⟩
    go_wp2
    go_region_law (first
      | (go_simp; go_at_call 31; refine HPT.out.mono ?_; rintro e w3 ⟨rfl, hb3⟩; obtain ⟨hs3, ⟨k0, k1⟩, Z⟩ := HARM.out w3 hb3; obtain ⟨l0, l1, _, _⟩ := Z.1.cells; have ZZ := Lib.hid Z; clear Z hb3)
      | (refine step_append_strW rfl _ _ _ rfl Tryz.underlying24 strInfo w1.heap.size _ (.slice A8 ps.length c8) ps rfl ZZ.out.1.past (ZZ.out.1.low) w3.heap.size (.string B9) t rfl ZZ.out.2.2.2.2 (by rw [HT2.out]) hps ?_; rw [HQ.out.1]; intro v5 w5 ho5 hg5; obtain ⟨A5, c5, rfl, hc5, _⟩ := ho5.rd; have P5 := ZZ.out.1.grow hg5 ho5; have X5 := P5.2.2.1 _ _ ZZ.out.2.1; obtain ⟨n0, n1, nf0, nf1⟩ := blk_pair P5.2.2.2; have V5 := Lib.hid (And.intro P5.1 (And.intro X5 (And.intro (ZZ.out.2.2.1.trans (P5.2.1.mono (by omega))) (ZZ.out.2.2.2.1.below P5.2.1 (by omega))))); clear ho5 hg5 P5 X5)
      | fail)
    all_goals (
      obtain ⟨m0, m1, mf0, mf1⟩ := V5.out.1.cells
      obtain ⟨r0, r1, s0, s1⟩ := blk_pair V5.out.2.2.2
      by_cases h20 : (20 : Int) < qs.length
      · have hP := Lib.hid (show pastR ps t = qs.drop 1 by rw [pastR, HQ.out.1, if_pos (by omega)])
        obtain ⟨gb, off, rfl, hcl, htl⟩ := OwnWT.tail9 V5.out.1.past hqI.1
        have hc2 : 2 ≤ c5 := by omega
        have hc1 : ¬ c5 = 1 := by omega
        have h6 := (V5.out.1.set1 htl).set0 (V5.out.1.own V5.out.2.1 1 _)
        have hB6 := (((V5.out.2.2.2).other (g' := w2.heap.size) (by omega) 1 (.slice (some ⟨gb, off + 1, none⟩) (qs.length - 1) (c5 - 1))).other (g' := w2.heap.size) (by omega) 0 (.slice (some ⟨U.heap.size, 0, none⟩) 0 0))
        have FIN := Lib.hid (And.intro h6 (And.intro (show Below w.heap.size w _ from ((V5.out.2.2.1).setCell (p := ⟨w2.heap.size, 1, none⟩) (by simp; omega) (.slice (some ⟨gb, off + 1, none⟩) (qs.length - 1) (c5 - 1))).setCell (p := ⟨w2.heap.size, 0, none⟩) (by simp; omega) (.slice (some ⟨U.heap.size, 0, none⟩) 0 0)) hB6)); clear h6 hB6
        obtain ⟨h0', h1', _, _⟩ := FIN.out.1.cells
        obtain ⟨r2, r3, s2, s3⟩ := blk_pair FIN.out.2.2
        go_wp2
        obtain ⟨q0, q1, _, _⟩ := blk_pair ((FIN.out.2.2).set 0 (.slice (some ⟨U.heap.size, 0, none⟩) 0 0) |>.set 1 (.slice (some ⟨gb, off + 1, none⟩) (qs.length - 1) (c5 - 1)))
        refine bodyPost_ret (v := .tuple #[.agg #[.slice (some ⟨U.heap.size, 0, none⟩) 0 0, .slice (some ⟨gb, off + 1, none⟩) (qs.length - 1) (c5 - 1)], .bool true]) (by simp [results, Tryz.results7, go_sem, q0, q1]) rfl ?_
        rw [HR.out, hP.out]
        exact ⟨_, _, rfl, ((FIN.out.1.now.far9 (by omega) 0 _).far9 (by omega) 1 _).mono (by omega), ((FIN.out.1.past.far9 (by omega) 0 _).far9 (by omega) 1 _).mono (by omega) (by simp [World.setCell]), ((FIN.out.2.1).setCell (by simp; omega) _).setCell (by simp; omega) _⟩
      · have hP := Lib.hid (show pastR ps t = qs by rw [pastR, HQ.out.1, if_neg (by omega)])
        have h6 := V5.out.1.set0 V5.out.2.1
        have hB6 := ((V5.out.2.2.2).other (g' := w2.heap.size) (by omega) 0 (.slice (some ⟨U.heap.size, 0, none⟩) 0 0))
        have FIN := Lib.hid (And.intro h6 (And.intro (show Below w.heap.size w _ from (V5.out.2.2.1).setCell (p := ⟨w2.heap.size, 0, none⟩) (by simp; omega) (.slice (some ⟨U.heap.size, 0, none⟩) 0 0)) hB6)); clear h6 hB6
        obtain ⟨h0', h1', _, _⟩ := FIN.out.1.cells
        obtain ⟨r2, r3, s2, s3⟩ := blk_pair FIN.out.2.2
        go_wp2
        obtain ⟨q0, q1, _, _⟩ := blk_pair ((FIN.out.2.2).set 0 (.slice (some ⟨U.heap.size, 0, none⟩) 0 0) |>.set 1 (.slice A5 qs.length c5))
        refine bodyPost_ret (v := .tuple #[.agg #[.slice (some ⟨U.heap.size, 0, none⟩) 0 0, .slice A5 qs.length c5], .bool true]) (by simp [results, Tryz.results7, go_sem, q0, q1]) rfl ?_
        rw [HR.out, hP.out]
        exact ⟨_, _, rfl, ((FIN.out.1.now.far9 (by omega) 0 _).far9 (by omega) 1 _).mono (by omega), ((FIN.out.1.past.far9 (by omega) 0 _).far9 (by omega) 1 _).mono (by omega) (by simp [World.setCell]), ((FIN.out.2.1).setCell (by simp; omega) _).setCell (by simp; omega) _⟩)
end Go.Proofs.YtjblecinkedppaaGreatDoor

/- The model's BenchDo: back. -/
namespace Go.Proofs.YtjblecinkedppaaGreatDoor
set_option maxRecDepth 100000
open Go.RowKit Go.WideShapes Go.Deep

set_option maxHeartbeats 2000000 in
theorem BenchDo_Sback (vn vp : Value) (n : List Int) (ps : List (List UInt8)) (k : Int) (S : ByteArray) (w : World) (h0 : RdI w vn n) (h1 : RdT w vp ps) (hl0 : n.length ≤ 1048576) (hl1 : ps.length ≤ 1048576) (hl2 : ∀ t ∈ ps, t.length ≤ 100000000) (hS : S.size ≤ 100000000) (hv : benchB n ps = true) (hk : k = 2) (hs : bytesOf S = []) (hne : ps ≠ []) :
    Calls Tryz.prog 7 #[.agg #[vn, vp], .agg #[.int .i64 k, .string S]] w (BdPost w (benchDoR n ps k (bytesOf S)).1 (.bool (benchDoR n ps k (bytesOf S)).2)) := by
  obtain ⟨W, hW⟩ : ∃ W, ((w.alloc (.cells #[vn, vp] 26)).alloc (.cells #[.int .i64 k, .string S] 28)).alloc (.cells #[.slice none 0 0, .slice none 0 0] 26) = W := ⟨_, rfl⟩
  have hbW : Below w.heap.size w W := by rw [← hW]; exact (((Below.refl _ _).alloc (Nat.le_refl _) _).alloc (by simp) _).alloc (by simp; omega) _
  have hz : W.heap.size = w.heap.size + 3 := by rw [← hW]; simp
  have hB0 : Blk W w.heap.size #[vn, vp] 26 := by rw [← hW]; exact ((Blk.new w _ _).below ((Below.refl (w.heap.size + 1) _).alloc (by simp) _) (by omega)).below ((Below.refl (w.heap.size + 1) _).alloc (by simp) _) (by omega)
  have hB1 : Blk W (w.heap.size + 1) #[.int .i64 k, .string S] 28 := by
    have h3 := Blk.new (w.alloc (.cells #[vn, vp] 26)) #[.int .i64 k, .string S] 28
    rw [World.size_alloc] at h3
    rw [← hW]; exact h3.below ((Below.refl (w.heap.size + 2) _).alloc (by simp) _) (by omega)
  have hB2 : Blk W (w.heap.size + 2) #[.slice none 0 0, .slice none 0 0] 26 := by
    have h3 := Blk.new ((w.alloc (.cells #[vn, vp] 26)).alloc (.cells #[.int .i64 k, .string S] 28)) #[.slice none 0 0, .slice none 0 0] 26
    simp only [World.size_alloc] at h3
    rw [← hW]; exact h3
  obtain ⟨A0, c0, rfl, _⟩ := id h0
  obtain ⟨A1, c1, rfl, _⟩ := id h1
  obtain ⟨b0, b1, _, _⟩ := blk_pair hB0
  have S0 := Lib.hid (And.intro (h0.step hbW) (And.intro (RdT.step h1 hbW) (And.intro hbW (And.intro hB0 (And.intro hB1 hB2))))); clear h0 h1 hbW hB0 hB1 hB2
  have HL := Lib.hid hl2; clear hl2
  obtain ⟨hn, hp, hm⟩ := benchB_parts hv
  have hmz : ∀ t ∈ ps, t.length ≤ 400 := fun t h => tsB_len (hm t h)
  have HM := Lib.hid (And.intro hmz hn); clear hmz hm hn
  have HV := Lib.hid hv
  obtain rfl := ba_nil hs
  subst hk
  have hpos : 0 < ps.length := List.length_pos_iff.2 hne
  have hmt := HM.out.1 _ (List.mem_of_getElem? (last_mem9 hne))
  obtain ⟨t, HT⟩ : ∃ t, Hid (ps.getD (ps.length - 1) [] = t) := ⟨_, Lib.hid rfl⟩
  rw [HT.out] at hmt
  rcases hP : readProgP t with ⟨q, ok⟩
  have HR := Lib.hid (show benchDoR n ps 2 (bytesOf ⟨#[]⟩) = ((q, ps.take (ps.length - 1)), true) by
    rw [benchDoR, if_pos hv, doR, if_neg (by decide), if_neg (by simp [hs]), if_neg (by decide), if_pos rfl, backR, if_neg hne, HT.out, hP])
  obtain ⟨B9, hB9⟩ : ∃ B9 : ByteArray, (⟨t.toArray⟩ : ByteArray) = B9 := ⟨_, rfl⟩
  have hBl : B9.size ≤ 100000000 := by rw [← hB9]; simp [ByteArray.size]; omega
  have HP := Lib.hid (show readProgP (bytesOf B9) = (q, ok) by rw [← hB9, bytes_mk]; exact hP)
  obtain ⟨m, hm⟩ : ∃ m, ps.length = m + 1 := ⟨ps.length - 1, by omega⟩
  have hmI : (m : Int) + 1 ≤ 20 := by omega
  have HX := Lib.hid (And.intro hB9 (And.intro hne (show ps.length - 1 = m by omega)))
  have HMM := Lib.hid hm
  clear hs hB9 hP hv hne hm
  go_enter Tryz.func7, Tryz.ntmps7
  go_wp2_with fail
  try rw [hW]
  refine (BenchValid_S _ _ n ps W S0.out.1 S0.out.2.1 hl0 hl1 HL.out).mono ?_
  rw [HV.out]
  rintro e w1 ⟨rfl, hb⟩
  have hz1 := hb.size
  have hA := S0.out.2.2.2.1.below hb (by omega)
  have X := Lib.hid (And.intro (S0.out.1.step hb) (And.intro (RdT.step S0.out.2.1 hb) (And.intro (S0.out.2.2.1.trans (hb.mono (by omega))) (And.intro hA (And.intro (S0.out.2.2.2.2.1.below hb (by omega)) (S0.out.2.2.2.2.2.below hb (by omega)))))))
  obtain ⟨a0, a1, _, _⟩ := blk_pair hA
  clear hb hA b0 b1 S0
  go_wp2_with fail
  refine (l10Copy_any _ _ n ps w1 X.out.1 X.out.2.1 hl0 hl1).mono ?_
  rintro e w2 ⟨u0, u1, rfl, ho0, ho1, hb⟩
  have hz2 := hb.size
  obtain ⟨A7, c7, rfl, _⟩ := ho0.ints
  obtain ⟨A8, c8, rfl, _⟩ := ho1.rd
  obtain ⟨U, hU⟩ : ∃ U, (w2.alloc (.cells #[.slice A7 n.length c7, .slice A8 ps.length c8] 26)).alloc (.cells #[] 3) = U := ⟨_, rfl⟩
  have hbU : Below w2.heap.size w2 U := by rw [← hU]; exact ((Below.refl _ _).alloc (Nat.le_refl _) _).alloc (by simp) _
  have hBU : Blk U w2.heap.size #[.slice A7 n.length c7, .slice A8 ps.length c8] 26 := by rw [← hU]; exact (Blk.new w2 _ _).keepH
  have hzU : w2.heap.size < U.heap.size := hBU.lt
  have hBn : BnAt U w1.heap.size w2.heap.size (.slice A7 n.length c7) (.slice A8 ps.length c8) n ps := ⟨hz2, hBU, ho0.below hbU, (OwnW.below ho1 hbU).mono (Nat.le_refl _) hbU.size⟩
  have hb2U : Below w1.heap.size w1 U := hb.trans (hbU.mono hz2)
  have Y := Lib.hid (And.intro hBn (And.intro (X.out.2.2.1.trans (hb2U.mono (by omega))) (And.intro (X.out.1.step hb2U) (And.intro (RdT.step X.out.2.1 hb2U) (And.intro (X.out.2.2.2.1.below hb2U (by omega)) (And.intro (X.out.2.2.2.2.1.below hb2U (by omega)) (X.out.2.2.2.2.2.below hb2U (by omega)))))))); clear ho0 ho1 hb hbU hBU hBn hb2U X a0 a1
  obtain ⟨p0, p1, _, _⟩ := blk_pair Y.out.2.2.2.2.1
  obtain ⟨d0, d1, _, _⟩ := blk_pair Y.out.2.2.2.2.2.1
  obtain ⟨r0, r1, s0, s1⟩ := blk_pair Y.out.2.2.2.2.2.2
  obtain ⟨e0, e1, f0, f1⟩ := Y.out.1.cells
  obtain ⟨A', c', he, hlc, _, hcell⟩ := Y.out.2.2.2.1
  cases he
  obtain ⟨bb, off, rfl, hbb, hcs⟩ := hcell hpos
  have hcl := hcs (ps.length - 1) _ (last_mem9 HX.out.2.1)
  rw [HT.out, HX.out.2.2, HX.out.1] at hcl
  have hmc : m + 1 ≤ c1 := by have := HMM.out; omega
  clear hcs hcell
  have h6m : m ≤ c8 := by
    obtain ⟨A', c', he, hlc, _⟩ := Y.out.1.past.rd
    cases he; have := HMM.out; omega
  rw [HMM.out] at p1 e1
  go_wp2_with fail
  refine (ReadProg_S B9 _ hBl q ok HP.out).mono ?_
  rintro e w4 ⟨u, rfl, ho, hb⟩
  have hz4 := hb.size
  have h4 := Y.out.1.step hb
  obtain ⟨Au, cu, rfl, _⟩ := ho.rd
  have h5 := h4.set0 (ho.own.mono (show w1.heap.size ≤ U.heap.size by omega))
  have h6 := h5.set1 (OwnWT.front9 h5.past (ps.length - 1) (by omega))
  rw [HX.out.2.2] at h6
  have hB6 := (((Y.out.2.2.2.2.2.2.below hb (by omega)).other (g' := w2.heap.size) (by omega) 0 (.slice Au q.length cu)).other (g' := w2.heap.size) (by omega) 1 (.slice A8 m c8))
  obtain ⟨x0, x1, y0, y1⟩ := h4.cells
  obtain ⟨x2, x3, y2, y3⟩ := h5.cells
  rw [HMM.out] at x1 x3
  have FIN := Lib.hid (And.intro h6 (And.intro (show Below w.heap.size w ((w4.setCell ⟨w2.heap.size, 0, none⟩ (.slice Au q.length cu)).setCell ⟨w2.heap.size, 1, none⟩ (.slice A8 m c8)) from ((Y.out.2.1.trans (hb.mono (by omega))).setCell (by simp; omega) _).setCell (by simp; omega) _) hB6))
  clear h4 h5 h6 hB6 ho hb p0 p1 d0 d1 r0 r1 s0 s1 e0 e1 f0 f1
  obtain ⟨x4, x5, y4, y5⟩ := FIN.out.1.cells
  obtain ⟨r2, r3, s2, s3⟩ := blk_pair FIN.out.2.2
  go_wp2
  obtain ⟨q0, q1, _, _⟩ := blk_pair ((FIN.out.2.2).set 0 (.slice Au q.length cu) |>.set 1 (.slice A8 m c8))
  refine bodyPost_ret (v := .tuple #[.agg #[.slice Au q.length cu, .slice A8 m c8], .bool true]) (by simp [results, Tryz.results7, go_sem, q0, q1]) rfl ?_
  rw [HR.out, HX.out.2.2]
  exact ⟨_, _, rfl, ((FIN.out.1.now.far9 (by omega) 0 _).far9 (by omega) 1 _).mono (by omega), ((FIN.out.1.past.far9 (by omega) 0 _).far9 (by omega) 1 _).mono (by omega) (by simp [World.setCell]), ((FIN.out.2.1).setCell (by simp; omega) _).setCell (by simp; omega) _⟩
end Go.Proofs.YtjblecinkedppaaGreatDoor
