/- The draw of a bench and deeds; parts of a row of deeds. -/
import Derived.Test.YtjblecinkedppaaGreatDoorHz
import Derived.Test.YtjblecinkedppaaGreatDoorHv
namespace Go.Proofs.YtjblecinkedppaaGreatDoor
set_option maxRecDepth 100000
open Go.RowKit Go.WideShapes Go.Deep

theorem deeds_front {w : World} {A : Option Addr} {c : Nat} {ds : Deeds} (h : RdD w (.slice A ds.length c) ds) (k : Nat) (hk : k ≤ ds.length) : RdD w (sliced A 0 k c 2) (ds.take k) := by
  obtain ⟨A', c', e, hm, hr⟩ := h
  cases e
  have hl : (ds.take k).length = k := by rw [List.length_take]; omega
  refine ⟨if c = 0 then A else A.map (·.add (0 * 2)), c - 0, by rw [hl]; rfl, by omega, fun h0 => ?_⟩
  rw [hl] at h0
  obtain ⟨b, off, rfl, hb, hc⟩ := hr (by omega)
  refine ⟨b, off, ?_, hb, fun j d hj => ?_⟩
  · split
    · rfl
    · show some ((⟨b, off, none⟩ : Addr).add (0 * 2)) = _
      rw [add_plain]; rfl
  · rw [List.getElem?_take] at hj
    split at hj
    · exact hc j d hj
    · cases hj
theorem deeds_back {w : World} {A : Option Addr} {c : Nat} {ds : Deeds} (h : RdD w (.slice A ds.length c) ds) (k : Nat) (hk : k ≤ ds.length) (hc : ds.length ≤ c) : RdD w (sliced A k ds.length c 2) (ds.drop k) := by
  obtain ⟨A', c', e, hm, hr⟩ := h
  cases e
  have hl : (ds.drop k).length = ds.length - k := List.length_drop
  refine ⟨if c = k then A else A.map (·.add (k * 2)), c - k, by rw [hl]; rfl, by omega, fun h0 => ?_⟩
  rw [hl] at h0
  obtain ⟨b, off, rfl, hb, hcc⟩ := hr (by omega)
  refine ⟨b, off + k * 2, ?_, hb, fun j d hj => ?_⟩
  · rw [if_neg (by omega)]
    show some ((⟨b, off, none⟩ : Addr).add (k * 2)) = _
    rw [add_plain]
  · rw [List.getElem?_drop] at hj
    have := hcc (k + j) d hj
    rw [show off + k * 2 + j * 2 = off + (k + j) * 2 by omega]
    exact this
theorem deed_size (W : World) : (sizeOf (Tryz.prog.elem 45)).run Tryz.prog W = .ok 2 W := by
  have h : (Tryz.prog.info? (Tryz.prog.elem 45)).map (·.size) = some 2 := by kernel_rfl
  obtain ⟨i, hi, hs⟩ := Option.map_eq_some_iff.1 h
  simp [sizeOf, typeInfo, hi, hs]
theorem slice_front (A : Option Addr) (n c : Nat) (k : Nat) (hk : k ≤ c) (W : World) : (Instr.slice 45 (.slice A n c) none (some (.int .i64 (k : Int))) none).run Tryz.prog W = .ok (sliced A 0 k c 2) W := by
  rw [run_slice_h W 45 A n c (by kernel_rfl) .i64 k (by omega) (by omega), deed_size]; rfl
theorem slice_back (A : Option Addr) (n c : Nat) (k : Nat) (hk : k ≤ n) (W : World) : (Instr.slice 45 (.slice A n c) (some (.int .i64 (k : Int))) none none).run Tryz.prog W = .ok (sliced A k n c 2) W := by
  rw [run_slice_l W 45 A n c (by kernel_rfl) .i64 k (by omega) (by omega), deed_size]; rfl
theorem flatD_rep9 (n : Nat) : flatD (List.replicate n ((0 : Int), ([] : List UInt8))) = (madeCells #[.int .i64 0, .string ⟨#[]⟩] (n * 2)).toList := by
  apply List.ext_getElem
  · rw [flatD_length]; simp [madeCells]
  intro i h1 h2
  rw [flatD_length, List.length_replicate] at h1
  have hg := flatD_get (ds := List.replicate n ((0 : Int), ([] : List UInt8))) (k := i / 2) (d := (0, [])) (by rw [List.getElem?_replicate, if_pos (by omega)])
  rcases Nat.mod_two_eq_zero_or_one i with h | h
  · have e := hg.1
    rw [show i / 2 * 2 = i by omega, List.getElem?_eq_getElem (by rw [flatD_length]; simp; omega)] at e
    rw [Option.some.inj e]
    simp [madeCells, h]
  · have e := hg.2
    rw [show i / 2 * 2 + 1 = i by omega, List.getElem?_eq_getElem (by rw [flatD_length]; simp; omega)] at e
    rw [Option.some.inj e]
    simp [madeCells, h]
def fillD (ds : Deeds) (k : Nat) : Deeds := ds.take k ++ List.replicate (ds.length - k) ((0 : Int), ([] : List UInt8))
def D41 : Deeds := List.replicate 41 (0, [])
theorem make41 (W : World) : (Instr.makeSlice 45 (.int .i64 41) (.int .i64 41)).run Tryz.prog W = .ok (.slice (some ⟨W.heap.size, 0, none⟩) 41 41) (W.alloc (.cells (flatD D41).toArray 28)) := by
  obtain ⟨i, hi, hz, hs, hb⟩ := info_parts deedInfo
  have h := run_makeSlice W 45 28 i _ Tryz.underlying45 hi hz .i64 .i64 41 41 (by omega) (by omega) (by rw [hs]; decide) (by rw [hb]; decide) (by omega)
  rw [h, hs, show (flatD D41).toArray = madeCells #[.int .i64 0, .string ⟨#[]⟩] (41 * 2) by rw [D41, flatD_rep9]]
  rfl
def DrawnBR (w : World) (e : Ending) (w' : World) : Prop := ∃ (vn vp : Value) (n : List Int) (ps : List (List UInt8)) (A : Option Addr) (c : Nat) (ds : Deeds), e = .returned (.tuple #[.agg #[vn, vp], .slice A ds.length c]) ∧ RdI w' vn n ∧ RdT w' vp ps ∧ n.length ≤ 61 ∧ ps.length ≤ 21 ∧ (∀ t ∈ ps, t.length ≤ 400) ∧ RdD w' (.slice A ds.length c) ds ∧ ds.length ≤ c ∧ ds.length ≤ 41 ∧ (∀ d ∈ ds, d.2.length ≤ 402) ∧ Below w.heap.size w w'
theorem OwnD.cap {w : World} {lo hi : Nat} {v : Value} {ds : Deeds} (h : OwnD w lo hi v ds) : ∃ A c, v = .slice A ds.length c ∧ ds.length ≤ c := by
  rcases h.own.2 with ⟨rfl, h0⟩ | ⟨g, cap, cur, rfl, _, _, h1, _⟩
  · exact ⟨none, 0, by rw [h0], by omega⟩
  · exact ⟨_, cap, rfl, h1⟩
set_option maxHeartbeats 4000000 in
theorem DrawBenchRun_any (v : Value) (zs : List Int) (w : World) (h : RdC w v zs) : Calls Tryz.prog 15 #[v] w (DrawnBR w) := by
  obtain ⟨W, hW⟩ : ∃ W, w.alloc (.cells #[.slice none 0 0, .slice none 0 0] 26) = W := ⟨_, rfl⟩
  have hbW : Below w.heap.size w W := by rw [← hW]; exact (Below.refl _ _).alloc (Nat.le_refl _) _
  have hz : W.heap.size = w.heap.size + 1 := by rw [← hW]; simp
  have kB : Blk W w.heap.size #[.slice none 0 0, .slice none 0 0] 26 := by rw [← hW]; exact Blk.new w _ _
  have H := Lib.hid (And.intro ((RdBC.below h hbW).rd hbW.size) (And.intro hbW kB)); clear h hbW kB
  go_enter Tryz.func15, Tryz.ntmps15
  go_wp2_with fail
  try rw [hW]
  refine (l20Open_any v zs W H.out.1).mono ?_
  rintro e w1 ⟨g, bs, rfl, hr, hg, hb⟩
  have hgl := hr.lt
  have hz1 := hb.size
  have X := Lib.hid (And.intro hr hb); clear hr hb
  go_wp2_with fail
  refine (bench 12 w1 g 0 bs w1 (by omega) (RS.refl X.out.1) (by omega)).mono ?_
  rintro e w2 ⟨vn, vp, n, ps, p', rfl, hn, hp, hl1, hl2, hl3, hr2, hp2, hw⟩
  have hz2 := hw.size
  obtain ⟨A, c, rfl, _⟩ := hn.ints
  obtain ⟨B, d, rfl, _⟩ := hp.rd
  obtain ⟨V, hV⟩ : ∃ V, w2.alloc (.cells #[.slice A n.length c, .slice B ps.length d] 26) = V := ⟨_, rfl⟩
  have hbV : Below w2.heap.size w2 V := by rw [← hV]; exact (Below.refl _ _).alloc (Nat.le_refl _) _
  have kV : Blk V w2.heap.size #[.slice A n.length c, .slice B ps.length d] 26 := by rw [← hV]; exact Blk.new w2 _ _
  have hbn : BnAt V w1.heap.size w2.heap.size (.slice A n.length c) (.slice B ps.length d) n ps := ⟨hz2, kV, hn.below hbV, (OwnW.below hp hbV).mono (Nat.le_refl _) hbV.size⟩
  have Y := Lib.hid (And.intro hbn (And.intro (hr2.below hbV (by omega)) (And.intro (hw.trans (Within.of_below hbV)) hl3))); have hzV := hbV.size; clear hbn hr2 hbV kV hw hn hp hl3
  go_wp2_with fail
  try rw [hV]
  refine (odd w1 g p' 30 bs V Y.out.2.1 (by omega) (by omega)).mono ?_
  rintro e w3 ⟨b, rfl, hr3, hg3⟩
  have hz3 := hg3.size
  have hbn3 := Y.out.1.thru hg3 hgl
  have hl3 := hbn3.lt
  have hbb := below_of_within X.out.2 hg (Y.out.2.2.1.trans hg3)
  have Z := Lib.hid (And.intro hbn3 (And.intro hr3 (And.intro (Y.out.2.2.1.trans hg3) (And.intro (H.out.2.2.below hbb (by omega)) (H.out.2.1.trans (hbb.mono (by omega))))))); clear hbn3 hr3 hg3 hbb
  obtain ⟨e0, e1, _, _⟩ := Z.out.1.cells
  obtain ⟨r0, r1, r2, r3⟩ := blkPair9 Z.out.2.2.2.1
  rcases b with _ | _
  · have HD : Hid (∀ T, Below w3.heap.size w3 T → Calls Tryz.prog 45 #[.pointer (some ⟨g, 0, none⟩), .agg #[.slice A n.length c, .slice B ps.length d]] T (DeedsPost w1 g (p' + 1) bs T)) := Lib.hid fun T hT =>
      deeds w1 g (p' + 1) bs _ _ n ps T w1.heap.size (Z.out.2.1.below hT (by omega)) (by omega) ((Z.out.1.step hT).now) ((Z.out.1.step hT).past) hgl hl1 hl2 Y.out.2.2.2 (by have := hT.size; omega)
    go_wp2
    go_region_held3 (fun w' => w'.cell? ⟨w2.heap.size, 0, none⟩ = some (.slice A n.length c) ∧ w'.cell? ⟨w2.heap.size, 1, none⟩ = some (.slice B ps.length d)) (repeat' (first | with_reducible exact e0 | with_reducible exact e1 | with_reducible exact l0 | with_reducible exact l1 | apply And.intro | rw [World.cell?_drew] | rw [World.cell?_alloc_lt _ _ _ (by first | omega | (simp; omega))] | rw [World.cell?_setCell_far _ _ _ _ (by first | omega | (simp; omega))])) (first
      | (go_at_call 45; refine (HD.out _ (by first | exact Below.refl _ _ | exact (Below.refl _ _).drew)).mono ?_; rintro e wd ⟨u, ds, p3, rfl, hod, hdl, hdm, _, _, hwd⟩; have gd : Within g (g + 1) w3 wd := (by first | exact hwd | exact (Within.of_below (Below.refl _ _).drew).trans hwd); obtain ⟨Ad, cd, rfl, hcd⟩ := hod.cap; have hbd := Z.out.1.thru gd hgl; obtain ⟨l0, l1, _, _⟩ := hbd.cells; have hzd := gd.size; have hbb := below_of_within X.out.2 hg (Z.out.2.2.1.trans gd); have Q := Lib.hid (And.intro hbd (And.intro (H.out.2.1.trans (hbb.mono (by omega))) (And.intro (H.out.2.2.below hbb (by omega)) (And.intro hod hdm)))); obtain ⟨s0, s1, s2, s3⟩ := blkPair9 Q.out.2.2.1; clear hwd gd hbd hbb hod hdm)
      | fail)
    go_wp2
    have kb := (Q.out.2.2.1.set 0 (.slice A n.length c))
    obtain ⟨q0, q1, _, _⟩ := blkPair9 (kb.set 1 (.slice B ps.length d))
    refine bodyPost_ret (v := .tuple #[.agg #[.slice A n.length c, .slice B ps.length d], .slice Ad ds.length cd]) (by simp [results, Tryz.results15, go_sem, q0, q1]) rfl ?_
    exact ⟨_, _, n, ps, Ad, cd, ds, rfl, ((Q.out.1.now.far9 (by omega) 0 _).far9 (by omega) 1 _).ints, ((Q.out.1.past.far9 (by omega) 0 _).far9 (by omega) 1 _).rd, hl1, hl2, Y.out.2.2.2, ((Q.out.2.2.2.1.setB Q.out.2.2.1 0 _).setB kb 1 _).rd, hcd, by omega, Q.out.2.2.2.2, setTwo Q.out.2.1 _ _⟩
  · have hmk := make41
    obtain ⟨M, hM⟩ : ∃ M, (flatD D41).toArray = M := ⟨_, rfl⟩
    rw [hM] at hmk
    have HMM := Lib.hid hM; clear hM
    have hbM : Below w3.heap.size w3 (w3.alloc (.cells M 28)) := (Below.refl _ _).alloc (Nat.le_refl _) _
    have kM := Lib.hid (Z.out.2.2.2.1.below hbM (by omega))
    have bnM := Lib.hid (Z.out.1.step hbM); clear hbM
    obtain ⟨ra0, ra1, ra2, ra3⟩ := blkPair9 kM.out
    have hl41 : D41.length = 41 := rfl
    have hd41 : ∀ d ∈ D41, d.2.length ≤ 402 := fun d hd => by rw [(List.eq_of_mem_replicate hd : d = (0, []))]; simp
    have HL41 := Lib.hid (And.intro hl41 hd41); clear hl41 hd41
    go_wp2
    go_region_held3 (fun w' => w'.cell? ⟨w2.heap.size, 0, none⟩ = some (.slice A n.length c) ∧ w'.cell? ⟨w2.heap.size, 1, none⟩ = some (.slice B ps.length d)) (repeat' (first | with_reducible exact e0 | with_reducible exact e1 | apply And.intro | rw [World.cell?_drew] | rw [World.cell?_alloc_lt _ _ _ (by first | omega | (simp; omega))] | rw [World.cell?_setCell_far _ _ _ _ (by first | omega | (simp; omega))])) (fail)
    all_goals go_wp2
    · have kb := kM.out.set 0 (.slice A n.length c)
      have o41 : OwnD (w3.alloc (.cells M 28)) w3.heap.size (w3.heap.size + 1) (.slice (some ⟨w3.heap.size, 0, none⟩) D41.length D41.length) D41 := by rw [← HMM.out]; exact OwnD.lits w3 D41 (by rw [HL41.out.1]; omega)
      have bdr : ∀ F : World, Below F.heap.size F F.drew := fun F => (Below.refl _ _).drew
      obtain ⟨q0, q1, _, _⟩ := blkPair9 (kb.set 1 (.slice B ps.length d))
      refine bodyPost_ret (v := .tuple #[.agg #[.slice A n.length c, .slice B ps.length d], .slice (some ⟨w3.heap.size, 0, none⟩) 41 41]) (by simp [results, Tryz.results15, go_sem, q0, q1]) rfl ?_
      exact ⟨_, _, n, ps, some ⟨w3.heap.size, 0, none⟩, 41, D41, rfl, RdI.step ((bnM.out.now.far9 (by omega) 0 _).far9 (by omega) 1 _).ints (bdr _), RdT.step ((bnM.out.past.far9 (by omega) 0 _).far9 (by omega) 1 _).rd (bdr _), hl1, hl2, Y.out.2.2.2, RdD.step ((o41.setB kM.out 0 _).setB kb 1 _).rd (bdr _), by rw [HL41.out.1]; omega, by rw [HL41.out.1]; omega, HL41.out.2, (setTwo (Z.out.2.2.2.2.alloc (by omega) _) _ _).drew⟩
    · have kb := Z.out.2.2.2.1.set 0 (.slice A n.length c)
      have kb1 := kb.set 1 (.slice B ps.length d)
      have hzs : ((w3.setCell ⟨w.heap.size, 0, none⟩ (.slice A n.length c)).setCell ⟨w.heap.size, 1, none⟩ (.slice B ps.length d)).heap.size = w3.heap.size := by simp [World.setCell]
      have bal : Below ((w3.setCell ⟨w.heap.size, 0, none⟩ (.slice A n.length c)).setCell ⟨w.heap.size, 1, none⟩ (.slice B ps.length d)).heap.size ((w3.setCell ⟨w.heap.size, 0, none⟩ (.slice A n.length c)).setCell ⟨w.heap.size, 1, none⟩ (.slice B ps.length d)) ((((w3.setCell ⟨w.heap.size, 0, none⟩ (.slice A n.length c)).setCell ⟨w.heap.size, 1, none⟩ (.slice B ps.length d)).alloc (.cells M 28)).drew) := ((Below.refl _ _).alloc (Nat.le_refl _) _).drew
      have o41 := OwnD.lits ((w3.setCell ⟨w.heap.size, 0, none⟩ (.slice A n.length c)).setCell ⟨w.heap.size, 1, none⟩ (.slice B ps.length d)) D41 (by rw [HL41.out.1]; omega)
      rw [HMM.out, hzs] at o41
      have bdr : ∀ F : World, Below F.heap.size F F.drew := fun F => (Below.refl _ _).drew
      obtain ⟨q0, q1, _, _⟩ := blkPair9 (kb1.below bal (by rw [hzs]; omega))
      refine bodyPost_ret (v := .tuple #[.agg #[.slice A n.length c, .slice B ps.length d], .slice (some ⟨w3.heap.size, 0, none⟩) 41 41]) (by simp [results, Tryz.results15, go_sem, q0, q1]) rfl ?_
      exact ⟨_, _, n, ps, some ⟨w3.heap.size, 0, none⟩, 41, D41, rfl, RdI.step ((Z.out.1.now.far9 (by omega) 0 _).far9 (by omega) 1 _).ints bal, RdT.step ((Z.out.1.past.far9 (by omega) 0 _).far9 (by omega) 1 _).rd bal, hl1, hl2, Y.out.2.2.2, RdD.step o41.rd (bdr _), by rw [HL41.out.1]; omega, by rw [HL41.out.1]; omega, HL41.out.2, (setTwo Z.out.2.2.2.2 _ _).trans (bal.mono (by rw [hzs]; omega))⟩
end Go.Proofs.YtjblecinkedppaaGreatDoor
