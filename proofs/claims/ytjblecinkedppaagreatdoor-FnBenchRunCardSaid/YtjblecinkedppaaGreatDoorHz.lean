/- The draw of a bench and a deed; what the laws of benches keep; benches compared. Written by fnbd.py. -/
import Derived.Test.YtjblecinkedppaaGreatDoorHy
import Derived.Test.YtjblecinkedppaaGreatDoorHo
import Derived.Test.YtjblecinkedppaaGreatDoorBj
namespace Go.Proofs.YtjblecinkedppaaGreatDoor
set_option maxRecDepth 100000
open Go.RowKit Go.WideShapes Go.Deep

def DrawnBD (w : World) (e : Ending) (w' : World) : Prop := ∃ (vn vp : Value) (n : List Int) (ps : List (List UInt8)) (k : Int) (S : ByteArray), e = .returned (.tuple #[.agg #[vn, vp], .agg #[.int .i64 k, .string S]]) ∧ RdI w' vn n ∧ RdT w' vp ps ∧ n.length ≤ 61 ∧ ps.length ≤ 21 ∧ (∀ t ∈ ps, t.length ≤ 400) ∧ 0 ≤ k ∧ k ≤ 5 ∧ S.size ≤ 402 ∧ Below w.heap.size w w'
set_option maxHeartbeats 4000000 in
theorem DrawBenchDo_any (v : Value) (zs : List Int) (w : World) (h : RdC w v zs) : Calls Tryz.prog 5 #[v] w (DrawnBD w) := by
  obtain ⟨W, hW⟩ : ∃ W, (w.alloc (.cells #[.slice none 0 0, .slice none 0 0] 26)).alloc (.cells #[.int .i64 0, .string ⟨#[]⟩] 28) = W := ⟨_, rfl⟩
  have hbW : Below w.heap.size w W := by rw [← hW]; exact ((Below.refl _ _).alloc (Nat.le_refl _) _).alloc (by simp) _
  have hz : W.heap.size = w.heap.size + 2 := by rw [← hW]; simp
  have kB : Blk W w.heap.size #[.slice none 0 0, .slice none 0 0] 26 := by rw [← hW]; exact Blk.keepH (Blk.new w _ _)
  have kD : Blk W (w.heap.size + 1) #[.int .i64 0, .string ⟨#[]⟩] 28 := by rw [← hW]; exact Blk.newH _ _ _ _ (by simp)
  have H := Lib.hid (And.intro ((RdBC.below h hbW).rd hbW.size) (And.intro hbW (And.intro kB kD))); clear h hbW kB kD
  go_enter Tryz.func5, Tryz.ntmps5
  go_wp2_with fail
  try rw [hW]
  refine (l20Open_any v zs W H.out.1).mono ?_
  rintro e w1 ⟨g, bs, rfl, hr, hg, hb⟩
  have hgl := hr.lt
  have hz1 := hb.size
  have X := Lib.hid (And.intro hr hb); clear hr hb
  go_wp2_with fail
  refine (bench 12 w1 g 0 bs w1 (by omega) (RS.refl X.out.1) (by omega)).mono ?_
  rintro e w2 ⟨vn, vp, n, ps, p', rfl, hn, hp, hl1, hl2, hl3, hr2, hp2, hw⟩
  have hz2 := hw.size
  obtain ⟨A, c, rfl, _⟩ := hn.ints
  obtain ⟨B, d, rfl, _⟩ := hp.rd
  obtain ⟨V, hV⟩ : ∃ V, w2.alloc (.cells #[.slice A n.length c, .slice B ps.length d] 26) = V := ⟨_, rfl⟩
  have hbV : Below w2.heap.size w2 V := by rw [← hV]; exact (Below.refl _ _).alloc (Nat.le_refl _) _
  have kV : Blk V w2.heap.size #[.slice A n.length c, .slice B ps.length d] 26 := by rw [← hV]; exact Blk.new w2 _ _
  have hbn : BnAt V w1.heap.size w2.heap.size (.slice A n.length c) (.slice B ps.length d) n ps := ⟨hz2, kV, hn.below hbV, (OwnW.below hp hbV).mono (Nat.le_refl _) hbV.size⟩
  have hlV := hbn.lt
  have Y := Lib.hid (And.intro hbn (And.intro (hr2.below hbV (by omega)) (And.intro (hw.trans (Within.of_below hbV)) hl3))); clear hbn hr2 hbV kV hw hn hp hl3
  obtain ⟨e0, e1, _, _⟩ := Y.out.1.cells
  have HD : Hid (∀ Z, Below V.heap.size V Z → Calls Tryz.prog 22 #[.pointer (some ⟨g, 0, none⟩), .agg #[.slice A n.length c, .slice B ps.length d]] Z (DeedPost w1 g p' bs Z)) := Lib.hid fun Z hZ =>
    deed w1 g p' bs _ _ n Z (Y.out.2.1.below hZ (by omega)) (by omega) w1.heap.size V.heap.size (Y.out.1.now.within.belowB hZ (Nat.le_refl _)) hgl hZ.size (by omega)
  go_wp2_with fail
  try rw [hV]
  go_region_held3 (fun w' => w'.cell? ⟨w2.heap.size, 0, none⟩ = some (.slice A n.length c) ∧ w'.cell? ⟨w2.heap.size, 1, none⟩ = some (.slice B ps.length d)) (repeat' (first | with_reducible exact e0 | with_reducible exact e1 | with_reducible exact l0 | with_reducible exact l1 | apply And.intro | rw [World.cell?_drew] | rw [World.cell?_alloc_lt _ _ _ (by first | omega | (simp; omega))] | rw [World.cell?_setCell_far _ _ _ _ (by first | omega | (simp; omega))])) (first
    | (go_at_call 22; refine (HD.out _ (by first | exact Below.refl _ _ | exact (Below.refl _ _).drew)).mono ?_; rintro e wd ⟨k, S, p3, rfl, hk0, hk1, hS, _, _, hwd⟩; have gd : Within g (g + 1) V wd := (by first | exact hwd | exact (Within.of_below (Below.refl _ _).drew).trans hwd); have hbd := Y.out.1.thru gd hgl; obtain ⟨l0, l1, _, _⟩ := hbd.cells; have hzd := gd.size; have hbb := below_of_within X.out.2 hg (Y.out.2.2.1.trans gd); have Z := Lib.hid (And.intro hbd (And.intro (H.out.2.1.trans (hbb.mono (by omega))) (And.intro (H.out.2.2.1.below hbb (by omega)) (H.out.2.2.2.below hbb (by omega))))); obtain ⟨r0, r1, r2, r3⟩ := blkPair9 Z.out.2.2.1; obtain ⟨t0, t1, t2, t3⟩ := blkQ Z.out.2.2.2; clear hwd gd hbd hbb)
    | fail)
  go_wp2
  have kb := (((Z.out.2.2.1.set 0 (.slice A n.length c)).set 1 (.slice B ps.length d)).other (g' := w.heap.size + 1) (by omega) 0 (.int .i64 k)).other (g' := w.heap.size + 1) (by omega) 1 (.string S)
  have kd := (((Z.out.2.2.2.other (g' := w.heap.size) (by omega) 0 (.slice A n.length c)).other (g' := w.heap.size) (by omega) 1 (.slice B ps.length d)).set 0 (.int .i64 k)).set 1 (.string S)
  obtain ⟨q0, q1, _, _⟩ := blkPair9 kb
  obtain ⟨q2, q3, _, _⟩ := blkQ kd
  refine bodyPost_ret (v := .tuple #[.agg #[.slice A n.length c, .slice B ps.length d], .agg #[.int .i64 k, .string S]]) (by simp [results, Tryz.results5, go_sem, q0, q1, q2, q3]) rfl ?_
  exact ⟨_, _, n, ps, k, S, rfl, ((((Z.out.1.now.far9 (by omega) 0 _).far9 (by omega) 1 _).far9 (by omega) 0 _).far9 (by omega) 1 _).ints, ((((Z.out.1.past.far9 (by omega) 0 _).far9 (by omega) 1 _).far9 (by omega) 0 _).far9 (by omega) 1 _).rd, hl1, hl2, Y.out.2.2.2, hk0, hk1, hS, ((setTwo Z.out.2.1 _ _).setCell (p := ⟨w.heap.size + 1, 0, none⟩) (Nat.le_succ _) _).setCell (p := ⟨w.heap.size + 1, 1, none⟩) (Nat.le_succ _) _⟩

/-- A bench and a deed that a law keeps in two blocks. -/
structure Bst (w0 X : World) (b3 b4 : Nat) (vn vp : Value) (n : List Int) (ps : List (List UInt8)) (k : Int) (S : ByteArray) : Prop where
  bl : Below w0.heap.size w0 X
  rn : RdI X vn n
  rp : RdT X vp ps
  k3 : Blk X b3 #[vn, vp] 26
  k4 : Blk X b4 #[.int .i64 k, .string S] 28
theorem Bst.step {w0 X Y : World} {b3 b4 : Nat} {vn vp : Value} {n : List Int} {ps : List (List UInt8)} {k : Int} {S : ByteArray} (h : Bst w0 X b3 b4 vn vp n ps k S) (hb : Below X.heap.size X Y) : Bst w0 Y b3 b4 vn vp n ps k S :=
  ⟨h.bl.trans (hb.mono h.bl.size), h.rn.step hb, RdT.step h.rp hb, h.k3.below hb h.k3.lt, h.k4.below hb h.k4.lt⟩
/-- A bench that a law keeps in a block. -/
structure Xst (X : World) (b5 : Nat) (vn vp : Value) (n : List Int) (ps : List (List UInt8)) : Prop where
  rn : RdI X vn n
  rp : RdT X vp ps
  k5 : Blk X b5 #[vn, vp] 26
theorem Xst.step {X Y : World} {b5 : Nat} {vn vp : Value} {n : List Int} {ps : List (List UInt8)} (h : Xst X b5 vn vp n ps) (hb : Below X.heap.size X Y) : Xst Y b5 vn vp n ps :=
  ⟨h.rn.step hb, RdT.step h.rp hb, h.k5.below hb h.k5.lt⟩
/-- What BenchDo, BenchRun give, laid into a variable. -/
theorem bdLaid {w w' : World} {n : List Int} {ps : List (List UInt8)} {ok : Value} {e : Ending} (h : BdPost w (n, ps) ok e w') : ∃ (A B : Option Addr) (c d : Nat), e = .returned (.tuple #[.agg #[.slice A n.length c, .slice B ps.length d], ok]) ∧ Below w.heap.size w (w'.alloc (.cells #[.slice A n.length c, .slice B ps.length d] 26)) ∧ Xst (w'.alloc (.cells #[.slice A n.length c, .slice B ps.length d] 26)) w'.heap.size (.slice A n.length c) (.slice B ps.length d) n ps := by
  obtain ⟨u0, u1, rfl, h0, h1, hb⟩ := h
  dsimp only at h0 h1
  obtain ⟨A, c, rfl, _⟩ := id h0.ints
  obtain ⟨B, d, rfl, _⟩ := id h1.rd
  have hba : Below w'.heap.size w' (w'.alloc (.cells #[.slice A n.length c, .slice B ps.length d] 26)) := (Below.refl _ _).alloc (Nat.le_refl _) _
  exact ⟨A, B, c, d, rfl, hb.trans (hba.mono hb.size), RdI.step h0.ints hba, RdT.step h1.rd hba, Blk.new w' _ _⟩
end Go.Proofs.YtjblecinkedppaaGreatDoor
