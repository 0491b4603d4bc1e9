/- The draw of a deed: l20Deed. Written by deed.py. -/
import Derived.Test.YtjblecinkedppaaGreatDoorGq
import Derived.Test.YtjblecinkedppaaGreatDoorRn
import Derived.Test.YtjblecinkedppaaGreatDoorBc
import Derived.Test.YtjblecinkedppaaGreatDoorBo
import Derived.Test.YtjblecinkedppaaGreatDoorI
import Derived.Deep.RegionHeld3
import Derived.Deep.DeepCutAuto
namespace Go.Proofs.YtjblecinkedppaaGreatDoor
set_option maxRecDepth 100000
open Go.RowKit Go.WideShapes

theorem Blk.keepQ {w : World} {g : Nat} {cs : Array Value} {T : TypeId} {cs2 : Array Value} {T2 : TypeId} (h : Blk w g cs T) : Blk (w.alloc (.cells cs2 T2)) g cs T := h.below ((Below.refl w.heap.size _).alloc (Nat.le_refl _) _) h.lt
theorem Blk.drewQ {w : World} {g : Nat} {cs : Array Value} {T : TypeId} (h : Blk w g cs T) : Blk w.drew g cs T := h
theorem Blk.newQ (w : World) (g : Nat) (cs : Array Value) (T : TypeId) (h : g = w.heap.size) : Blk (w.alloc (.cells cs T)) g cs T := by subst h; exact Blk.new w cs T
theorem Blk.thru {w w' : World} {g L : Nat} {cs : Array Value} {T : TypeId} (h : Blk w L cs T) (hg : Within g (g + 1) w w') (hn : g < L) : Blk w' L cs T := (hg.block L h.lt (by omega)).trans h
theorem Blk.thruC {w w' : World} {g L : Nat} {cs : Array Value} {T : TypeId} {G : Prop} (h : Blk w L cs T) (hg : Within g (g + 1) w w') (hn : g < L) (k : Hid (Blk w' L cs T) → G) : G := k (Lib.hid (Blk.thru h hg hn))
theorem blkQ {w : World} {g : Nat} {a b : Value} {T : TypeId} (h : Blk w g #[a, b] T) : w.cell? ⟨g, 0, none⟩ = some a ∧ w.cell? ⟨g, 1, none⟩ = some b ∧ w.frozen? ⟨g, 0, none⟩ = false ∧ w.frozen? ⟨g, 1, none⟩ = false := ⟨h.cell 0, h.cell 1, h.free 0, h.free 1⟩
theorem kindOf (k : Nat) (hk : k < 8) : ∃ z : Int, 0 ≤ z ∧ z ≤ 2 ∧ ∀ (X : World) (L : Nat), Blk X L #[.int .i64 0, .int .i64 0, .int .i64 0, .int .i64 0, .int .i64 0, .int .i64 1, .int .i64 2, .int .i64 2] 3 → X.cell? ⟨L, k, none⟩ = some (.int .i64 z) := by
  rcases k with _ | _ | _ | _ | _ | _ | _ | _ | k
  · exact ⟨0, by omega, by omega, fun X L h => h.cell 0⟩
  · exact ⟨0, by omega, by omega, fun X L h => h.cell 1⟩
  · exact ⟨0, by omega, by omega, fun X L h => h.cell 2⟩
  · exact ⟨0, by omega, by omega, fun X L h => h.cell 3⟩
  · exact ⟨0, by omega, by omega, fun X L h => h.cell 4⟩
  · exact ⟨1, by omega, by omega, fun X L h => h.cell 5⟩
  · exact ⟨2, by omega, by omega, fun X L h => h.cell 6⟩
  · exact ⟨2, by omega, by omega, fun X L h => h.cell 7⟩
  · omega
structure Lay (w0 : World) (g : Nat) (bs : List Int) (W : World) (p : Nat) (X : World) (hl hd : Option Nat) : Prop where
  rs : RS w0 X g bs p
  wi : Within g (g + 1) W X
  sz : W.heap.size ≤ X.heap.size
  fl : ∀ L, hl = some L → W.heap.size ≤ L ∧ Blk X L #[.int .i64 0, .int .i64 0, .int .i64 0, .int .i64 0, .int .i64 0, .int .i64 1, .int .i64 2, .int .i64 2] 3
  fd : ∀ D, hd = some D → W.heap.size ≤ D ∧ Blk X D #[.int .i64 0, .string ⟨#[]⟩] 28
section
variable {w0 : World} {g : Nat} {bs : List Int} {W : World} {p : Nat} {X : World} {hl hd : Option Nat}
theorem Lay.drew (h : Lay w0 g bs W p X hl hd) : Lay w0 g bs W p X.drew hl hd := by
  obtain ⟨h1, h2, h3, h4, h5⟩ := h
  have hb : Below X.heap.size X X.drew := (Below.refl _ _).drew
  exact ⟨h1.below hb h1.size, h2.trans (Within.of_below hb), h3, h4, h5⟩
theorem Lay.lit (h : Lay w0 g bs W p X none hd) : Lay w0 g bs W p (X.alloc (.cells #[.int .i64 0, .int .i64 0, .int .i64 0, .int .i64 0, .int .i64 0, .int .i64 1, .int .i64 2, .int .i64 2] 3)) (some X.heap.size) hd := by
  obtain ⟨h1, h2, h3, h4, h5⟩ := h
  have hb : Below X.heap.size X (X.alloc (.cells #[.int .i64 0, .int .i64 0, .int .i64 0, .int .i64 0, .int .i64 0, .int .i64 1, .int .i64 2, .int .i64 2] 3)) := (Below.refl _ _).alloc (Nat.le_refl _) _
  exact ⟨h1.below hb h1.size, h2.trans (Within.of_below hb), Nat.le_trans h3 hb.size, fun L e => (by cases e; exact ⟨h3, Blk.new X _ _⟩), fun D e => ⟨(h5 D e).1, Blk.keepQ (h5 D e).2⟩⟩
theorem Lay.dd (h : Lay w0 g bs W p X hl none) : Lay w0 g bs W p (X.alloc (.cells #[.int .i64 0, .string ⟨#[]⟩] 28)) hl (some X.heap.size) := by
  obtain ⟨h1, h2, h3, h4, h5⟩ := h
  have hb : Below X.heap.size X (X.alloc (.cells #[.int .i64 0, .string ⟨#[]⟩] 28)) := (Below.refl _ _).alloc (Nat.le_refl _) _
  exact ⟨h1.below hb h1.size, h2.trans (Within.of_below hb), Nat.le_trans h3 hb.size, fun L e => ⟨(h4 L e).1, Blk.keepQ (h4 L e).2⟩, fun D e => (by cases e; exact ⟨h3, Blk.new X _ _⟩)⟩
theorem Lay.pick {p' : Nat} {X' : World} (h : Lay w0 g bs W p X hl hd) (hg : g < W.heap.size) (hr : RS w0 X' g bs p') (hw : Within g (g + 1) X X') : Lay w0 g bs W p' X' hl hd := by
  obtain ⟨h1, h2, h3, h4, h5⟩ := h
  exact ⟨hr, h2.trans hw, Nat.le_trans h3 hw.size, fun L e => ⟨(h4 L e).1, Blk.thru (h4 L e).2 hw (Nat.lt_of_lt_of_le hg (h4 L e).1)⟩, fun D e => ⟨(h5 D e).1, Blk.thru (h5 D e).2 hw (Nat.lt_of_lt_of_le hg (h5 D e).1)⟩⟩
theorem Lay.cell {L k : Nat} {z : Int} (h : Lay w0 g bs W p X (some L) hd) (HL : ∀ (X : World) (L : Nat), Blk X L #[.int .i64 0, .int .i64 0, .int .i64 0, .int .i64 0, .int .i64 0, .int .i64 1, .int .i64 2, .int .i64 2] 3 → X.cell? ⟨L, k, none⟩ = some (.int .i64 z)) : X.cell? ⟨L, k, none⟩ = some (.int .i64 z) := HL _ _ (h.fl L rfl).2
theorem Lay.cells {D : Nat} (h : Lay w0 g bs W p X hl (some D)) : X.cell? ⟨D, 0, none⟩ = some (.int .i64 0) ∧ X.cell? ⟨D, 1, none⟩ = some (.string ⟨#[]⟩) ∧ X.frozen? ⟨D, 0, none⟩ = false ∧ X.frozen? ⟨D, 1, none⟩ = false := blkQ (h.fd D rfl).2
theorem Lay.ss {L D : Nat} (h : Lay w0 g bs W p X (some L) (some D)) : Lay w0 g bs W p X (some L) (some D) := h
theorem Lay.sn {L : Nat} (h : Lay w0 g bs W p X (some L) none) : Lay w0 g bs W p X (some L) none := h
theorem Lay.ns {D : Nat} (h : Lay w0 g bs W p X none (some D)) : Lay w0 g bs W p X none (some D) := h
theorem Lay.nn (h : Lay w0 g bs W p X none none) : Lay w0 g bs W p X none none := h
theorem Lay.one_d {L : Nat} (h : Lay w0 g bs W p X (some L) none) : ∃ U, X.alloc (.cells #[.int .i64 0, .string ⟨#[]⟩] 28) = U ∧ Lay w0 g bs W p U (some L) (some X.heap.size) := ⟨_, rfl, h.dd⟩
theorem Lay.one_l {D : Nat} (h : Lay w0 g bs W p X none (some D)) : ∃ V, X.alloc (.cells #[.int .i64 0, .int .i64 0, .int .i64 0, .int .i64 0, .int .i64 0, .int .i64 1, .int .i64 2, .int .i64 2] 3) = V ∧ Lay w0 g bs W p V (some X.heap.size) (some D) := ⟨_, rfl, h.lit⟩
theorem Lay.four (h : Lay w0 g bs W p X none none) : ∃ V U VU UV, X.alloc (.cells #[.int .i64 0, .int .i64 0, .int .i64 0, .int .i64 0, .int .i64 0, .int .i64 1, .int .i64 2, .int .i64 2] 3) = V ∧ X.alloc (.cells #[.int .i64 0, .string ⟨#[]⟩] 28) = U ∧ V.alloc (.cells #[.int .i64 0, .string ⟨#[]⟩] 28) = VU ∧ U.alloc (.cells #[.int .i64 0, .int .i64 0, .int .i64 0, .int .i64 0, .int .i64 0, .int .i64 1, .int .i64 2, .int .i64 2] 3) = UV ∧ Lay w0 g bs W p V (some X.heap.size) none ∧ Lay w0 g bs W p U none (some X.heap.size) ∧ Lay w0 g bs W p VU (some X.heap.size) (some V.heap.size) ∧ Lay w0 g bs W p UV (some U.heap.size) (some X.heap.size) :=
  ⟨_, _, _, _, rfl, rfl, rfl, rfl, h.lit, h.dd, h.lit.dd, h.dd.lit⟩
theorem Lay.fin {D : Nat} {z q : Int} (h : Lay w0 g bs W p X hl (some D)) (hz0 : 0 ≤ z) (hz1 : z ≤ 2) (hq0 : 0 ≤ q) (hq1 : q ≤ 1) (hs0 : w0.heap.size ≤ W.heap.size) :
    ∃ (g5 : Nat) (k : Int), Value.pointer (some ⟨D, 0, none⟩) = .pointer (some ⟨g5, 0, none⟩) ∧ 0 ≤ k ∧ k ≤ 5 ∧ W.heap.size ≤ g5 ∧ Blk ((X.setCell ⟨D, 0, none⟩ (.int .i64 (z + q * 3))).setCell ⟨D, 1, none⟩ (.string ⟨#[]⟩)) g5 #[.int .i64 k, .string ⟨#[]⟩] 28 ∧ RS w0 ((X.setCell ⟨D, 0, none⟩ (.int .i64 (z + q * 3))).setCell ⟨D, 1, none⟩ (.string ⟨#[]⟩)) g bs p ∧ Within g (g + 1) W ((X.setCell ⟨D, 0, none⟩ (.int .i64 (z + q * 3))).setCell ⟨D, 1, none⟩ (.string ⟨#[]⟩)) := by
  have hB := (h.fd D rfl).2
  have hD := (h.fd D rfl).1
  have hb : Below W.heap.size X ((X.setCell ⟨D, 0, none⟩ (.int .i64 (z + q * 3))).setCell ⟨D, 1, none⟩ (.string ⟨#[]⟩)) := (((Below.refl _ _).mono h.sz).setCell hD _).setCell hD _
  exact ⟨D, z + q * 3, rfl, by omega, by omega, hD, (hB.set 0 _).set 1 _, h.rs.below hb hs0, h.wi.then_below hb (Nat.le_refl _)⟩
end
structure Tl (w0 : World) (g : Nat) (bs : List Int) (w : World) (g5 : Nat) (k : Int) (X : World) (S : ByteArray) (p : Nat) : Prop where
  kd : Blk X g5 #[.int .i64 k, .string S] 28
  rs : RS w0 X g bs p
  kr : Blk X (w.heap.size + 1) #[.int .i64 0, .string ⟨#[]⟩] 28
  wi : Within g (g + 1) w X
theorem Tl.step {w0 : World} {g : Nat} {bs : List Int} {w : World} {g5 : Nat} {k : Int} {X Y : World} {S : ByteArray} {p : Nat} (h : Tl w0 g bs w g5 k X S p) (hb : Below X.heap.size X Y) : Tl w0 g bs w g5 k Y S p :=
  ⟨h.kd.below hb h.kd.lt, h.rs.below hb h.rs.size, h.kr.below hb h.kr.lt, h.wi.trans (Within.of_below hb)⟩
theorem Tl.go {w0 : World} {g : Nat} {bs : List Int} {w : World} {g5 : Nat} {k : Int} {X Y : World} {S : ByteArray} {p p' : Nat} (h : Tl w0 g bs w g5 k X S p) (hr : RS w0 Y g bs p') (hw : Within g (g + 1) X Y) (h1 : g < g5) (h2 : g < w.heap.size) : Tl w0 g bs w g5 k Y S p' :=
  ⟨Blk.thru h.kd hw h1, hr, Blk.thru h.kr hw (Nat.lt_succ_of_lt h2), h.wi.trans hw⟩
theorem Tl.text {w0 : World} {g : Nat} {bs : List Int} {w : World} {g5 : Nat} {k : Int} {X : World} {S : ByteArray} {p : Nat} (h : Tl w0 g bs w g5 k X S p) (hs0 : w0.heap.size ≤ w.heap.size) (h1 : w.heap.size + 2 ≤ g5) (S' : ByteArray) : Tl w0 g bs w g5 k (X.setCell ⟨g5, 1, none⟩ (.string S')) S' p := by
  have hb : Below g5 X (X.setCell ⟨g5, 1, none⟩ (.string S')) := (Below.refl g5 X).setCell (p := ⟨g5, 1, none⟩) (Nat.le_refl _) _
  exact ⟨h.kd.set 1 _, h.rs.below hb (by omega), h.kr.below hb (by omega), h.wi.then_below hb (by omega)⟩
theorem Tl.ret {w0 : World} {g : Nat} {bs : List Int} {w : World} {g5 : Nat} {k : Int} {X : World} {S : ByteArray} {p p0 : Nat} (h : Tl w0 g bs w g5 k X S p) (hs0 : w0.heap.size ≤ w.heap.size) (hk0 : 0 ≤ k) (hk1 : k ≤ 5) (hS : S.size ≤ 402) (hp : p ≤ p0 + 13000) (a b : Value) :
    ∃ (k' : Int) (S' : ByteArray) (p' : Nat), Ending.returned (.agg #[.int .i64 k, .string S]) = .returned (.agg #[.int .i64 k', .string S']) ∧ 0 ≤ k' ∧ k' ≤ 5 ∧ S'.size ≤ 402 ∧ RS w0 ((X.setCell ⟨w.heap.size + 1, 0, none⟩ a).setCell ⟨w.heap.size + 1, 1, none⟩ b) g bs p' ∧ p' ≤ p0 + 13000 ∧ Within g (g + 1) w ((X.setCell ⟨w.heap.size + 1, 0, none⟩ a).setCell ⟨w.heap.size + 1, 1, none⟩ b) := by
  have hb : Below (w.heap.size + 1) X ((X.setCell ⟨w.heap.size + 1, 0, none⟩ a).setCell ⟨w.heap.size + 1, 1, none⟩ b) := ((Below.refl (w.heap.size + 1) X).setCell (p := ⟨w.heap.size + 1, 0, none⟩) (Nat.le_refl _) _).setCell (p := ⟨w.heap.size + 1, 1, none⟩) (Nat.le_refl _) _
  exact ⟨k, S, p, rfl, hk0, hk1, hS, h.rs.below hb (by omega), hp, h.wi.then_below hb (by omega)⟩
theorem add_sz (x : ByteArray) (h : x.size ≤ 1000) : ∃ z : ByteArray, z.size = x.size + 2 ∧ ∀ W, (Op.stringOp .add x ⟨#[32, 49]⟩).run Tryz.prog W = .ok (.string z) W := by
  have hz : (⟨#[32, 49]⟩ : ByteArray).size = 2 := rfl
  exact ⟨x ++ ⟨#[32, 49]⟩, by rw [ByteArray.size_append, hz], fun W => run_string_add_sum W _ _ (by omega)⟩
theorem thruW {W X Y : World} {g : Nat} (h : Within g (g + 1) X Y) (hb : Below W.heap.size W X) : W.heap.size ≤ Y.heap.size ∧ Within g (g + 1) W Y := ⟨Nat.le_trans hb.size h.size, (Within.of_below hb).trans h⟩
def DeedPost (w0 : World) (g p : Nat) (bs : List Int) (w : World) (e : Ending) (w' : World) : Prop :=
  ∃ (k : Int) (S : ByteArray) (p' : Nat), e = .returned (.agg #[.int .i64 k, .string S]) ∧ 0 ≤ k ∧ k ≤ 5 ∧ S.size ≤ 402 ∧ RS w0 w' g bs p' ∧ p' ≤ p + 13000 ∧ Within g (g + 1) w w'
set_option maxHeartbeats 8000000 in
theorem deed (w0 : World) (g p : Nat) (bs : List Int) (vn vp : Value) (n : List Int) (w : World) (h : RS w0 w g bs p) (hp : p ≤ 300000000000) (lo hi : Nat) (hn : OwnI w lo hi vn n) (hgl : g < lo) (hhi : hi ≤ w.heap.size) (hl : n.length ≤ 1048576) :
    Calls Tryz.prog 22 #[.pointer (some ⟨g, 0, none⟩), .agg #[vn, vp]] w (DeedPost w0 g p bs w) := by
  have hgw := h.rdr.lt
  have hs0 : w0.heap.size ≤ w.heap.size := h.size
  obtain ⟨W, hW⟩ : ∃ W, (w.alloc (.cells #[vn, vp] 26)).alloc (.cells #[.int .i64 0, .string ⟨#[]⟩] 28) = W := ⟨_, rfl⟩
  have hbW : Below w.heap.size w W := by rw [← hW]; exact ((Below.refl _ _).alloc (Nat.le_refl _) _).alloc (by simp) _
  have hzW : W.heap.size = w.heap.size + 2 := by rw [← hW]; simp
  have kB : Blk W w.heap.size #[vn, vp] 26 := by rw [← hW]; exact Blk.keepQ (Blk.new w #[vn, vp] 26)
  have kR : Blk W (w.heap.size + 1) #[.int .i64 0, .string ⟨#[]⟩] 28 := by rw [← hW]; exact Blk.newQ _ _ _ _ (by simp)
  have hgW : g < W.heap.size := by omega
  have hs0W : w0.heap.size ≤ W.heap.size := by omega
  have HZW := Lib.hid hzW; clear hzW
  have hWz := hbW.size
  have Lay0 : Lay w0 g bs W p W none none := ⟨h.below hbW hs0, Within.of_below (Below.refl _ _), Nat.le_refl _, fun L e => (by cases e), fun D e => (by cases e)⟩
  have SB := Lib.hid (And.intro (hn.belowB hbW hhi) (And.intro kB (And.intro kR (Within.of_below (lo := g) (hi := g + 1) hbW)))); clear h hn hbW kB kR
  obtain ⟨Vo, Uo, VUo, UVo, hVo, hUo, hVUo, hUVo, GVo, GUo, GVUo, GUVo⟩ := Lay0.four
  have FVo := Lib.hid GVo.drew; have FUo := Lib.hid GUo.drew; have FVUo := Lib.hid GVUo.drew; have FUVo := Lib.hid GUVo.drew; have F0o := Lib.hid Lay0.drew
  clear GVo GUo GVUo GUVo Lay0
  have h8 : (1 : Int) ≤ 8 ∧ (8 : Int) ≤ 1000000 := by omega
  have h60 : (1 : Int) ≤ 60 ∧ (60 : Int) ≤ 1000000 := by omega
  have hp1 : p ≤ 1000000000000 := by omega
  have hp2 : p + 1 ≤ 1000000000000 := by omega
  go_enter Tryz.func22, Tryz.ntmps22
  go_upto_region 1 with fail
  try rw [hW]
  go_cut [5] (fun q5 wx => ∃ (g5 : Nat) (k : Int), q5 = .pointer (some ⟨g5, 0, none⟩) ∧ 0 ≤ k ∧ k ≤ 5 ∧ W.heap.size ≤ g5 ∧ Blk wx g5 #[.int .i64 k, .string ⟨#[]⟩] 28 ∧ RS w0 wx g bs (p + 1 + 1) ∧ Within g (g + 1) W wx)
  case first =>
    go_region_with (first
      | (have h9a := F0a; clear h9a; go_at_call 49; (refine (pick w0 g (p + 1) 60 bs _ ?_ h60 hp2).mono ?_; (first | with_reducible exact F0a.out.rs | with_reducible exact FVa.out.rs | with_reducible exact FUa.out.rs | with_reducible exact FVUa.out.rs | with_reducible exact FUVa.out.rs ); rintro e wb ⟨y, rfl, hy0, hy1, hrb, hgb⟩; obtain ⟨q, hq, hq0, hq1⟩ : ∃ q : Int, y.tdiv 59 = q ∧ 0 ≤ q ∧ q ≤ 1 := ⟨_, rfl, by rw [Int.tdiv_eq_ediv_of_nonneg hy0]; omega, by rw [Int.tdiv_eq_ediv_of_nonneg hy0]; omega⟩; have hwq : IntKind.i64.wrap q = q := IntWalk.i64_in _ (by omega); have hwr : IntKind.i64.wrap (q * 3) = q * 3 := IntWalk.i64_in _ (by omega); have hws : IntKind.i64.wrap (z + q * 3) = z + q * 3 := IntWalk.i64_in _ (by omega); (first | (have Fb := Lib.hid (Lay.pick F0a.out hgW hrb hgb)) | (have Fb := Lib.hid (Lay.pick FVa.out hgW hrb hgb)) | (have Fb := Lib.hid (Lay.pick FUa.out hgW hrb hgb)) | (have Fb := Lib.hid (Lay.pick FVUa.out hgW hrb hgb)) | (have Fb := Lib.hid (Lay.pick FUVa.out hgW hrb hgb)) ); clear hrb hgb; (first | (have F0b := Lib.hid (Lay.ss Fb.out); have clwb := F0b.out.cell HL.out; obtain ⟨x0wb, x1wb, f0wb, f1wb⟩ := F0b.out.cells; clear Fb) | (obtain ⟨Ub, hUb, GUb⟩ := Fb.out.one_d; have FUb := Lib.hid GUb; have F0b := Lib.hid (Lay.sn Fb.out); clear GUb Fb; have clwb := F0b.out.cell HL.out; have club := FUb.out.cell HL.out; obtain ⟨x0ub, x1ub, f0ub, f1ub⟩ := FUb.out.cells; skip) | (obtain ⟨Vb, hVb, GVb⟩ := Fb.out.one_l; have FVb := Lib.hid GVb; have F0b := Lib.hid (Lay.ns Fb.out); clear GVb Fb; have clvb := FVb.out.cell HL.out; obtain ⟨x0wb, x1wb, f0wb, f1wb⟩ := F0b.out.cells; obtain ⟨x0vb, x1vb, f0vb, f1vb⟩ := FVb.out.cells; skip) | (obtain ⟨Vb, Ub, VUb, UVb, hVb, hUb, hVUb, hUVb, GVb, GUb, GVUb, GUVb⟩ := Fb.out.four; have FVb := Lib.hid GVb; have FUb := Lib.hid GUb; have FVUb := Lib.hid GVUb; have FUVb := Lib.hid GUVb; have F0b := Lib.hid (Lay.nn Fb.out); clear GVb GUb GVUb GUVb Fb; have clvb := FVb.out.cell HL.out; have clxb := FVUb.out.cell HL.out; have clyb := FUVb.out.cell HL.out; obtain ⟨x0ub, x1ub, f0ub, f1ub⟩ := FUb.out.cells; obtain ⟨x0xb, x1xb, f0xb, f1xb⟩ := FVUb.out.cells; obtain ⟨x0yb, x1yb, f0yb, f1yb⟩ := FUVb.out.cells; skip))))
      | (go_at_call 49; (refine (pick w0 g p 8 bs _ ?_ h8 hp1).mono ?_; (first | with_reducible exact F0o.out.rs | with_reducible exact FVo.out.rs | with_reducible exact FUo.out.rs | with_reducible exact FVUo.out.rs | with_reducible exact FUVo.out.rs ); rintro e wa ⟨x, rfl, hx0, hx1, hra, hga⟩; obtain ⟨k, rfl⟩ := Int.eq_ofNat_of_zero_le hx0; obtain ⟨z, hz0, hz1, hzl⟩ := kindOf k (by omega); have HL := Lib.hid hzl; clear hzl; (first | (have Fa := Lib.hid (Lay.pick F0o.out hgW hra hga)) | (have Fa := Lib.hid (Lay.pick FVo.out hgW hra hga)) | (have Fa := Lib.hid (Lay.pick FUo.out hgW hra hga)) | (have Fa := Lib.hid (Lay.pick FVUo.out hgW hra hga)) | (have Fa := Lib.hid (Lay.pick FUVo.out hgW hra hga)) ); clear hra hga; (first | (have F0a := Lib.hid (Lay.ss Fa.out); have clwa := F0a.out.cell HL.out; clear Fa) | (obtain ⟨Ua, hUa, GUa⟩ := Fa.out.one_d; have FUa := Lib.hid GUa; have F0a := Lib.hid (Lay.sn Fa.out); clear GUa Fa; have clwa := F0a.out.cell HL.out; have clua := FUa.out.cell HL.out; skip) | (obtain ⟨Va, hVa, GVa⟩ := Fa.out.one_l; have FVa := Lib.hid GVa; have F0a := Lib.hid (Lay.ns Fa.out); clear GVa Fa; have clva := FVa.out.cell HL.out; skip) | (obtain ⟨Va, Ua, VUa, UVa, hVa, hUa, hVUa, hUVa, GVa, GUa, GVUa, GUVa⟩ := Fa.out.four; have FVa := Lib.hid GVa; have FUa := Lib.hid GUa; have FVUa := Lib.hid GVUa; have FUVa := Lib.hid GUVa; have F0a := Lib.hid (Lay.nn Fa.out); clear GVa GUa GVUa GUVa Fa; have clva := FVa.out.cell HL.out; have clxa := FVUa.out.cell HL.out; have clya := FUVa.out.cell HL.out; skip))))
      | fail)
    all_goals (go_wp2_with fail; go_meet)
    all_goals (first | exact F0b.out.fin hz0 hz1 hq0 hq1 hs0W | exact FVb.out.fin hz0 hz1 hq0 hq1 hs0W | exact FUb.out.fin hz0 hz1 hq0 hq1 hs0W | exact FVUb.out.fin hz0 hz1 hq0 hq1 hs0W | exact FUVb.out.fin hz0 hz1 hq0 hq1 hs0W )
  case rest =>
    obtain ⟨g5, k, rfl, hk0, hk1, hg5, kD, hr, hw⟩ := hcut
    obtain ⟨w1, hwc⟩ : ∃ w, w = wc := ⟨_, rfl⟩
    subst hwc
    have hz1 : W.heap.size ≤ w1.heap.size := hw.size
    have hzW1 : w.heap.size + 2 ≤ W.heap.size := by have := HZW.out; omega
    have kB1 := Blk.thru SB.out.2.1 hw hgw
    have kR1 := Blk.thru SB.out.2.2.1 hw (by omega)
    have ho1 := SB.out.1.apart hw (.inr (by omega))
    have l5 := kD.lt
    obtain ⟨b0, b1, _, _⟩ := blkQ kB1
    obtain ⟨d0, d1, d2, d3⟩ := blkQ kD
    have T1 := Lib.hid (And.intro ho1 (And.intro kB1 (show Tl w0 g bs w g5 k w1 ⟨#[]⟩ (p + 1 + 1) from ⟨kD, hr, kR1, SB.out.2.2.2.trans hw⟩))); clear hr hw kB1 kR1 kD ho1 SB
    have h5g : g < g5 := by omega
    have g5W : w.heap.size + 2 ≤ g5 := by omega
    go_upto_if 21 with fail
    go_cut [6, 7] (fun q6 q7 wx => ∃ (S : ByteArray) (p' : Nat), S.size ≤ 400 ∧ p' ≤ p + 12500 ∧ Tl w0 g bs w g5 k wx S p')
    case first =>
      by_cases hk : k = 0
      case neg =>
        have hkb : (k == 0) = false := by simpa using hk
        go_wp2_with fail
        go_meet
        exact ⟨⟨#[]⟩, p + 1 + 1, by simp [ByteArray.size], by omega, T1.out.2.2⟩
      subst hk
      rcases hpp : partsR n with y0
      have HP := Lib.hid hpp; clear hpp
      go_wp2_with fail
      refine (ProgParts_S vn n _ T1.out.1.rd hl _ HP.out).mono ?_
      rintro e w2 ⟨u, rfl, hou, hb2⟩
      have hz2 := hb2.size
      obtain ⟨Au, cu, rfl, _⟩ := hou.rd
      have T2 := Lib.hid (T1.out.2.2.step hb2); clear hb2 hou T1 HP
      go_wp2_with fail
      refine (good5 w0 (fun w0 g pp bs w h0 b9 hb hh h hp => good2q w0 (fun w0 g pp bs w h0 b9 hb hh h hp => good1 w0 g pp bs w h0 b9 hb hh h hp) g pp bs w h0 b9 hb hh h hp) g (p + 1 + 1) bs w2 (min (y0.length : Int) 3) 3 (by omega) (by omega) T2.out.rs (by omega)).mono ?_
      rintro e w3 ⟨v, zs, p3, x3, rfl, ho, hl3, hr3, hp3, hg3, _, _⟩
      have hz3 : w2.heap.size ≤ w3.heap.size := hg3.size
      obtain ⟨Av, cv, rfl, _⟩ := ho.rd
      have T3 := Lib.hid (And.intro (T2.out.go hr3 hg3 h5g hgw) ho); clear hr3 hg3 ho T2
      by_cases h61 : (60 : Int) < (zs.length : Int)
      case pos =>
        go_wp2_with fail
        refine (prog 3 30 w0 g p3 bs _ (by omega) (by omega) T3.out.1.rs (by omega)).mono ?_
        rintro e w9 ⟨v, zs, p9, rfl, ho, hl9, hr9, hp9, hg9⟩
        have T9 := Lib.hid (And.intro (T3.out.1.go hr9 hg9 h5g hgw) ho.rd); clear hr9 hg9 ho T3
        go_wp2_with fail
        refine (ProgText_S _ zs _ T9.out.2).mono ?_
        rintro e wt ⟨rfl, hbt⟩
        have TT := Lib.hid (T9.out.1.step hbt); clear hbt T9
        obtain ⟨t0, t1, t2, t3⟩ := blkQ TT.out.kd
        have SZ : (⟨(progT zs).toArray⟩ : ByteArray).size ≤ 400 := by have := progT_len zs; simpa [ByteArray.size] using this
        have X := Lib.hid (TT.out.text hs0 g5W ⟨(progT zs).toArray⟩); clear TT
        go_wp2_with fail
        go_meet
        exact ⟨_, _, SZ, by omega, X.out⟩
      case neg =>
        go_wp2_with fail
        refine (pick w0 g p3 6 bs _ T3.out.1.rs (by omega) (by omega)).mono ?_
        rintro e w4 ⟨y, rfl, hy0, hy1, hr4, hg4⟩
        have T4 := Lib.hid (And.intro (T3.out.1.go hr4 hg4 h5g hgw) (T3.out.2.apart hg4 (.inr (by omega))).rd); clear hr4 hg4 T3
        by_cases hy : y = 0
        · subst hy
          go_wp2_with fail
          refine (prog 3 30 w0 g (p3 + 1) bs _ (by omega) (by omega) T4.out.1.rs (by omega)).mono ?_
          rintro e w9 ⟨v, zs, p9, rfl, ho, hl9, hr9, hp9, hg9⟩
          have T9 := Lib.hid (And.intro (T4.out.1.go hr9 hg9 h5g hgw) ho.rd); clear hr9 hg9 ho T4
          go_wp2_with fail
          refine (ProgText_S _ zs _ T9.out.2).mono ?_
          rintro e wt ⟨rfl, hbt⟩
          have TT := Lib.hid (T9.out.1.step hbt); clear hbt T9
          obtain ⟨t0, t1, t2, t3⟩ := blkQ TT.out.kd
          have SZ : (⟨(progT zs).toArray⟩ : ByteArray).size ≤ 400 := by have := progT_len zs; simpa [ByteArray.size] using this
          have X := Lib.hid (TT.out.text hs0 g5W ⟨(progT zs).toArray⟩); clear TT
          go_wp2_with fail
          go_meet
          exact ⟨_, _, SZ, by omega, X.out⟩
        · have hyb : (y == 0) = false := by simpa using hy
          go_wp2_with fail
          refine (ProgText_S _ zs _ T4.out.2).mono ?_
          rintro e wt ⟨rfl, hbt⟩
          have TT := Lib.hid (T4.out.1.step hbt); clear hbt T4
          obtain ⟨t0, t1, t2, t3⟩ := blkQ TT.out.kd
          have SZ : (⟨(progT zs).toArray⟩ : ByteArray).size ≤ 400 := by have := progT_len zs; simpa [ByteArray.size] using this
          have X := Lib.hid (TT.out.text hs0 g5W ⟨(progT zs).toArray⟩); clear TT
          go_wp2_with fail
          go_meet
          exact ⟨_, _, SZ, by omega, X.out⟩
    case rest =>
      obtain ⟨S, p', hS, hp', hT⟩ := hcut
      obtain ⟨w5, hwc⟩ : ∃ w, w = wc := ⟨_, rfl⟩
      subst hwc
      have T := Lib.hid hT; clear hT
      go_wp2_with fail
      refine (odd w0 g p' 40 bs w5 T.out.rs (by omega) (by omega)).mono ?_
      rintro e w6 ⟨b, rfl, hr, hg⟩
      have T6 := Lib.hid (T.out.go hr hg h5g hgw); clear hr hg T d0 d1 d2 d3 b0 b1
      obtain ⟨t0, t1, t2, t3⟩ := blkQ T6.out.kd
      obtain ⟨r0, r1, r2, r3⟩ := blkQ T6.out.kr
      rcases b with _ | _
      · go_wp2_with fail
        obtain ⟨q0, q1, _, _⟩ := blkQ ((T6.out.kr.set 0 (.int .i64 k)).set 1 (.string S))
        refine bodyPost_ret (v := .agg #[.int .i64 k, .string S]) (by simp [results, Tryz.results22, go_sem, q0, q1]) rfl ?_
        exact T6.out.ret hs0 hk0 hk1 (by omega) (by omega) _ _
      · obtain ⟨S2, hS2, hadd⟩ := add_sz S (by omega)
        have hz5 : g5 ≠ w.heap.size + 1 := by omega
        have T7 := Lib.hid (T6.out.text hs0 g5W S2); clear T6
        obtain ⟨s0, s1, s2, s3⟩ := blkQ T7.out.kd
        obtain ⟨u0, u1, u2, u3⟩ := blkQ T7.out.kr
        go_wp2_with fail
        obtain ⟨q0, q1, _, _⟩ := blkQ ((T7.out.kr.set 0 (.int .i64 k)).set 1 (.string S2))
        refine bodyPost_ret (v := .agg #[.int .i64 k, .string S2]) (by simp [results, Tryz.results22, go_sem, q0, q1]) rfl ?_
        exact T7.out.ret hs0 hk0 hk1 (by omega) (by omega) _ _
end Go.Proofs.YtjblecinkedppaaGreatDoor
