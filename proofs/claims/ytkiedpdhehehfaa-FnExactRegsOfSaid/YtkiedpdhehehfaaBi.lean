/- Several texts in one. -/
import Derived.Test.YtkiedpdhehehfaaOc
import Derived.Test.YtkiedpdhehehfaaRq
import Derived.Test.YtkiedpdhehehfaaHs
import Derived.Test.YtkiedpdhehehfaaZy
import Derived.Test.YtkiedpdhehehfaaLift
import Derived.Test.YtkiedpdhehehfaaF1
import Derived.Test.YtkiedpdhehehfaaF2
import Derived.Test.YtkiedpdhehehfaaF3
/- Registers that are results: each row in a block of its own; compared, marked, found again. -/
namespace Go.Proofs.Ytkiedpdhehehfaa
set_option maxRecDepth 100000
open Go.RowKit Go.WideShapes Go.ChangeShapes Go.Deep

theorem ownI_one {w : World} {lo : Nat} {v : Value} {zs : List Int} (h : Own w lo v zs) : ∃ a b, lo ≤ a ∧ a ≤ b ∧ b ≤ max lo w.heap.size ∧ OwnI w a b v zs ∧ (v.ownBlock = none ∧ a = b ∨ v.ownBlock = some a ∧ b = a + 1) := by
  rcases h.own.2 with ⟨rfl, h0⟩ | ⟨g, cap, cur, rfl, hb, hh, h1⟩
  · exact ⟨lo, lo, Nat.le_refl _, Nat.le_refl _, by omega, ⟨⟨⟨h.own.1, .inl ⟨rfl, h0⟩⟩, h.wf⟩, by simp [Value.ownBlock]⟩, .inl ⟨rfl, rfl⟩⟩
  · have hg := h.own.lt g rfl
    exact ⟨g, g + 1, hb, by omega, by omega, ⟨⟨⟨h.own.1, .inr ⟨g, cap, cur, rfl, Nat.le_refl _, hh, h1⟩⟩, h.wf⟩, fun k hk => by simp [Value.ownBlock] at hk; omega⟩, .inr ⟨rfl, rfl⟩⟩
theorem ownO_one {w : World} {lo : Nat} {v : Value} {ms : List (Int × Int × Int)} (h : w.ownsRow lo 82 3 v ms.length ((flat3 ms).map (Value.int .i64))) : ∃ a b, lo ≤ a ∧ a ≤ b ∧ b ≤ max lo w.heap.size ∧ OwnO w a b v ms ∧ (v.ownBlock = none ∧ a = b ∨ v.ownBlock = some a ∧ b = a + 1) := by
  rcases h.2 with ⟨rfl, h0⟩ | ⟨g, cap, cur, rfl, hb, hh, h1⟩
  · exact ⟨lo, lo, Nat.le_refl _, Nat.le_refl _, by omega, ⟨⟨h.1, .inl ⟨rfl, h0⟩⟩, by simp [Value.ownBlock]⟩, .inl ⟨rfl, rfl⟩⟩
  · have hg := h.lt g rfl
    exact ⟨g, g + 1, hb, by omega, by omega, ⟨⟨h.1, .inr ⟨g, cap, cur, rfl, Nat.le_refl _, hh, h1⟩⟩, fun k hk => by simp [Value.ownBlock] at hk; omega⟩, .inr ⟨rfl, rfl⟩⟩
def RgOut (w : World) (T : Int) (ms : List (Int × Int × Int)) (row : List Int) (ok : Bool) (e : Ending) (w' : World) : Prop :=
  ∃ u0 u1 a0 b0 a1 b1, e = .returned (.tuple #[.agg #[.int .i64 T, u0, u1], .bool ok]) ∧ w.heap.size ≤ a0 ∧ a0 ≤ b0 ∧ b0 ≤ w'.heap.size ∧ w.heap.size ≤ a1 ∧ a1 ≤ b1 ∧ b1 ≤ w'.heap.size ∧ (b0 ≤ a1 ∨ b1 ≤ a0) ∧ OwnO w' a0 b0 u0 ms ∧ OwnI w' a1 b1 u1 row ∧ Below w.heap.size w w'
theorem RgPost.out {w : World} {T : Int} {ms : List (Int × Int × Int)} {row : List Int} {ok : Bool} {e : Ending} {w' : World} (h : RgPost w T ms row ok e w') : RgOut w T ms row ok e w' := by
  obtain ⟨u0, u1, he, ho, hi, hap, hb⟩ := h
  have hs := hb.size
  obtain ⟨a0, b0, h1, h2, h3, ho', h4⟩ := ownO_one ho
  obtain ⟨a1, b1, k1, k2, k3, hi', k4⟩ := ownI_one hi
  refine ⟨u0, u1, a0, b0, a1, b1, he, h1, h2, by omega, k1, k2, by omega, ?_, ho', hi', hb⟩
  rcases h4 with ⟨_, h4⟩ | ⟨h4, h5⟩
  · rcases k4 with ⟨_, k4⟩ | ⟨k4, k5⟩ <;> omega
  · rcases k4 with ⟨_, k4⟩ | ⟨k4, k5⟩
    · omega
    · have := hap a0 h4
      rw [k4] at this
      simp only [ne_eq, Option.some.injEq] at this
      omega
theorem Within.mono9 {lo hi lo' hi' : Nat} {w w' : World} (h : Within lo hi w w') (h1 : lo' ≤ lo) (h2 : hi ≤ hi') : Within lo' hi' w w' := ⟨h.os, h.tape, h.output, h.size, fun k hk hn => h.block k hk (by omega)⟩
theorem markG9 (t : Int) (v0 v1 : Value) (r : List (Int × Int × Int)) (s : List Int) (lo hi a0 b0 a1 b1 : Nat) (w : World) (hl : sz3 r ≤ 4000000) (hn : s.length ≤ 1048576) (h0 : OwnO w a0 b0 v0 r) (h1 : OwnI w a1 b1 v1 s) (hd : b0 ≤ a1 ∨ b1 ≤ a0) (l0 : lo ≤ a0) (l1 : lo ≤ a1) (u0 : b0 ≤ hi) (u1 : b1 ≤ hi) (hh : hi ≤ w.heap.size) :
    Calls Try.prog 19 #[.agg #[.int .i64 t, v0, v1], .int .i64 1] w fun e w' => e = .returned (.int .i64 (1 + (sz3 r : Int) + (s.length : Int))) ∧ OwnO w' a0 b0 v0 (mk3 1 r) ∧ OwnI w' a1 b1 v1 (mkI (1 + (sz3 r : Int)) s) ∧ Within lo hi w w' := by
  have hb : Below w.heap.size w (w.alloc (.cells #[.int .i64 t, v0, v1] 25)) := (Below.refl _ _).alloc (Nat.le_refl _) _
  have hbk := Blk.new w #[.int .i64 t, v0, v1] 25
  have H := Lib.hid (And.intro (h0.below hb) (And.intro (h1.below hb) (And.intro hb hbk)))
  obtain ⟨A0, c0, rfl, _⟩ := h0.rd
  obtain ⟨A1, c1, rfl, _⟩ := h1.rd
  clear h0 h1 hb hbk
  have hz3 : (sz3 r : Int) ≤ 4000000 := by omega
  go_enter Try.func19, Try.ntmps19
  go_wp2_with fail
  refine (markO _ r 1 a0 b0 _ (by omega) (by omega) H.out.1).mono ?_
  rintro e w1 ⟨rfl, ho, hw⟩
  have hz1 : w.heap.size + 1 ≤ w1.heap.size := by have := hw.size; simpa using this
  obtain ⟨_, b1', b2', _, _, _⟩ := blkThree (show Blk w1 w.heap.size _ 25 from (hw.block w.heap.size (by simp) (by omega)).trans H.out.2.2.2)
  have X := Lib.hid (And.intro ((Within.of_below (lo := lo) (hi := hi) H.out.2.2.1).trans (hw.mono9 l0 u0)) (And.intro (H.out.2.1.apart hw (by omega)) ho)); clear hw ho
  go_wp2_with fail
  refine (markI _ s _ a1 b1 _ (by omega) (by unfold szI; omega) X.out.2.1).mono ?_
  rintro e w2 ⟨rfl, ho, hw⟩
  have Y := Lib.hid (And.intro (X.out.1.trans (hw.mono9 l1 u1)) (And.intro (X.out.2.2.apart hw (by omega)) ho)); clear hw ho X
  go_wp2
  go_ret
  exact ⟨rfl, Y.out.2.1, Y.out.2.2, Y.out.1⟩
theorem heldG9 (t : Int) (v0 v1 : Value) (r : List (Int × Int × Int)) (s : List Int) (w : World) (hl : sz3 r ≤ 4000000) (hn : s.length ≤ 1048576) (h0 : Rd3 w v0 (mk3 1 r)) (h1 : RdI w v1 (mkI (1 + (sz3 r : Int)) s)) :
    Calls Try.prog 20 #[.agg #[.int .i64 t, v0, v1], .int .i64 1] w fun e w' => e = .returned (.int .i64 (1 + (sz3 r : Int) + (s.length : Int))) ∧ Below w.heap.size w w' := by
  have hb : Below w.heap.size w (w.alloc (.cells #[.int .i64 t, v0, v1] 25)) := (Below.refl _ _).alloc (Nat.le_refl _) _
  have hbk := Blk.new w #[.int .i64 t, v0, v1] 25
  have H := Lib.hid (And.intro (Rd3.step h0 hb) (And.intro (h1.step hb) (And.intro hb hbk)))
  obtain ⟨A0, c0, rfl, _⟩ := h0
  obtain ⟨A1, c1, rfl, _⟩ := h1
  clear hb hbk
  have hz3 : (sz3 r : Int) ≤ 4000000 := by omega
  have hp : ¬ (1 + (sz3 r : Int)) < 0 := by omega
  have hp2 : ¬ (1 + (sz3 r : Int) + (s.length : Int)) < 0 := by omega
  go_enter Try.func20, Try.ntmps20
  go_wp2_with fail
  refine (heldO _ r 1 _ (by omega) (by omega) H.out.1).mono ?_
  rintro e w1 ⟨rfl, hb⟩
  obtain ⟨_, b1', b2', _, _, _⟩ := blkThree (H.out.2.2.2.below hb (by simp))
  have X := Lib.hid (And.intro (H.out.2.2.1.trans (hb.mono (by simp))) (H.out.2.1.step hb)); clear hb
  have hsz := X.out.1.size
  go_wp2_with fail
  refine (heldI _ s _ _ (by omega) (by unfold szI; omega) X.out.2).mono ?_
  rintro e w2 ⟨rfl, hb⟩
  have Y := Lib.hid (X.out.1.trans (hb.mono hsz)); clear hb X
  go_wp2
  go_ret
  exact ⟨rfl, Y.out⟩
end Go.Proofs.Ytkiedpdhehehfaa

/- RegsOf answers at all arguments as its model, writes into no argument, and its answer owns its memory. For every input. -/
namespace Go.Proofs.Ytkiedpdhehehfaa
set_option maxRecDepth 100000
open Go.RowKit Go.WideShapes Go.ChangeShapes Go.Deep

set_option maxHeartbeats 4000000 in
theorem exRegsOf_any (A0 : Option Addr) (c0 : Nat) (x0 : List Int) (w0 : World) (h0 : RdI w0 (.slice A0 x0.length c0) x0) :
    Calls Try.prog 3 #[.slice A0 x0.length c0] w0 fun e w' => e = .returned (.bool true) ∧ Below w0.heap.size w0 w' := by
  have hm0 := h0.len_le
  have H0 : Hid (RdBI w0 w0.heap.size (.slice A0 x0.length c0) x0 ∧ Below w0.heap.size w0 w0) := Lib.hid ⟨h0.at_, Below.refl _ _⟩
  clear h0
  by_cases hl0 : x0.length ≤ 1048576
  case neg =>
    go_enter Try.func3, Try.ntmps3
    go_wp2
    go_ret
    exact ⟨rfl, Below.refl _ _⟩
  obtain ⟨T, ms, row, ok, hR⟩ : ∃ T ms row ok, regsOfR x0 = (T, ms, row, ok) := ⟨_, _, _, _, rfl⟩
  have hy := regsOfR_len x0 hR
  obtain ⟨hy0, hy1⟩ : ms.length ≤ 60 ∧ row.length ≤ 240 := ⟨hy.2.2.1, hy.2.2.2⟩
  clear hy
  have HR := Lib.hid hR; clear hR
  have hbb : (ok != ok) = false := by simp
  have hk1 : ¬ (1 + (x0.length : Int)) < 0 := by omega
  have hkm : ¬ (1 + (sz3 ms : Int) + (row.length : Int)) < 0 := by omega
  have hke : ((1 + (sz3 ms : Int) + (row.length : Int)) != (1 + (sz3 ms : Int) + (row.length : Int))) = false := by simp
  have hs0 : w0.heap.size ≤ w0.heap.size := Nat.le_refl _
  go_enter Try.func3, Try.ntmps3
  go_wp2_with fail
  refine (toI _ x0 _ ((H0.out.1).rd (by omega)) hl0).mono ?_
  rintro e w1 ⟨ut, rfl, ho, hb⟩
  obtain ⟨tB, td, rfl, _⟩ := ho.rd
  have hz_t : w0.heap.size ≤ w1.heap.size := by have := hb.size; exact this
  have hs1 := hb.size
  have H1 : Hid (RdBI w1 (w0.heap.size) (.slice A0 x0.length c0) x0 ∧ Below w0.heap.size w0 w1 ∧ OwnI w1 (w0.heap.size) (w1.heap.size) (.slice tB x0.length td) (x0)) := Lib.hid ⟨(H0.out.1).below (hb.mono (by omega)), (H0.out.2).trans (hb.mono (by omega)), ho⟩
  clear hb H0 ho
  go_wp2_with fail
  refine (RegsOf_S _ x0 _ ((H1.out.2.2).rd) hl0 T ms row ok HR.out).mono ?_
  intro e w2 hpost
  obtain ⟨wu0, wu1, wa0, wb0, wa1, wb1, rfl, wl0, wm0, wr0, wl1, wm1, wr1, wdj, ho0, ho1, hb⟩ := hpost.out
  obtain ⟨wB0, wd0, rfl, _⟩ := ho0.rd
  obtain ⟨wB1, wd1, rfl, _⟩ := ho1.rd
  have hs2 := hb.size
  have H2 : Hid (RdBI w2 (w0.heap.size) (.slice A0 x0.length c0) x0 ∧ Below w0.heap.size w0 w2 ∧ OwnO w2 (wa0) (wb0) (.slice wB0 ms.length wd0) (ms) ∧ OwnI w2 (wa1) (wb1) (.slice wB1 row.length wd1) (row)) := Lib.hid ⟨(H1.out.1).below (hb.mono (by omega)), (H1.out.2.1).trans (hb.mono (by omega)), ho0, ho1⟩
  clear hb H1 ho0 ho1
  go_wp2_with fail
  have hba : Below w2.heap.size w2 (w2.alloc (.cells #[.int .i64 T, .slice wB0 ms.length wd0, .slice wB1 row.length wd1] 25)) := (Below.refl _ _).alloc (Nat.le_refl _) _
  have bx := Blk.new w2 #[.int .i64 T, .slice wB0 ms.length wd0, .slice wB1 row.length wd1] 25
  refine (toI _ x0 _ (((H2.out.1).below (hba.mono (by omega))).rd (by rw [World.size_alloc]; omega)) hl0).mono ?_
  rintro e w3 ⟨ux, rfl, ho, hb⟩
  obtain ⟨xB, xd, rfl, _⟩ := ho.rd
  rw [World.size_alloc] at ho
  have hz_x : w2.heap.size + 1 ≤ w3.heap.size := by have := hb.size; rw [World.size_alloc] at this; exact this
  have hs3 : w2.heap.size + 1 ≤ w3.heap.size := by have := hb.size; rw [World.size_alloc] at this; exact this
  replace bx := bx.below hb (by rw [World.size_alloc]; omega)
  replace hb : Below w2.heap.size w2 w3 := hba.trans (hb.mono (by rw [World.size_alloc]; omega))
  clear hba
  have H3 : Hid (RdBI w3 (w0.heap.size) (.slice A0 x0.length c0) x0 ∧ Below w0.heap.size w0 w3 ∧ OwnO w3 (wa0) (wb0) (.slice wB0 ms.length wd0) (ms) ∧ OwnI w3 (wa1) (wb1) (.slice wB1 row.length wd1) (row) ∧ OwnI w3 (w2.heap.size + 1) (w3.heap.size) (.slice xB x0.length xd) (x0) ∧ Blk w3 (w2.heap.size) #[.int .i64 T, .slice wB0 ms.length wd0, .slice wB1 row.length wd1] 25) := Lib.hid ⟨(H2.out.1).below (hb.mono (by omega)), (H2.out.2.1).trans (hb.mono (by omega)), (H2.out.2.2.1).below hb, (H2.out.2.2.2).below hb, ho, bx⟩
  clear hb H2 ho bx
  obtain ⟨bw_3_0, bw_3_1, bw_3_2, _, _, _⟩ := blkThree (H3.out.2.2.2.2.2)
  have bw_3_lt := Blk.lt (H3.out.2.2.2.2.2)
  go_wp2_with fail
  refine (RegsOf_I _ x0 _ ((H3.out.2.2.2.2.1).rd) hl0 T ms row ok HR.out).mono ?_
  intro e w4 hpost
  obtain ⟨gu0, gu1, ga0, gb0, ga1, gb1, rfl, gl0, gm0, gr0, gl1, gm1, gr1, gdj, ho0, ho1, hb⟩ := hpost.out
  obtain ⟨gB0, gd0, rfl, _⟩ := ho0.rd
  obtain ⟨gB1, gd1, rfl, _⟩ := ho1.rd
  have hs4 := hb.size
  have H4 : Hid (RdBI w4 (w0.heap.size) (.slice A0 x0.length c0) x0 ∧ Below w0.heap.size w0 w4 ∧ OwnO w4 (wa0) (wb0) (.slice wB0 ms.length wd0) (ms) ∧ OwnI w4 (wa1) (wb1) (.slice wB1 row.length wd1) (row) ∧ OwnI w4 (w2.heap.size + 1) (w3.heap.size) (.slice xB x0.length xd) (x0) ∧ Blk w4 (w2.heap.size) #[.int .i64 T, .slice wB0 ms.length wd0, .slice wB1 row.length wd1] 25 ∧ OwnO w4 (ga0) (gb0) (.slice gB0 ms.length gd0) (ms) ∧ OwnI w4 (ga1) (gb1) (.slice gB1 row.length gd1) (row)) := Lib.hid ⟨(H3.out.1).below (hb.mono (by omega)), (H3.out.2.1).trans (hb.mono (by omega)), (H3.out.2.2.1).below hb, (H3.out.2.2.2.1).below hb, (H3.out.2.2.2.2.1).below hb, (H3.out.2.2.2.2.2).below hb (by omega), ho0, ho1⟩
  clear hb H3 ho0 ho1
  clear bw_3_0 bw_3_1 bw_3_2 bw_3_lt
  obtain ⟨bw_4_0, bw_4_1, bw_4_2, _, _, _⟩ := blkThree (H4.out.2.2.2.2.2.1)
  have bw_4_lt := Blk.lt (H4.out.2.2.2.2.2.1)
  go_wp2_with fail
  have hba : Below w4.heap.size w4 (w4.alloc (.cells #[.int .i64 T, .slice gB0 ms.length gd0, .slice gB1 row.length gd1] 25)) := (Below.refl _ _).alloc (Nat.le_refl _) _
  have bx := Blk.new w4 #[.int .i64 T, .slice gB0 ms.length gd0, .slice gB1 row.length gd1] 25
  refine (eqG T T _ _ _ _ ms ms row row _ (((H4.out.2.2.2.2.2.2.1).below hba).rd) (((H4.out.2.2.2.2.2.2.2).below hba).rd) (((H4.out.2.2.1).below hba).rd) (((H4.out.2.2.2.1).below hba).rd) true (by simp)).mono ?_
  rintro e w5 ⟨rfl, hb⟩
  have hs5 : w4.heap.size + 1 ≤ w5.heap.size := by have := hb.size; rw [World.size_alloc] at this; exact this
  replace bx := bx.below hb (by rw [World.size_alloc]; omega)
  replace hb : Below w4.heap.size w4 w5 := hba.trans (hb.mono (by rw [World.size_alloc]; omega))
  clear hba
  have H5 : Hid (RdBI w5 (w0.heap.size) (.slice A0 x0.length c0) x0 ∧ Below w0.heap.size w0 w5 ∧ OwnO w5 (wa0) (wb0) (.slice wB0 ms.length wd0) (ms) ∧ OwnI w5 (wa1) (wb1) (.slice wB1 row.length wd1) (row) ∧ OwnI w5 (w2.heap.size + 1) (w3.heap.size) (.slice xB x0.length xd) (x0) ∧ Blk w5 (w2.heap.size) #[.int .i64 T, .slice wB0 ms.length wd0, .slice wB1 row.length wd1] 25 ∧ OwnO w5 (ga0) (gb0) (.slice gB0 ms.length gd0) (ms) ∧ OwnI w5 (ga1) (gb1) (.slice gB1 row.length gd1) (row) ∧ Blk w5 (w4.heap.size) #[.int .i64 T, .slice gB0 ms.length gd0, .slice gB1 row.length gd1] 25) := Lib.hid ⟨(H4.out.1).below (hb.mono (by omega)), (H4.out.2.1).trans (hb.mono (by omega)), (H4.out.2.2.1).below hb, (H4.out.2.2.2.1).below hb, (H4.out.2.2.2.2.1).below hb, (H4.out.2.2.2.2.2.1).below hb (by omega), (H4.out.2.2.2.2.2.2.1).below hb, (H4.out.2.2.2.2.2.2.2).below hb, bx⟩
  clear hb H4  bx
  clear bw_4_0 bw_4_1 bw_4_2 bw_4_lt
  obtain ⟨bw_5_0, bw_5_1, bw_5_2, _, _, _⟩ := blkThree (H5.out.2.2.2.2.2.1)
  have bw_5_lt := Blk.lt (H5.out.2.2.2.2.2.1)
  obtain ⟨bg_5_0, bg_5_1, bg_5_2, _, _, _⟩ := blkThree (H5.out.2.2.2.2.2.2.2.2)
  have bg_5_lt := Blk.lt (H5.out.2.2.2.2.2.2.2.2)
  go_wp2_with fail
  refine (toI _ x0 _ ((H5.out.1).rd (by omega)) hl0).mono ?_
  rintro e w6 ⟨utt, rfl, ho, hb⟩
  obtain ⟨ttB, ttd, rfl, _⟩ := ho.rd
  have hz_tt : w5.heap.size ≤ w6.heap.size := by have := hb.size; exact this
  have hs6 := hb.size
  have H6 : Hid (RdBI w6 (w0.heap.size) (.slice A0 x0.length c0) x0 ∧ Below w0.heap.size w0 w6 ∧ OwnO w6 (wa0) (wb0) (.slice wB0 ms.length wd0) (ms) ∧ OwnI w6 (wa1) (wb1) (.slice wB1 row.length wd1) (row) ∧ OwnI w6 (w2.heap.size + 1) (w3.heap.size) (.slice xB x0.length xd) (x0) ∧ Blk w6 (w2.heap.size) #[.int .i64 T, .slice wB0 ms.length wd0, .slice wB1 row.length wd1] 25 ∧ OwnO w6 (ga0) (gb0) (.slice gB0 ms.length gd0) (ms) ∧ OwnI w6 (ga1) (gb1) (.slice gB1 row.length gd1) (row) ∧ Blk w6 (w4.heap.size) #[.int .i64 T, .slice gB0 ms.length gd0, .slice gB1 row.length gd1] 25 ∧ OwnI w6 (w5.heap.size) (w6.heap.size) (.slice ttB x0.length ttd) (x0)) := Lib.hid ⟨(H5.out.1).below (hb.mono (by omega)), (H5.out.2.1).trans (hb.mono (by omega)), (H5.out.2.2.1).below hb, (H5.out.2.2.2.1).below hb, (H5.out.2.2.2.2.1).below hb, (H5.out.2.2.2.2.2.1).below hb (by omega), (H5.out.2.2.2.2.2.2.1).below hb, (H5.out.2.2.2.2.2.2.2.1).below hb, (H5.out.2.2.2.2.2.2.2.2).below hb (by omega), ho⟩
  clear hb H5 ho
  clear bw_5_0 bw_5_1 bw_5_2 bw_5_lt bg_5_0 bg_5_1 bg_5_2 bg_5_lt
  obtain ⟨bw_6_0, bw_6_1, bw_6_2, _, _, _⟩ := blkThree (H6.out.2.2.2.2.2.1)
  have bw_6_lt := Blk.lt (H6.out.2.2.2.2.2.1)
  obtain ⟨bg_6_0, bg_6_1, bg_6_2, _, _, _⟩ := blkThree (H6.out.2.2.2.2.2.2.2.2.1)
  have bg_6_lt := Blk.lt (H6.out.2.2.2.2.2.2.2.2.1)
  go_wp2_with fail
  refine (eqI _ _ x0 x0 _ ((H6.out.2.2.2.2.1).rd) ((H6.out.2.2.2.2.2.2.2.2.2).rd) true (by simp)).mono ?_
  rintro e w7 ⟨rfl, hb⟩
  have hs7 := hb.size
  have H7 : Hid (RdBI w7 (w0.heap.size) (.slice A0 x0.length c0) x0 ∧ Below w0.heap.size w0 w7 ∧ OwnO w7 (wa0) (wb0) (.slice wB0 ms.length wd0) (ms) ∧ OwnI w7 (wa1) (wb1) (.slice wB1 row.length wd1) (row) ∧ OwnI w7 (w2.heap.size + 1) (w3.heap.size) (.slice xB x0.length xd) (x0) ∧ Blk w7 (w2.heap.size) #[.int .i64 T, .slice wB0 ms.length wd0, .slice wB1 row.length wd1] 25 ∧ OwnO w7 (ga0) (gb0) (.slice gB0 ms.length gd0) (ms) ∧ OwnI w7 (ga1) (gb1) (.slice gB1 row.length gd1) (row) ∧ Blk w7 (w4.heap.size) #[.int .i64 T, .slice gB0 ms.length gd0, .slice gB1 row.length gd1] 25) := Lib.hid ⟨(H6.out.1).below (hb.mono (by omega)), (H6.out.2.1).trans (hb.mono (by omega)), (H6.out.2.2.1).below hb, (H6.out.2.2.2.1).below hb, (H6.out.2.2.2.2.1).below hb, (H6.out.2.2.2.2.2.1).below hb (by omega), (H6.out.2.2.2.2.2.2.1).below hb, (H6.out.2.2.2.2.2.2.2.1).below hb, (H6.out.2.2.2.2.2.2.2.2.1).below hb (by omega)⟩
  clear hb H6 
  clear bw_6_0 bw_6_1 bw_6_2 bw_6_lt bg_6_0 bg_6_1 bg_6_2 bg_6_lt
  obtain ⟨bw_7_0, bw_7_1, bw_7_2, _, _, _⟩ := blkThree (H7.out.2.2.2.2.2.1)
  have bw_7_lt := Blk.lt (H7.out.2.2.2.2.2.1)
  obtain ⟨bg_7_0, bg_7_1, bg_7_2, _, _, _⟩ := blkThree (H7.out.2.2.2.2.2.2.2.2)
  have bg_7_lt := Blk.lt (H7.out.2.2.2.2.2.2.2.2)
  go_wp2_with fail
  refine (markI _ x0 1 _ _ _ (by omega) (by unfold szI; omega) (H7.out.2.2.2.2.1)).mono ?_
  rintro e w8 ⟨rfl, ho, hb⟩
  have hs8 := hb.size
  have H8 : Hid (RdBI w8 (w0.heap.size) (.slice A0 x0.length c0) x0 ∧ Below w0.heap.size w0 w8 ∧ OwnO w8 (wa0) (wb0) (.slice wB0 ms.length wd0) (ms) ∧ OwnI w8 (wa1) (wb1) (.slice wB1 row.length wd1) (row) ∧ Blk w8 (w2.heap.size) #[.int .i64 T, .slice wB0 ms.length wd0, .slice wB1 row.length wd1] 25 ∧ OwnO w8 (ga0) (gb0) (.slice gB0 ms.length gd0) (ms) ∧ OwnI w8 (ga1) (gb1) (.slice gB1 row.length gd1) (row) ∧ Blk w8 (w4.heap.size) #[.int .i64 T, .slice gB0 ms.length gd0, .slice gB1 row.length gd1] 25) := Lib.hid ⟨(H7.out.1).below (hb.below (by omega) (by omega)), (H7.out.2.1).trans (hb.below (by omega) (by omega)), (H7.out.2.2.1).apart hb (by omega), (H7.out.2.2.2.1).apart hb (by omega), (show Blk w8 (w2.heap.size) _ _ from (hb.block _ (by omega) (by omega)).trans (H7.out.2.2.2.2.2.1)), (H7.out.2.2.2.2.2.2.1).apart hb (by omega), (H7.out.2.2.2.2.2.2.2.1).apart hb (by omega), (show Blk w8 (w4.heap.size) _ _ from (hb.block _ (by omega) (by omega)).trans (H7.out.2.2.2.2.2.2.2.2))⟩
  clear hb H7 ho
  clear bw_7_0 bw_7_1 bw_7_2 bw_7_lt bg_7_0 bg_7_1 bg_7_2 bg_7_lt
  obtain ⟨bw_8_0, bw_8_1, bw_8_2, _, _, _⟩ := blkThree (H8.out.2.2.2.2.1)
  have bw_8_lt := Blk.lt (H8.out.2.2.2.2.1)
  obtain ⟨bg_8_0, bg_8_1, bg_8_2, _, _, _⟩ := blkThree (H8.out.2.2.2.2.2.2.2)
  have bg_8_lt := Blk.lt (H8.out.2.2.2.2.2.2.2)
  go_wp2_with fail
  refine (eqG T T _ _ _ _ ms ms row row _ ((H8.out.2.2.2.2.2.1).rd) ((H8.out.2.2.2.2.2.2.1).rd) ((H8.out.2.2.1).rd) ((H8.out.2.2.2.1).rd) true (by simp)).mono ?_
  rintro e w9 ⟨rfl, hb⟩
  have hs9 := hb.size
  have H9 : Hid (RdBI w9 (w0.heap.size) (.slice A0 x0.length c0) x0 ∧ Below w0.heap.size w0 w9 ∧ OwnO w9 (wa0) (wb0) (.slice wB0 ms.length wd0) (ms) ∧ OwnI w9 (wa1) (wb1) (.slice wB1 row.length wd1) (row) ∧ Blk w9 (w2.heap.size) #[.int .i64 T, .slice wB0 ms.length wd0, .slice wB1 row.length wd1] 25 ∧ OwnO w9 (ga0) (gb0) (.slice gB0 ms.length gd0) (ms) ∧ OwnI w9 (ga1) (gb1) (.slice gB1 row.length gd1) (row) ∧ Blk w9 (w4.heap.size) #[.int .i64 T, .slice gB0 ms.length gd0, .slice gB1 row.length gd1] 25) := Lib.hid ⟨(H8.out.1).below (hb.mono (by omega)), (H8.out.2.1).trans (hb.mono (by omega)), (H8.out.2.2.1).below hb, (H8.out.2.2.2.1).below hb, (H8.out.2.2.2.2.1).below hb (by omega), (H8.out.2.2.2.2.2.1).below hb, (H8.out.2.2.2.2.2.2.1).below hb, (H8.out.2.2.2.2.2.2.2).below hb (by omega)⟩
  clear hb H8 
  clear bw_8_0 bw_8_1 bw_8_2 bw_8_lt bg_8_0 bg_8_1 bg_8_2 bg_8_lt
  obtain ⟨bw_9_0, bw_9_1, bw_9_2, _, _, _⟩ := blkThree (H9.out.2.2.2.2.1)
  have bw_9_lt := Blk.lt (H9.out.2.2.2.2.1)
  obtain ⟨bg_9_0, bg_9_1, bg_9_2, _, _, _⟩ := blkThree (H9.out.2.2.2.2.2.2.2)
  have bg_9_lt := Blk.lt (H9.out.2.2.2.2.2.2.2)
  go_wp2_with fail
  refine (markG9 T _ _ ms row (min ga0 ga1) (max gb0 gb1) _ _ _ _ _ (by unfold sz3; omega) (by omega) (H9.out.2.2.2.2.2.1) (H9.out.2.2.2.2.2.2.1) gdj (by omega) (by omega) (by omega) (by omega) (by omega)).mono ?_
  rintro e w10 ⟨rfl, ho0, ho1, hb⟩
  have hs10 := hb.size
  have H10 : Hid (RdBI w10 (w0.heap.size) (.slice A0 x0.length c0) x0 ∧ Below w0.heap.size w0 w10 ∧ OwnO w10 (wa0) (wb0) (.slice wB0 ms.length wd0) (ms) ∧ OwnI w10 (wa1) (wb1) (.slice wB1 row.length wd1) (row) ∧ Blk w10 (w2.heap.size) #[.int .i64 T, .slice wB0 ms.length wd0, .slice wB1 row.length wd1] 25 ∧ OwnO w10 (ga0) (gb0) (.slice gB0 ms.length gd0) (mk3 1 ms) ∧ OwnI w10 (ga1) (gb1) (.slice gB1 row.length gd1) (mkI (1 + (sz3 ms : Int)) row) ∧ Blk w10 (w4.heap.size) #[.int .i64 T, .slice gB0 ms.length gd0, .slice gB1 row.length gd1] 25) := Lib.hid ⟨(H9.out.1).below (hb.below (by omega) (by omega)), (H9.out.2.1).trans (hb.below (by omega) (by omega)), (H9.out.2.2.1).apart hb (by omega), (H9.out.2.2.2.1).apart hb (by omega), (show Blk w10 (w2.heap.size) _ _ from (hb.block _ (by omega) (by omega)).trans (H9.out.2.2.2.2.1)), ho0, ho1, (show Blk w10 (w4.heap.size) _ _ from (hb.block _ (by omega) (by omega)).trans (H9.out.2.2.2.2.2.2.2))⟩
  clear hb H9 ho0 ho1
  clear bw_9_0 bw_9_1 bw_9_2 bw_9_lt bg_9_0 bg_9_1 bg_9_2 bg_9_lt
  obtain ⟨bw_10_0, bw_10_1, bw_10_2, _, _, _⟩ := blkThree (H10.out.2.2.2.2.1)
  have bw_10_lt := Blk.lt (H10.out.2.2.2.2.1)
  obtain ⟨bg_10_0, bg_10_1, bg_10_2, _, _, _⟩ := blkThree (H10.out.2.2.2.2.2.2.2)
  have bg_10_lt := Blk.lt (H10.out.2.2.2.2.2.2.2)
  go_wp2_with fail
  refine (heldG9 T _ _ ms row _ (by unfold sz3; omega) (by omega) ((H10.out.2.2.2.2.2.1).rd) ((H10.out.2.2.2.2.2.2.1).rd)).mono ?_
  rintro e w11 ⟨rfl, hb⟩
  have hs11 := hb.size
  have H11 : Hid (RdBI w11 (w0.heap.size) (.slice A0 x0.length c0) x0 ∧ Below w0.heap.size w0 w11 ∧ OwnO w11 (wa0) (wb0) (.slice wB0 ms.length wd0) (ms) ∧ OwnI w11 (wa1) (wb1) (.slice wB1 row.length wd1) (row) ∧ Blk w11 (w2.heap.size) #[.int .i64 T, .slice wB0 ms.length wd0, .slice wB1 row.length wd1] 25 ∧ OwnO w11 (ga0) (gb0) (.slice gB0 ms.length gd0) (mk3 1 ms) ∧ OwnI w11 (ga1) (gb1) (.slice gB1 row.length gd1) (mkI (1 + (sz3 ms : Int)) row) ∧ Blk w11 (w4.heap.size) #[.int .i64 T, .slice gB0 ms.length gd0, .slice gB1 row.length gd1] 25) := Lib.hid ⟨(H10.out.1).below (hb.mono (by omega)), (H10.out.2.1).trans (hb.mono (by omega)), (H10.out.2.2.1).below hb, (H10.out.2.2.2.1).below hb, (H10.out.2.2.2.2.1).below hb (by omega), (H10.out.2.2.2.2.2.1).below hb, (H10.out.2.2.2.2.2.2.1).below hb, (H10.out.2.2.2.2.2.2.2).below hb (by omega)⟩
  clear hb H10 
  clear bw_10_0 bw_10_1 bw_10_2 bw_10_lt bg_10_0 bg_10_1 bg_10_2 bg_10_lt
  obtain ⟨bw_11_0, bw_11_1, bw_11_2, _, _, _⟩ := blkThree (H11.out.2.2.2.2.1)
  have bw_11_lt := Blk.lt (H11.out.2.2.2.2.1)
  obtain ⟨bg_11_0, bg_11_1, bg_11_2, _, _, _⟩ := blkThree (H11.out.2.2.2.2.2.2.2)
  have bg_11_lt := Blk.lt (H11.out.2.2.2.2.2.2.2)
  go_wp2_with fail
  refine (toI _ x0 _ ((H11.out.1).rd (by omega)) hl0).mono ?_
  rintro e w12 ⟨uz, rfl, ho, hb⟩
  obtain ⟨zB, zd, rfl, _⟩ := ho.rd
  have hz_z : w11.heap.size ≤ w12.heap.size := by have := hb.size; exact this
  have hs12 := hb.size
  have H12 : Hid (RdBI w12 (w0.heap.size) (.slice A0 x0.length c0) x0 ∧ Below w0.heap.size w0 w12 ∧ OwnO w12 (wa0) (wb0) (.slice wB0 ms.length wd0) (ms) ∧ OwnI w12 (wa1) (wb1) (.slice wB1 row.length wd1) (row) ∧ Blk w12 (w2.heap.size) #[.int .i64 T, .slice wB0 ms.length wd0, .slice wB1 row.length wd1] 25 ∧ OwnO w12 (ga0) (gb0) (.slice gB0 ms.length gd0) (mk3 1 ms) ∧ OwnI w12 (ga1) (gb1) (.slice gB1 row.length gd1) (mkI (1 + (sz3 ms : Int)) row) ∧ Blk w12 (w4.heap.size) #[.int .i64 T, .slice gB0 ms.length gd0, .slice gB1 row.length gd1] 25 ∧ OwnI w12 (w11.heap.size) (w12.heap.size) (.slice zB x0.length zd) (x0)) := Lib.hid ⟨(H11.out.1).below (hb.mono (by omega)), (H11.out.2.1).trans (hb.mono (by omega)), (H11.out.2.2.1).below hb, (H11.out.2.2.2.1).below hb, (H11.out.2.2.2.2.1).below hb (by omega), (H11.out.2.2.2.2.2.1).below hb, (H11.out.2.2.2.2.2.2.1).below hb, (H11.out.2.2.2.2.2.2.2).below hb (by omega), ho⟩
  clear hb H11 ho
  clear bw_11_0 bw_11_1 bw_11_2 bw_11_lt bg_11_0 bg_11_1 bg_11_2 bg_11_lt
  obtain ⟨bw_12_0, bw_12_1, bw_12_2, _, _, _⟩ := blkThree (H12.out.2.2.2.2.1)
  have bw_12_lt := Blk.lt (H12.out.2.2.2.2.1)
  obtain ⟨bg_12_0, bg_12_1, bg_12_2, _, _, _⟩ := blkThree (H12.out.2.2.2.2.2.2.2.1)
  have bg_12_lt := Blk.lt (H12.out.2.2.2.2.2.2.2.1)
  go_wp2_with fail
  refine (RegsOf_I _ x0 _ ((H12.out.2.2.2.2.2.2.2.2).rd) hl0 T ms row ok HR.out).mono ?_
  intro e w13 hpost
  obtain ⟨hu0, hu1, ha0, hb0, ha1, hb1, rfl, hl0, hm0, hr0, hl1, hm1, hr1, hdj, ho0, ho1, hb⟩ := hpost.out
  obtain ⟨hB0, hd0, rfl, _⟩ := ho0.rd
  obtain ⟨hB1, hd1, rfl, _⟩ := ho1.rd
  have hs13 := hb.size
  have H13 : Hid (RdBI w13 (w0.heap.size) (.slice A0 x0.length c0) x0 ∧ Below w0.heap.size w0 w13 ∧ OwnO w13 (wa0) (wb0) (.slice wB0 ms.length wd0) (ms) ∧ OwnI w13 (wa1) (wb1) (.slice wB1 row.length wd1) (row) ∧ Blk w13 (w2.heap.size) #[.int .i64 T, .slice wB0 ms.length wd0, .slice wB1 row.length wd1] 25 ∧ OwnO w13 (ga0) (gb0) (.slice gB0 ms.length gd0) (mk3 1 ms) ∧ OwnI w13 (ga1) (gb1) (.slice gB1 row.length gd1) (mkI (1 + (sz3 ms : Int)) row) ∧ Blk w13 (w4.heap.size) #[.int .i64 T, .slice gB0 ms.length gd0, .slice gB1 row.length gd1] 25 ∧ OwnO w13 (ha0) (hb0) (.slice hB0 ms.length hd0) (ms) ∧ OwnI w13 (ha1) (hb1) (.slice hB1 row.length hd1) (row)) := Lib.hid ⟨(H12.out.1).below (hb.mono (by omega)), (H12.out.2.1).trans (hb.mono (by omega)), (H12.out.2.2.1).below hb, (H12.out.2.2.2.1).below hb, (H12.out.2.2.2.2.1).below hb (by omega), (H12.out.2.2.2.2.2.1).below hb, (H12.out.2.2.2.2.2.2.1).below hb, (H12.out.2.2.2.2.2.2.2.1).below hb (by omega), ho0, ho1⟩
  clear hb H12 ho0 ho1
  clear bw_12_0 bw_12_1 bw_12_2 bw_12_lt bg_12_0 bg_12_1 bg_12_2 bg_12_lt
  obtain ⟨bw_13_0, bw_13_1, bw_13_2, _, _, _⟩ := blkThree (H13.out.2.2.2.2.1)
  have bw_13_lt := Blk.lt (H13.out.2.2.2.2.1)
  obtain ⟨bg_13_0, bg_13_1, bg_13_2, _, _, _⟩ := blkThree (H13.out.2.2.2.2.2.2.2.1)
  have bg_13_lt := Blk.lt (H13.out.2.2.2.2.2.2.2.1)
  go_wp2_with fail
  have hba : Below w13.heap.size w13 (w13.alloc (.cells #[.int .i64 T, .slice hB0 ms.length hd0, .slice hB1 row.length hd1] 25)) := (Below.refl _ _).alloc (Nat.le_refl _) _
  have bx := Blk.new w13 #[.int .i64 T, .slice hB0 ms.length hd0, .slice hB1 row.length hd1] 25
  refine (eqG T T _ _ _ _ ms ms row row _ (((H13.out.2.2.2.2.2.2.2.2.1).below hba).rd) (((H13.out.2.2.2.2.2.2.2.2.2).below hba).rd) (((H13.out.2.2.1).below hba).rd) (((H13.out.2.2.2.1).below hba).rd) true (by simp)).mono ?_
  rintro e w14 ⟨rfl, hb⟩
  have hs14 : w13.heap.size + 1 ≤ w14.heap.size := by have := hb.size; rw [World.size_alloc] at this; exact this
  replace bx := bx.below hb (by rw [World.size_alloc]; omega)
  replace hb : Below w13.heap.size w13 w14 := hba.trans (hb.mono (by rw [World.size_alloc]; omega))
  clear hba
  have H14 : Hid (RdBI w14 (w0.heap.size) (.slice A0 x0.length c0) x0 ∧ Below w0.heap.size w0 w14 ∧ OwnO w14 (wa0) (wb0) (.slice wB0 ms.length wd0) (ms) ∧ OwnI w14 (wa1) (wb1) (.slice wB1 row.length wd1) (row) ∧ Blk w14 (w2.heap.size) #[.int .i64 T, .slice wB0 ms.length wd0, .slice wB1 row.length wd1] 25 ∧ OwnO w14 (ga0) (gb0) (.slice gB0 ms.length gd0) (mk3 1 ms) ∧ OwnI w14 (ga1) (gb1) (.slice gB1 row.length gd1) (mkI (1 + (sz3 ms : Int)) row) ∧ Blk w14 (w4.heap.size) #[.int .i64 T, .slice gB0 ms.length gd0, .slice gB1 row.length gd1] 25 ∧ OwnO w14 (ha0) (hb0) (.slice hB0 ms.length hd0) (ms) ∧ OwnI w14 (ha1) (hb1) (.slice hB1 row.length hd1) (row) ∧ Blk w14 (w13.heap.size) #[.int .i64 T, .slice hB0 ms.length hd0, .slice hB1 row.length hd1] 25) := Lib.hid ⟨(H13.out.1).below (hb.mono (by omega)), (H13.out.2.1).trans (hb.mono (by omega)), (H13.out.2.2.1).below hb, (H13.out.2.2.2.1).below hb, (H13.out.2.2.2.2.1).below hb (by omega), (H13.out.2.2.2.2.2.1).below hb, (H13.out.2.2.2.2.2.2.1).below hb, (H13.out.2.2.2.2.2.2.2.1).below hb (by omega), (H13.out.2.2.2.2.2.2.2.2.1).below hb, (H13.out.2.2.2.2.2.2.2.2.2).below hb, bx⟩
  clear hb H13  bx
  clear bw_13_0 bw_13_1 bw_13_2 bw_13_lt bg_13_0 bg_13_1 bg_13_2 bg_13_lt
  obtain ⟨bw_14_0, bw_14_1, bw_14_2, _, _, _⟩ := blkThree (H14.out.2.2.2.2.1)
  have bw_14_lt := Blk.lt (H14.out.2.2.2.2.1)
  obtain ⟨bg_14_0, bg_14_1, bg_14_2, _, _, _⟩ := blkThree (H14.out.2.2.2.2.2.2.2.1)
  have bg_14_lt := Blk.lt (H14.out.2.2.2.2.2.2.2.1)
  obtain ⟨bh_14_0, bh_14_1, bh_14_2, _, _, _⟩ := blkThree (H14.out.2.2.2.2.2.2.2.2.2.2)
  have bh_14_lt := Blk.lt (H14.out.2.2.2.2.2.2.2.2.2.2)
  go_wp2_with fail
  refine (heldG9 T _ _ ms row _ (by unfold sz3; omega) (by omega) ((H14.out.2.2.2.2.2.1).rd) ((H14.out.2.2.2.2.2.2.1).rd)).mono ?_
  rintro e w15 ⟨rfl, hb⟩
  have hs15 := hb.size
  have H15 : Hid (RdBI w15 (w0.heap.size) (.slice A0 x0.length c0) x0 ∧ Below w0.heap.size w0 w15 ∧ OwnO w15 (wa0) (wb0) (.slice wB0 ms.length wd0) (ms) ∧ OwnI w15 (wa1) (wb1) (.slice wB1 row.length wd1) (row) ∧ Blk w15 (w2.heap.size) #[.int .i64 T, .slice wB0 ms.length wd0, .slice wB1 row.length wd1] 25 ∧ OwnO w15 (ga0) (gb0) (.slice gB0 ms.length gd0) (mk3 1 ms) ∧ OwnI w15 (ga1) (gb1) (.slice gB1 row.length gd1) (mkI (1 + (sz3 ms : Int)) row) ∧ Blk w15 (w4.heap.size) #[.int .i64 T, .slice gB0 ms.length gd0, .slice gB1 row.length gd1] 25 ∧ OwnO w15 (ha0) (hb0) (.slice hB0 ms.length hd0) (ms) ∧ OwnI w15 (ha1) (hb1) (.slice hB1 row.length hd1) (row) ∧ Blk w15 (w13.heap.size) #[.int .i64 T, .slice hB0 ms.length hd0, .slice hB1 row.length hd1] 25) := Lib.hid ⟨(H14.out.1).below (hb.mono (by omega)), (H14.out.2.1).trans (hb.mono (by omega)), (H14.out.2.2.1).below hb, (H14.out.2.2.2.1).below hb, (H14.out.2.2.2.2.1).below hb (by omega), (H14.out.2.2.2.2.2.1).below hb, (H14.out.2.2.2.2.2.2.1).below hb, (H14.out.2.2.2.2.2.2.2.1).below hb (by omega), (H14.out.2.2.2.2.2.2.2.2.1).below hb, (H14.out.2.2.2.2.2.2.2.2.2.1).below hb, (H14.out.2.2.2.2.2.2.2.2.2.2).below hb (by omega)⟩
  clear hb H14 
  clear bw_14_0 bw_14_1 bw_14_2 bw_14_lt bg_14_0 bg_14_1 bg_14_2 bg_14_lt bh_14_0 bh_14_1 bh_14_2 bh_14_lt
  obtain ⟨bw_15_0, bw_15_1, bw_15_2, _, _, _⟩ := blkThree (H15.out.2.2.2.2.1)
  have bw_15_lt := Blk.lt (H15.out.2.2.2.2.1)
  obtain ⟨bg_15_0, bg_15_1, bg_15_2, _, _, _⟩ := blkThree (H15.out.2.2.2.2.2.2.2.1)
  have bg_15_lt := Blk.lt (H15.out.2.2.2.2.2.2.2.1)
  obtain ⟨bh_15_0, bh_15_1, bh_15_2, _, _, _⟩ := blkThree (H15.out.2.2.2.2.2.2.2.2.2.2)
  have bh_15_lt := Blk.lt (H15.out.2.2.2.2.2.2.2.2.2.2)
  go_wp2
  go_ret
  exact ⟨rfl, H15.out.2.1⟩
theorem exRegsOf_walk : LawWalk 3 Try.f3 := by
  intro H enc W base args ds ps hval hA
  rw [Try.params3] at hA hval
  obtain ⟨v0, d0, rfl, rfl, h0⟩ := trodAll_one hA
  obtain ⟨A0, c0, zs0, rfl, hi0, hc0⟩ := ints_of_trod Try.underlying22 Try.underlying3 cells_int (hval 0 _ _ rfl rfl) h0
  exact exRegsOf_any A0 c0 zs0 W (RdI.mk hi0 hc0)

set_option maxRecDepth 100000 in
theorem exRegsOf_lifted (os : Os) (started : os.Started) (H : Type) (enc : TypeId × Value → H) :
    ReturnsInHanded {} Try.checked os 3 .any (Rows.fnExactRegsOfSpec.pre6 enc Try.prog Try.f3 Rows.fnExactRegsOfRow.domain false) (Rows.fnExactRegsOfSpec.post enc Try.prog Try.f3 false true false false) := by
  refine returnsInHanded_of_change (C := Try.checked) own started (by kernel_rfl) Try.func3
    (ChangeSpec.witness6 (enc := enc) (C := Try.checked) false ⟨#[], #[.slice none 0 0], []⟩ 8 (by kernel_rfl) (by kernel_rfl) (by kernel_rfl) (by kernel_rfl)) ?_
  intro W base args ds gs before hval hW _ _
  exact law_contract laidOut rfl (by kernel_rfl) rfl (fun H ds hd => by
    match ds, hd with
    | [d0], _ => exact ⟨rfl, rfl, rfl⟩) exRegsOf_walk W base args ds gs before hval hW

/-- FnExactRegsOf: the row as it is given. -/
theorem exRegsOf_holds : Rows.FnExactRegsOfSaid :=
  OpenClaim.holds_of_wide 3 Try.f3 rfl rfl rfl rfl rfl rfl rfl ⟨rfl, rfl, rfl, rfl, rfl⟩ rfl rfl rfl rfl rfl (by kernel_rfl) Try.func3 (by unfold joinedFacts; rw [pf_enter, pf_lifts, pf_make]; kernel_rfl)
    (of_decide_eq_true (by kernel_rfl)) (by unfold Func.isWrapper; first | (rw [if_pos (by decide +kernel)]; kernel_rfl) | (rw [if_neg (by decide +kernel)]; exact ⟨rfl, rfl⟩))
    (fun os started H enc _ => exRegsOf_lifted os started H enc)

end Go.Proofs.Ytkiedpdhehehfaa
