/- BenchDo answers at all arguments as its model, writes into no argument, and its answer owns its memory. For every input; the listed variables hold what the program's text lays. -/
import Derived.Test.YtniolhdninpmmaaGreatDoorBn
import Derived.Test.YtniolhdninpmmaaGreatDoorNl
import Derived.Test.YtniolhdninpmmaaGreatDoorBb
import Derived.Test.YtniolhdninpmmaaGreatDoorF1
import Derived.Test.YtniolhdninpmmaaGreatDoorF2
import Derived.Test.YtniolhdninpmmaaGreatDoorF3
import Derived.Deep.RegionWith
import Derived.Deep.RegionHeld3
import Derived.Deep.DeepCutAuto
import Derived.Test.YtniolhdninpmmaaGreatDoorTie
import Derived.Test.YtniolhdninpmmaaGreatDoorCards
import Derived.SevenTiedAt
namespace Go.Proofs.YtniolhdninpmmaaGreatDoor
set_option maxRecDepth 100000
open Go.RowKit Go.WideShapes Go.ChangeShapes Go.Deep Go.Joins

set_option maxHeartbeats 8000000 in
theorem exBenchDo_any (A0 : Option Addr) (c0 : Nat) (r : List Int) (A1 : Option Addr) (c1 : Nat) (s : List (List UInt8)) (k : Int) (S : ByteArray) (w0 : World) (h0 : RdI w0 (.slice A0 r.length c0) r) (h1 : RdT w0 (.slice A1 s.length c1) s) (hz : ∀ t ∈ s, t.length ≤ 9223372036854775807) (hS : S.size ≤ maxLen) (ht : StrTab w0 0 opNames) (hp : Pow w0) :
    Calls Tryz.prog 3 #[.agg #[.slice A0 r.length c0, .slice A1 s.length c1], .agg #[.int .i64 k, .string S]] w0 fun e w' => e = .returned (.bool true) ∧ Below w0.heap.size w0 w' := by
  have HT : Hid (Tabs w0) := Lib.hid ⟨ht, hp⟩; clear ht hp
  have HZ9 := Lib.hid hz; clear hz
  obtain ⟨w1, hw1⟩ : ∃ w1, ((w0.alloc (.cells #[.slice A0 r.length c0, .slice A1 s.length c1] 25)).alloc (.cells #[.int .i64 k, .string S] 27)) = w1 := ⟨_, rfl⟩
  have hb0 : Below w0.heap.size w0 w1 := by rw [← hw1]; exact ((Below.refl _ _).alloc (Nat.le_refl _) _).alloc (by simp) _
  have hs1 : w1.heap.size = w0.heap.size + 2 := by rw [← hw1]; simp
  have hbA : Blk w1 w0.heap.size #[.slice A0 r.length c0, .slice A1 s.length c1] 25 := by rw [← hw1]; exact (Blk.new w0 _ _).keepH
  have hbD : Blk w1 (w0.heap.size + 1) #[.int .i64 k, .string S] 27 := by
    have h3 := Blk.new (w0.alloc (.cells #[.slice A0 r.length c0, .slice A1 s.length c1] 25)) #[.int .i64 k, .string S] 27
    rw [World.size_alloc] at h3
    rw [← hw1]; exact h3
  have H1 : Hid (Below w0.heap.size w0 w1 ∧ RdBI w1 w0.heap.size (.slice A0 r.length c0) r ∧ RdBT w1 w0.heap.size (.slice A1 s.length c1) s ∧ Blk w1 (w0.heap.size) #[.slice A0 r.length c0, .slice A1 s.length c1] 25 ∧ Blk w1 (w0.heap.size + 1) #[.int .i64 k, .string S] 27) := Lib.hid ⟨hb0, RdBI.below (RdI.at_ h0) hb0, RdBT.below (h1 : RdBT w0 w0.heap.size _ s) hb0, hbA, hbD⟩
  clear h0 h1 hb0 hbA hbD
  by_cases hq : leftB 1048576 r s < 0
  case pos =>
    obtain ⟨qa0, qa1, _, _⟩ := blk_pair (H1.out.2.2.2.1)
    go_enter Tryz.func3, Tryz.ntmps3
    go_wp2_with fail
    try rw [hw1]
    refine (szB_any _ _ r s _ ((H1.out.2.1).rd (by omega)) (RdBT.mono (H1.out.2.2.1) (by omega)) HZ9.out).mono ?_
    rintro e w2 ⟨rfl, hb⟩
    have X := Lib.hid ((H1.out.1).trans (hb.mono (by first | omega | exact Nat.le_refl _ | (simp; done) | (simp; omega)))); clear hb
    go_wp2
    go_ret
    exact ⟨rfl, X.out⟩
  have hqb : 0 ≤ leftB 1048576 r s ∧ leftB 1048576 r s ≤ 1048576 := ⟨by omega, leftB_le r s⟩
  obtain ⟨hl, hn, hn2⟩ := leftB_ok hq
  have HN2 := Lib.hid (show ∀ t ∈ s, t.length ≤ 100000000 from fun t ht => by have := hn2 t ht; omega); clear hn2
  obtain ⟨lq, HLQ⟩ : ∃ lq, Hid (leftB 1048576 r s = lq) := ⟨_, Lib.hid rfl⟩
  rw [HLQ.out] at hq hqb
  by_cases hq2 : lq - (S.size : Int) < 0
  case pos =>
    obtain ⟨qa0, qa1, _, _⟩ := blk_pair (H1.out.2.2.2.1)
    obtain ⟨qd0, qd1, _, _⟩ := blk_pair (H1.out.2.2.2.2)
    go_enter Tryz.func3, Tryz.ntmps3
    go_wp2_with fail
    try rw [hw1]
    refine (szB_any _ _ r s _ ((H1.out.2.1).rd (by omega)) (RdBT.mono (H1.out.2.2.1) (by omega)) HZ9.out).mono ?_
    rintro e w2 ⟨rfl, hb⟩
    rw [HLQ.out]
    have hsz2 := hb.size
    obtain ⟨qe0, qe1, _, _⟩ := blk_pair ((H1.out.2.2.2.2).below hb (by omega))
    go_wp2_with fail
    refine (szDn_any lq k S _ (by unfold maxLen at hS; omega) hqb).mono ?_
    rw [if_pos hq2]
    rintro e w3 ⟨rfl, hb2⟩
    have X := Lib.hid (((H1.out.1).trans (hb.mono (by first | omega | exact Nat.le_refl _ | (simp; done) | (simp; omega)))).trans (hb2.mono (by first | omega | exact Nat.le_refl _ | (simp; done) | (simp; omega)))); clear hb hb2
    go_wp2
    go_ret
    exact ⟨rfl, X.out⟩
  have hS2 : S.size ≤ 100000000 := by omega
  obtain ⟨n9, p9, ok, hR⟩ : ∃ n9 p9 ok, benchDoR r s k (bytesOf S) = ((n9, p9), ok) := ⟨_, _, _, rfl⟩
  have hy := benchDoR_len hR
  have hbb : (ok != ok) = false := by simp
  obtain ⟨hy0, hy1, _⟩ := hy
  have HR := Lib.hid hR; clear hR
  have hk1 : ¬ (((1 + r.length + s.length : Nat) : Int)) < 0 := by omega
  have hkm : ¬ (((1 + n9.length + p9.length : Nat) : Int)) < 0 := by omega
  have hke : ((((1 + n9.length + p9.length : Nat) : Int)) != (((1 + n9.length + p9.length : Nat) : Int))) = false := by simp
  have HSS : Hid (∀ (v0 v1 : Value) (Y : World), RdI Y v0 r → RdT Y v1 s → Calls Tryz.prog 9 #[.agg #[v0, v1], .agg #[.int .i64 k, .string S]] Y (BdPost Y (n9, p9) (.bool ok))) := Lib.hid fun v0 v1 Y h0 h1 => by
    have h := BenchDo_S v0 v1 r s k S Y h0 h1 hl hn HN2.out hS2
    rw [HR.out] at h
    exact h
  have HSI : Hid (∀ (v0 v1 : Value) (Y : World), RdI Y v0 r → RdT Y v1 s → Tabs Y → Calls Tryz.prog 12 #[.agg #[v0, v1], .agg #[.int .i64 k, .string S]] Y (BdPost Y (n9, p9) (.bool ok))) := Lib.hid fun v0 v1 Y h0 h1 ht => by
    have h := BenchDo_I v0 v1 r s k S Y h0 h1 hl hn HN2.out hS2 ht
    rw [HR.out] at h
    exact h
  obtain ⟨A_1_0, A_1_1, _, _⟩ := blk_pair (H1.out.2.2.2.1)
  have A_1_lt := Blk.lt (H1.out.2.2.2.1)
  obtain ⟨D_1_0, D_1_1, _, _⟩ := blk_pair (H1.out.2.2.2.2)
  have D_1_lt := Blk.lt (H1.out.2.2.2.2)
  go_enter Tryz.func3, Tryz.ntmps3
  go_wp2_with fail
  try rw [hw1]
  refine (szB_any _ _ r s _ ((H1.out.2.1).rd (by omega)) (RdBT.mono (H1.out.2.2.1) (by omega)) HZ9.out).mono ?_
  rintro e w2 ⟨rfl, hb⟩
  rw [HLQ.out]
  have hs2 := hb.size
  have H2 : Hid (Below w0.heap.size w0 w2 ∧ RdBI w2 w0.heap.size (.slice A0 r.length c0) r ∧ RdBT w2 w0.heap.size (.slice A1 s.length c1) s ∧ Blk w2 (w0.heap.size) #[.slice A0 r.length c0, .slice A1 s.length c1] 25 ∧ Blk w2 (w0.heap.size + 1) #[.int .i64 k, .string S] 27) := Lib.hid ⟨(H1.out.1).trans ((hb).mono (by first | omega | exact Nat.le_refl _ | (simp; done) | (simp; omega))), (H1.out.2.1).below ((hb).mono (by first | omega | exact Nat.le_refl _ | (simp; done) | (simp; omega))), RdBT.below (H1.out.2.2.1) ((hb).mono (by first | omega | exact Nat.le_refl _ | (simp; done) | (simp; omega))), (H1.out.2.2.2.1).below hb (by first | omega | exact Nat.le_refl _ | (simp; done) | (simp; omega)), (H1.out.2.2.2.2).below hb (by first | omega | exact Nat.le_refl _ | (simp; done) | (simp; omega))⟩
  clear hb H1 
  clear A_1_0 A_1_1 A_1_lt D_1_0 D_1_1 D_1_lt
  obtain ⟨A_2_0, A_2_1, _, _⟩ := blk_pair (H2.out.2.2.2.1)
  have A_2_lt := Blk.lt (H2.out.2.2.2.1)
  obtain ⟨D_2_0, D_2_1, _, _⟩ := blk_pair (H2.out.2.2.2.2)
  have D_2_lt := Blk.lt (H2.out.2.2.2.2)
  go_wp2_with fail
  refine (szDn_any lq k S _ (by unfold maxLen at hS; omega) hqb).mono ?_
  rw [if_neg (show ¬ lq - (S.size : Int) < 0 by omega)]
  rintro e w3 ⟨rfl, hb⟩
  have hs3 := hb.size
  have H3 : Hid (Below w0.heap.size w0 w3 ∧ RdBI w3 w0.heap.size (.slice A0 r.length c0) r ∧ RdBT w3 w0.heap.size (.slice A1 s.length c1) s ∧ Blk w3 (w0.heap.size) #[.slice A0 r.length c0, .slice A1 s.length c1] 25 ∧ Blk w3 (w0.heap.size + 1) #[.int .i64 k, .string S] 27) := Lib.hid ⟨(H2.out.1).trans ((hb).mono (by first | omega | exact Nat.le_refl _ | (simp; done) | (simp; omega))), (H2.out.2.1).below ((hb).mono (by first | omega | exact Nat.le_refl _ | (simp; done) | (simp; omega))), RdBT.below (H2.out.2.2.1) ((hb).mono (by first | omega | exact Nat.le_refl _ | (simp; done) | (simp; omega))), (H2.out.2.2.2.1).below hb (by first | omega | exact Nat.le_refl _ | (simp; done) | (simp; omega)), (H2.out.2.2.2.2).below hb (by first | omega | exact Nat.le_refl _ | (simp; done) | (simp; omega))⟩
  clear hb H2 
  clear A_2_0 A_2_1 A_2_lt D_2_0 D_2_1 D_2_lt
  obtain ⟨A_3_0, A_3_1, _, _⟩ := blk_pair (H3.out.2.2.2.1)
  have A_3_lt := Blk.lt (H3.out.2.2.2.1)
  obtain ⟨D_3_0, D_3_1, _, _⟩ := blk_pair (H3.out.2.2.2.2)
  have D_3_lt := Blk.lt (H3.out.2.2.2.2)
  have HB9 : Hid (∀ X, Below w3.heap.size w3 X → Calls Tryz.prog 10 #[.agg #[.slice A0 r.length c0, .slice A1 s.length c1]] X (ToB X r s)) := Lib.hid fun X hX => toB _ _ r s X (((H3.out.2.1).below (hX.mono (by omega))).rd (by have := hX.size; omega)) (RdBT.mono (RdBT.below (H3.out.2.2.1) (hX.mono (by omega))) (by have := hX.size; omega)) hl hn
  go_upto_region 8 with fail
  go_cut [6, 7] (fun q6 q7 wx => ∃ (g9 L9 H9 : Nat) (mA0 : Option Addr) (mc0 : Nat) (mA1 : Option Addr) (mc1 : Nat), q6 = .pointer (some ⟨g9, 0, none⟩) ∧ q7 = .bool ok ∧ w3.heap.size ≤ g9 ∧ g9 < wx.heap.size ∧ w3.heap.size ≤ L9 ∧ L9 ≤ H9 ∧ H9 ≤ wx.heap.size ∧ (g9 < L9 ∨ H9 ≤ g9) ∧ Blk wx g9 #[.slice mA0 n9.length mc0, .slice mA1 p9.length mc1] 30 ∧ OwnI wx L9 H9 (.slice mA0 n9.length mc0) n9 ∧ OwnWT wx L9 H9 (.slice mA1 p9.length mc1) p9 ∧ Below w3.heap.size w3 wx)
  case first =>
    have bD_w3 : Below w3.heap.size w3 w3.drew := (Below.refl _ _).drew
    have HDD_w3 := Lib.hid bD_w3
    go_region_held3 (fun w' => w'.cell? ⟨w0.heap.size, 0, none⟩ = some (.slice A0 r.length c0) ∧ w'.cell? ⟨w0.heap.size, 1, none⟩ = some (.slice A1 s.length c1) ∧ w'.cell? ⟨w0.heap.size + 1, 0, none⟩ = some (.int .i64 k) ∧ w'.cell? ⟨w0.heap.size + 1, 1, none⟩ = some (.string S)) (repeat' (first | with_reducible assumption | apply And.intro | rw [World.cell?_drew] | rw [World.cell?_alloc_lt _ _ _ (by first | omega | (simp; omega))] | rw [World.cell?_setCell_far _ _ _ _ (by first | omega | (simp; omega))])) (first
      | (go_at_call 10; refine (HB9.out _ (by (repeat (first | with_reducible exact Below.refl _ _ | with_reducible exact bD_w3 | with_reducible refine Below.drew ?_ | with_reducible refine below_allocH ?_ (by first | exact Nat.le_refl _ | omega | (simp; done) | (simp; omega)) _ _)))).mono ?_; rintro e wA ⟨tt0, tt1, ttm, rfl, htm1, htm2, hp0, hp1, hbA⟩; obtain ⟨tA0, tc0, rfl, _⟩ := hp0.rd; obtain ⟨tA1, tc1, rfl, _⟩ := hp1.rd; have bA : Below w3.heap.size w3 wA := wayB (by (repeat (first | with_reducible exact Below.refl _ _ | with_reducible exact bD_w3 | with_reducible refine Below.drew ?_ | with_reducible refine below_allocH ?_ (by first | exact Nat.le_refl _ | omega | (simp; done) | (simp; omega)) _ _))) hbA; have hsA := bA.size; obtain ⟨xwA0, xwA1, _, _⟩ := blk_pair ((H3.out.2.2.2.1).below bA (by omega)); obtain ⟨dwA0, dwA1, _, _⟩ := blk_pair ((H3.out.2.2.2.2).below bA (by omega)); have TA := Lib.hid (And.intro hp0.rd (And.intro hp1.rd bA)); have bD_wA : Below wA.heap.size wA wA.drew := (Below.refl _ _).drew; (first | (have hZ := Lib.hid (Blk.below (show Blk _ w3.heap.size #[.slice none 0 0, .slice none 0 0] 30 from by (repeat (first | with_reducible refine Blk.drewH ?_ | (refine Blk.newH _ _ _ _ ?_; first | rfl | omega | (simp; done) | (simp; omega)) | with_reducible refine Blk.keepH ?_))) hbA (by first | omega | (simp; done) | (simp; omega))); have hZl := hZ.out.lt) | skip); clear hp0 hp1 hbA)
      | (go_at_call 11; refine (toD_any k S _).mono ?_; rintro e wB ⟨rfl, hbB⟩; have bB : Below wA.heap.size wA wB := wayB (by (repeat (first | with_reducible exact Below.refl _ _ | with_reducible exact bD_wA | with_reducible refine Below.drew ?_ | with_reducible refine below_allocH ?_ (by first | exact Nat.le_refl _ | omega | (simp; done) | (simp; omega)) _ _))) hbB; have bWB : Below w3.heap.size w3 wB := TA.out.2.2.trans (bB.mono (by omega)); have hsB := bB.size; obtain ⟨xwB0, xwB1, _, _⟩ := blk_pair ((H3.out.2.2.2.1).below bWB (by omega)); obtain ⟨dwB0, dwB1, _, _⟩ := blk_pair ((H3.out.2.2.2.2).below bWB (by omega)); have TB := Lib.hid (And.intro bB bWB); have bD_wB : Below wB.heap.size wB wB.drew := (Below.refl _ _).drew; (first | (have hY := Lib.hid (Blk.below hZ.out bB (by first | omega | (have := hZ.out.lt; omega) | (simp; done) | (simp; omega))); have hYl := hY.out.lt) | (have hY := Lib.hid (Blk.below (show Blk _ wA.heap.size #[.slice none 0 0, .slice none 0 0] 30 from by (repeat (first | with_reducible refine Blk.drewH ?_ | (refine Blk.newH _ _ _ _ ?_; first | rfl | omega | (simp; done) | (simp; omega)) | with_reducible refine Blk.keepH ?_))) hbB (by first | omega | (simp; done) | (simp; omega))); have hYl := hY.out.lt) | skip); clear hbB)
      | (go_at_call 9; refine (HSS.out _ _ _ (RdI.step (TA.out.1.step TB.out.1) (by (repeat (first | with_reducible exact Below.refl _ _ | with_reducible exact bD_wB | with_reducible refine Below.drew ?_ | with_reducible refine below_allocH ?_ (by first | exact Nat.le_refl _ | omega | (simp; done) | (simp; omega)) _ _)))) (RdT.step (RdT.step TA.out.2.1 TB.out.1) (by (repeat (first | with_reducible exact Below.refl _ _ | with_reducible exact bD_wB | with_reducible refine Below.drew ?_ | with_reducible refine below_allocH ?_ (by first | exact Nat.le_refl _ | omega | (simp; done) | (simp; omega)) _ _))))).mono ?_; rintro e wC ⟨uu0, uu1, rfl, hp0, hp1, hbC⟩; dsimp only at hp0 hp1; obtain ⟨mA0, mc0, rfl, _⟩ := hp0.ints; obtain ⟨mA1, mc1, rfl, _⟩ := hp1.rd; have bC : Below wB.heap.size wB wC := wayB (by (repeat (first | with_reducible exact Below.refl _ _ | with_reducible exact bD_wB | with_reducible refine Below.drew ?_ | with_reducible refine below_allocH ?_ (by first | exact Nat.le_refl _ | omega | (simp; done) | (simp; omega)) _ _))) hbC; have bWC : Below w3.heap.size w3 wC := TB.out.2.trans (bC.mono (by omega)); have hsC := bC.size; obtain ⟨xwC0, xwC1, _, _⟩ := blk_pair ((H3.out.2.2.2.1).below bWC (by omega)); obtain ⟨dwC0, dwC1, _, _⟩ := blk_pair ((H3.out.2.2.2.2).below bWC (by omega)); have TC := Lib.hid (And.intro (ownB (W := wB) (by (repeat (first | with_reducible exact Below.refl _ _ | with_reducible exact bD_wB | with_reducible refine Below.drew ?_ | with_reducible refine below_allocH ?_ (by first | exact Nat.le_refl _ | omega | (simp; done) | (simp; omega)) _ _))) hp0) (And.intro (ownTB (W := wB) (by (repeat (first | with_reducible exact Below.refl _ _ | with_reducible exact bD_wB | with_reducible refine Below.drew ?_ | with_reducible refine below_allocH ?_ (by first | exact Nat.le_refl _ | omega | (simp; done) | (simp; omega)) _ _))) hp1) bWC)); (first | (have hX := Lib.hid (Blk.below hY.out bC (by first | omega | (have := hY.out.lt; omega) | (simp; done) | (simp; omega))); obtain ⟨zz0, zz1, zf0, zf1⟩ := blk_pair hX.out) | (have hX := Lib.hid (Blk.below (show Blk _ wB.heap.size #[.slice none 0 0, .slice none 0 0] 30 from by (repeat (first | with_reducible refine Blk.drewH ?_ | (refine Blk.newH _ _ _ _ ?_; first | rfl | omega | (simp; done) | (simp; omega)) | with_reducible refine Blk.keepH ?_))) hbC (by first | omega | (simp; done) | (simp; omega))); have o9 : Own wC (wB.heap.size + 1) (.slice mA0 n9.length mc0) n9 := hp0.mono (by first | omega | exact Nat.le_refl _ | (simp; done) | (simp; omega)); have t9 : OwnWT wC (wB.heap.size + 1) wC.heap.size (.slice mA1 p9.length mc1) p9 := OwnW.mono hp1 (by first | omega | exact Nat.le_refl _ | (simp; done) | (simp; omega)) (Nat.le_refl _); have X9 := Lib.hid (And.intro o9 t9); clear o9 t9; obtain ⟨zz0, zz1, zf0, zf1⟩ := blk_pair hX.out) | skip); clear hp0 hp1 hbC)
      | fail)
    all_goals (go_wp2_with fail; go_meet)
    all_goals first
      | (exact ⟨wC.heap.size, wB.heap.size, wC.heap.size, _, _, _, _, rfl, rfl, by omega, by simp, by omega, by omega, by simp, .inr (Nat.le_refl _), Blk.new wC _ _, (TC.out.1.within).below ((Below.refl _ _).alloc (Nat.le_refl _) _), OwnW.below TC.out.2.1 ((Below.refl _ _).alloc (Nat.le_refl _) _), (TC.out.2.2).alloc (by omega) _⟩)
      | (exact ⟨w3.heap.size, wB.heap.size, wC.heap.size, _, _, _, _, rfl, rfl, by omega, by simp [World.setCell]; omega, by omega, by omega, by simp [World.setCell], .inl (by omega), (Blk.set (Blk.set hX.out 0 _) 1 _), ⟨(TC.out.1.far9 (by omega) 0 _).far9 (by omega) 1 _, fun g hg => by have := TC.out.1.ge g hg; omega⟩, OwnWT.far9 (OwnWT.far9 TC.out.2.1 (by omega) 0 _) (by omega) 1 _, ((TC.out.2.2).setCell (by simp <;> omega) _).setCell (by simp <;> omega) _⟩)
      | (exact ⟨wA.heap.size, wB.heap.size, wC.heap.size, _, _, _, _, rfl, rfl, by omega, by simp [World.setCell]; omega, by omega, by omega, by simp [World.setCell], .inl (by omega), (Blk.set (Blk.set hX.out 0 _) 1 _), ⟨(TC.out.1.far9 (by omega) 0 _).far9 (by omega) 1 _, fun g hg => by have := TC.out.1.ge g hg; omega⟩, OwnWT.far9 (OwnWT.far9 TC.out.2.1 (by omega) 0 _) (by omega) 1 _, ((TC.out.2.2).setCell (by simp <;> omega) _).setCell (by simp <;> omega) _⟩)
      | (exact ⟨wB.heap.size, wB.heap.size + 1, wC.heap.size, _, _, _, _, rfl, rfl, by omega, by simp [World.setCell]; have := hX.out.lt; omega, by omega, by have := hX.out.lt; omega, by simp [World.setCell], .inl (by omega), (Blk.set (Blk.set hX.out 0 _) 1 _), ⟨(X9.out.1.far9 (by omega) 0 _).far9 (by omega) 1 _, fun g hg => by have := X9.out.1.ge g hg; omega⟩, OwnWT.far9 (OwnWT.far9 X9.out.2 (by omega) 0 _) (by omega) 1 _, ((TC.out.2.2).setCell (by simp <;> omega) _).setCell (by simp <;> omega) _⟩)
  case rest =>
    obtain ⟨mg, mL, mH, mA0, mc0, mA1, mc1, rfl, rfl, mh1, mh2, mh3, mh4, mh5, mh6, hbx, ho0, ho1, hb⟩ := hcut
    obtain ⟨w4, hwc⟩ : ∃ w, w = wc := ⟨_, rfl⟩
    subst hwc
    have hs4 := hb.size
    have H4 : Hid (Below w0.heap.size w0 w4 ∧ RdBI w4 w0.heap.size (.slice A0 r.length c0) r ∧ RdBT w4 w0.heap.size (.slice A1 s.length c1) s ∧ Blk w4 (w0.heap.size) #[.slice A0 r.length c0, .slice A1 s.length c1] 25 ∧ Blk w4 (w0.heap.size + 1) #[.int .i64 k, .string S] 27 ∧ OwnI w4 (mL) (mH) (.slice mA0 n9.length mc0) (n9) ∧ OwnWT w4 (mL) (mH) (.slice mA1 p9.length mc1) (p9) ∧ Blk w4 (mg) #[.slice mA0 n9.length mc0, .slice mA1 p9.length mc1] 30) := Lib.hid ⟨(H3.out.1).trans ((hb).mono (by first | omega | exact Nat.le_refl _ | (simp; done) | (simp; omega))), (H3.out.2.1).below ((hb).mono (by first | omega | exact Nat.le_refl _ | (simp; done) | (simp; omega))), RdBT.below (H3.out.2.2.1) ((hb).mono (by first | omega | exact Nat.le_refl _ | (simp; done) | (simp; omega))), (H3.out.2.2.2.1).below hb (by first | omega | exact Nat.le_refl _ | (simp; done) | (simp; omega)), (H3.out.2.2.2.2).below hb (by first | omega | exact Nat.le_refl _ | (simp; done) | (simp; omega)), ho0, ho1, hbx⟩
    clear hb H3 ho0 ho1 hbx
    clear A_3_0 A_3_1 A_3_lt D_3_0 D_3_1 D_3_lt
    obtain ⟨A_4_0, A_4_1, _, _⟩ := blk_pair (H4.out.2.2.2.1)
    have A_4_lt := Blk.lt (H4.out.2.2.2.1)
    obtain ⟨D_4_0, D_4_1, _, _⟩ := blk_pair (H4.out.2.2.2.2.1)
    have D_4_lt := Blk.lt (H4.out.2.2.2.2.1)
    obtain ⟨bm_4_0, bm_4_1, _, _⟩ := blk_pair (H4.out.2.2.2.2.2.2.2)
    have bm_4_lt := Blk.lt (H4.out.2.2.2.2.2.2.2)
    clear HB9
    go_wp2_with fail
    refine (toB _ _ r s _ ((H4.out.2.1).rd (by omega)) (RdBT.mono (H4.out.2.2.1) (by omega)) hl hn).mono ?_
    rintro e w5 ⟨xt0, xt1, xm, rfl, xm1, xm2, hp0, hp1, hb⟩
    obtain ⟨xA0, xc0, rfl, _⟩ := hp0.rd
    obtain ⟨xA1, xc1, rfl, _⟩ := hp1.rd
    have hq_x : w4.heap.size ≤ w5.heap.size := by omega
    have ho0 : OwnI w5 (w4.heap.size) w5.heap.size (.slice xA0 r.length xc0) r := ⟨hp0.own, fun g hg => by have := hp0.lt g hg; omega⟩
    have ho1 : OwnWT w5 (w4.heap.size) w5.heap.size (.slice xA1 s.length xc1) s := (OwnT.win hp1).mono (by omega) (Nat.le_refl _)
    have hs5 := hb.size
    have H5 : Hid (Below w0.heap.size w0 w5 ∧ RdBI w5 w0.heap.size (.slice A0 r.length c0) r ∧ RdBT w5 w0.heap.size (.slice A1 s.length c1) s ∧ Blk w5 (w0.heap.size) #[.slice A0 r.length c0, .slice A1 s.length c1] 25 ∧ Blk w5 (w0.heap.size + 1) #[.int .i64 k, .string S] 27 ∧ OwnI w5 (mL) (mH) (.slice mA0 n9.length mc0) (n9) ∧ OwnWT w5 (mL) (mH) (.slice mA1 p9.length mc1) (p9) ∧ Blk w5 (mg) #[.slice mA0 n9.length mc0, .slice mA1 p9.length mc1] 30 ∧ OwnI w5 (w4.heap.size) (w5.heap.size) (.slice xA0 r.length xc0) (r) ∧ OwnWT w5 (w4.heap.size) (w5.heap.size) (.slice xA1 s.length xc1) (s)) := Lib.hid ⟨(H4.out.1).trans ((hb).mono (by first | omega | exact Nat.le_refl _ | (simp; done) | (simp; omega))), (H4.out.2.1).below ((hb).mono (by first | omega | exact Nat.le_refl _ | (simp; done) | (simp; omega))), RdBT.below (H4.out.2.2.1) ((hb).mono (by first | omega | exact Nat.le_refl _ | (simp; done) | (simp; omega))), (H4.out.2.2.2.1).below hb (by first | omega | exact Nat.le_refl _ | (simp; done) | (simp; omega)), (H4.out.2.2.2.2.1).below hb (by first | omega | exact Nat.le_refl _ | (simp; done) | (simp; omega)), (H4.out.2.2.2.2.2.1).below hb, OwnW.below (H4.out.2.2.2.2.2.2.1) hb, (H4.out.2.2.2.2.2.2.2).below hb (by first | omega | exact Nat.le_refl _ | (simp; done) | (simp; omega)), ho0, ho1⟩
    clear hb H4 ho0 ho1 hp0 hp1
    clear A_4_0 A_4_1 A_4_lt D_4_0 D_4_1 D_4_lt bm_4_0 bm_4_1 bm_4_lt
    obtain ⟨A_5_0, A_5_1, _, _⟩ := blk_pair (H5.out.2.2.2.1)
    have A_5_lt := Blk.lt (H5.out.2.2.2.1)
    obtain ⟨D_5_0, D_5_1, _, _⟩ := blk_pair (H5.out.2.2.2.2.1)
    have D_5_lt := Blk.lt (H5.out.2.2.2.2.1)
    obtain ⟨bm_5_0, bm_5_1, _, _⟩ := blk_pair (H5.out.2.2.2.2.2.2.2.1)
    have bm_5_lt := Blk.lt (H5.out.2.2.2.2.2.2.2.1)
    obtain ⟨w6, hwn⟩ : ∃ wn, w5.alloc (.cells #[.slice xA0 r.length xc0, .slice xA1 s.length xc1] 30) = wn := ⟨_, rfl⟩
    have hb : Below w5.heap.size w5 w6 := by rw [← hwn]; exact (Below.refl _ _).alloc (Nat.le_refl _) _
    have hbx : Blk w6 w5.heap.size #[.slice xA0 r.length xc0, .slice xA1 s.length xc1] 30 := by rw [← hwn]; exact Blk.new w5 _ _
    have hzn : w6.heap.size = w5.heap.size + 1 := by rw [← hwn]; simp
    have HZN := Lib.hid hzn
    have hzn2 : w5.heap.size + 1 ≤ w6.heap.size := by omega
    clear hzn
    have hs6 := hb.size
    have H6 : Hid (Below w0.heap.size w0 w6 ∧ RdBI w6 w0.heap.size (.slice A0 r.length c0) r ∧ RdBT w6 w0.heap.size (.slice A1 s.length c1) s ∧ Blk w6 (w0.heap.size) #[.slice A0 r.length c0, .slice A1 s.length c1] 25 ∧ Blk w6 (w0.heap.size + 1) #[.int .i64 k, .string S] 27 ∧ OwnI w6 (mL) (mH) (.slice mA0 n9.length mc0) (n9) ∧ OwnWT w6 (mL) (mH) (.slice mA1 p9.length mc1) (p9) ∧ Blk w6 (mg) #[.slice mA0 n9.length mc0, .slice mA1 p9.length mc1] 30 ∧ OwnI w6 (w4.heap.size) (w5.heap.size) (.slice xA0 r.length xc0) (r) ∧ OwnWT w6 (w4.heap.size) (w5.heap.size) (.slice xA1 s.length xc1) (s) ∧ Blk w6 (w5.heap.size) #[.slice xA0 r.length xc0, .slice xA1 s.length xc1] 30) := Lib.hid ⟨(H5.out.1).trans ((hb).mono (by first | omega | exact Nat.le_refl _ | (simp; done) | (simp; omega))), (H5.out.2.1).below ((hb).mono (by first | omega | exact Nat.le_refl _ | (simp; done) | (simp; omega))), RdBT.below (H5.out.2.2.1) ((hb).mono (by first | omega | exact Nat.le_refl _ | (simp; done) | (simp; omega))), (H5.out.2.2.2.1).below hb (by first | omega | exact Nat.le_refl _ | (simp; done) | (simp; omega)), (H5.out.2.2.2.2.1).below hb (by first | omega | exact Nat.le_refl _ | (simp; done) | (simp; omega)), (H5.out.2.2.2.2.2.1).below hb, OwnW.below (H5.out.2.2.2.2.2.2.1) hb, (H5.out.2.2.2.2.2.2.2.1).below hb (by first | omega | exact Nat.le_refl _ | (simp; done) | (simp; omega)), (H5.out.2.2.2.2.2.2.2.2.1).below hb, OwnW.below (H5.out.2.2.2.2.2.2.2.2.2) hb, hbx⟩
    clear hb H5 hbx
    clear A_5_0 A_5_1 A_5_lt D_5_0 D_5_1 D_5_lt bm_5_0 bm_5_1 bm_5_lt
    obtain ⟨A_6_0, A_6_1, _, _⟩ := blk_pair (H6.out.2.2.2.1)
    have A_6_lt := Blk.lt (H6.out.2.2.2.1)
    obtain ⟨D_6_0, D_6_1, _, _⟩ := blk_pair (H6.out.2.2.2.2.1)
    have D_6_lt := Blk.lt (H6.out.2.2.2.2.1)
    obtain ⟨bm_6_0, bm_6_1, _, _⟩ := blk_pair (H6.out.2.2.2.2.2.2.2.1)
    have bm_6_lt := Blk.lt (H6.out.2.2.2.2.2.2.2.1)
    obtain ⟨bx_6_0, bx_6_1, _, _⟩ := blk_pair (H6.out.2.2.2.2.2.2.2.2.2.2)
    have bx_6_lt := Blk.lt (H6.out.2.2.2.2.2.2.2.2.2.2)
    go_upto_region 10 with fail
    go_cut [9, 10] (fun q6 q7 wx => ∃ (g9 L9 H9 : Nat) (gA0 : Option Addr) (gc0 : Nat) (gA1 : Option Addr) (gc1 : Nat), q6 = .pointer (some ⟨g9, 0, none⟩) ∧ q7 = .bool ok ∧ w6.heap.size ≤ g9 ∧ g9 < wx.heap.size ∧ w6.heap.size ≤ L9 ∧ L9 ≤ H9 ∧ H9 ≤ wx.heap.size ∧ (g9 < L9 ∨ H9 ≤ g9) ∧ Blk wx g9 #[.slice gA0 n9.length gc0, .slice gA1 p9.length gc1] 30 ∧ OwnI wx L9 H9 (.slice gA0 n9.length gc0) n9 ∧ OwnWT wx L9 H9 (.slice gA1 p9.length gc1) p9 ∧ Below w6.heap.size w6 wx)
    case first =>
      have bD_w6 : Below w6.heap.size w6 w6.drew := (Below.refl _ _).drew
      have HDD_w6 := Lib.hid bD_w6
      go_region_held3 (fun w' => w'.cell? ⟨w5.heap.size, 0, none⟩ = some (.slice xA0 r.length xc0) ∧ w'.cell? ⟨w5.heap.size, 1, none⟩ = some (.slice xA1 s.length xc1) ∧ w'.cell? ⟨w0.heap.size + 1, 0, none⟩ = some (.int .i64 k) ∧ w'.cell? ⟨w0.heap.size + 1, 1, none⟩ = some (.string S)) (repeat' (first | with_reducible assumption | apply And.intro | rw [World.cell?_drew] | rw [World.cell?_alloc_lt _ _ _ (by first | omega | (simp; omega))] | rw [World.cell?_setCell_far _ _ _ _ (by first | omega | (simp; omega))])) (first
        | (go_at_call 11; refine (toD_any k S _).mono ?_; rintro e wB ⟨rfl, hbB⟩; have bB : Below w6.heap.size w6 wB := wayB (by (repeat (first | with_reducible exact Below.refl _ _ | with_reducible exact bD_w6 | with_reducible refine Below.drew ?_ | with_reducible refine below_allocH ?_ (by first | exact Nat.le_refl _ | omega | (simp; done) | (simp; omega)) _ _))) hbB; have bWB : Below w6.heap.size w6 wB := bB; have hsB := bB.size; obtain ⟨xwB0, xwB1, _, _⟩ := blk_pair ((H6.out.2.2.2.2.2.2.2.2.2.2).below bWB (by omega)); obtain ⟨dwB0, dwB1, _, _⟩ := blk_pair ((H6.out.2.2.2.2.1).below bWB (by omega)); have TB := Lib.hid (And.intro bB bWB); have bD_wB : Below wB.heap.size wB wB.drew := (Below.refl _ _).drew; (first | (have hY := Lib.hid (Blk.below (show Blk _ w6.heap.size #[.slice none 0 0, .slice none 0 0] 30 from by (repeat (first | with_reducible refine Blk.drewH ?_ | (refine Blk.newH _ _ _ _ ?_; first | rfl | omega | (simp; done) | (simp; omega)) | with_reducible refine Blk.keepH ?_))) hbB (by first | omega | (simp; done) | (simp; omega))); have hYl := hY.out.lt) | skip); clear hbB)
        | (go_at_call 12; refine (HSI.out _ _ _ (RdI.step (((H6.out.2.2.2.2.2.2.2.2.1).below TB.out.2).rd) (by (repeat (first | with_reducible exact Below.refl _ _ | with_reducible exact bD_wB | with_reducible refine Below.drew ?_ | with_reducible refine below_allocH ?_ (by first | exact Nat.le_refl _ | omega | (simp; done) | (simp; omega)) _ _)))) (RdT.step ((OwnWT.rd (OwnW.below (H6.out.2.2.2.2.2.2.2.2.2.1) TB.out.2))) (by (repeat (first | with_reducible exact Below.refl _ _ | with_reducible exact bD_wB | with_reducible refine Below.drew ?_ | with_reducible refine below_allocH ?_ (by first | exact Nat.le_refl _ | omega | (simp; done) | (simp; omega)) _ _)))) (HT.out.keep (((H6.out.1).trans (TB.out.2.mono (by omega))).trans (Below.mono (show Below wB.heap.size wB _ from by (repeat (first | with_reducible exact Below.refl _ _ | with_reducible exact bD_wB | with_reducible refine Below.drew ?_ | with_reducible refine below_allocH ?_ (by first | exact Nat.le_refl _ | omega | (simp; done) | (simp; omega)) _ _))) (by omega))))).mono ?_; rintro e wC ⟨uu0, uu1, rfl, hp0, hp1, hbC⟩; dsimp only at hp0 hp1; obtain ⟨gA0, gc0, rfl, _⟩ := hp0.ints; obtain ⟨gA1, gc1, rfl, _⟩ := hp1.rd; have bC : Below wB.heap.size wB wC := wayB (by (repeat (first | with_reducible exact Below.refl _ _ | with_reducible exact bD_wB | with_reducible refine Below.drew ?_ | with_reducible refine below_allocH ?_ (by first | exact Nat.le_refl _ | omega | (simp; done) | (simp; omega)) _ _))) hbC; have bWC : Below w6.heap.size w6 wC := TB.out.2.trans (bC.mono (by omega)); have hsC := bC.size; obtain ⟨xwC0, xwC1, _, _⟩ := blk_pair ((H6.out.2.2.2.2.2.2.2.2.2.2).below bWC (by omega)); obtain ⟨dwC0, dwC1, _, _⟩ := blk_pair ((H6.out.2.2.2.2.1).below bWC (by omega)); have TC := Lib.hid (And.intro (ownB (W := wB) (by (repeat (first | with_reducible exact Below.refl _ _ | with_reducible exact bD_wB | with_reducible refine Below.drew ?_ | with_reducible refine below_allocH ?_ (by first | exact Nat.le_refl _ | omega | (simp; done) | (simp; omega)) _ _))) hp0) (And.intro (ownTB (W := wB) (by (repeat (first | with_reducible exact Below.refl _ _ | with_reducible exact bD_wB | with_reducible refine Below.drew ?_ | with_reducible refine below_allocH ?_ (by first | exact Nat.le_refl _ | omega | (simp; done) | (simp; omega)) _ _))) hp1) bWC)); (first | (have hX := Lib.hid (Blk.below hY.out bC (by first | omega | (have := hY.out.lt; omega) | (simp; done) | (simp; omega))); obtain ⟨zz0, zz1, zf0, zf1⟩ := blk_pair hX.out) | (have hX := Lib.hid (Blk.below (show Blk _ wB.heap.size #[.slice none 0 0, .slice none 0 0] 30 from by (repeat (first | with_reducible refine Blk.drewH ?_ | (refine Blk.newH _ _ _ _ ?_; first | rfl | omega | (simp; done) | (simp; omega)) | with_reducible refine Blk.keepH ?_))) hbC (by first | omega | (simp; done) | (simp; omega))); have o9 : Own wC (wB.heap.size + 1) (.slice gA0 n9.length gc0) n9 := hp0.mono (by first | omega | exact Nat.le_refl _ | (simp; done) | (simp; omega)); have t9 : OwnWT wC (wB.heap.size + 1) wC.heap.size (.slice gA1 p9.length gc1) p9 := OwnW.mono hp1 (by first | omega | exact Nat.le_refl _ | (simp; done) | (simp; omega)) (Nat.le_refl _); have X9 := Lib.hid (And.intro o9 t9); clear o9 t9; obtain ⟨zz0, zz1, zf0, zf1⟩ := blk_pair hX.out) | skip); clear hp0 hp1 hbC)
        | fail)
      all_goals (go_wp2_with fail; go_meet)
      all_goals first
        | (exact ⟨wC.heap.size, wB.heap.size, wC.heap.size, _, _, _, _, rfl, rfl, by omega, by simp, by omega, by omega, by simp, .inr (Nat.le_refl _), Blk.new wC _ _, (TC.out.1.within).below ((Below.refl _ _).alloc (Nat.le_refl _) _), OwnW.below TC.out.2.1 ((Below.refl _ _).alloc (Nat.le_refl _) _), (TC.out.2.2).alloc (by omega) _⟩)
        | (exact ⟨w6.heap.size, wB.heap.size, wC.heap.size, _, _, _, _, rfl, rfl, by omega, by simp [World.setCell]; omega, by omega, by omega, by simp [World.setCell], .inl (by omega), (Blk.set (Blk.set hX.out 0 _) 1 _), ⟨(TC.out.1.far9 (by omega) 0 _).far9 (by omega) 1 _, fun g hg => by have := TC.out.1.ge g hg; omega⟩, OwnWT.far9 (OwnWT.far9 TC.out.2.1 (by omega) 0 _) (by omega) 1 _, ((TC.out.2.2).setCell (by simp <;> omega) _).setCell (by simp <;> omega) _⟩)
        | (exact ⟨wB.heap.size, wB.heap.size + 1, wC.heap.size, _, _, _, _, rfl, rfl, by omega, by simp [World.setCell]; have := hX.out.lt; omega, by omega, by have := hX.out.lt; omega, by simp [World.setCell], .inl (by omega), (Blk.set (Blk.set hX.out 0 _) 1 _), ⟨(X9.out.1.far9 (by omega) 0 _).far9 (by omega) 1 _, fun g hg => by have := X9.out.1.ge g hg; omega⟩, OwnWT.far9 (OwnWT.far9 X9.out.2 (by omega) 0 _) (by omega) 1 _, ((TC.out.2.2).setCell (by simp <;> omega) _).setCell (by simp <;> omega) _⟩)
    case rest =>
      obtain ⟨gg, gL, gH, gA0, gc0, gA1, gc1, rfl, rfl, gh1, gh2, gh3, gh4, gh5, gh6, hbx, ho0, ho1, hb⟩ := hcut
      obtain ⟨w7, hwc⟩ : ∃ w, w = wc := ⟨_, rfl⟩
      subst hwc
      have hs7 := hb.size
      have H7 : Hid (Below w0.heap.size w0 w7 ∧ RdBI w7 w0.heap.size (.slice A0 r.length c0) r ∧ RdBT w7 w0.heap.size (.slice A1 s.length c1) s ∧ Blk w7 (w0.heap.size) #[.slice A0 r.length c0, .slice A1 s.length c1] 25 ∧ Blk w7 (w0.heap.size + 1) #[.int .i64 k, .string S] 27 ∧ OwnI w7 (mL) (mH) (.slice mA0 n9.length mc0) (n9) ∧ OwnWT w7 (mL) (mH) (.slice mA1 p9.length mc1) (p9) ∧ Blk w7 (mg) #[.slice mA0 n9.length mc0, .slice mA1 p9.length mc1] 30 ∧ OwnI w7 (w4.heap.size) (w5.heap.size) (.slice xA0 r.length xc0) (r) ∧ OwnWT w7 (w4.heap.size) (w5.heap.size) (.slice xA1 s.length xc1) (s) ∧ Blk w7 (w5.heap.size) #[.slice xA0 r.length xc0, .slice xA1 s.length xc1] 30 ∧ OwnI w7 (gL) (gH) (.slice gA0 n9.length gc0) (n9) ∧ OwnWT w7 (gL) (gH) (.slice gA1 p9.length gc1) (p9) ∧ Blk w7 (gg) #[.slice gA0 n9.length gc0, .slice gA1 p9.length gc1] 30) := Lib.hid ⟨(H6.out.1).trans ((hb).mono (by first | omega | exact Nat.le_refl _ | (simp; done) | (simp; omega))), (H6.out.2.1).below ((hb).mono (by first | omega | exact Nat.le_refl _ | (simp; done) | (simp; omega))), RdBT.below (H6.out.2.2.1) ((hb).mono (by first | omega | exact Nat.le_refl _ | (simp; done) | (simp; omega))), (H6.out.2.2.2.1).below hb (by first | omega | exact Nat.le_refl _ | (simp; done) | (simp; omega)), (H6.out.2.2.2.2.1).below hb (by first | omega | exact Nat.le_refl _ | (simp; done) | (simp; omega)), (H6.out.2.2.2.2.2.1).below hb, OwnW.below (H6.out.2.2.2.2.2.2.1) hb, (H6.out.2.2.2.2.2.2.2.1).below hb (by first | omega | exact Nat.le_refl _ | (simp; done) | (simp; omega)), (H6.out.2.2.2.2.2.2.2.2.1).below hb, OwnW.below (H6.out.2.2.2.2.2.2.2.2.2.1) hb, (H6.out.2.2.2.2.2.2.2.2.2.2).below hb (by first | omega | exact Nat.le_refl _ | (simp; done) | (simp; omega)), ho0, ho1, hbx⟩
      clear hb H6 ho0 ho1 hbx
      clear A_6_0 A_6_1 A_6_lt D_6_0 D_6_1 D_6_lt bm_6_0 bm_6_1 bm_6_lt bx_6_0 bx_6_1 bx_6_lt
      obtain ⟨A_7_0, A_7_1, _, _⟩ := blk_pair (H7.out.2.2.2.1)
      have A_7_lt := Blk.lt (H7.out.2.2.2.1)
      obtain ⟨D_7_0, D_7_1, _, _⟩ := blk_pair (H7.out.2.2.2.2.1)
      have D_7_lt := Blk.lt (H7.out.2.2.2.2.1)
      obtain ⟨bm_7_0, bm_7_1, _, _⟩ := blk_pair (H7.out.2.2.2.2.2.2.2.1)
      have bm_7_lt := Blk.lt (H7.out.2.2.2.2.2.2.2.1)
      obtain ⟨bx_7_0, bx_7_1, _, _⟩ := blk_pair (H7.out.2.2.2.2.2.2.2.2.2.2.1)
      have bx_7_lt := Blk.lt (H7.out.2.2.2.2.2.2.2.2.2.2.1)
      obtain ⟨bg_7_0, bg_7_1, _, _⟩ := blk_pair (H7.out.2.2.2.2.2.2.2.2.2.2.2.2.2)
      have bg_7_lt := Blk.lt (H7.out.2.2.2.2.2.2.2.2.2.2.2.2.2)
      go_wp2_with fail
      refine (eqB_any _ _ _ _ n9 n9 p9 p9 _ ((H7.out.2.2.2.2.2.2.2.2.2.2.2.1).rd) (OwnWT.rd (H7.out.2.2.2.2.2.2.2.2.2.2.2.2.1)) ((H7.out.2.2.2.2.2.1).rd) (OwnWT.rd (H7.out.2.2.2.2.2.2.1)) rfl rfl).mono ?_
      rintro e w8 ⟨rfl, hb⟩
      have hs8 := hb.size
      have H8 : Hid (Below w0.heap.size w0 w8 ∧ RdBI w8 w0.heap.size (.slice A0 r.length c0) r ∧ RdBT w8 w0.heap.size (.slice A1 s.length c1) s ∧ Blk w8 (w0.heap.size) #[.slice A0 r.length c0, .slice A1 s.length c1] 25 ∧ Blk w8 (w0.heap.size + 1) #[.int .i64 k, .string S] 27 ∧ OwnI w8 (mL) (mH) (.slice mA0 n9.length mc0) (n9) ∧ OwnWT w8 (mL) (mH) (.slice mA1 p9.length mc1) (p9) ∧ Blk w8 (mg) #[.slice mA0 n9.length mc0, .slice mA1 p9.length mc1] 30 ∧ OwnI w8 (w4.heap.size) (w5.heap.size) (.slice xA0 r.length xc0) (r) ∧ OwnWT w8 (w4.heap.size) (w5.heap.size) (.slice xA1 s.length xc1) (s) ∧ Blk w8 (w5.heap.size) #[.slice xA0 r.length xc0, .slice xA1 s.length xc1] 30 ∧ OwnI w8 (gL) (gH) (.slice gA0 n9.length gc0) (n9) ∧ OwnWT w8 (gL) (gH) (.slice gA1 p9.length gc1) (p9) ∧ Blk w8 (gg) #[.slice gA0 n9.length gc0, .slice gA1 p9.length gc1] 30) := Lib.hid ⟨(H7.out.1).trans ((hb).mono (by first | omega | exact Nat.le_refl _ | (simp; done) | (simp; omega))), (H7.out.2.1).below ((hb).mono (by first | omega | exact Nat.le_refl _ | (simp; done) | (simp; omega))), RdBT.below (H7.out.2.2.1) ((hb).mono (by first | omega | exact Nat.le_refl _ | (simp; done) | (simp; omega))), (H7.out.2.2.2.1).below hb (by first | omega | exact Nat.le_refl _ | (simp; done) | (simp; omega)), (H7.out.2.2.2.2.1).below hb (by first | omega | exact Nat.le_refl _ | (simp; done) | (simp; omega)), (H7.out.2.2.2.2.2.1).below hb, OwnW.below (H7.out.2.2.2.2.2.2.1) hb, (H7.out.2.2.2.2.2.2.2.1).below hb (by first | omega | exact Nat.le_refl _ | (simp; done) | (simp; omega)), (H7.out.2.2.2.2.2.2.2.2.1).below hb, OwnW.below (H7.out.2.2.2.2.2.2.2.2.2.1) hb, (H7.out.2.2.2.2.2.2.2.2.2.2.1).below hb (by first | omega | exact Nat.le_refl _ | (simp; done) | (simp; omega)), (H7.out.2.2.2.2.2.2.2.2.2.2.2.1).below hb, OwnW.below (H7.out.2.2.2.2.2.2.2.2.2.2.2.2.1) hb, (H7.out.2.2.2.2.2.2.2.2.2.2.2.2.2).below hb (by first | omega | exact Nat.le_refl _ | (simp; done) | (simp; omega))⟩
      clear hb H7 
      clear A_7_0 A_7_1 A_7_lt D_7_0 D_7_1 D_7_lt bm_7_0 bm_7_1 bm_7_lt bx_7_0 bx_7_1 bx_7_lt bg_7_0 bg_7_1 bg_7_lt
      obtain ⟨A_8_0, A_8_1, _, _⟩ := blk_pair (H8.out.2.2.2.1)
      have A_8_lt := Blk.lt (H8.out.2.2.2.1)
      obtain ⟨D_8_0, D_8_1, _, _⟩ := blk_pair (H8.out.2.2.2.2.1)
      have D_8_lt := Blk.lt (H8.out.2.2.2.2.1)
      obtain ⟨bm_8_0, bm_8_1, _, _⟩ := blk_pair (H8.out.2.2.2.2.2.2.2.1)
      have bm_8_lt := Blk.lt (H8.out.2.2.2.2.2.2.2.1)
      obtain ⟨bx_8_0, bx_8_1, _, _⟩ := blk_pair (H8.out.2.2.2.2.2.2.2.2.2.2.1)
      have bx_8_lt := Blk.lt (H8.out.2.2.2.2.2.2.2.2.2.2.1)
      obtain ⟨bg_8_0, bg_8_1, _, _⟩ := blk_pair (H8.out.2.2.2.2.2.2.2.2.2.2.2.2.2)
      have bg_8_lt := Blk.lt (H8.out.2.2.2.2.2.2.2.2.2.2.2.2.2)
      have HB9 : Hid (∀ X, Below w8.heap.size w8 X → Calls Tryz.prog 10 #[.agg #[.slice A0 r.length c0, .slice A1 s.length c1]] X (ToB X r s)) := Lib.hid fun X hX => toB _ _ r s X (((H8.out.2.1).below (hX.mono (by omega))).rd (by have := hX.size; omega)) (RdBT.mono (RdBT.below (H8.out.2.2.1) (hX.mono (by omega))) (by have := hX.size; omega)) hl hn
      go_upto_region 13 with fail
      go_cut [56] (fun b9 wx => b9 = .bool false ∧ Below w8.heap.size w8 wx)
      case first =>
        have bD_w8 : Below w8.heap.size w8 w8.drew := (Below.refl _ _).drew
        go_region_with (first
          | (go_at_call 10; refine (HB9.out _ bD_w8).mono ?_; rintro e wA ⟨tt0, tt1, ttm, rfl, htm1, htm2, hp0, hp1, hbA⟩; obtain ⟨tA0, tc0, rfl, _⟩ := hp0.rd; obtain ⟨tA1, tc1, rfl, _⟩ := hp1.rd; have bA : Below w8.heap.size w8 wA := bD_w8.trans hbA; obtain ⟨xx0, xx1, _, _⟩ := blk_pair ((H8.out.2.2.2.2.2.2.2.2.2.2.1).below bA (by omega)))
          | (go_at_call 13; refine (eqB_any _ _ _ _ r r s s _ ((H8.out.2.2.2.2.2.2.2.2.1).below bA).rd (OwnWT.rd (OwnW.below (H8.out.2.2.2.2.2.2.2.2.2.1) bA)) hp0.rd hp1.rd rfl rfl).mono ?_; rintro e wB ⟨rfl, hbB⟩)
          | fail)
        all_goals (go_wp2_with fail; go_meet; exact ⟨rfl, bA.trans (hbB.mono bA.size)⟩)
      case rest =>
        obtain ⟨rfl, hb⟩ := hcut
        obtain ⟨w9, hwc⟩ : ∃ w, w = wc := ⟨_, rfl⟩
        subst hwc
        clear HB9
        have hs9 := hb.size
        have H9 : Hid (Below w0.heap.size w0 w9 ∧ RdBI w9 w0.heap.size (.slice A0 r.length c0) r ∧ RdBT w9 w0.heap.size (.slice A1 s.length c1) s ∧ Blk w9 (w0.heap.size) #[.slice A0 r.length c0, .slice A1 s.length c1] 25 ∧ Blk w9 (w0.heap.size + 1) #[.int .i64 k, .string S] 27 ∧ OwnI w9 (mL) (mH) (.slice mA0 n9.length mc0) (n9) ∧ OwnWT w9 (mL) (mH) (.slice mA1 p9.length mc1) (p9) ∧ Blk w9 (mg) #[.slice mA0 n9.length mc0, .slice mA1 p9.length mc1] 30 ∧ OwnI w9 (w4.heap.size) (w5.heap.size) (.slice xA0 r.length xc0) (r) ∧ OwnWT w9 (w4.heap.size) (w5.heap.size) (.slice xA1 s.length xc1) (s) ∧ Blk w9 (w5.heap.size) #[.slice xA0 r.length xc0, .slice xA1 s.length xc1] 30 ∧ OwnI w9 (gL) (gH) (.slice gA0 n9.length gc0) (n9) ∧ OwnWT w9 (gL) (gH) (.slice gA1 p9.length gc1) (p9) ∧ Blk w9 (gg) #[.slice gA0 n9.length gc0, .slice gA1 p9.length gc1] 30) := Lib.hid ⟨(H8.out.1).trans ((hb).mono (by first | omega | exact Nat.le_refl _ | (simp; done) | (simp; omega))), (H8.out.2.1).below ((hb).mono (by first | omega | exact Nat.le_refl _ | (simp; done) | (simp; omega))), RdBT.below (H8.out.2.2.1) ((hb).mono (by first | omega | exact Nat.le_refl _ | (simp; done) | (simp; omega))), (H8.out.2.2.2.1).below hb (by first | omega | exact Nat.le_refl _ | (simp; done) | (simp; omega)), (H8.out.2.2.2.2.1).below hb (by first | omega | exact Nat.le_refl _ | (simp; done) | (simp; omega)), (H8.out.2.2.2.2.2.1).below hb, OwnW.below (H8.out.2.2.2.2.2.2.1) hb, (H8.out.2.2.2.2.2.2.2.1).below hb (by first | omega | exact Nat.le_refl _ | (simp; done) | (simp; omega)), (H8.out.2.2.2.2.2.2.2.2.1).below hb, OwnW.below (H8.out.2.2.2.2.2.2.2.2.2.1) hb, (H8.out.2.2.2.2.2.2.2.2.2.2.1).below hb (by first | omega | exact Nat.le_refl _ | (simp; done) | (simp; omega)), (H8.out.2.2.2.2.2.2.2.2.2.2.2.1).below hb, OwnW.below (H8.out.2.2.2.2.2.2.2.2.2.2.2.2.1) hb, (H8.out.2.2.2.2.2.2.2.2.2.2.2.2.2).below hb (by first | omega | exact Nat.le_refl _ | (simp; done) | (simp; omega))⟩
        clear hb H8 
        clear A_8_0 A_8_1 A_8_lt D_8_0 D_8_1 D_8_lt bm_8_0 bm_8_1 bm_8_lt bx_8_0 bx_8_1 bx_8_lt bg_8_0 bg_8_1 bg_8_lt
        obtain ⟨A_9_0, A_9_1, _, _⟩ := blk_pair (H9.out.2.2.2.1)
        have A_9_lt := Blk.lt (H9.out.2.2.2.1)
        obtain ⟨D_9_0, D_9_1, _, _⟩ := blk_pair (H9.out.2.2.2.2.1)
        have D_9_lt := Blk.lt (H9.out.2.2.2.2.1)
        obtain ⟨bm_9_0, bm_9_1, _, _⟩ := blk_pair (H9.out.2.2.2.2.2.2.2.1)
        have bm_9_lt := Blk.lt (H9.out.2.2.2.2.2.2.2.1)
        obtain ⟨bx_9_0, bx_9_1, _, _⟩ := blk_pair (H9.out.2.2.2.2.2.2.2.2.2.2.1)
        have bx_9_lt := Blk.lt (H9.out.2.2.2.2.2.2.2.2.2.2.1)
        obtain ⟨bg_9_0, bg_9_1, _, _⟩ := blk_pair (H9.out.2.2.2.2.2.2.2.2.2.2.2.2.2)
        have bg_9_lt := Blk.lt (H9.out.2.2.2.2.2.2.2.2.2.2.2.2.2)
        go_wp2_with fail
        refine (markBenchLH _ _ r s (w4.heap.size) (w5.heap.size) _ hl hn (H9.out.2.2.2.2.2.2.2.2.1) (H9.out.2.2.2.2.2.2.2.2.2.1) (by omega) (by omega)).mono ?_
        rintro e w10 ⟨rfl, ho0, ho1, hb⟩
        have hs10 := hb.size
        have H10 : Hid (Below w0.heap.size w0 w10 ∧ RdBI w10 w0.heap.size (.slice A0 r.length c0) r ∧ RdBT w10 w0.heap.size (.slice A1 s.length c1) s ∧ Blk w10 (w0.heap.size) #[.slice A0 r.length c0, .slice A1 s.length c1] 25 ∧ Blk w10 (w0.heap.size + 1) #[.int .i64 k, .string S] 27 ∧ OwnI w10 (mL) (mH) (.slice mA0 n9.length mc0) (n9) ∧ OwnWT w10 (mL) (mH) (.slice mA1 p9.length mc1) (p9) ∧ Blk w10 (mg) #[.slice mA0 n9.length mc0, .slice mA1 p9.length mc1] 30 ∧ OwnI w10 (w4.heap.size) (w5.heap.size) (.slice xA0 r.length xc0) (mkI 1 r) ∧ OwnWT w10 (w4.heap.size) (w5.heap.size) (.slice xA1 s.length xc1) (mtxs (1 + r.length) s.length) ∧ Blk w10 (w5.heap.size) #[.slice xA0 r.length xc0, .slice xA1 s.length xc1] 30 ∧ OwnI w10 (gL) (gH) (.slice gA0 n9.length gc0) (n9) ∧ OwnWT w10 (gL) (gH) (.slice gA1 p9.length gc1) (p9) ∧ Blk w10 (gg) #[.slice gA0 n9.length gc0, .slice gA1 p9.length gc1] 30) := Lib.hid ⟨(H9.out.1).trans (hb.below (by first | omega | exact Nat.le_refl _ | (simp; done) | (simp; omega)) (by first | omega | exact Nat.le_refl _ | (simp; done) | (simp; omega))), (H9.out.2.1).below (hb.below (by first | omega | exact Nat.le_refl _ | (simp; done) | (simp; omega)) (by first | omega | exact Nat.le_refl _ | (simp; done) | (simp; omega))), RdBT.below (H9.out.2.2.1) (hb.below (by first | omega | exact Nat.le_refl _ | (simp; done) | (simp; omega)) (by first | omega | exact Nat.le_refl _ | (simp; done) | (simp; omega))), (show Blk w10 _ _ _ from (hb.block _ (by omega) (by omega)).trans (H9.out.2.2.2.1)), (show Blk w10 _ _ _ from (hb.block _ (by omega) (by omega)).trans (H9.out.2.2.2.2.1)), (H9.out.2.2.2.2.2.1).apart hb (by omega), OwnWT.apart (H9.out.2.2.2.2.2.2.1) hb (by omega), (show Blk w10 _ _ _ from (hb.block _ (by omega) (by omega)).trans (H9.out.2.2.2.2.2.2.2.1)), ho0, ho1, (show Blk w10 _ _ _ from (hb.block _ (by omega) (by omega)).trans (H9.out.2.2.2.2.2.2.2.2.2.2.1)), (H9.out.2.2.2.2.2.2.2.2.2.2.2.1).apart hb (by omega), OwnWT.apart (H9.out.2.2.2.2.2.2.2.2.2.2.2.2.1) hb (by omega), (show Blk w10 _ _ _ from (hb.block _ (by omega) (by omega)).trans (H9.out.2.2.2.2.2.2.2.2.2.2.2.2.2))⟩
        clear hb H9 ho0 ho1
        clear A_9_0 A_9_1 A_9_lt D_9_0 D_9_1 D_9_lt bm_9_0 bm_9_1 bm_9_lt bx_9_0 bx_9_1 bx_9_lt bg_9_0 bg_9_1 bg_9_lt
        obtain ⟨A_10_0, A_10_1, _, _⟩ := blk_pair (H10.out.2.2.2.1)
        have A_10_lt := Blk.lt (H10.out.2.2.2.1)
        obtain ⟨D_10_0, D_10_1, _, _⟩ := blk_pair (H10.out.2.2.2.2.1)
        have D_10_lt := Blk.lt (H10.out.2.2.2.2.1)
        obtain ⟨bm_10_0, bm_10_1, _, _⟩ := blk_pair (H10.out.2.2.2.2.2.2.2.1)
        have bm_10_lt := Blk.lt (H10.out.2.2.2.2.2.2.2.1)
        obtain ⟨bx_10_0, bx_10_1, _, _⟩ := blk_pair (H10.out.2.2.2.2.2.2.2.2.2.2.1)
        have bx_10_lt := Blk.lt (H10.out.2.2.2.2.2.2.2.2.2.2.1)
        obtain ⟨bg_10_0, bg_10_1, _, _⟩ := blk_pair (H10.out.2.2.2.2.2.2.2.2.2.2.2.2.2)
        have bg_10_lt := Blk.lt (H10.out.2.2.2.2.2.2.2.2.2.2.2.2.2)
        go_wp2_with fail
        refine (eqB_any _ _ _ _ n9 n9 p9 p9 _ ((H10.out.2.2.2.2.2.2.2.2.2.2.2.1).rd) (OwnWT.rd (H10.out.2.2.2.2.2.2.2.2.2.2.2.2.1)) ((H10.out.2.2.2.2.2.1).rd) (OwnWT.rd (H10.out.2.2.2.2.2.2.1)) rfl rfl).mono ?_
        rintro e w11 ⟨rfl, hb⟩
        have hs11 := hb.size
        have H11 : Hid (Below w0.heap.size w0 w11 ∧ RdBI w11 w0.heap.size (.slice A0 r.length c0) r ∧ RdBT w11 w0.heap.size (.slice A1 s.length c1) s ∧ Blk w11 (w0.heap.size) #[.slice A0 r.length c0, .slice A1 s.length c1] 25 ∧ Blk w11 (w0.heap.size + 1) #[.int .i64 k, .string S] 27 ∧ OwnI w11 (mL) (mH) (.slice mA0 n9.length mc0) (n9) ∧ OwnWT w11 (mL) (mH) (.slice mA1 p9.length mc1) (p9) ∧ Blk w11 (mg) #[.slice mA0 n9.length mc0, .slice mA1 p9.length mc1] 30 ∧ OwnI w11 (w4.heap.size) (w5.heap.size) (.slice xA0 r.length xc0) (mkI 1 r) ∧ OwnWT w11 (w4.heap.size) (w5.heap.size) (.slice xA1 s.length xc1) (mtxs (1 + r.length) s.length) ∧ Blk w11 (w5.heap.size) #[.slice xA0 r.length xc0, .slice xA1 s.length xc1] 30 ∧ OwnI w11 (gL) (gH) (.slice gA0 n9.length gc0) (n9) ∧ OwnWT w11 (gL) (gH) (.slice gA1 p9.length gc1) (p9) ∧ Blk w11 (gg) #[.slice gA0 n9.length gc0, .slice gA1 p9.length gc1] 30) := Lib.hid ⟨(H10.out.1).trans ((hb).mono (by first | omega | exact Nat.le_refl _ | (simp; done) | (simp; omega))), (H10.out.2.1).below ((hb).mono (by first | omega | exact Nat.le_refl _ | (simp; done) | (simp; omega))), RdBT.below (H10.out.2.2.1) ((hb).mono (by first | omega | exact Nat.le_refl _ | (simp; done) | (simp; omega))), (H10.out.2.2.2.1).below hb (by first | omega | exact Nat.le_refl _ | (simp; done) | (simp; omega)), (H10.out.2.2.2.2.1).below hb (by first | omega | exact Nat.le_refl _ | (simp; done) | (simp; omega)), (H10.out.2.2.2.2.2.1).below hb, OwnW.below (H10.out.2.2.2.2.2.2.1) hb, (H10.out.2.2.2.2.2.2.2.1).below hb (by first | omega | exact Nat.le_refl _ | (simp; done) | (simp; omega)), (H10.out.2.2.2.2.2.2.2.2.1).below hb, OwnW.below (H10.out.2.2.2.2.2.2.2.2.2.1) hb, (H10.out.2.2.2.2.2.2.2.2.2.2.1).below hb (by first | omega | exact Nat.le_refl _ | (simp; done) | (simp; omega)), (H10.out.2.2.2.2.2.2.2.2.2.2.2.1).below hb, OwnW.below (H10.out.2.2.2.2.2.2.2.2.2.2.2.2.1) hb, (H10.out.2.2.2.2.2.2.2.2.2.2.2.2.2).below hb (by first | omega | exact Nat.le_refl _ | (simp; done) | (simp; omega))⟩
        clear hb H10 
        clear A_10_0 A_10_1 A_10_lt D_10_0 D_10_1 D_10_lt bm_10_0 bm_10_1 bm_10_lt bx_10_0 bx_10_1 bx_10_lt bg_10_0 bg_10_1 bg_10_lt
        obtain ⟨A_11_0, A_11_1, _, _⟩ := blk_pair (H11.out.2.2.2.1)
        have A_11_lt := Blk.lt (H11.out.2.2.2.1)
        obtain ⟨D_11_0, D_11_1, _, _⟩ := blk_pair (H11.out.2.2.2.2.1)
        have D_11_lt := Blk.lt (H11.out.2.2.2.2.1)
        obtain ⟨bm_11_0, bm_11_1, _, _⟩ := blk_pair (H11.out.2.2.2.2.2.2.2.1)
        have bm_11_lt := Blk.lt (H11.out.2.2.2.2.2.2.2.1)
        obtain ⟨bx_11_0, bx_11_1, _, _⟩ := blk_pair (H11.out.2.2.2.2.2.2.2.2.2.2.1)
        have bx_11_lt := Blk.lt (H11.out.2.2.2.2.2.2.2.2.2.2.1)
        obtain ⟨bg_11_0, bg_11_1, _, _⟩ := blk_pair (H11.out.2.2.2.2.2.2.2.2.2.2.2.2.2)
        have bg_11_lt := Blk.lt (H11.out.2.2.2.2.2.2.2.2.2.2.2.2.2)
        go_wp2_with fail
        refine (markBenchLH _ _ n9 p9 (gL) (gH) _ (by omega) (by omega) (H11.out.2.2.2.2.2.2.2.2.2.2.2.1) (H11.out.2.2.2.2.2.2.2.2.2.2.2.2.1) (by omega) (by omega)).mono ?_
        rintro e w12 ⟨rfl, ho0, ho1, hb⟩
        have hs12 := hb.size
        have H12 : Hid (Below w0.heap.size w0 w12 ∧ RdBI w12 w0.heap.size (.slice A0 r.length c0) r ∧ RdBT w12 w0.heap.size (.slice A1 s.length c1) s ∧ Blk w12 (w0.heap.size) #[.slice A0 r.length c0, .slice A1 s.length c1] 25 ∧ Blk w12 (w0.heap.size + 1) #[.int .i64 k, .string S] 27 ∧ OwnI w12 (mL) (mH) (.slice mA0 n9.length mc0) (n9) ∧ OwnWT w12 (mL) (mH) (.slice mA1 p9.length mc1) (p9) ∧ Blk w12 (mg) #[.slice mA0 n9.length mc0, .slice mA1 p9.length mc1] 30 ∧ OwnI w12 (w4.heap.size) (w5.heap.size) (.slice xA0 r.length xc0) (mkI 1 r) ∧ OwnWT w12 (w4.heap.size) (w5.heap.size) (.slice xA1 s.length xc1) (mtxs (1 + r.length) s.length) ∧ Blk w12 (w5.heap.size) #[.slice xA0 r.length xc0, .slice xA1 s.length xc1] 30 ∧ OwnI w12 (gL) (gH) (.slice gA0 n9.length gc0) (mkI 1 n9) ∧ OwnWT w12 (gL) (gH) (.slice gA1 p9.length gc1) (mtxs (1 + n9.length) p9.length) ∧ Blk w12 (gg) #[.slice gA0 n9.length gc0, .slice gA1 p9.length gc1] 30) := Lib.hid ⟨(H11.out.1).trans (hb.below (by first | omega | exact Nat.le_refl _ | (simp; done) | (simp; omega)) (by first | omega | exact Nat.le_refl _ | (simp; done) | (simp; omega))), (H11.out.2.1).below (hb.below (by first | omega | exact Nat.le_refl _ | (simp; done) | (simp; omega)) (by first | omega | exact Nat.le_refl _ | (simp; done) | (simp; omega))), RdBT.below (H11.out.2.2.1) (hb.below (by first | omega | exact Nat.le_refl _ | (simp; done) | (simp; omega)) (by first | omega | exact Nat.le_refl _ | (simp; done) | (simp; omega))), (show Blk w12 _ _ _ from (hb.block _ (by omega) (by omega)).trans (H11.out.2.2.2.1)), (show Blk w12 _ _ _ from (hb.block _ (by omega) (by omega)).trans (H11.out.2.2.2.2.1)), (H11.out.2.2.2.2.2.1).apart hb (by omega), OwnWT.apart (H11.out.2.2.2.2.2.2.1) hb (by omega), (show Blk w12 _ _ _ from (hb.block _ (by omega) (by omega)).trans (H11.out.2.2.2.2.2.2.2.1)), (H11.out.2.2.2.2.2.2.2.2.1).apart hb (by omega), OwnWT.apart (H11.out.2.2.2.2.2.2.2.2.2.1) hb (by omega), (show Blk w12 _ _ _ from (hb.block _ (by omega) (by omega)).trans (H11.out.2.2.2.2.2.2.2.2.2.2.1)), ho0, ho1, (show Blk w12 _ _ _ from (hb.block _ (by omega) (by omega)).trans (H11.out.2.2.2.2.2.2.2.2.2.2.2.2.2))⟩
        clear hb H11 ho0 ho1
        clear A_11_0 A_11_1 A_11_lt D_11_0 D_11_1 D_11_lt bm_11_0 bm_11_1 bm_11_lt bx_11_0 bx_11_1 bx_11_lt bg_11_0 bg_11_1 bg_11_lt
        obtain ⟨A_12_0, A_12_1, _, _⟩ := blk_pair (H12.out.2.2.2.1)
        have A_12_lt := Blk.lt (H12.out.2.2.2.1)
        obtain ⟨D_12_0, D_12_1, _, _⟩ := blk_pair (H12.out.2.2.2.2.1)
        have D_12_lt := Blk.lt (H12.out.2.2.2.2.1)
        obtain ⟨bm_12_0, bm_12_1, _, _⟩ := blk_pair (H12.out.2.2.2.2.2.2.2.1)
        have bm_12_lt := Blk.lt (H12.out.2.2.2.2.2.2.2.1)
        obtain ⟨bx_12_0, bx_12_1, _, _⟩ := blk_pair (H12.out.2.2.2.2.2.2.2.2.2.2.1)
        have bx_12_lt := Blk.lt (H12.out.2.2.2.2.2.2.2.2.2.2.1)
        obtain ⟨bg_12_0, bg_12_1, _, _⟩ := blk_pair (H12.out.2.2.2.2.2.2.2.2.2.2.2.2.2)
        have bg_12_lt := Blk.lt (H12.out.2.2.2.2.2.2.2.2.2.2.2.2.2)
        go_wp2_with fail
        refine (heldBench9 _ _ n9 p9 _ (by omega) (by omega) ((H12.out.2.2.2.2.2.2.2.2.2.2.2.1).rd) (OwnWT.rd (H12.out.2.2.2.2.2.2.2.2.2.2.2.2.1))).mono ?_
        rintro e w13 ⟨rfl, hb⟩
        have hs13 := hb.size
        have H13 : Hid (Below w0.heap.size w0 w13 ∧ RdBI w13 w0.heap.size (.slice A0 r.length c0) r ∧ RdBT w13 w0.heap.size (.slice A1 s.length c1) s ∧ Blk w13 (w0.heap.size) #[.slice A0 r.length c0, .slice A1 s.length c1] 25 ∧ Blk w13 (w0.heap.size + 1) #[.int .i64 k, .string S] 27 ∧ OwnI w13 (mL) (mH) (.slice mA0 n9.length mc0) (n9) ∧ OwnWT w13 (mL) (mH) (.slice mA1 p9.length mc1) (p9) ∧ Blk w13 (mg) #[.slice mA0 n9.length mc0, .slice mA1 p9.length mc1] 30 ∧ OwnI w13 (w4.heap.size) (w5.heap.size) (.slice xA0 r.length xc0) (mkI 1 r) ∧ OwnWT w13 (w4.heap.size) (w5.heap.size) (.slice xA1 s.length xc1) (mtxs (1 + r.length) s.length) ∧ Blk w13 (w5.heap.size) #[.slice xA0 r.length xc0, .slice xA1 s.length xc1] 30 ∧ OwnI w13 (gL) (gH) (.slice gA0 n9.length gc0) (mkI 1 n9) ∧ OwnWT w13 (gL) (gH) (.slice gA1 p9.length gc1) (mtxs (1 + n9.length) p9.length) ∧ Blk w13 (gg) #[.slice gA0 n9.length gc0, .slice gA1 p9.length gc1] 30) := Lib.hid ⟨(H12.out.1).trans ((hb).mono (by first | omega | exact Nat.le_refl _ | (simp; done) | (simp; omega))), (H12.out.2.1).below ((hb).mono (by first | omega | exact Nat.le_refl _ | (simp; done) | (simp; omega))), RdBT.below (H12.out.2.2.1) ((hb).mono (by first | omega | exact Nat.le_refl _ | (simp; done) | (simp; omega))), (H12.out.2.2.2.1).below hb (by first | omega | exact Nat.le_refl _ | (simp; done) | (simp; omega)), (H12.out.2.2.2.2.1).below hb (by first | omega | exact Nat.le_refl _ | (simp; done) | (simp; omega)), (H12.out.2.2.2.2.2.1).below hb, OwnW.below (H12.out.2.2.2.2.2.2.1) hb, (H12.out.2.2.2.2.2.2.2.1).below hb (by first | omega | exact Nat.le_refl _ | (simp; done) | (simp; omega)), (H12.out.2.2.2.2.2.2.2.2.1).below hb, OwnW.below (H12.out.2.2.2.2.2.2.2.2.2.1) hb, (H12.out.2.2.2.2.2.2.2.2.2.2.1).below hb (by first | omega | exact Nat.le_refl _ | (simp; done) | (simp; omega)), (H12.out.2.2.2.2.2.2.2.2.2.2.2.1).below hb, OwnW.below (H12.out.2.2.2.2.2.2.2.2.2.2.2.2.1) hb, (H12.out.2.2.2.2.2.2.2.2.2.2.2.2.2).below hb (by first | omega | exact Nat.le_refl _ | (simp; done) | (simp; omega))⟩
        clear hb H12 
        clear A_12_0 A_12_1 A_12_lt D_12_0 D_12_1 D_12_lt bm_12_0 bm_12_1 bm_12_lt bx_12_0 bx_12_1 bx_12_lt bg_12_0 bg_12_1 bg_12_lt
        obtain ⟨A_13_0, A_13_1, _, _⟩ := blk_pair (H13.out.2.2.2.1)
        have A_13_lt := Blk.lt (H13.out.2.2.2.1)
        obtain ⟨D_13_0, D_13_1, _, _⟩ := blk_pair (H13.out.2.2.2.2.1)
        have D_13_lt := Blk.lt (H13.out.2.2.2.2.1)
        obtain ⟨bm_13_0, bm_13_1, _, _⟩ := blk_pair (H13.out.2.2.2.2.2.2.2.1)
        have bm_13_lt := Blk.lt (H13.out.2.2.2.2.2.2.2.1)
        obtain ⟨bx_13_0, bx_13_1, _, _⟩ := blk_pair (H13.out.2.2.2.2.2.2.2.2.2.2.1)
        have bx_13_lt := Blk.lt (H13.out.2.2.2.2.2.2.2.2.2.2.1)
        obtain ⟨bg_13_0, bg_13_1, _, _⟩ := blk_pair (H13.out.2.2.2.2.2.2.2.2.2.2.2.2.2)
        have bg_13_lt := Blk.lt (H13.out.2.2.2.2.2.2.2.2.2.2.2.2.2)
        have HB9 : Hid (∀ X, Below w13.heap.size w13 X → Calls Tryz.prog 10 #[.agg #[.slice A0 r.length c0, .slice A1 s.length c1]] X (ToB X r s)) := Lib.hid fun X hX => toB _ _ r s X (((H13.out.2.1).below (hX.mono (by omega))).rd (by have := hX.size; omega)) (RdBT.mono (RdBT.below (H13.out.2.2.1) (hX.mono (by omega))) (by have := hX.size; omega)) hl hn
        go_upto_region 27 with fail
        go_cut [14, 15] (fun q6 q7 wx => ∃ (g9 L9 H9 : Nat) (hA0 : Option Addr) (hc0 : Nat) (hA1 : Option Addr) (hc1 : Nat), q6 = .pointer (some ⟨g9, 0, none⟩) ∧ q7 = .bool ok ∧ w13.heap.size ≤ g9 ∧ g9 < wx.heap.size ∧ w13.heap.size ≤ L9 ∧ L9 ≤ H9 ∧ H9 ≤ wx.heap.size ∧ (g9 < L9 ∨ H9 ≤ g9) ∧ Blk wx g9 #[.slice hA0 n9.length hc0, .slice hA1 p9.length hc1] 30 ∧ OwnI wx L9 H9 (.slice hA0 n9.length hc0) n9 ∧ OwnWT wx L9 H9 (.slice hA1 p9.length hc1) p9 ∧ Below w13.heap.size w13 wx)
        case first =>
          have bD_w13 : Below w13.heap.size w13 w13.drew := (Below.refl _ _).drew
          have HDD_w13 := Lib.hid bD_w13
          go_region_held3 (fun w' => w'.cell? ⟨w0.heap.size, 0, none⟩ = some (.slice A0 r.length c0) ∧ w'.cell? ⟨w0.heap.size, 1, none⟩ = some (.slice A1 s.length c1) ∧ w'.cell? ⟨w0.heap.size + 1, 0, none⟩ = some (.int .i64 k) ∧ w'.cell? ⟨w0.heap.size + 1, 1, none⟩ = some (.string S)) (repeat' (first | with_reducible assumption | apply And.intro | rw [World.cell?_drew] | rw [World.cell?_alloc_lt _ _ _ (by first | omega | (simp; omega))] | rw [World.cell?_setCell_far _ _ _ _ (by first | omega | (simp; omega))])) (first
            | (go_at_call 10; refine (HB9.out _ (by (repeat (first | with_reducible exact Below.refl _ _ | with_reducible exact bD_w13 | with_reducible refine Below.drew ?_ | with_reducible refine below_allocH ?_ (by first | exact Nat.le_refl _ | omega | (simp; done) | (simp; omega)) _ _)))).mono ?_; rintro e wA ⟨tt0, tt1, ttm, rfl, htm1, htm2, hp0, hp1, hbA⟩; obtain ⟨tA0, tc0, rfl, _⟩ := hp0.rd; obtain ⟨tA1, tc1, rfl, _⟩ := hp1.rd; have bA : Below w13.heap.size w13 wA := wayB (by (repeat (first | with_reducible exact Below.refl _ _ | with_reducible exact bD_w13 | with_reducible refine Below.drew ?_ | with_reducible refine below_allocH ?_ (by first | exact Nat.le_refl _ | omega | (simp; done) | (simp; omega)) _ _))) hbA; have hsA := bA.size; obtain ⟨xwA0, xwA1, _, _⟩ := blk_pair ((H13.out.2.2.2.1).below bA (by omega)); obtain ⟨dwA0, dwA1, _, _⟩ := blk_pair ((H13.out.2.2.2.2.1).below bA (by omega)); have TA := Lib.hid (And.intro hp0.rd (And.intro hp1.rd bA)); have bD_wA : Below wA.heap.size wA wA.drew := (Below.refl _ _).drew; (first | (have hZ := Lib.hid (Blk.below (show Blk _ w13.heap.size #[.slice none 0 0, .slice none 0 0] 30 from by (repeat (first | with_reducible refine Blk.drewH ?_ | (refine Blk.newH _ _ _ _ ?_; first | rfl | omega | (simp; done) | (simp; omega)) | with_reducible refine Blk.keepH ?_))) hbA (by first | omega | (simp; done) | (simp; omega))); have hZl := hZ.out.lt) | skip); clear hp0 hp1 hbA)
            | (go_at_call 11; refine (toD_any k S _).mono ?_; rintro e wB ⟨rfl, hbB⟩; have bB : Below wA.heap.size wA wB := wayB (by (repeat (first | with_reducible exact Below.refl _ _ | with_reducible exact bD_wA | with_reducible refine Below.drew ?_ | with_reducible refine below_allocH ?_ (by first | exact Nat.le_refl _ | omega | (simp; done) | (simp; omega)) _ _))) hbB; have bWB : Below w13.heap.size w13 wB := TA.out.2.2.trans (bB.mono (by omega)); have hsB := bB.size; obtain ⟨xwB0, xwB1, _, _⟩ := blk_pair ((H13.out.2.2.2.1).below bWB (by omega)); obtain ⟨dwB0, dwB1, _, _⟩ := blk_pair ((H13.out.2.2.2.2.1).below bWB (by omega)); have TB := Lib.hid (And.intro bB bWB); have bD_wB : Below wB.heap.size wB wB.drew := (Below.refl _ _).drew; (first | (have hY := Lib.hid (Blk.below hZ.out bB (by first | omega | (have := hZ.out.lt; omega) | (simp; done) | (simp; omega))); have hYl := hY.out.lt) | (have hY := Lib.hid (Blk.below (show Blk _ wA.heap.size #[.slice none 0 0, .slice none 0 0] 30 from by (repeat (first | with_reducible refine Blk.drewH ?_ | (refine Blk.newH _ _ _ _ ?_; first | rfl | omega | (simp; done) | (simp; omega)) | with_reducible refine Blk.keepH ?_))) hbB (by first | omega | (simp; done) | (simp; omega))); have hYl := hY.out.lt) | skip); clear hbB)
            | (go_at_call 12; refine (HSI.out _ _ _ (RdI.step (TA.out.1.step TB.out.1) (by (repeat (first | with_reducible exact Below.refl _ _ | with_reducible exact bD_wB | with_reducible refine Below.drew ?_ | with_reducible refine below_allocH ?_ (by first | exact Nat.le_refl _ | omega | (simp; done) | (simp; omega)) _ _)))) (RdT.step (RdT.step TA.out.2.1 TB.out.1) (by (repeat (first | with_reducible exact Below.refl _ _ | with_reducible exact bD_wB | with_reducible refine Below.drew ?_ | with_reducible refine below_allocH ?_ (by first | exact Nat.le_refl _ | omega | (simp; done) | (simp; omega)) _ _)))) (HT.out.keep (((H13.out.1).trans (TB.out.2.mono (by omega))).trans (Below.mono (show Below wB.heap.size wB _ from by (repeat (first | with_reducible exact Below.refl _ _ | with_reducible exact bD_wB | with_reducible refine Below.drew ?_ | with_reducible refine below_allocH ?_ (by first | exact Nat.le_refl _ | omega | (simp; done) | (simp; omega)) _ _))) (by omega))))).mono ?_; rintro e wC ⟨uu0, uu1, rfl, hp0, hp1, hbC⟩; dsimp only at hp0 hp1; obtain ⟨hA0, hc0, rfl, _⟩ := hp0.ints; obtain ⟨hA1, hc1, rfl, _⟩ := hp1.rd; have bC : Below wB.heap.size wB wC := wayB (by (repeat (first | with_reducible exact Below.refl _ _ | with_reducible exact bD_wB | with_reducible refine Below.drew ?_ | with_reducible refine below_allocH ?_ (by first | exact Nat.le_refl _ | omega | (simp; done) | (simp; omega)) _ _))) hbC; have bWC : Below w13.heap.size w13 wC := TB.out.2.trans (bC.mono (by omega)); have hsC := bC.size; obtain ⟨xwC0, xwC1, _, _⟩ := blk_pair ((H13.out.2.2.2.1).below bWC (by omega)); obtain ⟨dwC0, dwC1, _, _⟩ := blk_pair ((H13.out.2.2.2.2.1).below bWC (by omega)); have TC := Lib.hid (And.intro (ownB (W := wB) (by (repeat (first | with_reducible exact Below.refl _ _ | with_reducible exact bD_wB | with_reducible refine Below.drew ?_ | with_reducible refine below_allocH ?_ (by first | exact Nat.le_refl _ | omega | (simp; done) | (simp; omega)) _ _))) hp0) (And.intro (ownTB (W := wB) (by (repeat (first | with_reducible exact Below.refl _ _ | with_reducible exact bD_wB | with_reducible refine Below.drew ?_ | with_reducible refine below_allocH ?_ (by first | exact Nat.le_refl _ | omega | (simp; done) | (simp; omega)) _ _))) hp1) bWC)); (first | (have hX := Lib.hid (Blk.below hY.out bC (by first | omega | (have := hY.out.lt; omega) | (simp; done) | (simp; omega))); obtain ⟨zz0, zz1, zf0, zf1⟩ := blk_pair hX.out) | (have hX := Lib.hid (Blk.below (show Blk _ wB.heap.size #[.slice none 0 0, .slice none 0 0] 30 from by (repeat (first | with_reducible refine Blk.drewH ?_ | (refine Blk.newH _ _ _ _ ?_; first | rfl | omega | (simp; done) | (simp; omega)) | with_reducible refine Blk.keepH ?_))) hbC (by first | omega | (simp; done) | (simp; omega))); have o9 : Own wC (wB.heap.size + 1) (.slice hA0 n9.length hc0) n9 := hp0.mono (by first | omega | exact Nat.le_refl _ | (simp; done) | (simp; omega)); have t9 : OwnWT wC (wB.heap.size + 1) wC.heap.size (.slice hA1 p9.length hc1) p9 := OwnW.mono hp1 (by first | omega | exact Nat.le_refl _ | (simp; done) | (simp; omega)) (Nat.le_refl _); have X9 := Lib.hid (And.intro o9 t9); clear o9 t9; obtain ⟨zz0, zz1, zf0, zf1⟩ := blk_pair hX.out) | skip); clear hp0 hp1 hbC)
            | fail)
          all_goals (go_wp2_with fail; go_meet)
          all_goals first
            | (exact ⟨wC.heap.size, wB.heap.size, wC.heap.size, _, _, _, _, rfl, rfl, by omega, by simp, by omega, by omega, by simp, .inr (Nat.le_refl _), Blk.new wC _ _, (TC.out.1.within).below ((Below.refl _ _).alloc (Nat.le_refl _) _), OwnW.below TC.out.2.1 ((Below.refl _ _).alloc (Nat.le_refl _) _), (TC.out.2.2).alloc (by omega) _⟩)
            | (exact ⟨w13.heap.size, wB.heap.size, wC.heap.size, _, _, _, _, rfl, rfl, by omega, by simp [World.setCell]; omega, by omega, by omega, by simp [World.setCell], .inl (by omega), (Blk.set (Blk.set hX.out 0 _) 1 _), ⟨(TC.out.1.far9 (by omega) 0 _).far9 (by omega) 1 _, fun g hg => by have := TC.out.1.ge g hg; omega⟩, OwnWT.far9 (OwnWT.far9 TC.out.2.1 (by omega) 0 _) (by omega) 1 _, ((TC.out.2.2).setCell (by simp <;> omega) _).setCell (by simp <;> omega) _⟩)
            | (exact ⟨wA.heap.size, wB.heap.size, wC.heap.size, _, _, _, _, rfl, rfl, by omega, by simp [World.setCell]; omega, by omega, by omega, by simp [World.setCell], .inl (by omega), (Blk.set (Blk.set hX.out 0 _) 1 _), ⟨(TC.out.1.far9 (by omega) 0 _).far9 (by omega) 1 _, fun g hg => by have := TC.out.1.ge g hg; omega⟩, OwnWT.far9 (OwnWT.far9 TC.out.2.1 (by omega) 0 _) (by omega) 1 _, ((TC.out.2.2).setCell (by simp <;> omega) _).setCell (by simp <;> omega) _⟩)
            | (exact ⟨wB.heap.size, wB.heap.size + 1, wC.heap.size, _, _, _, _, rfl, rfl, by omega, by simp [World.setCell]; have := hX.out.lt; omega, by omega, by have := hX.out.lt; omega, by simp [World.setCell], .inl (by omega), (Blk.set (Blk.set hX.out 0 _) 1 _), ⟨(X9.out.1.far9 (by omega) 0 _).far9 (by omega) 1 _, fun g hg => by have := X9.out.1.ge g hg; omega⟩, OwnWT.far9 (OwnWT.far9 X9.out.2 (by omega) 0 _) (by omega) 1 _, ((TC.out.2.2).setCell (by simp <;> omega) _).setCell (by simp <;> omega) _⟩)
        case rest =>
          obtain ⟨hg, hL, hH, hA0, hc0, hA1, hc1, rfl, rfl, hh1, hh2, hh3, hh4, hh5, hh6, hbx, ho0, ho1, hb⟩ := hcut
          obtain ⟨w14, hwc⟩ : ∃ w, w = wc := ⟨_, rfl⟩
          subst hwc
          have hs14 := hb.size
          have H14 : Hid (Below w0.heap.size w0 w14 ∧ RdBI w14 w0.heap.size (.slice A0 r.length c0) r ∧ RdBT w14 w0.heap.size (.slice A1 s.length c1) s ∧ Blk w14 (w0.heap.size) #[.slice A0 r.length c0, .slice A1 s.length c1] 25 ∧ Blk w14 (w0.heap.size + 1) #[.int .i64 k, .string S] 27 ∧ OwnI w14 (mL) (mH) (.slice mA0 n9.length mc0) (n9) ∧ OwnWT w14 (mL) (mH) (.slice mA1 p9.length mc1) (p9) ∧ Blk w14 (mg) #[.slice mA0 n9.length mc0, .slice mA1 p9.length mc1] 30 ∧ OwnI w14 (w4.heap.size) (w5.heap.size) (.slice xA0 r.length xc0) (mkI 1 r) ∧ OwnWT w14 (w4.heap.size) (w5.heap.size) (.slice xA1 s.length xc1) (mtxs (1 + r.length) s.length) ∧ Blk w14 (w5.heap.size) #[.slice xA0 r.length xc0, .slice xA1 s.length xc1] 30 ∧ OwnI w14 (gL) (gH) (.slice gA0 n9.length gc0) (mkI 1 n9) ∧ OwnWT w14 (gL) (gH) (.slice gA1 p9.length gc1) (mtxs (1 + n9.length) p9.length) ∧ Blk w14 (gg) #[.slice gA0 n9.length gc0, .slice gA1 p9.length gc1] 30 ∧ OwnI w14 (hL) (hH) (.slice hA0 n9.length hc0) (n9) ∧ OwnWT w14 (hL) (hH) (.slice hA1 p9.length hc1) (p9) ∧ Blk w14 (hg) #[.slice hA0 n9.length hc0, .slice hA1 p9.length hc1] 30) := Lib.hid ⟨(H13.out.1).trans ((hb).mono (by first | omega | exact Nat.le_refl _ | (simp; done) | (simp; omega))), (H13.out.2.1).below ((hb).mono (by first | omega | exact Nat.le_refl _ | (simp; done) | (simp; omega))), RdBT.below (H13.out.2.2.1) ((hb).mono (by first | omega | exact Nat.le_refl _ | (simp; done) | (simp; omega))), (H13.out.2.2.2.1).below hb (by first | omega | exact Nat.le_refl _ | (simp; done) | (simp; omega)), (H13.out.2.2.2.2.1).below hb (by first | omega | exact Nat.le_refl _ | (simp; done) | (simp; omega)), (H13.out.2.2.2.2.2.1).below hb, OwnW.below (H13.out.2.2.2.2.2.2.1) hb, (H13.out.2.2.2.2.2.2.2.1).below hb (by first | omega | exact Nat.le_refl _ | (simp; done) | (simp; omega)), (H13.out.2.2.2.2.2.2.2.2.1).below hb, OwnW.below (H13.out.2.2.2.2.2.2.2.2.2.1) hb, (H13.out.2.2.2.2.2.2.2.2.2.2.1).below hb (by first | omega | exact Nat.le_refl _ | (simp; done) | (simp; omega)), (H13.out.2.2.2.2.2.2.2.2.2.2.2.1).below hb, OwnW.below (H13.out.2.2.2.2.2.2.2.2.2.2.2.2.1) hb, (H13.out.2.2.2.2.2.2.2.2.2.2.2.2.2).below hb (by first | omega | exact Nat.le_refl _ | (simp; done) | (simp; omega)), ho0, ho1, hbx⟩
          clear hb H13 ho0 ho1 hbx
          clear A_13_0 A_13_1 A_13_lt D_13_0 D_13_1 D_13_lt bm_13_0 bm_13_1 bm_13_lt bx_13_0 bx_13_1 bx_13_lt bg_13_0 bg_13_1 bg_13_lt
          obtain ⟨A_14_0, A_14_1, _, _⟩ := blk_pair (H14.out.2.2.2.1)
          have A_14_lt := Blk.lt (H14.out.2.2.2.1)
          obtain ⟨D_14_0, D_14_1, _, _⟩ := blk_pair (H14.out.2.2.2.2.1)
          have D_14_lt := Blk.lt (H14.out.2.2.2.2.1)
          obtain ⟨bm_14_0, bm_14_1, _, _⟩ := blk_pair (H14.out.2.2.2.2.2.2.2.1)
          have bm_14_lt := Blk.lt (H14.out.2.2.2.2.2.2.2.1)
          obtain ⟨bx_14_0, bx_14_1, _, _⟩ := blk_pair (H14.out.2.2.2.2.2.2.2.2.2.2.1)
          have bx_14_lt := Blk.lt (H14.out.2.2.2.2.2.2.2.2.2.2.1)
          obtain ⟨bg_14_0, bg_14_1, _, _⟩ := blk_pair (H14.out.2.2.2.2.2.2.2.2.2.2.2.2.2.1)
          have bg_14_lt := Blk.lt (H14.out.2.2.2.2.2.2.2.2.2.2.2.2.2.1)
          obtain ⟨bh_14_0, bh_14_1, _, _⟩ := blk_pair (H14.out.2.2.2.2.2.2.2.2.2.2.2.2.2.2.2.2)
          have bh_14_lt := Blk.lt (H14.out.2.2.2.2.2.2.2.2.2.2.2.2.2.2.2.2)
          clear HB9
          go_wp2_with fail
          refine (eqB_any _ _ _ _ n9 n9 p9 p9 _ ((H14.out.2.2.2.2.2.2.2.2.2.2.2.2.2.2.1).rd) (OwnWT.rd (H14.out.2.2.2.2.2.2.2.2.2.2.2.2.2.2.2.1)) ((H14.out.2.2.2.2.2.1).rd) (OwnWT.rd (H14.out.2.2.2.2.2.2.1)) rfl rfl).mono ?_
          rintro e w15 ⟨rfl, hb⟩
          have hs15 := hb.size
          have H15 : Hid (Below w0.heap.size w0 w15 ∧ RdBI w15 w0.heap.size (.slice A0 r.length c0) r ∧ RdBT w15 w0.heap.size (.slice A1 s.length c1) s ∧ Blk w15 (w0.heap.size) #[.slice A0 r.length c0, .slice A1 s.length c1] 25 ∧ Blk w15 (w0.heap.size + 1) #[.int .i64 k, .string S] 27 ∧ OwnI w15 (mL) (mH) (.slice mA0 n9.length mc0) (n9) ∧ OwnWT w15 (mL) (mH) (.slice mA1 p9.length mc1) (p9) ∧ Blk w15 (mg) #[.slice mA0 n9.length mc0, .slice mA1 p9.length mc1] 30 ∧ OwnI w15 (w4.heap.size) (w5.heap.size) (.slice xA0 r.length xc0) (mkI 1 r) ∧ OwnWT w15 (w4.heap.size) (w5.heap.size) (.slice xA1 s.length xc1) (mtxs (1 + r.length) s.length) ∧ Blk w15 (w5.heap.size) #[.slice xA0 r.length xc0, .slice xA1 s.length xc1] 30 ∧ OwnI w15 (gL) (gH) (.slice gA0 n9.length gc0) (mkI 1 n9) ∧ OwnWT w15 (gL) (gH) (.slice gA1 p9.length gc1) (mtxs (1 + n9.length) p9.length) ∧ Blk w15 (gg) #[.slice gA0 n9.length gc0, .slice gA1 p9.length gc1] 30 ∧ OwnI w15 (hL) (hH) (.slice hA0 n9.length hc0) (n9) ∧ OwnWT w15 (hL) (hH) (.slice hA1 p9.length hc1) (p9) ∧ Blk w15 (hg) #[.slice hA0 n9.length hc0, .slice hA1 p9.length hc1] 30) := Lib.hid ⟨(H14.out.1).trans ((hb).mono (by first | omega | exact Nat.le_refl _ | (simp; done) | (simp; omega))), (H14.out.2.1).below ((hb).mono (by first | omega | exact Nat.le_refl _ | (simp; done) | (simp; omega))), RdBT.below (H14.out.2.2.1) ((hb).mono (by first | omega | exact Nat.le_refl _ | (simp; done) | (simp; omega))), (H14.out.2.2.2.1).below hb (by first | omega | exact Nat.le_refl _ | (simp; done) | (simp; omega)), (H14.out.2.2.2.2.1).below hb (by first | omega | exact Nat.le_refl _ | (simp; done) | (simp; omega)), (H14.out.2.2.2.2.2.1).below hb, OwnW.below (H14.out.2.2.2.2.2.2.1) hb, (H14.out.2.2.2.2.2.2.2.1).below hb (by first | omega | exact Nat.le_refl _ | (simp; done) | (simp; omega)), (H14.out.2.2.2.2.2.2.2.2.1).below hb, OwnW.below (H14.out.2.2.2.2.2.2.2.2.2.1) hb, (H14.out.2.2.2.2.2.2.2.2.2.2.1).below hb (by first | omega | exact Nat.le_refl _ | (simp; done) | (simp; omega)), (H14.out.2.2.2.2.2.2.2.2.2.2.2.1).below hb, OwnW.below (H14.out.2.2.2.2.2.2.2.2.2.2.2.2.1) hb, (H14.out.2.2.2.2.2.2.2.2.2.2.2.2.2.1).below hb (by first | omega | exact Nat.le_refl _ | (simp; done) | (simp; omega)), (H14.out.2.2.2.2.2.2.2.2.2.2.2.2.2.2.1).below hb, OwnW.below (H14.out.2.2.2.2.2.2.2.2.2.2.2.2.2.2.2.1) hb, (H14.out.2.2.2.2.2.2.2.2.2.2.2.2.2.2.2.2).below hb (by first | omega | exact Nat.le_refl _ | (simp; done) | (simp; omega))⟩
          clear hb H14 
          clear A_14_0 A_14_1 A_14_lt D_14_0 D_14_1 D_14_lt bm_14_0 bm_14_1 bm_14_lt bx_14_0 bx_14_1 bx_14_lt bg_14_0 bg_14_1 bg_14_lt bh_14_0 bh_14_1 bh_14_lt
          obtain ⟨A_15_0, A_15_1, _, _⟩ := blk_pair (H15.out.2.2.2.1)
          have A_15_lt := Blk.lt (H15.out.2.2.2.1)
          obtain ⟨D_15_0, D_15_1, _, _⟩ := blk_pair (H15.out.2.2.2.2.1)
          have D_15_lt := Blk.lt (H15.out.2.2.2.2.1)
          obtain ⟨bm_15_0, bm_15_1, _, _⟩ := blk_pair (H15.out.2.2.2.2.2.2.2.1)
          have bm_15_lt := Blk.lt (H15.out.2.2.2.2.2.2.2.1)
          obtain ⟨bx_15_0, bx_15_1, _, _⟩ := blk_pair (H15.out.2.2.2.2.2.2.2.2.2.2.1)
          have bx_15_lt := Blk.lt (H15.out.2.2.2.2.2.2.2.2.2.2.1)
          obtain ⟨bg_15_0, bg_15_1, _, _⟩ := blk_pair (H15.out.2.2.2.2.2.2.2.2.2.2.2.2.2.1)
          have bg_15_lt := Blk.lt (H15.out.2.2.2.2.2.2.2.2.2.2.2.2.2.1)
          obtain ⟨bh_15_0, bh_15_1, _, _⟩ := blk_pair (H15.out.2.2.2.2.2.2.2.2.2.2.2.2.2.2.2.2)
          have bh_15_lt := Blk.lt (H15.out.2.2.2.2.2.2.2.2.2.2.2.2.2.2.2.2)
          go_wp2_with fail
          refine (heldBench9 _ _ n9 p9 _ (by omega) (by omega) ((H15.out.2.2.2.2.2.2.2.2.2.2.2.1).rd) (OwnWT.rd (H15.out.2.2.2.2.2.2.2.2.2.2.2.2.1))).mono ?_
          rintro e w16 ⟨rfl, hb⟩
          have hs16 := hb.size
          have H16 : Hid (Below w0.heap.size w0 w16 ∧ RdBI w16 w0.heap.size (.slice A0 r.length c0) r ∧ RdBT w16 w0.heap.size (.slice A1 s.length c1) s ∧ Blk w16 (w0.heap.size) #[.slice A0 r.length c0, .slice A1 s.length c1] 25 ∧ Blk w16 (w0.heap.size + 1) #[.int .i64 k, .string S] 27 ∧ OwnI w16 (mL) (mH) (.slice mA0 n9.length mc0) (n9) ∧ OwnWT w16 (mL) (mH) (.slice mA1 p9.length mc1) (p9) ∧ Blk w16 (mg) #[.slice mA0 n9.length mc0, .slice mA1 p9.length mc1] 30 ∧ OwnI w16 (w4.heap.size) (w5.heap.size) (.slice xA0 r.length xc0) (mkI 1 r) ∧ OwnWT w16 (w4.heap.size) (w5.heap.size) (.slice xA1 s.length xc1) (mtxs (1 + r.length) s.length) ∧ Blk w16 (w5.heap.size) #[.slice xA0 r.length xc0, .slice xA1 s.length xc1] 30 ∧ OwnI w16 (gL) (gH) (.slice gA0 n9.length gc0) (mkI 1 n9) ∧ OwnWT w16 (gL) (gH) (.slice gA1 p9.length gc1) (mtxs (1 + n9.length) p9.length) ∧ Blk w16 (gg) #[.slice gA0 n9.length gc0, .slice gA1 p9.length gc1] 30 ∧ OwnI w16 (hL) (hH) (.slice hA0 n9.length hc0) (n9) ∧ OwnWT w16 (hL) (hH) (.slice hA1 p9.length hc1) (p9) ∧ Blk w16 (hg) #[.slice hA0 n9.length hc0, .slice hA1 p9.length hc1] 30) := Lib.hid ⟨(H15.out.1).trans ((hb).mono (by first | omega | exact Nat.le_refl _ | (simp; done) | (simp; omega))), (H15.out.2.1).below ((hb).mono (by first | omega | exact Nat.le_refl _ | (simp; done) | (simp; omega))), RdBT.below (H15.out.2.2.1) ((hb).mono (by first | omega | exact Nat.le_refl _ | (simp; done) | (simp; omega))), (H15.out.2.2.2.1).below hb (by first | omega | exact Nat.le_refl _ | (simp; done) | (simp; omega)), (H15.out.2.2.2.2.1).below hb (by first | omega | exact Nat.le_refl _ | (simp; done) | (simp; omega)), (H15.out.2.2.2.2.2.1).below hb, OwnW.below (H15.out.2.2.2.2.2.2.1) hb, (H15.out.2.2.2.2.2.2.2.1).below hb (by first | omega | exact Nat.le_refl _ | (simp; done) | (simp; omega)), (H15.out.2.2.2.2.2.2.2.2.1).below hb, OwnW.below (H15.out.2.2.2.2.2.2.2.2.2.1) hb, (H15.out.2.2.2.2.2.2.2.2.2.2.1).below hb (by first | omega | exact Nat.le_refl _ | (simp; done) | (simp; omega)), (H15.out.2.2.2.2.2.2.2.2.2.2.2.1).below hb, OwnW.below (H15.out.2.2.2.2.2.2.2.2.2.2.2.2.1) hb, (H15.out.2.2.2.2.2.2.2.2.2.2.2.2.2.1).below hb (by first | omega | exact Nat.le_refl _ | (simp; done) | (simp; omega)), (H15.out.2.2.2.2.2.2.2.2.2.2.2.2.2.2.1).below hb, OwnW.below (H15.out.2.2.2.2.2.2.2.2.2.2.2.2.2.2.2.1) hb, (H15.out.2.2.2.2.2.2.2.2.2.2.2.2.2.2.2.2).below hb (by first | omega | exact Nat.le_refl _ | (simp; done) | (simp; omega))⟩
          clear hb H15 
          clear A_15_0 A_15_1 A_15_lt D_15_0 D_15_1 D_15_lt bm_15_0 bm_15_1 bm_15_lt bx_15_0 bx_15_1 bx_15_lt bg_15_0 bg_15_1 bg_15_lt bh_15_0 bh_15_1 bh_15_lt
          obtain ⟨A_16_0, A_16_1, _, _⟩ := blk_pair (H16.out.2.2.2.1)
          have A_16_lt := Blk.lt (H16.out.2.2.2.1)
          obtain ⟨D_16_0, D_16_1, _, _⟩ := blk_pair (H16.out.2.2.2.2.1)
          have D_16_lt := Blk.lt (H16.out.2.2.2.2.1)
          obtain ⟨bm_16_0, bm_16_1, _, _⟩ := blk_pair (H16.out.2.2.2.2.2.2.2.1)
          have bm_16_lt := Blk.lt (H16.out.2.2.2.2.2.2.2.1)
          obtain ⟨bx_16_0, bx_16_1, _, _⟩ := blk_pair (H16.out.2.2.2.2.2.2.2.2.2.2.1)
          have bx_16_lt := Blk.lt (H16.out.2.2.2.2.2.2.2.2.2.2.1)
          obtain ⟨bg_16_0, bg_16_1, _, _⟩ := blk_pair (H16.out.2.2.2.2.2.2.2.2.2.2.2.2.2.1)
          have bg_16_lt := Blk.lt (H16.out.2.2.2.2.2.2.2.2.2.2.2.2.2.1)
          obtain ⟨bh_16_0, bh_16_1, _, _⟩ := blk_pair (H16.out.2.2.2.2.2.2.2.2.2.2.2.2.2.2.2.2)
          have bh_16_lt := Blk.lt (H16.out.2.2.2.2.2.2.2.2.2.2.2.2.2.2.2.2)
          go_wp2
          go_ret
          exact ⟨rfl, H16.out.1⟩
theorem exBenchDo_walk : LawWalkL 3 Tryz.f3 Rows.fnExactBenchDoRow.laid := by
  intro H enc W base args ds ps hval hA hL _
  rw [Tryz.params3] at hA hval
  obtain ⟨v0, v1, d0, d1, p0, p1, rfl, rfl, rfl, h0, h1⟩ := trodAll_two hA
  obtain ⟨A0, c0, zs0, B0, d0, ss0, rfl, hi0, hj0, hk0⟩ := bench_of_trod (hval 0 _ _ rfl rfl) h0
  obtain ⟨za1, zb1, rfl, hi1⟩ := deed_of_trod (hval 1 _ _ rfl rfl) h1
  exact exBenchDo_any A0 c0 zs0 B0 d0 ss0 za1 zb1 W hi0 hj0 hk0 hi1 (strTab_of_laid lv_opTexts_named lv_opTexts_type Tryz.underlying109 Tryz.underlying9 (by kernel_rfl) (by kernel_rfl) (ss := opNames) (List.mem_of_getElem? (i := 3) (by kernel_rfl)) (by decide) hL) (tabIs_of_mem lv_uint64pow10_named lv_uint64pow10_type Tryz.underlying162 Tryz.underlying156 (by kernel_rfl) (by kernel_rfl) (List.mem_of_getElem? (i := 2) (by kernel_rfl)) hL)

noncomputable def exBenchDo_world (os : Os) : World := laidAt (laidAt (laidAt (laidAt (World.holding Tryz.prog os ⟨#[], #[], []⟩) 3 Rows.laid_math_bits_deBruijn32tab) 4 Rows.laid_math_bits_deBruijn64tab) 2 Rows.laid_internal_strconv_uint64pow10) 0 Rows.laid_loop_example_stackwords_impl_opTexts
theorem exBenchDo_met (os : Os) : laidMet Tryz.prog Rows.fnExactBenchDoRow.laid ((exBenchDo_world os).forCall (fun _ _ => 0) ⟨#[], #[.agg #[.slice none 0 0, .slice none 0 0], .agg #[.int .i64 0, .string ⟨#[]⟩]], []⟩).memory :=
  laidMet_of_run' 8 (by kernel_rfl) (by kernel_rfl)
theorem exBenchDo_reads (os : Os) {H : Type} (enc : TypeId × Value → H) : ∃ places, DataW.whole enc Tryz.prog ((exBenchDo_world os).forCall (fun _ _ => 0) ⟨#[], #[.agg #[.slice none 0 0, .slice none 0 0], .agg #[.int .i64 0, .string ⟨#[]⟩]], []⟩).memory Tryz.f3.params.toList Rows.fnExactBenchDoSpec.vars false #[.agg #[.slice none 0 0, .slice none 0 0], .agg #[.int .i64 0, .string ⟨#[]⟩]].toList 8 = some ([.agg [.nil, .nil], .agg [.lit (.int .i64 0), .lit (.string [])]], [strData opNames], places) := by
  have h : (DataW.whole enc Tryz.prog ((exBenchDo_world os).forCall (fun _ _ => 0) ⟨#[], #[.agg #[.slice none 0 0, .slice none 0 0], .agg #[.int .i64 0, .string ⟨#[]⟩]], []⟩).memory Tryz.f3.params.toList Rows.fnExactBenchDoSpec.vars false #[.agg #[.slice none 0 0, .slice none 0 0], .agg #[.int .i64 0, .string ⟨#[]⟩]].toList 8).map (fun x => (x.1, x.2.1)) = some ([.agg [.nil, .nil], .agg [.lit (.int .i64 0), .lit (.string [])]], [strData opNames]) := by kernel_rfl
  obtain ⟨⟨a, b, c⟩, h1, h2⟩ := Option.map_eq_some_iff.1 h
  simp only [Prod.mk.injEq] at h2
  obtain ⟨rfl, rfl⟩ := h2
  exact ⟨c, h1⟩

set_option maxRecDepth 100000 in
theorem exBenchDo_lifted (os : Os) (started : os.Started) (H : Type) (enc : TypeId × Value → H) (F : Stop.Interp) :
    ReturnsInHanded {} Tryz.checked os 3 .any ((OpenSpec.ofChange Rows.fnExactBenchDoSpec).preRow enc Tryz.prog Tryz.f3 Rows.fnExactBenchDoRow.domain false Rows.fnExactBenchDoRow.laid) (((OpenSpec.ofChange Rows.fnExactBenchDoSpec).at F).post enc Tryz.prog Tryz.f3 false true false false) := by
  obtain ⟨places, hx⟩ := exBenchDo_reads os enc
  refine returnsInHanded_of_row (C := Tryz.checked) (s := OpenSpec.ofChange Rows.fnExactBenchDoSpec) own started (by kernel_rfl) Tryz.func3
    (witness_row_at (enc := enc) (C := Tryz.checked) false (exBenchDo_world os) #[.agg #[.slice none 0 0, .slice none 0 0], .agg #[.int .i64 0, .string ⟨#[]⟩]] rfl (by kernel_rfl) (by kernel_rfl) (by kernel_rfl)
      (OpenSpec.preRow_of_cond 8 hx (by kernel_rfl) (fun k hk => by cases hk) (by kernel_rfl) (exBenchDo_met os))) ?_
  intro W base args ds gs before hval hW _ _ _ hL hsh _
  have hA := hW
  obtain ⟨p, q, hA, hV, _⟩ := hA
  refine (exBenchDo_walk H enc W base args ds p hval hA hL hsh).mono fun e W' ⟨he, hb⟩ => ⟨_, he, ?_⟩
  obtain ⟨g, t, cs, fuel, d, p', rfl, _⟩ := trodVars_one hV
  have hd := (trodAll_length hA).2
  match ds, hd with
  | [d0, d1], _ =>
    refine post_lawV (s := Rows.fnExactBenchDoSpec) laidOut hW (by kernel_rfl) ?_ rfl Tryz.underlying4 ⟨rfl, rfl, rfl⟩ hb
    intro n hn g t hg ht
    have hn2 : n ∈ ["loop.example/stackwords/impl.opTexts"] := hn
    simp only [List.mem_cons, List.not_mem_nil, or_false] at hn2
    rcases hn2 with rfl
    · obtain rfl := Option.some.inj (lv_opTexts_named.symm.trans hg)
      obtain rfl := Option.some.inj (lv_opTexts_type.symm.trans ht)
      exact lv_opTexts_readable

theorem exBenchDo_said : Rows.FnExactBenchDoSaid :=
  OpenClaim.holds_of_cond 3 Tryz.f3 rfl rfl rfl rfl rfl rfl rfl ⟨rfl, rfl, rfl, rfl, rfl⟩ rfl rfl rfl rfl rfl (by kernel_rfl) Tryz.func3 (by unfold joinedFacts; rw [pf_enter, pf_lifts, pf_make]; kernel_rfl)
    (of_decide_eq_true (by kernel_rfl)) (by unfold Func.isWrapper; first | (rw [if_pos (by decide +kernel)]; kernel_rfl) | (rw [if_neg (by decide +kernel)]; exact ⟨rfl, rfl⟩))
    (fun os started H enc _ F => by rw [OpenClaim.pre_eq_preRow]; exact exBenchDo_lifted os started H enc F)

theorem exBenchDo_plain (f : FuncId) (fn : Func) (hf : Tryz.pinned.checked.prog.funcNamed "loop.example/stackwords/laws.FnExactBenchDo" = some f) (hfn : Tryz.pinned.checked.prog.funcs[f]? = some fn) :
    false = Tryz.pinned.checked.prog.looks [] ∧ ∀ (j : Nat) t, fn.params[j]? = some t → Tryz.pinned.checked.prog.wantsStandIn t = false := by
  obtain rfl : f = 3 := Option.some.inj ((show Tryz.prog.funcNamed "loop.example/stackwords/laws.FnExactBenchDo" = some 3 by kernel_rfl).symm.trans hf) |>.symm
  obtain rfl : fn = Tryz.f3 := (Option.some.inj (Tryz.func3.symm.trans hfn)).symm
  refine ⟨by kernel_rfl, fun j t ht => ?_⟩
  rw [Tryz.params3] at ht
  have hm := Array.mem_of_getElem? ht
  simp only [List.mem_toArray, List.mem_cons, List.not_mem_nil, or_false] at hm
  rcases hm with rfl | rfl
  · exact (show Tryz.prog.wantsStandIn 25 = false by kernel_rfl)
  · exact (show Tryz.prog.wantsStandIn 27 = false by kernel_rfl)

/-- FnExactBenchDo: the card, as it is given. -/
theorem exBenchDo_card : Rows.FnExactBenchDoCardSaid :=
  Claim7.holds_tied_plain_at .later [] _ _ _ _ exBenchDo_said (fun _ h => by cases h) (by kernel_rfl) (fun _ h => by cases h) fnExactBenchDo_row_tie rfl ⟨rfl, rfl⟩ (by kernel_rfl) rfl exBenchDo_plain (by kernel_rfl)

end Go.Proofs.YtniolhdninpmmaaGreatDoor
