/- BenchRun answers at all arguments as its model, writes into no argument, and its answer owns its memory. For every input; the listed variables hold what the program's text lays. -/
import Derived.Test.YtniolhdninpmmaaGreatDoorBn
import Derived.Test.YtniolhdninpmmaaGreatDoorNl
import Derived.Test.YtniolhdninpmmaaGreatDoorBb
import Derived.Test.YtniolhdninpmmaaGreatDoorF1
import Derived.Test.YtniolhdninpmmaaGreatDoorF2
import Derived.Test.YtniolhdninpmmaaGreatDoorF3
import Derived.Deep.RegionWith
import Derived.Deep.RegionHeld3
import Derived.Deep.DeepCutAuto
import Derived.Test.YtniolhdninpmmaaGreatDoorTie
import Derived.Test.YtniolhdninpmmaaGreatDoorCards
import Derived.SevenTiedAt
namespace Go.Proofs.YtniolhdninpmmaaGreatDoor
set_option maxRecDepth 100000
open Go.RowKit Go.WideShapes Go.ChangeShapes Go.Deep Go.Joins

set_option maxHeartbeats 8000000 in
theorem exBenchRun_any (A0 : Option Addr) (c0 : Nat) (r : List Int) (A1 : Option Addr) (c1 : Nat) (s : List (List UInt8)) (A2 : Option Addr) (c2 : Nat) (ds : Deeds) (w0 : World) (h0 : RdI w0 (.slice A0 r.length c0) r) (h1 : RdT w0 (.slice A1 s.length c1) s) (hz : ∀ t ∈ s, t.length ≤ 9223372036854775807) (h2z : RdD w0 (.slice A2 ds.length c2) ds ∧ ∀ d ∈ ds, d.2.length ≤ 9223372036854775807) (ht : StrTab w0 0 opNames) (hp : Pow w0) :
    Calls Tryz.prog 4 #[.agg #[.slice A0 r.length c0, .slice A1 s.length c1], .slice A2 ds.length c2] w0 fun e w' => e = .returned (.bool true) ∧ Below w0.heap.size w0 w' := by
  have HT : Hid (Tabs w0) := Lib.hid ⟨ht, hp⟩; clear ht hp
  have HZ9 := Lib.hid hz; clear hz
  obtain ⟨h2, hzd⟩ := h2z
  have HZD := Lib.hid hzd; clear hzd
  obtain ⟨w1, hw1⟩ : ∃ w1, (w0.alloc (.cells #[.slice A0 r.length c0, .slice A1 s.length c1] 25)) = w1 := ⟨_, rfl⟩
  have hb0 : Below w0.heap.size w0 w1 := by rw [← hw1]; exact (Below.refl _ _).alloc (Nat.le_refl _) _
  have hs1 : w1.heap.size = w0.heap.size + 1 := by rw [← hw1]; simp
  have hbA : Blk w1 w0.heap.size #[.slice A0 r.length c0, .slice A1 s.length c1] 25 := by rw [← hw1]; exact Blk.new w0 _ _
  have H1 : Hid (Below w0.heap.size w0 w1 ∧ RdBI w1 w0.heap.size (.slice A0 r.length c0) r ∧ RdBT w1 w0.heap.size (.slice A1 s.length c1) s ∧ Blk w1 (w0.heap.size) #[.slice A0 r.length c0, .slice A1 s.length c1] 25 ∧ RdBD w1 w0.heap.size (.slice A2 ds.length c2) ds) := Lib.hid ⟨hb0, RdBI.below (RdI.at_ h0) hb0, RdBT.below (h1 : RdBT w0 w0.heap.size _ s) hb0, hbA, RdBD.below (h2 : RdBD w0 w0.heap.size _ ds) hb0⟩
  clear h0 h1 hb0 hbA h2
  by_cases hq : leftB 1048576 r s < 0
  case pos =>
    obtain ⟨qa0, qa1, _, _⟩ := blk_pair (H1.out.2.2.2.1)
    go_enter Tryz.func4, Tryz.ntmps4
    go_wp2_with fail
    try rw [hw1]
    refine (szB_any _ _ r s _ ((H1.out.2.1).rd (by omega)) (RdBT.mono (H1.out.2.2.1) (by omega)) HZ9.out).mono ?_
    rintro e w2 ⟨rfl, hb⟩
    have X := Lib.hid ((H1.out.1).trans (hb.mono (by first | omega | exact Nat.le_refl _ | (simp; done) | (simp; omega)))); clear hb
    go_wp2
    go_ret
    exact ⟨rfl, X.out⟩
  have hqb : 0 ≤ leftB 1048576 r s ∧ leftB 1048576 r s ≤ 1048576 := ⟨by omega, leftB_le r s⟩
  obtain ⟨hl, hn, hn2⟩ := leftB_ok hq
  have HN2 := Lib.hid (show ∀ t ∈ s, t.length ≤ 100000000 from fun t ht => by have := hn2 t ht; omega); clear hn2
  obtain ⟨lq, HLQ⟩ : ∃ lq, Hid (leftB 1048576 r s = lq) := ⟨_, Lib.hid rfl⟩
  rw [HLQ.out] at hq hqb
  by_cases hq2 : leftX lq (texts9 ds) < 0
  case pos =>
    obtain ⟨qa0, qa1, _, _⟩ := blk_pair (H1.out.2.2.2.1)
    go_enter Tryz.func4, Tryz.ntmps4
    go_wp2_with fail
    try rw [hw1]
    refine (szB_any _ _ r s _ ((H1.out.2.1).rd (by omega)) (RdBT.mono (H1.out.2.2.1) (by omega)) HZ9.out).mono ?_
    rintro e w2 ⟨rfl, hb⟩
    rw [HLQ.out]
    have hsz2 := hb.size
    go_wp2_with fail
    refine (szDS_any _ ds lq _ (RdBD.mono (RdBD.below (H1.out.2.2.2.2) (hb.mono (by omega))) (by omega)) hqb HZD.out).mono ?_
    rintro e w3 ⟨rfl, hb2⟩
    have X := Lib.hid (((H1.out.1).trans (hb.mono (by first | omega | exact Nat.le_refl _ | (simp; done) | (simp; omega)))).trans (hb2.mono (by first | omega | exact Nat.le_refl _ | (simp; done) | (simp; omega)))); clear hb hb2
    go_wp2
    go_ret
    exact ⟨rfl, X.out⟩
  obtain ⟨hld, hmd, _⟩ := leftX_okD hqb hq2
  have HS2 := Lib.hid (show ∀ d ∈ ds, d.2.length ≤ 100000000 from fun d hd => by have := hmd d hd; omega); clear hmd
  obtain ⟨n9, p9, cn, hR⟩ : ∃ n9 p9 cn, benchRunR r s ds = ((n9, p9), cn) := ⟨_, _, _, rfl⟩
  have hy := benchRunR_len hR
  have hbb : (cn != cn) = false := by simp
  obtain ⟨hy0, hy1, _⟩ := hy
  have HR := Lib.hid hR; clear hR
  have hk1 : ¬ (((1 + r.length + s.length : Nat) : Int)) < 0 := by omega
  have hkm : ¬ (((1 + n9.length + p9.length : Nat) : Int)) < 0 := by omega
  have hke : ((((1 + n9.length + p9.length : Nat) : Int)) != (((1 + n9.length + p9.length : Nat) : Int))) = false := by simp
  obtain ⟨A_1_0, A_1_1, _, _⟩ := blk_pair (H1.out.2.2.2.1)
  have A_1_lt := Blk.lt (H1.out.2.2.2.1)
  go_enter Tryz.func4, Tryz.ntmps4
  go_wp2_with fail
  try rw [hw1]
  refine (szB_any _ _ r s _ ((H1.out.2.1).rd (by omega)) (RdBT.mono (H1.out.2.2.1) (by omega)) HZ9.out).mono ?_
  rintro e w2 ⟨rfl, hb⟩
  rw [HLQ.out]
  have hs2 := hb.size
  have H2 : Hid (Below w0.heap.size w0 w2 ∧ RdBI w2 w0.heap.size (.slice A0 r.length c0) r ∧ RdBT w2 w0.heap.size (.slice A1 s.length c1) s ∧ Blk w2 (w0.heap.size) #[.slice A0 r.length c0, .slice A1 s.length c1] 25 ∧ RdBD w2 w0.heap.size (.slice A2 ds.length c2) ds) := Lib.hid ⟨(H1.out.1).trans ((hb).mono (by first | omega | exact Nat.le_refl _ | (simp; done) | (simp; omega))), (H1.out.2.1).below ((hb).mono (by first | omega | exact Nat.le_refl _ | (simp; done) | (simp; omega))), RdBT.below (H1.out.2.2.1) ((hb).mono (by first | omega | exact Nat.le_refl _ | (simp; done) | (simp; omega))), (H1.out.2.2.2.1).below hb (by first | omega | exact Nat.le_refl _ | (simp; done) | (simp; omega)), RdBD.below (H1.out.2.2.2.2) ((hb).mono (by first | omega | exact Nat.le_refl _ | (simp; done) | (simp; omega)))⟩
  clear hb H1 
  clear A_1_0 A_1_1 A_1_lt
  obtain ⟨A_2_0, A_2_1, _, _⟩ := blk_pair (H2.out.2.2.2.1)
  have A_2_lt := Blk.lt (H2.out.2.2.2.1)
  go_wp2_with fail
  refine (szDS_any _ ds lq _ (RdBD.mono (H2.out.2.2.2.2) (by omega)) hqb HZD.out).mono ?_
  rintro e w3 ⟨rfl, hb⟩
  have hs3 := hb.size
  have H3 : Hid (Below w0.heap.size w0 w3 ∧ RdBI w3 w0.heap.size (.slice A0 r.length c0) r ∧ RdBT w3 w0.heap.size (.slice A1 s.length c1) s ∧ Blk w3 (w0.heap.size) #[.slice A0 r.length c0, .slice A1 s.length c1] 25 ∧ RdBD w3 w0.heap.size (.slice A2 ds.length c2) ds) := Lib.hid ⟨(H2.out.1).trans ((hb).mono (by first | omega | exact Nat.le_refl _ | (simp; done) | (simp; omega))), (H2.out.2.1).below ((hb).mono (by first | omega | exact Nat.le_refl _ | (simp; done) | (simp; omega))), RdBT.below (H2.out.2.2.1) ((hb).mono (by first | omega | exact Nat.le_refl _ | (simp; done) | (simp; omega))), (H2.out.2.2.2.1).below hb (by first | omega | exact Nat.le_refl _ | (simp; done) | (simp; omega)), RdBD.below (H2.out.2.2.2.2) ((hb).mono (by first | omega | exact Nat.le_refl _ | (simp; done) | (simp; omega)))⟩
  clear hb H2 
  clear A_2_0 A_2_1 A_2_lt
  obtain ⟨A_3_0, A_3_1, _, _⟩ := blk_pair (H3.out.2.2.2.1)
  have A_3_lt := Blk.lt (H3.out.2.2.2.1)
  go_wp2_with fail
  refine (toB _ _ r s _ ((H3.out.2.1).rd (by omega)) (RdBT.mono (H3.out.2.2.1) (by omega)) hl hn).mono ?_
  rintro e w4 ⟨tt0, tt1, tm, rfl, tm1, tm2, hp0, hp1, hb⟩
  obtain ⟨tA0, tc0, rfl, _⟩ := hp0.rd
  obtain ⟨tA1, tc1, rfl, _⟩ := hp1.rd
  have hq_t : w3.heap.size ≤ w4.heap.size := by omega
  have ho0 : OwnI w4 (w3.heap.size) w4.heap.size (.slice tA0 r.length tc0) r := ⟨hp0.own, fun g hg => by have := hp0.lt g hg; omega⟩
  have ho1 : OwnWT w4 (w3.heap.size) w4.heap.size (.slice tA1 s.length tc1) s := (OwnT.win hp1).mono (by omega) (Nat.le_refl _)
  have hs4 := hb.size
  have H4 : Hid (Below w0.heap.size w0 w4 ∧ RdBI w4 w0.heap.size (.slice A0 r.length c0) r ∧ RdBT w4 w0.heap.size (.slice A1 s.length c1) s ∧ Blk w4 (w0.heap.size) #[.slice A0 r.length c0, .slice A1 s.length c1] 25 ∧ RdBD w4 w0.heap.size (.slice A2 ds.length c2) ds ∧ OwnI w4 (w3.heap.size) (w4.heap.size) (.slice tA0 r.length tc0) (r) ∧ OwnWT w4 (w3.heap.size) (w4.heap.size) (.slice tA1 s.length tc1) (s)) := Lib.hid ⟨(H3.out.1).trans ((hb).mono (by first | omega | exact Nat.le_refl _ | (simp; done) | (simp; omega))), (H3.out.2.1).below ((hb).mono (by first | omega | exact Nat.le_refl _ | (simp; done) | (simp; omega))), RdBT.below (H3.out.2.2.1) ((hb).mono (by first | omega | exact Nat.le_refl _ | (simp; done) | (simp; omega))), (H3.out.2.2.2.1).below hb (by first | omega | exact Nat.le_refl _ | (simp; done) | (simp; omega)), RdBD.below (H3.out.2.2.2.2) ((hb).mono (by first | omega | exact Nat.le_refl _ | (simp; done) | (simp; omega))), ho0, ho1⟩
  clear hb H3 ho0 ho1 hp0 hp1
  clear A_3_0 A_3_1 A_3_lt
  obtain ⟨A_4_0, A_4_1, _, _⟩ := blk_pair (H4.out.2.2.2.1)
  have A_4_lt := Blk.lt (H4.out.2.2.2.1)
  go_wp2_with fail
  refine (toDS _ ds _ (RdBD.mono (H4.out.2.2.2.2.1) (by omega)) hld).mono ?_
  rintro e w5 ⟨tdu, rfl, ho, hb⟩
  obtain ⟨tdA, tdc, rfl, _⟩ := ho.rd
  have hq_td : w4.heap.size ≤ w5.heap.size := by have := hb.size; exact this
  have hs5 := hb.size
  have H5 : Hid (Below w0.heap.size w0 w5 ∧ RdBI w5 w0.heap.size (.slice A0 r.length c0) r ∧ RdBT w5 w0.heap.size (.slice A1 s.length c1) s ∧ Blk w5 (w0.heap.size) #[.slice A0 r.length c0, .slice A1 s.length c1] 25 ∧ RdBD w5 w0.heap.size (.slice A2 ds.length c2) ds ∧ OwnI w5 (w3.heap.size) (w4.heap.size) (.slice tA0 r.length tc0) (r) ∧ OwnWT w5 (w3.heap.size) (w4.heap.size) (.slice tA1 s.length tc1) (s) ∧ OwnD w5 (w4.heap.size) (w5.heap.size) (.slice tdA ds.length tdc) (ds)) := Lib.hid ⟨(H4.out.1).trans ((hb).mono (by first | omega | exact Nat.le_refl _ | (simp; done) | (simp; omega))), (H4.out.2.1).below ((hb).mono (by first | omega | exact Nat.le_refl _ | (simp; done) | (simp; omega))), RdBT.below (H4.out.2.2.1) ((hb).mono (by first | omega | exact Nat.le_refl _ | (simp; done) | (simp; omega))), (H4.out.2.2.2.1).below hb (by first | omega | exact Nat.le_refl _ | (simp; done) | (simp; omega)), RdBD.below (H4.out.2.2.2.2.1) ((hb).mono (by first | omega | exact Nat.le_refl _ | (simp; done) | (simp; omega))), (H4.out.2.2.2.2.2.1).below hb, OwnW.below (H4.out.2.2.2.2.2.2) hb, ho⟩
  clear hb H4 ho
  clear A_4_0 A_4_1 A_4_lt
  obtain ⟨A_5_0, A_5_1, _, _⟩ := blk_pair (H5.out.2.2.2.1)
  have A_5_lt := Blk.lt (H5.out.2.2.2.1)
  go_wp2_with fail
  refine (BenchRun_S _ _ _ r s ds _ ((H5.out.2.2.2.2.2.1).rd) (OwnWT.rd (H5.out.2.2.2.2.2.2.1)) (OwnD.rd (H5.out.2.2.2.2.2.2.2)) hl hn HN2.out hld HS2.out).mono ?_
  rw [HR.out]
  rintro e w6 ⟨mt0, mt1, rfl, hp0, ho1, hb⟩
  obtain ⟨mA0, mc0, rfl, _⟩ := hp0.ints
  obtain ⟨mA1, mc1, rfl, _⟩ := ho1.rd
  have ho0 := hp0.within
  have hs6 := hb.size
  have H6 : Hid (Below w0.heap.size w0 w6 ∧ RdBI w6 w0.heap.size (.slice A0 r.length c0) r ∧ RdBT w6 w0.heap.size (.slice A1 s.length c1) s ∧ Blk w6 (w0.heap.size) #[.slice A0 r.length c0, .slice A1 s.length c1] 25 ∧ RdBD w6 w0.heap.size (.slice A2 ds.length c2) ds ∧ OwnI w6 (w5.heap.size) (w6.heap.size) (.slice mA0 n9.length mc0) (n9) ∧ OwnWT w6 (w5.heap.size) (w6.heap.size) (.slice mA1 p9.length mc1) (p9)) := Lib.hid ⟨(H5.out.1).trans ((hb).mono (by first | omega | exact Nat.le_refl _ | (simp; done) | (simp; omega))), (H5.out.2.1).below ((hb).mono (by first | omega | exact Nat.le_refl _ | (simp; done) | (simp; omega))), RdBT.below (H5.out.2.2.1) ((hb).mono (by first | omega | exact Nat.le_refl _ | (simp; done) | (simp; omega))), (H5.out.2.2.2.1).below hb (by first | omega | exact Nat.le_refl _ | (simp; done) | (simp; omega)), RdBD.below (H5.out.2.2.2.2.1) ((hb).mono (by first | omega | exact Nat.le_refl _ | (simp; done) | (simp; omega))), ho0, ho1⟩
  clear hb H5 ho0 ho1 hp0
  clear A_5_0 A_5_1 A_5_lt
  obtain ⟨A_6_0, A_6_1, _, _⟩ := blk_pair (H6.out.2.2.2.1)
  have A_6_lt := Blk.lt (H6.out.2.2.2.1)
  go_wp2_with fail
  have hba : Below w6.heap.size w6 (w6.alloc (.cells #[.slice mA0 n9.length mc0, .slice mA1 p9.length mc1] 30)) := (Below.refl _ _).alloc (Nat.le_refl _) _
  have bx := Blk.new w6 #[.slice mA0 n9.length mc0, .slice mA1 p9.length mc1] 30
  refine (toB _ _ r s _ (((H6.out.2.1).below ((hba).mono (by first | omega | exact Nat.le_refl _ | (simp; done) | (simp; omega)))).rd (by rw [World.size_alloc]; omega)) (RdBT.mono (RdBT.below (H6.out.2.2.1) ((hba).mono (by first | omega | exact Nat.le_refl _ | (simp; done) | (simp; omega)))) (by rw [World.size_alloc]; omega)) hl hn).mono ?_
  rintro e w7 ⟨xt0, xt1, xm, rfl, xm1, xm2, hp0, hp1, hb⟩
  obtain ⟨xA0, xc0, rfl, _⟩ := hp0.rd
  obtain ⟨xA1, xc1, rfl, _⟩ := hp1.rd
  rw [World.size_alloc] at hp0 xm1
  have hq_x : w6.heap.size + 1 ≤ w7.heap.size := by omega
  have ho0 : OwnI w7 (w6.heap.size + 1) w7.heap.size (.slice xA0 r.length xc0) r := ⟨hp0.own, fun g hg => by have := hp0.lt g hg; omega⟩
  have ho1 : OwnWT w7 (w6.heap.size + 1) w7.heap.size (.slice xA1 s.length xc1) s := (OwnT.win hp1).mono (by omega) (Nat.le_refl _)
  have hs7 : w6.heap.size + 1 ≤ w7.heap.size := by have := hb.size; rw [World.size_alloc] at this; exact this
  replace bx := bx.below hb (by rw [World.size_alloc]; omega)
  replace hb : Below w6.heap.size w6 w7 := hba.trans (hb.mono (by rw [World.size_alloc]; omega))
  clear hba
  have H7 : Hid (Below w0.heap.size w0 w7 ∧ RdBI w7 w0.heap.size (.slice A0 r.length c0) r ∧ RdBT w7 w0.heap.size (.slice A1 s.length c1) s ∧ Blk w7 (w0.heap.size) #[.slice A0 r.length c0, .slice A1 s.length c1] 25 ∧ RdBD w7 w0.heap.size (.slice A2 ds.length c2) ds ∧ OwnI w7 (w5.heap.size) (w6.heap.size) (.slice mA0 n9.length mc0) (n9) ∧ OwnWT w7 (w5.heap.size) (w6.heap.size) (.slice mA1 p9.length mc1) (p9) ∧ OwnI w7 (w6.heap.size + 1) (w7.heap.size) (.slice xA0 r.length xc0) (r) ∧ OwnWT w7 (w6.heap.size + 1) (w7.heap.size) (.slice xA1 s.length xc1) (s) ∧ Blk w7 (w6.heap.size) #[.slice mA0 n9.length mc0, .slice mA1 p9.length mc1] 30) := Lib.hid ⟨(H6.out.1).trans ((hb).mono (by first | omega | exact Nat.le_refl _ | (simp; done) | (simp; omega))), (H6.out.2.1).below ((hb).mono (by first | omega | exact Nat.le_refl _ | (simp; done) | (simp; omega))), RdBT.below (H6.out.2.2.1) ((hb).mono (by first | omega | exact Nat.le_refl _ | (simp; done) | (simp; omega))), (H6.out.2.2.2.1).below hb (by first | omega | exact Nat.le_refl _ | (simp; done) | (simp; omega)), RdBD.below (H6.out.2.2.2.2.1) ((hb).mono (by first | omega | exact Nat.le_refl _ | (simp; done) | (simp; omega))), (H6.out.2.2.2.2.2.1).below hb, OwnW.below (H6.out.2.2.2.2.2.2) hb, ho0, ho1, bx⟩
  clear hb H6 ho0 ho1 hp0 hp1 bx
  clear A_6_0 A_6_1 A_6_lt
  obtain ⟨A_7_0, A_7_1, _, _⟩ := blk_pair (H7.out.2.2.2.1)
  have A_7_lt := Blk.lt (H7.out.2.2.2.1)
  obtain ⟨bm_7_0, bm_7_1, _, _⟩ := blk_pair (H7.out.2.2.2.2.2.2.2.2.2)
  have bm_7_lt := Blk.lt (H7.out.2.2.2.2.2.2.2.2.2)
  go_wp2_with fail
  have hba : Below w7.heap.size w7 (w7.alloc (.cells #[.slice xA0 r.length xc0, .slice xA1 s.length xc1] 30)) := (Below.refl _ _).alloc (Nat.le_refl _) _
  have bx := Blk.new w7 #[.slice xA0 r.length xc0, .slice xA1 s.length xc1] 30
  refine (toDS _ ds _ (RdBD.mono (RdBD.below (H7.out.2.2.2.2.1) ((hba).mono (by first | omega | exact Nat.le_refl _ | (simp; done) | (simp; omega)))) (by rw [World.size_alloc]; omega)) hld).mono ?_
  rintro e w8 ⟨xdu, rfl, ho, hb⟩
  obtain ⟨xdA, xdc, rfl, _⟩ := ho.rd
  rw [World.size_alloc] at ho
  have hq_xd : w7.heap.size + 1 ≤ w8.heap.size := by have := hb.size; rw [World.size_alloc] at this; exact this
  have hs8 : w7.heap.size + 1 ≤ w8.heap.size := by have := hb.size; rw [World.size_alloc] at this; exact this
  replace bx := bx.below hb (by rw [World.size_alloc]; omega)
  replace hb : Below w7.heap.size w7 w8 := hba.trans (hb.mono (by rw [World.size_alloc]; omega))
  clear hba
  have H8 : Hid (Below w0.heap.size w0 w8 ∧ RdBI w8 w0.heap.size (.slice A0 r.length c0) r ∧ RdBT w8 w0.heap.size (.slice A1 s.length c1) s ∧ Blk w8 (w0.heap.size) #[.slice A0 r.length c0, .slice A1 s.length c1] 25 ∧ RdBD w8 w0.heap.size (.slice A2 ds.length c2) ds ∧ OwnI w8 (w5.heap.size) (w6.heap.size) (.slice mA0 n9.length mc0) (n9) ∧ OwnWT w8 (w5.heap.size) (w6.heap.size) (.slice mA1 p9.length mc1) (p9) ∧ OwnI w8 (w6.heap.size + 1) (w7.heap.size) (.slice xA0 r.length xc0) (r) ∧ OwnWT w8 (w6.heap.size + 1) (w7.heap.size) (.slice xA1 s.length xc1) (s) ∧ Blk w8 (w6.heap.size) #[.slice mA0 n9.length mc0, .slice mA1 p9.length mc1] 30 ∧ OwnD w8 (w7.heap.size + 1) (w8.heap.size) (.slice xdA ds.length xdc) (ds) ∧ Blk w8 (w7.heap.size) #[.slice xA0 r.length xc0, .slice xA1 s.length xc1] 30) := Lib.hid ⟨(H7.out.1).trans ((hb).mono (by first | omega | exact Nat.le_refl _ | (simp; done) | (simp; omega))), (H7.out.2.1).below ((hb).mono (by first | omega | exact Nat.le_refl _ | (simp; done) | (simp; omega))), RdBT.below (H7.out.2.2.1) ((hb).mono (by first | omega | exact Nat.le_refl _ | (simp; done) | (simp; omega))), (H7.out.2.2.2.1).below hb (by first | omega | exact Nat.le_refl _ | (simp; done) | (simp; omega)), RdBD.below (H7.out.2.2.2.2.1) ((hb).mono (by first | omega | exact Nat.le_refl _ | (simp; done) | (simp; omega))), (H7.out.2.2.2.2.2.1).below hb, OwnW.below (H7.out.2.2.2.2.2.2.1) hb, (H7.out.2.2.2.2.2.2.2.1).below hb, OwnW.below (H7.out.2.2.2.2.2.2.2.2.1) hb, (H7.out.2.2.2.2.2.2.2.2.2).below hb (by first | omega | exact Nat.le_refl _ | (simp; done) | (simp; omega)), ho, bx⟩
  clear hb H7 ho bx
  clear A_7_0 A_7_1 A_7_lt bm_7_0 bm_7_1 bm_7_lt
  obtain ⟨A_8_0, A_8_1, _, _⟩ := blk_pair (H8.out.2.2.2.1)
  have A_8_lt := Blk.lt (H8.out.2.2.2.1)
  obtain ⟨bm_8_0, bm_8_1, _, _⟩ := blk_pair (H8.out.2.2.2.2.2.2.2.2.2.1)
  have bm_8_lt := Blk.lt (H8.out.2.2.2.2.2.2.2.2.2.1)
  obtain ⟨bx_8_0, bx_8_1, _, _⟩ := blk_pair (H8.out.2.2.2.2.2.2.2.2.2.2.2)
  have bx_8_lt := Blk.lt (H8.out.2.2.2.2.2.2.2.2.2.2.2)
  go_wp2_with fail
  refine (BenchRun_I _ _ _ r s ds _ ((H8.out.2.2.2.2.2.2.2.1).rd) (OwnWT.rd (H8.out.2.2.2.2.2.2.2.2.1)) (OwnD.rd (H8.out.2.2.2.2.2.2.2.2.2.2.1)) hl hn HN2.out hld HS2.out (HT.out.keep (H8.out.1))).mono ?_
  rw [HR.out]
  rintro e w9 ⟨gt0, gt1, rfl, hp0, ho1, hb⟩
  obtain ⟨gA0, gc0, rfl, _⟩ := hp0.ints
  obtain ⟨gA1, gc1, rfl, _⟩ := ho1.rd
  have ho0 := hp0.within
  have hs9 := hb.size
  have H9 : Hid (Below w0.heap.size w0 w9 ∧ RdBI w9 w0.heap.size (.slice A0 r.length c0) r ∧ RdBT w9 w0.heap.size (.slice A1 s.length c1) s ∧ Blk w9 (w0.heap.size) #[.slice A0 r.length c0, .slice A1 s.length c1] 25 ∧ RdBD w9 w0.heap.size (.slice A2 ds.length c2) ds ∧ OwnI w9 (w5.heap.size) (w6.heap.size) (.slice mA0 n9.length mc0) (n9) ∧ OwnWT w9 (w5.heap.size) (w6.heap.size) (.slice mA1 p9.length mc1) (p9) ∧ OwnI w9 (w6.heap.size + 1) (w7.heap.size) (.slice xA0 r.length xc0) (r) ∧ OwnWT w9 (w6.heap.size + 1) (w7.heap.size) (.slice xA1 s.length xc1) (s) ∧ Blk w9 (w6.heap.size) #[.slice mA0 n9.length mc0, .slice mA1 p9.length mc1] 30 ∧ OwnD w9 (w7.heap.size + 1) (w8.heap.size) (.slice xdA ds.length xdc) (ds) ∧ Blk w9 (w7.heap.size) #[.slice xA0 r.length xc0, .slice xA1 s.length xc1] 30 ∧ OwnI w9 (w8.heap.size) (w9.heap.size) (.slice gA0 n9.length gc0) (n9) ∧ OwnWT w9 (w8.heap.size) (w9.heap.size) (.slice gA1 p9.length gc1) (p9)) := Lib.hid ⟨(H8.out.1).trans ((hb).mono (by first | omega | exact Nat.le_refl _ | (simp; done) | (simp; omega))), (H8.out.2.1).below ((hb).mono (by first | omega | exact Nat.le_refl _ | (simp; done) | (simp; omega))), RdBT.below (H8.out.2.2.1) ((hb).mono (by first | omega | exact Nat.le_refl _ | (simp; done) | (simp; omega))), (H8.out.2.2.2.1).below hb (by first | omega | exact Nat.le_refl _ | (simp; done) | (simp; omega)), RdBD.below (H8.out.2.2.2.2.1) ((hb).mono (by first | omega | exact Nat.le_refl _ | (simp; done) | (simp; omega))), (H8.out.2.2.2.2.2.1).below hb, OwnW.below (H8.out.2.2.2.2.2.2.1) hb, (H8.out.2.2.2.2.2.2.2.1).below hb, OwnW.below (H8.out.2.2.2.2.2.2.2.2.1) hb, (H8.out.2.2.2.2.2.2.2.2.2.1).below hb (by first | omega | exact Nat.le_refl _ | (simp; done) | (simp; omega)), OwnD.below (H8.out.2.2.2.2.2.2.2.2.2.2.1) hb, (H8.out.2.2.2.2.2.2.2.2.2.2.2).below hb (by first | omega | exact Nat.le_refl _ | (simp; done) | (simp; omega)), ho0, ho1⟩
  clear hb H8 ho0 ho1 hp0
  clear A_8_0 A_8_1 A_8_lt bm_8_0 bm_8_1 bm_8_lt bx_8_0 bx_8_1 bx_8_lt
  obtain ⟨A_9_0, A_9_1, _, _⟩ := blk_pair (H9.out.2.2.2.1)
  have A_9_lt := Blk.lt (H9.out.2.2.2.1)
  obtain ⟨bm_9_0, bm_9_1, _, _⟩ := blk_pair (H9.out.2.2.2.2.2.2.2.2.2.1)
  have bm_9_lt := Blk.lt (H9.out.2.2.2.2.2.2.2.2.2.1)
  obtain ⟨bx_9_0, bx_9_1, _, _⟩ := blk_pair (H9.out.2.2.2.2.2.2.2.2.2.2.2.1)
  have bx_9_lt := Blk.lt (H9.out.2.2.2.2.2.2.2.2.2.2.2.1)
  go_wp2_with fail
  have hba : Below w9.heap.size w9 (w9.alloc (.cells #[.slice gA0 n9.length gc0, .slice gA1 p9.length gc1] 30)) := (Below.refl _ _).alloc (Nat.le_refl _) _
  have bx := Blk.new w9 #[.slice gA0 n9.length gc0, .slice gA1 p9.length gc1] 30
  refine (eqB_any _ _ _ _ n9 n9 p9 p9 _ (((H9.out.2.2.2.2.2.2.2.2.2.2.2.2.1).below hba).rd) (OwnWT.rd (OwnW.below (H9.out.2.2.2.2.2.2.2.2.2.2.2.2.2) hba)) (((H9.out.2.2.2.2.2.1).below hba).rd) (OwnWT.rd (OwnW.below (H9.out.2.2.2.2.2.2.1) hba)) rfl rfl).mono ?_
  rintro e w10 ⟨rfl, hb⟩
  have hs10 : w9.heap.size + 1 ≤ w10.heap.size := by have := hb.size; rw [World.size_alloc] at this; exact this
  replace bx := bx.below hb (by rw [World.size_alloc]; omega)
  replace hb : Below w9.heap.size w9 w10 := hba.trans (hb.mono (by rw [World.size_alloc]; omega))
  clear hba
  have H10 : Hid (Below w0.heap.size w0 w10 ∧ RdBI w10 w0.heap.size (.slice A0 r.length c0) r ∧ RdBT w10 w0.heap.size (.slice A1 s.length c1) s ∧ Blk w10 (w0.heap.size) #[.slice A0 r.length c0, .slice A1 s.length c1] 25 ∧ RdBD w10 w0.heap.size (.slice A2 ds.length c2) ds ∧ OwnI w10 (w5.heap.size) (w6.heap.size) (.slice mA0 n9.length mc0) (n9) ∧ OwnWT w10 (w5.heap.size) (w6.heap.size) (.slice mA1 p9.length mc1) (p9) ∧ OwnI w10 (w6.heap.size + 1) (w7.heap.size) (.slice xA0 r.length xc0) (r) ∧ OwnWT w10 (w6.heap.size + 1) (w7.heap.size) (.slice xA1 s.length xc1) (s) ∧ Blk w10 (w6.heap.size) #[.slice mA0 n9.length mc0, .slice mA1 p9.length mc1] 30 ∧ OwnD w10 (w7.heap.size + 1) (w8.heap.size) (.slice xdA ds.length xdc) (ds) ∧ Blk w10 (w7.heap.size) #[.slice xA0 r.length xc0, .slice xA1 s.length xc1] 30 ∧ OwnI w10 (w8.heap.size) (w9.heap.size) (.slice gA0 n9.length gc0) (n9) ∧ OwnWT w10 (w8.heap.size) (w9.heap.size) (.slice gA1 p9.length gc1) (p9) ∧ Blk w10 (w9.heap.size) #[.slice gA0 n9.length gc0, .slice gA1 p9.length gc1] 30) := Lib.hid ⟨(H9.out.1).trans ((hb).mono (by first | omega | exact Nat.le_refl _ | (simp; done) | (simp; omega))), (H9.out.2.1).below ((hb).mono (by first | omega | exact Nat.le_refl _ | (simp; done) | (simp; omega))), RdBT.below (H9.out.2.2.1) ((hb).mono (by first | omega | exact Nat.le_refl _ | (simp; done) | (simp; omega))), (H9.out.2.2.2.1).below hb (by first | omega | exact Nat.le_refl _ | (simp; done) | (simp; omega)), RdBD.below (H9.out.2.2.2.2.1) ((hb).mono (by first | omega | exact Nat.le_refl _ | (simp; done) | (simp; omega))), (H9.out.2.2.2.2.2.1).below hb, OwnW.below (H9.out.2.2.2.2.2.2.1) hb, (H9.out.2.2.2.2.2.2.2.1).below hb, OwnW.below (H9.out.2.2.2.2.2.2.2.2.1) hb, (H9.out.2.2.2.2.2.2.2.2.2.1).below hb (by first | omega | exact Nat.le_refl _ | (simp; done) | (simp; omega)), OwnD.below (H9.out.2.2.2.2.2.2.2.2.2.2.1) hb, (H9.out.2.2.2.2.2.2.2.2.2.2.2.1).below hb (by first | omega | exact Nat.le_refl _ | (simp; done) | (simp; omega)), (H9.out.2.2.2.2.2.2.2.2.2.2.2.2.1).below hb, OwnW.below (H9.out.2.2.2.2.2.2.2.2.2.2.2.2.2) hb, bx⟩
  clear hb H9  bx
  clear A_9_0 A_9_1 A_9_lt bm_9_0 bm_9_1 bm_9_lt bx_9_0 bx_9_1 bx_9_lt
  obtain ⟨A_10_0, A_10_1, _, _⟩ := blk_pair (H10.out.2.2.2.1)
  have A_10_lt := Blk.lt (H10.out.2.2.2.1)
  obtain ⟨bm_10_0, bm_10_1, _, _⟩ := blk_pair (H10.out.2.2.2.2.2.2.2.2.2.1)
  have bm_10_lt := Blk.lt (H10.out.2.2.2.2.2.2.2.2.2.1)
  obtain ⟨bx_10_0, bx_10_1, _, _⟩ := blk_pair (H10.out.2.2.2.2.2.2.2.2.2.2.2.1)
  have bx_10_lt := Blk.lt (H10.out.2.2.2.2.2.2.2.2.2.2.2.1)
  obtain ⟨bg_10_0, bg_10_1, _, _⟩ := blk_pair (H10.out.2.2.2.2.2.2.2.2.2.2.2.2.2.2)
  have bg_10_lt := Blk.lt (H10.out.2.2.2.2.2.2.2.2.2.2.2.2.2.2)
  have HB9 : Hid (∀ X, Below w10.heap.size w10 X → Calls Tryz.prog 10 #[.agg #[.slice A0 r.length c0, .slice A1 s.length c1]] X (ToB X r s)) := Lib.hid fun X hX => toB _ _ r s X (((H10.out.2.1).below (hX.mono (by omega))).rd (by have := hX.size; omega)) (RdBT.mono (RdBT.below (H10.out.2.2.1) (hX.mono (by omega))) (by have := hX.size; omega)) hl hn
  go_upto_region 14 with fail
  go_cut [58] (fun b9 wx => b9 = .bool false ∧ Below w10.heap.size w10 wx)
  case first =>
    have bD_w10 : Below w10.heap.size w10 w10.drew := (Below.refl _ _).drew
    go_region_with (first
      | (go_at_call 10; refine (HB9.out _ bD_w10).mono ?_; rintro e wA ⟨tt0, tt1, ttm, rfl, htm1, htm2, hp0, hp1, hbA⟩; obtain ⟨tA0, tc0, rfl, _⟩ := hp0.rd; obtain ⟨tA1, tc1, rfl, _⟩ := hp1.rd; have bA : Below w10.heap.size w10 wA := bD_w10.trans hbA; obtain ⟨xx0, xx1, _, _⟩ := blk_pair ((H10.out.2.2.2.2.2.2.2.2.2.2.2.1).below bA (by omega)))
      | (go_at_call 13; refine (eqB_any _ _ _ _ r r s s _ ((H10.out.2.2.2.2.2.2.2.1).below bA).rd (OwnWT.rd (OwnW.below (H10.out.2.2.2.2.2.2.2.2.1) bA)) hp0.rd hp1.rd rfl rfl).mono ?_; rintro e wB ⟨rfl, hbB⟩)
      | fail)
    all_goals (go_wp2_with fail; go_meet; exact ⟨rfl, bA.trans (hbB.mono bA.size)⟩)
  case rest =>
    obtain ⟨rfl, hb⟩ := hcut
    obtain ⟨w11, hwc⟩ : ∃ w, w = wc := ⟨_, rfl⟩
    subst hwc
    clear HB9
    have hs11 := hb.size
    have H11 : Hid (Below w0.heap.size w0 w11 ∧ RdBI w11 w0.heap.size (.slice A0 r.length c0) r ∧ RdBT w11 w0.heap.size (.slice A1 s.length c1) s ∧ Blk w11 (w0.heap.size) #[.slice A0 r.length c0, .slice A1 s.length c1] 25 ∧ RdBD w11 w0.heap.size (.slice A2 ds.length c2) ds ∧ OwnI w11 (w5.heap.size) (w6.heap.size) (.slice mA0 n9.length mc0) (n9) ∧ OwnWT w11 (w5.heap.size) (w6.heap.size) (.slice mA1 p9.length mc1) (p9) ∧ OwnI w11 (w6.heap.size + 1) (w7.heap.size) (.slice xA0 r.length xc0) (r) ∧ OwnWT w11 (w6.heap.size + 1) (w7.heap.size) (.slice xA1 s.length xc1) (s) ∧ Blk w11 (w6.heap.size) #[.slice mA0 n9.length mc0, .slice mA1 p9.length mc1] 30 ∧ OwnD w11 (w7.heap.size + 1) (w8.heap.size) (.slice xdA ds.length xdc) (ds) ∧ Blk w11 (w7.heap.size) #[.slice xA0 r.length xc0, .slice xA1 s.length xc1] 30 ∧ OwnI w11 (w8.heap.size) (w9.heap.size) (.slice gA0 n9.length gc0) (n9) ∧ OwnWT w11 (w8.heap.size) (w9.heap.size) (.slice gA1 p9.length gc1) (p9) ∧ Blk w11 (w9.heap.size) #[.slice gA0 n9.length gc0, .slice gA1 p9.length gc1] 30) := Lib.hid ⟨(H10.out.1).trans ((hb).mono (by first | omega | exact Nat.le_refl _ | (simp; done) | (simp; omega))), (H10.out.2.1).below ((hb).mono (by first | omega | exact Nat.le_refl _ | (simp; done) | (simp; omega))), RdBT.below (H10.out.2.2.1) ((hb).mono (by first | omega | exact Nat.le_refl _ | (simp; done) | (simp; omega))), (H10.out.2.2.2.1).below hb (by first | omega | exact Nat.le_refl _ | (simp; done) | (simp; omega)), RdBD.below (H10.out.2.2.2.2.1) ((hb).mono (by first | omega | exact Nat.le_refl _ | (simp; done) | (simp; omega))), (H10.out.2.2.2.2.2.1).below hb, OwnW.below (H10.out.2.2.2.2.2.2.1) hb, (H10.out.2.2.2.2.2.2.2.1).below hb, OwnW.below (H10.out.2.2.2.2.2.2.2.2.1) hb, (H10.out.2.2.2.2.2.2.2.2.2.1).below hb (by first | omega | exact Nat.le_refl _ | (simp; done) | (simp; omega)), OwnD.below (H10.out.2.2.2.2.2.2.2.2.2.2.1) hb, (H10.out.2.2.2.2.2.2.2.2.2.2.2.1).below hb (by first | omega | exact Nat.le_refl _ | (simp; done) | (simp; omega)), (H10.out.2.2.2.2.2.2.2.2.2.2.2.2.1).below hb, OwnW.below (H10.out.2.2.2.2.2.2.2.2.2.2.2.2.2.1) hb, (H10.out.2.2.2.2.2.2.2.2.2.2.2.2.2.2).below hb (by first | omega | exact Nat.le_refl _ | (simp; done) | (simp; omega))⟩
    clear hb H10 
    clear A_10_0 A_10_1 A_10_lt bm_10_0 bm_10_1 bm_10_lt bx_10_0 bx_10_1 bx_10_lt bg_10_0 bg_10_1 bg_10_lt
    obtain ⟨A_11_0, A_11_1, _, _⟩ := blk_pair (H11.out.2.2.2.1)
    have A_11_lt := Blk.lt (H11.out.2.2.2.1)
    obtain ⟨bm_11_0, bm_11_1, _, _⟩ := blk_pair (H11.out.2.2.2.2.2.2.2.2.2.1)
    have bm_11_lt := Blk.lt (H11.out.2.2.2.2.2.2.2.2.2.1)
    obtain ⟨bx_11_0, bx_11_1, _, _⟩ := blk_pair (H11.out.2.2.2.2.2.2.2.2.2.2.2.1)
    have bx_11_lt := Blk.lt (H11.out.2.2.2.2.2.2.2.2.2.2.2.1)
    obtain ⟨bg_11_0, bg_11_1, _, _⟩ := blk_pair (H11.out.2.2.2.2.2.2.2.2.2.2.2.2.2.2)
    have bg_11_lt := Blk.lt (H11.out.2.2.2.2.2.2.2.2.2.2.2.2.2.2)
    go_wp2_with fail
    refine (toDS _ ds _ (RdBD.mono (H11.out.2.2.2.2.1) (by omega)) hld).mono ?_
    rintro e w12 ⟨ydu, rfl, ho, hb⟩
    obtain ⟨ydA, ydc, rfl, _⟩ := ho.rd
    have hq_yd : w11.heap.size ≤ w12.heap.size := by have := hb.size; exact this
    have hs12 := hb.size
    have H12 : Hid (Below w0.heap.size w0 w12 ∧ RdBI w12 w0.heap.size (.slice A0 r.length c0) r ∧ RdBT w12 w0.heap.size (.slice A1 s.length c1) s ∧ Blk w12 (w0.heap.size) #[.slice A0 r.length c0, .slice A1 s.length c1] 25 ∧ RdBD w12 w0.heap.size (.slice A2 ds.length c2) ds ∧ OwnI w12 (w5.heap.size) (w6.heap.size) (.slice mA0 n9.length mc0) (n9) ∧ OwnWT w12 (w5.heap.size) (w6.heap.size) (.slice mA1 p9.length mc1) (p9) ∧ OwnI w12 (w6.heap.size + 1) (w7.heap.size) (.slice xA0 r.length xc0) (r) ∧ OwnWT w12 (w6.heap.size + 1) (w7.heap.size) (.slice xA1 s.length xc1) (s) ∧ Blk w12 (w6.heap.size) #[.slice mA0 n9.length mc0, .slice mA1 p9.length mc1] 30 ∧ OwnD w12 (w7.heap.size + 1) (w8.heap.size) (.slice xdA ds.length xdc) (ds) ∧ Blk w12 (w7.heap.size) #[.slice xA0 r.length xc0, .slice xA1 s.length xc1] 30 ∧ OwnI w12 (w8.heap.size) (w9.heap.size) (.slice gA0 n9.length gc0) (n9) ∧ OwnWT w12 (w8.heap.size) (w9.heap.size) (.slice gA1 p9.length gc1) (p9) ∧ Blk w12 (w9.heap.size) #[.slice gA0 n9.length gc0, .slice gA1 p9.length gc1] 30 ∧ OwnD w12 (w11.heap.size) (w12.heap.size) (.slice ydA ds.length ydc) (ds)) := Lib.hid ⟨(H11.out.1).trans ((hb).mono (by first | omega | exact Nat.le_refl _ | (simp; done) | (simp; omega))), (H11.out.2.1).below ((hb).mono (by first | omega | exact Nat.le_refl _ | (simp; done) | (simp; omega))), RdBT.below (H11.out.2.2.1) ((hb).mono (by first | omega | exact Nat.le_refl _ | (simp; done) | (simp; omega))), (H11.out.2.2.2.1).below hb (by first | omega | exact Nat.le_refl _ | (simp; done) | (simp; omega)), RdBD.below (H11.out.2.2.2.2.1) ((hb).mono (by first | omega | exact Nat.le_refl _ | (simp; done) | (simp; omega))), (H11.out.2.2.2.2.2.1).below hb, OwnW.below (H11.out.2.2.2.2.2.2.1) hb, (H11.out.2.2.2.2.2.2.2.1).below hb, OwnW.below (H11.out.2.2.2.2.2.2.2.2.1) hb, (H11.out.2.2.2.2.2.2.2.2.2.1).below hb (by first | omega | exact Nat.le_refl _ | (simp; done) | (simp; omega)), OwnD.below (H11.out.2.2.2.2.2.2.2.2.2.2.1) hb, (H11.out.2.2.2.2.2.2.2.2.2.2.2.1).below hb (by first | omega | exact Nat.le_refl _ | (simp; done) | (simp; omega)), (H11.out.2.2.2.2.2.2.2.2.2.2.2.2.1).below hb, OwnW.below (H11.out.2.2.2.2.2.2.2.2.2.2.2.2.2.1) hb, (H11.out.2.2.2.2.2.2.2.2.2.2.2.2.2.2).below hb (by first | omega | exact Nat.le_refl _ | (simp; done) | (simp; omega)), ho⟩
    clear hb H11 ho
    clear A_11_0 A_11_1 A_11_lt bm_11_0 bm_11_1 bm_11_lt bx_11_0 bx_11_1 bx_11_lt bg_11_0 bg_11_1 bg_11_lt
    obtain ⟨A_12_0, A_12_1, _, _⟩ := blk_pair (H12.out.2.2.2.1)
    have A_12_lt := Blk.lt (H12.out.2.2.2.1)
    obtain ⟨bm_12_0, bm_12_1, _, _⟩ := blk_pair (H12.out.2.2.2.2.2.2.2.2.2.1)
    have bm_12_lt := Blk.lt (H12.out.2.2.2.2.2.2.2.2.2.1)
    obtain ⟨bx_12_0, bx_12_1, _, _⟩ := blk_pair (H12.out.2.2.2.2.2.2.2.2.2.2.2.1)
    have bx_12_lt := Blk.lt (H12.out.2.2.2.2.2.2.2.2.2.2.2.1)
    obtain ⟨bg_12_0, bg_12_1, _, _⟩ := blk_pair (H12.out.2.2.2.2.2.2.2.2.2.2.2.2.2.2.1)
    have bg_12_lt := Blk.lt (H12.out.2.2.2.2.2.2.2.2.2.2.2.2.2.2.1)
    go_wp2_with fail
    refine (eqDS _ _ ds _ (OwnD.rd (H12.out.2.2.2.2.2.2.2.2.2.2.1)) (OwnD.rd (H12.out.2.2.2.2.2.2.2.2.2.2.2.2.2.2.2))).mono ?_
    rintro e w13 ⟨rfl, hb⟩
    have hs13 := hb.size
    have H13 : Hid (Below w0.heap.size w0 w13 ∧ RdBI w13 w0.heap.size (.slice A0 r.length c0) r ∧ RdBT w13 w0.heap.size (.slice A1 s.length c1) s ∧ Blk w13 (w0.heap.size) #[.slice A0 r.length c0, .slice A1 s.length c1] 25 ∧ RdBD w13 w0.heap.size (.slice A2 ds.length c2) ds ∧ OwnI w13 (w5.heap.size) (w6.heap.size) (.slice mA0 n9.length mc0) (n9) ∧ OwnWT w13 (w5.heap.size) (w6.heap.size) (.slice mA1 p9.length mc1) (p9) ∧ OwnI w13 (w6.heap.size + 1) (w7.heap.size) (.slice xA0 r.length xc0) (r) ∧ OwnWT w13 (w6.heap.size + 1) (w7.heap.size) (.slice xA1 s.length xc1) (s) ∧ Blk w13 (w6.heap.size) #[.slice mA0 n9.length mc0, .slice mA1 p9.length mc1] 30 ∧ OwnD w13 (w7.heap.size + 1) (w8.heap.size) (.slice xdA ds.length xdc) (ds) ∧ Blk w13 (w7.heap.size) #[.slice xA0 r.length xc0, .slice xA1 s.length xc1] 30 ∧ OwnI w13 (w8.heap.size) (w9.heap.size) (.slice gA0 n9.length gc0) (n9) ∧ OwnWT w13 (w8.heap.size) (w9.heap.size) (.slice gA1 p9.length gc1) (p9) ∧ Blk w13 (w9.heap.size) #[.slice gA0 n9.length gc0, .slice gA1 p9.length gc1] 30) := Lib.hid ⟨(H12.out.1).trans ((hb).mono (by first | omega | exact Nat.le_refl _ | (simp; done) | (simp; omega))), (H12.out.2.1).below ((hb).mono (by first | omega | exact Nat.le_refl _ | (simp; done) | (simp; omega))), RdBT.below (H12.out.2.2.1) ((hb).mono (by first | omega | exact Nat.le_refl _ | (simp; done) | (simp; omega))), (H12.out.2.2.2.1).below hb (by first | omega | exact Nat.le_refl _ | (simp; done) | (simp; omega)), RdBD.below (H12.out.2.2.2.2.1) ((hb).mono (by first | omega | exact Nat.le_refl _ | (simp; done) | (simp; omega))), (H12.out.2.2.2.2.2.1).below hb, OwnW.below (H12.out.2.2.2.2.2.2.1) hb, (H12.out.2.2.2.2.2.2.2.1).below hb, OwnW.below (H12.out.2.2.2.2.2.2.2.2.1) hb, (H12.out.2.2.2.2.2.2.2.2.2.1).below hb (by first | omega | exact Nat.le_refl _ | (simp; done) | (simp; omega)), OwnD.below (H12.out.2.2.2.2.2.2.2.2.2.2.1) hb, (H12.out.2.2.2.2.2.2.2.2.2.2.2.1).below hb (by first | omega | exact Nat.le_refl _ | (simp; done) | (simp; omega)), (H12.out.2.2.2.2.2.2.2.2.2.2.2.2.1).below hb, OwnW.below (H12.out.2.2.2.2.2.2.2.2.2.2.2.2.2.1) hb, (H12.out.2.2.2.2.2.2.2.2.2.2.2.2.2.2.1).below hb (by first | omega | exact Nat.le_refl _ | (simp; done) | (simp; omega))⟩
    clear hb H12 
    clear A_12_0 A_12_1 A_12_lt bm_12_0 bm_12_1 bm_12_lt bx_12_0 bx_12_1 bx_12_lt bg_12_0 bg_12_1 bg_12_lt
    obtain ⟨A_13_0, A_13_1, _, _⟩ := blk_pair (H13.out.2.2.2.1)
    have A_13_lt := Blk.lt (H13.out.2.2.2.1)
    obtain ⟨bm_13_0, bm_13_1, _, _⟩ := blk_pair (H13.out.2.2.2.2.2.2.2.2.2.1)
    have bm_13_lt := Blk.lt (H13.out.2.2.2.2.2.2.2.2.2.1)
    obtain ⟨bx_13_0, bx_13_1, _, _⟩ := blk_pair (H13.out.2.2.2.2.2.2.2.2.2.2.2.1)
    have bx_13_lt := Blk.lt (H13.out.2.2.2.2.2.2.2.2.2.2.2.1)
    obtain ⟨bg_13_0, bg_13_1, _, _⟩ := blk_pair (H13.out.2.2.2.2.2.2.2.2.2.2.2.2.2.2)
    have bg_13_lt := Blk.lt (H13.out.2.2.2.2.2.2.2.2.2.2.2.2.2.2)
    go_wp2_with fail
    refine (markBenchLH _ _ r s (w6.heap.size + 1) (w7.heap.size) _ hl hn (H13.out.2.2.2.2.2.2.2.1) (H13.out.2.2.2.2.2.2.2.2.1) (by omega) (by omega)).mono ?_
    rintro e w14 ⟨rfl, ho0, ho1, hb⟩
    have hs14 := hb.size
    have H14 : Hid (Below w0.heap.size w0 w14 ∧ RdBI w14 w0.heap.size (.slice A0 r.length c0) r ∧ RdBT w14 w0.heap.size (.slice A1 s.length c1) s ∧ Blk w14 (w0.heap.size) #[.slice A0 r.length c0, .slice A1 s.length c1] 25 ∧ RdBD w14 w0.heap.size (.slice A2 ds.length c2) ds ∧ OwnI w14 (w5.heap.size) (w6.heap.size) (.slice mA0 n9.length mc0) (n9) ∧ OwnWT w14 (w5.heap.size) (w6.heap.size) (.slice mA1 p9.length mc1) (p9) ∧ OwnI w14 (w6.heap.size + 1) (w7.heap.size) (.slice xA0 r.length xc0) (mkI 1 r) ∧ OwnWT w14 (w6.heap.size + 1) (w7.heap.size) (.slice xA1 s.length xc1) (mtxs (1 + r.length) s.length) ∧ Blk w14 (w6.heap.size) #[.slice mA0 n9.length mc0, .slice mA1 p9.length mc1] 30 ∧ OwnD w14 (w7.heap.size + 1) (w8.heap.size) (.slice xdA ds.length xdc) (ds) ∧ Blk w14 (w7.heap.size) #[.slice xA0 r.length xc0, .slice xA1 s.length xc1] 30 ∧ OwnI w14 (w8.heap.size) (w9.heap.size) (.slice gA0 n9.length gc0) (n9) ∧ OwnWT w14 (w8.heap.size) (w9.heap.size) (.slice gA1 p9.length gc1) (p9) ∧ Blk w14 (w9.heap.size) #[.slice gA0 n9.length gc0, .slice gA1 p9.length gc1] 30) := Lib.hid ⟨(H13.out.1).trans (hb.below (by first | omega | exact Nat.le_refl _ | (simp; done) | (simp; omega)) (by first | omega | exact Nat.le_refl _ | (simp; done) | (simp; omega))), (H13.out.2.1).below (hb.below (by first | omega | exact Nat.le_refl _ | (simp; done) | (simp; omega)) (by first | omega | exact Nat.le_refl _ | (simp; done) | (simp; omega))), RdBT.below (H13.out.2.2.1) (hb.below (by first | omega | exact Nat.le_refl _ | (simp; done) | (simp; omega)) (by first | omega | exact Nat.le_refl _ | (simp; done) | (simp; omega))), (show Blk w14 _ _ _ from (hb.block _ (by omega) (by omega)).trans (H13.out.2.2.2.1)), RdBD.below (H13.out.2.2.2.2.1) (hb.below (by first | omega | exact Nat.le_refl _ | (simp; done) | (simp; omega)) (by first | omega | exact Nat.le_refl _ | (simp; done) | (simp; omega))), (H13.out.2.2.2.2.2.1).apart hb (by omega), OwnWT.apart (H13.out.2.2.2.2.2.2.1) hb (by omega), ho0, ho1, (show Blk w14 _ _ _ from (hb.block _ (by omega) (by omega)).trans (H13.out.2.2.2.2.2.2.2.2.2.1)), OwnD.apart (H13.out.2.2.2.2.2.2.2.2.2.2.1) hb (by omega), (show Blk w14 _ _ _ from (hb.block _ (by omega) (by omega)).trans (H13.out.2.2.2.2.2.2.2.2.2.2.2.1)), (H13.out.2.2.2.2.2.2.2.2.2.2.2.2.1).apart hb (by omega), OwnWT.apart (H13.out.2.2.2.2.2.2.2.2.2.2.2.2.2.1) hb (by omega), (show Blk w14 _ _ _ from (hb.block _ (by omega) (by omega)).trans (H13.out.2.2.2.2.2.2.2.2.2.2.2.2.2.2))⟩
    clear hb H13 ho0 ho1
    clear A_13_0 A_13_1 A_13_lt bm_13_0 bm_13_1 bm_13_lt bx_13_0 bx_13_1 bx_13_lt bg_13_0 bg_13_1 bg_13_lt
    obtain ⟨A_14_0, A_14_1, _, _⟩ := blk_pair (H14.out.2.2.2.1)
    have A_14_lt := Blk.lt (H14.out.2.2.2.1)
    obtain ⟨bm_14_0, bm_14_1, _, _⟩ := blk_pair (H14.out.2.2.2.2.2.2.2.2.2.1)
    have bm_14_lt := Blk.lt (H14.out.2.2.2.2.2.2.2.2.2.1)
    obtain ⟨bx_14_0, bx_14_1, _, _⟩ := blk_pair (H14.out.2.2.2.2.2.2.2.2.2.2.2.1)
    have bx_14_lt := Blk.lt (H14.out.2.2.2.2.2.2.2.2.2.2.2.1)
    obtain ⟨bg_14_0, bg_14_1, _, _⟩ := blk_pair (H14.out.2.2.2.2.2.2.2.2.2.2.2.2.2.2)
    have bg_14_lt := Blk.lt (H14.out.2.2.2.2.2.2.2.2.2.2.2.2.2.2)
    go_wp2_with fail
    obtain ⟨km, HKM⟩ : ∃ km, Hid (1 + r.length + s.length = km) := ⟨_, Lib.hid rfl⟩
    have hkmb : 1 ≤ km ∧ km ≤ 2097153 := by have := HKM.out; omega
    refine (markDn _ ds (1 + r.length + s.length) (w7.heap.size + 1) (w8.heap.size) _ hld (by omega) (H14.out.2.2.2.2.2.2.2.2.2.2.1)).mono ?_
    rintro e w15 ⟨rfl, ho, hb⟩
    have hs15 := hb.size
    have H15 : Hid (Below w0.heap.size w0 w15 ∧ RdBI w15 w0.heap.size (.slice A0 r.length c0) r ∧ RdBT w15 w0.heap.size (.slice A1 s.length c1) s ∧ Blk w15 (w0.heap.size) #[.slice A0 r.length c0, .slice A1 s.length c1] 25 ∧ RdBD w15 w0.heap.size (.slice A2 ds.length c2) ds ∧ OwnI w15 (w5.heap.size) (w6.heap.size) (.slice mA0 n9.length mc0) (n9) ∧ OwnWT w15 (w5.heap.size) (w6.heap.size) (.slice mA1 p9.length mc1) (p9) ∧ OwnI w15 (w6.heap.size + 1) (w7.heap.size) (.slice xA0 r.length xc0) (mkI 1 r) ∧ OwnWT w15 (w6.heap.size + 1) (w7.heap.size) (.slice xA1 s.length xc1) (mtxs (1 + r.length) s.length) ∧ Blk w15 (w6.heap.size) #[.slice mA0 n9.length mc0, .slice mA1 p9.length mc1] 30 ∧ Blk w15 (w7.heap.size) #[.slice xA0 r.length xc0, .slice xA1 s.length xc1] 30 ∧ OwnI w15 (w8.heap.size) (w9.heap.size) (.slice gA0 n9.length gc0) (n9) ∧ OwnWT w15 (w8.heap.size) (w9.heap.size) (.slice gA1 p9.length gc1) (p9) ∧ Blk w15 (w9.heap.size) #[.slice gA0 n9.length gc0, .slice gA1 p9.length gc1] 30) := Lib.hid ⟨(H14.out.1).trans (hb.below (by first | omega | exact Nat.le_refl _ | (simp; done) | (simp; omega)) (by first | omega | exact Nat.le_refl _ | (simp; done) | (simp; omega))), (H14.out.2.1).below (hb.below (by first | omega | exact Nat.le_refl _ | (simp; done) | (simp; omega)) (by first | omega | exact Nat.le_refl _ | (simp; done) | (simp; omega))), RdBT.below (H14.out.2.2.1) (hb.below (by first | omega | exact Nat.le_refl _ | (simp; done) | (simp; omega)) (by first | omega | exact Nat.le_refl _ | (simp; done) | (simp; omega))), (show Blk w15 _ _ _ from (hb.block _ (by omega) (by omega)).trans (H14.out.2.2.2.1)), RdBD.below (H14.out.2.2.2.2.1) (hb.below (by first | omega | exact Nat.le_refl _ | (simp; done) | (simp; omega)) (by first | omega | exact Nat.le_refl _ | (simp; done) | (simp; omega))), (H14.out.2.2.2.2.2.1).apart hb (by omega), OwnWT.apart (H14.out.2.2.2.2.2.2.1) hb (by omega), (H14.out.2.2.2.2.2.2.2.1).apart hb (by omega), OwnWT.apart (H14.out.2.2.2.2.2.2.2.2.1) hb (by omega), (show Blk w15 _ _ _ from (hb.block _ (by omega) (by omega)).trans (H14.out.2.2.2.2.2.2.2.2.2.1)), (show Blk w15 _ _ _ from (hb.block _ (by omega) (by omega)).trans (H14.out.2.2.2.2.2.2.2.2.2.2.2.1)), (H14.out.2.2.2.2.2.2.2.2.2.2.2.2.1).apart hb (by omega), OwnWT.apart (H14.out.2.2.2.2.2.2.2.2.2.2.2.2.2.1) hb (by omega), (show Blk w15 _ _ _ from (hb.block _ (by omega) (by omega)).trans (H14.out.2.2.2.2.2.2.2.2.2.2.2.2.2.2))⟩
    clear hb H14 ho HKM hkmb
    clear A_14_0 A_14_1 A_14_lt bm_14_0 bm_14_1 bm_14_lt bx_14_0 bx_14_1 bx_14_lt bg_14_0 bg_14_1 bg_14_lt
    obtain ⟨A_15_0, A_15_1, _, _⟩ := blk_pair (H15.out.2.2.2.1)
    have A_15_lt := Blk.lt (H15.out.2.2.2.1)
    obtain ⟨bm_15_0, bm_15_1, _, _⟩ := blk_pair (H15.out.2.2.2.2.2.2.2.2.2.1)
    have bm_15_lt := Blk.lt (H15.out.2.2.2.2.2.2.2.2.2.1)
    obtain ⟨bx_15_0, bx_15_1, _, _⟩ := blk_pair (H15.out.2.2.2.2.2.2.2.2.2.2.1)
    have bx_15_lt := Blk.lt (H15.out.2.2.2.2.2.2.2.2.2.2.1)
    obtain ⟨bg_15_0, bg_15_1, _, _⟩ := blk_pair (H15.out.2.2.2.2.2.2.2.2.2.2.2.2.2)
    have bg_15_lt := Blk.lt (H15.out.2.2.2.2.2.2.2.2.2.2.2.2.2)
    have hk2 : ¬ (((1 + r.length + s.length + 2 * ds.length : Nat) : Int)) < 0 := by omega
    go_wp2_with fail
    refine (eqB_any _ _ _ _ n9 n9 p9 p9 _ ((H15.out.2.2.2.2.2.2.2.2.2.2.2.1).rd) (OwnWT.rd (H15.out.2.2.2.2.2.2.2.2.2.2.2.2.1)) ((H15.out.2.2.2.2.2.1).rd) (OwnWT.rd (H15.out.2.2.2.2.2.2.1)) rfl rfl).mono ?_
    rintro e w16 ⟨rfl, hb⟩
    have hs16 := hb.size
    have H16 : Hid (Below w0.heap.size w0 w16 ∧ RdBI w16 w0.heap.size (.slice A0 r.length c0) r ∧ RdBT w16 w0.heap.size (.slice A1 s.length c1) s ∧ Blk w16 (w0.heap.size) #[.slice A0 r.length c0, .slice A1 s.length c1] 25 ∧ RdBD w16 w0.heap.size (.slice A2 ds.length c2) ds ∧ OwnI w16 (w5.heap.size) (w6.heap.size) (.slice mA0 n9.length mc0) (n9) ∧ OwnWT w16 (w5.heap.size) (w6.heap.size) (.slice mA1 p9.length mc1) (p9) ∧ OwnI w16 (w6.heap.size + 1) (w7.heap.size) (.slice xA0 r.length xc0) (mkI 1 r) ∧ OwnWT w16 (w6.heap.size + 1) (w7.heap.size) (.slice xA1 s.length xc1) (mtxs (1 + r.length) s.length) ∧ Blk w16 (w6.heap.size) #[.slice mA0 n9.length mc0, .slice mA1 p9.length mc1] 30 ∧ Blk w16 (w7.heap.size) #[.slice xA0 r.length xc0, .slice xA1 s.length xc1] 30 ∧ OwnI w16 (w8.heap.size) (w9.heap.size) (.slice gA0 n9.length gc0) (n9) ∧ OwnWT w16 (w8.heap.size) (w9.heap.size) (.slice gA1 p9.length gc1) (p9) ∧ Blk w16 (w9.heap.size) #[.slice gA0 n9.length gc0, .slice gA1 p9.length gc1] 30) := Lib.hid ⟨(H15.out.1).trans ((hb).mono (by first | omega | exact Nat.le_refl _ | (simp; done) | (simp; omega))), (H15.out.2.1).below ((hb).mono (by first | omega | exact Nat.le_refl _ | (simp; done) | (simp; omega))), RdBT.below (H15.out.2.2.1) ((hb).mono (by first | omega | exact Nat.le_refl _ | (simp; done) | (simp; omega))), (H15.out.2.2.2.1).below hb (by first | omega | exact Nat.le_refl _ | (simp; done) | (simp; omega)), RdBD.below (H15.out.2.2.2.2.1) ((hb).mono (by first | omega | exact Nat.le_refl _ | (simp; done) | (simp; omega))), (H15.out.2.2.2.2.2.1).below hb, OwnW.below (H15.out.2.2.2.2.2.2.1) hb, (H15.out.2.2.2.2.2.2.2.1).below hb, OwnW.below (H15.out.2.2.2.2.2.2.2.2.1) hb, (H15.out.2.2.2.2.2.2.2.2.2.1).below hb (by first | omega | exact Nat.le_refl _ | (simp; done) | (simp; omega)), (H15.out.2.2.2.2.2.2.2.2.2.2.1).below hb (by first | omega | exact Nat.le_refl _ | (simp; done) | (simp; omega)), (H15.out.2.2.2.2.2.2.2.2.2.2.2.1).below hb, OwnW.below (H15.out.2.2.2.2.2.2.2.2.2.2.2.2.1) hb, (H15.out.2.2.2.2.2.2.2.2.2.2.2.2.2).below hb (by first | omega | exact Nat.le_refl _ | (simp; done) | (simp; omega))⟩
    clear hb H15 
    clear A_15_0 A_15_1 A_15_lt bm_15_0 bm_15_1 bm_15_lt bx_15_0 bx_15_1 bx_15_lt bg_15_0 bg_15_1 bg_15_lt
    obtain ⟨A_16_0, A_16_1, _, _⟩ := blk_pair (H16.out.2.2.2.1)
    have A_16_lt := Blk.lt (H16.out.2.2.2.1)
    obtain ⟨bm_16_0, bm_16_1, _, _⟩ := blk_pair (H16.out.2.2.2.2.2.2.2.2.2.1)
    have bm_16_lt := Blk.lt (H16.out.2.2.2.2.2.2.2.2.2.1)
    obtain ⟨bx_16_0, bx_16_1, _, _⟩ := blk_pair (H16.out.2.2.2.2.2.2.2.2.2.2.1)
    have bx_16_lt := Blk.lt (H16.out.2.2.2.2.2.2.2.2.2.2.1)
    obtain ⟨bg_16_0, bg_16_1, _, _⟩ := blk_pair (H16.out.2.2.2.2.2.2.2.2.2.2.2.2.2)
    have bg_16_lt := Blk.lt (H16.out.2.2.2.2.2.2.2.2.2.2.2.2.2)
    go_wp2_with fail
    refine (markBenchLH _ _ n9 p9 (w8.heap.size) (w9.heap.size) _ (by omega) (by omega) (H16.out.2.2.2.2.2.2.2.2.2.2.2.1) (H16.out.2.2.2.2.2.2.2.2.2.2.2.2.1) (by omega) (by omega)).mono ?_
    rintro e w17 ⟨rfl, ho0, ho1, hb⟩
    have hs17 := hb.size
    have H17 : Hid (Below w0.heap.size w0 w17 ∧ RdBI w17 w0.heap.size (.slice A0 r.length c0) r ∧ RdBT w17 w0.heap.size (.slice A1 s.length c1) s ∧ Blk w17 (w0.heap.size) #[.slice A0 r.length c0, .slice A1 s.length c1] 25 ∧ RdBD w17 w0.heap.size (.slice A2 ds.length c2) ds ∧ OwnI w17 (w5.heap.size) (w6.heap.size) (.slice mA0 n9.length mc0) (n9) ∧ OwnWT w17 (w5.heap.size) (w6.heap.size) (.slice mA1 p9.length mc1) (p9) ∧ OwnI w17 (w6.heap.size + 1) (w7.heap.size) (.slice xA0 r.length xc0) (mkI 1 r) ∧ OwnWT w17 (w6.heap.size + 1) (w7.heap.size) (.slice xA1 s.length xc1) (mtxs (1 + r.length) s.length) ∧ Blk w17 (w6.heap.size) #[.slice mA0 n9.length mc0, .slice mA1 p9.length mc1] 30 ∧ Blk w17 (w7.heap.size) #[.slice xA0 r.length xc0, .slice xA1 s.length xc1] 30 ∧ OwnI w17 (w8.heap.size) (w9.heap.size) (.slice gA0 n9.length gc0) (mkI 1 n9) ∧ OwnWT w17 (w8.heap.size) (w9.heap.size) (.slice gA1 p9.length gc1) (mtxs (1 + n9.length) p9.length) ∧ Blk w17 (w9.heap.size) #[.slice gA0 n9.length gc0, .slice gA1 p9.length gc1] 30) := Lib.hid ⟨(H16.out.1).trans (hb.below (by first | omega | exact Nat.le_refl _ | (simp; done) | (simp; omega)) (by first | omega | exact Nat.le_refl _ | (simp; done) | (simp; omega))), (H16.out.2.1).below (hb.below (by first | omega | exact Nat.le_refl _ | (simp; done) | (simp; omega)) (by first | omega | exact Nat.le_refl _ | (simp; done) | (simp; omega))), RdBT.below (H16.out.2.2.1) (hb.below (by first | omega | exact Nat.le_refl _ | (simp; done) | (simp; omega)) (by first | omega | exact Nat.le_refl _ | (simp; done) | (simp; omega))), (show Blk w17 _ _ _ from (hb.block _ (by omega) (by omega)).trans (H16.out.2.2.2.1)), RdBD.below (H16.out.2.2.2.2.1) (hb.below (by first | omega | exact Nat.le_refl _ | (simp; done) | (simp; omega)) (by first | omega | exact Nat.le_refl _ | (simp; done) | (simp; omega))), (H16.out.2.2.2.2.2.1).apart hb (by omega), OwnWT.apart (H16.out.2.2.2.2.2.2.1) hb (by omega), (H16.out.2.2.2.2.2.2.2.1).apart hb (by omega), OwnWT.apart (H16.out.2.2.2.2.2.2.2.2.1) hb (by omega), (show Blk w17 _ _ _ from (hb.block _ (by omega) (by omega)).trans (H16.out.2.2.2.2.2.2.2.2.2.1)), (show Blk w17 _ _ _ from (hb.block _ (by omega) (by omega)).trans (H16.out.2.2.2.2.2.2.2.2.2.2.1)), ho0, ho1, (show Blk w17 _ _ _ from (hb.block _ (by omega) (by omega)).trans (H16.out.2.2.2.2.2.2.2.2.2.2.2.2.2))⟩
    clear hb H16 ho0 ho1
    clear A_16_0 A_16_1 A_16_lt bm_16_0 bm_16_1 bm_16_lt bx_16_0 bx_16_1 bx_16_lt bg_16_0 bg_16_1 bg_16_lt
    obtain ⟨A_17_0, A_17_1, _, _⟩ := blk_pair (H17.out.2.2.2.1)
    have A_17_lt := Blk.lt (H17.out.2.2.2.1)
    obtain ⟨bm_17_0, bm_17_1, _, _⟩ := blk_pair (H17.out.2.2.2.2.2.2.2.2.2.1)
    have bm_17_lt := Blk.lt (H17.out.2.2.2.2.2.2.2.2.2.1)
    obtain ⟨bx_17_0, bx_17_1, _, _⟩ := blk_pair (H17.out.2.2.2.2.2.2.2.2.2.2.1)
    have bx_17_lt := Blk.lt (H17.out.2.2.2.2.2.2.2.2.2.2.1)
    obtain ⟨bg_17_0, bg_17_1, _, _⟩ := blk_pair (H17.out.2.2.2.2.2.2.2.2.2.2.2.2.2)
    have bg_17_lt := Blk.lt (H17.out.2.2.2.2.2.2.2.2.2.2.2.2.2)
    go_wp2_with fail
    refine (heldBench9 _ _ n9 p9 _ (by omega) (by omega) ((H17.out.2.2.2.2.2.2.2.2.2.2.2.1).rd) (OwnWT.rd (H17.out.2.2.2.2.2.2.2.2.2.2.2.2.1))).mono ?_
    rintro e w18 ⟨rfl, hb⟩
    have hs18 := hb.size
    have H18 : Hid (Below w0.heap.size w0 w18 ∧ RdBI w18 w0.heap.size (.slice A0 r.length c0) r ∧ RdBT w18 w0.heap.size (.slice A1 s.length c1) s ∧ Blk w18 (w0.heap.size) #[.slice A0 r.length c0, .slice A1 s.length c1] 25 ∧ RdBD w18 w0.heap.size (.slice A2 ds.length c2) ds ∧ OwnI w18 (w5.heap.size) (w6.heap.size) (.slice mA0 n9.length mc0) (n9) ∧ OwnWT w18 (w5.heap.size) (w6.heap.size) (.slice mA1 p9.length mc1) (p9) ∧ OwnI w18 (w6.heap.size + 1) (w7.heap.size) (.slice xA0 r.length xc0) (mkI 1 r) ∧ OwnWT w18 (w6.heap.size + 1) (w7.heap.size) (.slice xA1 s.length xc1) (mtxs (1 + r.length) s.length) ∧ Blk w18 (w6.heap.size) #[.slice mA0 n9.length mc0, .slice mA1 p9.length mc1] 30 ∧ Blk w18 (w7.heap.size) #[.slice xA0 r.length xc0, .slice xA1 s.length xc1] 30 ∧ OwnI w18 (w8.heap.size) (w9.heap.size) (.slice gA0 n9.length gc0) (mkI 1 n9) ∧ OwnWT w18 (w8.heap.size) (w9.heap.size) (.slice gA1 p9.length gc1) (mtxs (1 + n9.length) p9.length) ∧ Blk w18 (w9.heap.size) #[.slice gA0 n9.length gc0, .slice gA1 p9.length gc1] 30) := Lib.hid ⟨(H17.out.1).trans ((hb).mono (by first | omega | exact Nat.le_refl _ | (simp; done) | (simp; omega))), (H17.out.2.1).below ((hb).mono (by first | omega | exact Nat.le_refl _ | (simp; done) | (simp; omega))), RdBT.below (H17.out.2.2.1) ((hb).mono (by first | omega | exact Nat.le_refl _ | (simp; done) | (simp; omega))), (H17.out.2.2.2.1).below hb (by first | omega | exact Nat.le_refl _ | (simp; done) | (simp; omega)), RdBD.below (H17.out.2.2.2.2.1) ((hb).mono (by first | omega | exact Nat.le_refl _ | (simp; done) | (simp; omega))), (H17.out.2.2.2.2.2.1).below hb, OwnW.below (H17.out.2.2.2.2.2.2.1) hb, (H17.out.2.2.2.2.2.2.2.1).below hb, OwnW.below (H17.out.2.2.2.2.2.2.2.2.1) hb, (H17.out.2.2.2.2.2.2.2.2.2.1).below hb (by first | omega | exact Nat.le_refl _ | (simp; done) | (simp; omega)), (H17.out.2.2.2.2.2.2.2.2.2.2.1).below hb (by first | omega | exact Nat.le_refl _ | (simp; done) | (simp; omega)), (H17.out.2.2.2.2.2.2.2.2.2.2.2.1).below hb, OwnW.below (H17.out.2.2.2.2.2.2.2.2.2.2.2.2.1) hb, (H17.out.2.2.2.2.2.2.2.2.2.2.2.2.2).below hb (by first | omega | exact Nat.le_refl _ | (simp; done) | (simp; omega))⟩
    clear hb H17 
    clear A_17_0 A_17_1 A_17_lt bm_17_0 bm_17_1 bm_17_lt bx_17_0 bx_17_1 bx_17_lt bg_17_0 bg_17_1 bg_17_lt
    obtain ⟨A_18_0, A_18_1, _, _⟩ := blk_pair (H18.out.2.2.2.1)
    have A_18_lt := Blk.lt (H18.out.2.2.2.1)
    obtain ⟨bm_18_0, bm_18_1, _, _⟩ := blk_pair (H18.out.2.2.2.2.2.2.2.2.2.1)
    have bm_18_lt := Blk.lt (H18.out.2.2.2.2.2.2.2.2.2.1)
    obtain ⟨bx_18_0, bx_18_1, _, _⟩ := blk_pair (H18.out.2.2.2.2.2.2.2.2.2.2.1)
    have bx_18_lt := Blk.lt (H18.out.2.2.2.2.2.2.2.2.2.2.1)
    obtain ⟨bg_18_0, bg_18_1, _, _⟩ := blk_pair (H18.out.2.2.2.2.2.2.2.2.2.2.2.2.2)
    have bg_18_lt := Blk.lt (H18.out.2.2.2.2.2.2.2.2.2.2.2.2.2)
    go_wp2_with fail
    refine (toB _ _ r s _ ((H18.out.2.1).rd (by omega)) (RdBT.mono (H18.out.2.2.1) (by omega)) hl hn).mono ?_
    rintro e w19 ⟨zt0, zt1, zm, rfl, zm1, zm2, hp0, hp1, hb⟩
    obtain ⟨zA0, zc0, rfl, _⟩ := hp0.rd
    obtain ⟨zA1, zc1, rfl, _⟩ := hp1.rd
    have hq_z : w18.heap.size ≤ w19.heap.size := by omega
    have ho0 : OwnI w19 (w18.heap.size) w19.heap.size (.slice zA0 r.length zc0) r := ⟨hp0.own, fun g hg => by have := hp0.lt g hg; omega⟩
    have ho1 : OwnWT w19 (w18.heap.size) w19.heap.size (.slice zA1 s.length zc1) s := (OwnT.win hp1).mono (by omega) (Nat.le_refl _)
    have hs19 := hb.size
    have H19 : Hid (Below w0.heap.size w0 w19 ∧ RdBI w19 w0.heap.size (.slice A0 r.length c0) r ∧ RdBT w19 w0.heap.size (.slice A1 s.length c1) s ∧ Blk w19 (w0.heap.size) #[.slice A0 r.length c0, .slice A1 s.length c1] 25 ∧ RdBD w19 w0.heap.size (.slice A2 ds.length c2) ds ∧ OwnI w19 (w5.heap.size) (w6.heap.size) (.slice mA0 n9.length mc0) (n9) ∧ OwnWT w19 (w5.heap.size) (w6.heap.size) (.slice mA1 p9.length mc1) (p9) ∧ OwnI w19 (w6.heap.size + 1) (w7.heap.size) (.slice xA0 r.length xc0) (mkI 1 r) ∧ OwnWT w19 (w6.heap.size + 1) (w7.heap.size) (.slice xA1 s.length xc1) (mtxs (1 + r.length) s.length) ∧ Blk w19 (w6.heap.size) #[.slice mA0 n9.length mc0, .slice mA1 p9.length mc1] 30 ∧ Blk w19 (w7.heap.size) #[.slice xA0 r.length xc0, .slice xA1 s.length xc1] 30 ∧ OwnI w19 (w8.heap.size) (w9.heap.size) (.slice gA0 n9.length gc0) (mkI 1 n9) ∧ OwnWT w19 (w8.heap.size) (w9.heap.size) (.slice gA1 p9.length gc1) (mtxs (1 + n9.length) p9.length) ∧ Blk w19 (w9.heap.size) #[.slice gA0 n9.length gc0, .slice gA1 p9.length gc1] 30 ∧ OwnI w19 (w18.heap.size) (w19.heap.size) (.slice zA0 r.length zc0) (r) ∧ OwnWT w19 (w18.heap.size) (w19.heap.size) (.slice zA1 s.length zc1) (s)) := Lib.hid ⟨(H18.out.1).trans ((hb).mono (by first | omega | exact Nat.le_refl _ | (simp; done) | (simp; omega))), (H18.out.2.1).below ((hb).mono (by first | omega | exact Nat.le_refl _ | (simp; done) | (simp; omega))), RdBT.below (H18.out.2.2.1) ((hb).mono (by first | omega | exact Nat.le_refl _ | (simp; done) | (simp; omega))), (H18.out.2.2.2.1).below hb (by first | omega | exact Nat.le_refl _ | (simp; done) | (simp; omega)), RdBD.below (H18.out.2.2.2.2.1) ((hb).mono (by first | omega | exact Nat.le_refl _ | (simp; done) | (simp; omega))), (H18.out.2.2.2.2.2.1).below hb, OwnW.below (H18.out.2.2.2.2.2.2.1) hb, (H18.out.2.2.2.2.2.2.2.1).below hb, OwnW.below (H18.out.2.2.2.2.2.2.2.2.1) hb, (H18.out.2.2.2.2.2.2.2.2.2.1).below hb (by first | omega | exact Nat.le_refl _ | (simp; done) | (simp; omega)), (H18.out.2.2.2.2.2.2.2.2.2.2.1).below hb (by first | omega | exact Nat.le_refl _ | (simp; done) | (simp; omega)), (H18.out.2.2.2.2.2.2.2.2.2.2.2.1).below hb, OwnW.below (H18.out.2.2.2.2.2.2.2.2.2.2.2.2.1) hb, (H18.out.2.2.2.2.2.2.2.2.2.2.2.2.2).below hb (by first | omega | exact Nat.le_refl _ | (simp; done) | (simp; omega)), ho0, ho1⟩
    clear hb H18 ho0 ho1 hp0 hp1
    clear A_18_0 A_18_1 A_18_lt bm_18_0 bm_18_1 bm_18_lt bx_18_0 bx_18_1 bx_18_lt bg_18_0 bg_18_1 bg_18_lt
    obtain ⟨A_19_0, A_19_1, _, _⟩ := blk_pair (H19.out.2.2.2.1)
    have A_19_lt := Blk.lt (H19.out.2.2.2.1)
    obtain ⟨bm_19_0, bm_19_1, _, _⟩ := blk_pair (H19.out.2.2.2.2.2.2.2.2.2.1)
    have bm_19_lt := Blk.lt (H19.out.2.2.2.2.2.2.2.2.2.1)
    obtain ⟨bx_19_0, bx_19_1, _, _⟩ := blk_pair (H19.out.2.2.2.2.2.2.2.2.2.2.1)
    have bx_19_lt := Blk.lt (H19.out.2.2.2.2.2.2.2.2.2.2.1)
    obtain ⟨bg_19_0, bg_19_1, _, _⟩ := blk_pair (H19.out.2.2.2.2.2.2.2.2.2.2.2.2.2.1)
    have bg_19_lt := Blk.lt (H19.out.2.2.2.2.2.2.2.2.2.2.2.2.2.1)
    go_wp2_with fail
    refine (toDS _ ds _ (RdBD.mono (H19.out.2.2.2.2.1) (by omega)) hld).mono ?_
    rintro e w20 ⟨zdu, rfl, ho, hb⟩
    obtain ⟨zdA, zdc, rfl, _⟩ := ho.rd
    have hq_zd : w19.heap.size ≤ w20.heap.size := by have := hb.size; exact this
    have hs20 := hb.size
    have H20 : Hid (Below w0.heap.size w0 w20 ∧ RdBI w20 w0.heap.size (.slice A0 r.length c0) r ∧ RdBT w20 w0.heap.size (.slice A1 s.length c1) s ∧ Blk w20 (w0.heap.size) #[.slice A0 r.length c0, .slice A1 s.length c1] 25 ∧ RdBD w20 w0.heap.size (.slice A2 ds.length c2) ds ∧ OwnI w20 (w5.heap.size) (w6.heap.size) (.slice mA0 n9.length mc0) (n9) ∧ OwnWT w20 (w5.heap.size) (w6.heap.size) (.slice mA1 p9.length mc1) (p9) ∧ OwnI w20 (w6.heap.size + 1) (w7.heap.size) (.slice xA0 r.length xc0) (mkI 1 r) ∧ OwnWT w20 (w6.heap.size + 1) (w7.heap.size) (.slice xA1 s.length xc1) (mtxs (1 + r.length) s.length) ∧ Blk w20 (w6.heap.size) #[.slice mA0 n9.length mc0, .slice mA1 p9.length mc1] 30 ∧ Blk w20 (w7.heap.size) #[.slice xA0 r.length xc0, .slice xA1 s.length xc1] 30 ∧ OwnI w20 (w8.heap.size) (w9.heap.size) (.slice gA0 n9.length gc0) (mkI 1 n9) ∧ OwnWT w20 (w8.heap.size) (w9.heap.size) (.slice gA1 p9.length gc1) (mtxs (1 + n9.length) p9.length) ∧ Blk w20 (w9.heap.size) #[.slice gA0 n9.length gc0, .slice gA1 p9.length gc1] 30 ∧ OwnI w20 (w18.heap.size) (w19.heap.size) (.slice zA0 r.length zc0) (r) ∧ OwnWT w20 (w18.heap.size) (w19.heap.size) (.slice zA1 s.length zc1) (s) ∧ OwnD w20 (w19.heap.size) (w20.heap.size) (.slice zdA ds.length zdc) (ds)) := Lib.hid ⟨(H19.out.1).trans ((hb).mono (by first | omega | exact Nat.le_refl _ | (simp; done) | (simp; omega))), (H19.out.2.1).below ((hb).mono (by first | omega | exact Nat.le_refl _ | (simp; done) | (simp; omega))), RdBT.below (H19.out.2.2.1) ((hb).mono (by first | omega | exact Nat.le_refl _ | (simp; done) | (simp; omega))), (H19.out.2.2.2.1).below hb (by first | omega | exact Nat.le_refl _ | (simp; done) | (simp; omega)), RdBD.below (H19.out.2.2.2.2.1) ((hb).mono (by first | omega | exact Nat.le_refl _ | (simp; done) | (simp; omega))), (H19.out.2.2.2.2.2.1).below hb, OwnW.below (H19.out.2.2.2.2.2.2.1) hb, (H19.out.2.2.2.2.2.2.2.1).below hb, OwnW.below (H19.out.2.2.2.2.2.2.2.2.1) hb, (H19.out.2.2.2.2.2.2.2.2.2.1).below hb (by first | omega | exact Nat.le_refl _ | (simp; done) | (simp; omega)), (H19.out.2.2.2.2.2.2.2.2.2.2.1).below hb (by first | omega | exact Nat.le_refl _ | (simp; done) | (simp; omega)), (H19.out.2.2.2.2.2.2.2.2.2.2.2.1).below hb, OwnW.below (H19.out.2.2.2.2.2.2.2.2.2.2.2.2.1) hb, (H19.out.2.2.2.2.2.2.2.2.2.2.2.2.2.1).below hb (by first | omega | exact Nat.le_refl _ | (simp; done) | (simp; omega)), (H19.out.2.2.2.2.2.2.2.2.2.2.2.2.2.2.1).below hb, OwnW.below (H19.out.2.2.2.2.2.2.2.2.2.2.2.2.2.2.2) hb, ho⟩
    clear hb H19 ho
    clear A_19_0 A_19_1 A_19_lt bm_19_0 bm_19_1 bm_19_lt bx_19_0 bx_19_1 bx_19_lt bg_19_0 bg_19_1 bg_19_lt
    obtain ⟨A_20_0, A_20_1, _, _⟩ := blk_pair (H20.out.2.2.2.1)
    have A_20_lt := Blk.lt (H20.out.2.2.2.1)
    obtain ⟨bm_20_0, bm_20_1, _, _⟩ := blk_pair (H20.out.2.2.2.2.2.2.2.2.2.1)
    have bm_20_lt := Blk.lt (H20.out.2.2.2.2.2.2.2.2.2.1)
    obtain ⟨bx_20_0, bx_20_1, _, _⟩ := blk_pair (H20.out.2.2.2.2.2.2.2.2.2.2.1)
    have bx_20_lt := Blk.lt (H20.out.2.2.2.2.2.2.2.2.2.2.1)
    obtain ⟨bg_20_0, bg_20_1, _, _⟩ := blk_pair (H20.out.2.2.2.2.2.2.2.2.2.2.2.2.2.1)
    have bg_20_lt := Blk.lt (H20.out.2.2.2.2.2.2.2.2.2.2.2.2.2.1)
    go_wp2_with fail
    refine (BenchRun_I _ _ _ r s ds _ ((H20.out.2.2.2.2.2.2.2.2.2.2.2.2.2.2.1).rd) (OwnWT.rd (H20.out.2.2.2.2.2.2.2.2.2.2.2.2.2.2.2.1)) (OwnD.rd (H20.out.2.2.2.2.2.2.2.2.2.2.2.2.2.2.2.2)) hl hn HN2.out hld HS2.out (HT.out.keep (H20.out.1))).mono ?_
    rw [HR.out]
    rintro e w21 ⟨ht0, ht1, rfl, hp0, ho1, hb⟩
    obtain ⟨hA0, hc0, rfl, _⟩ := hp0.ints
    obtain ⟨hA1, hc1, rfl, _⟩ := ho1.rd
    have ho0 := hp0.within
    have hs21 := hb.size
    have H21 : Hid (Below w0.heap.size w0 w21 ∧ RdBI w21 w0.heap.size (.slice A0 r.length c0) r ∧ RdBT w21 w0.heap.size (.slice A1 s.length c1) s ∧ Blk w21 (w0.heap.size) #[.slice A0 r.length c0, .slice A1 s.length c1] 25 ∧ RdBD w21 w0.heap.size (.slice A2 ds.length c2) ds ∧ OwnI w21 (w5.heap.size) (w6.heap.size) (.slice mA0 n9.length mc0) (n9) ∧ OwnWT w21 (w5.heap.size) (w6.heap.size) (.slice mA1 p9.length mc1) (p9) ∧ OwnI w21 (w6.heap.size + 1) (w7.heap.size) (.slice xA0 r.length xc0) (mkI 1 r) ∧ OwnWT w21 (w6.heap.size + 1) (w7.heap.size) (.slice xA1 s.length xc1) (mtxs (1 + r.length) s.length) ∧ Blk w21 (w6.heap.size) #[.slice mA0 n9.length mc0, .slice mA1 p9.length mc1] 30 ∧ Blk w21 (w7.heap.size) #[.slice xA0 r.length xc0, .slice xA1 s.length xc1] 30 ∧ OwnI w21 (w8.heap.size) (w9.heap.size) (.slice gA0 n9.length gc0) (mkI 1 n9) ∧ OwnWT w21 (w8.heap.size) (w9.heap.size) (.slice gA1 p9.length gc1) (mtxs (1 + n9.length) p9.length) ∧ Blk w21 (w9.heap.size) #[.slice gA0 n9.length gc0, .slice gA1 p9.length gc1] 30 ∧ OwnI w21 (w20.heap.size) (w21.heap.size) (.slice hA0 n9.length hc0) (n9) ∧ OwnWT w21 (w20.heap.size) (w21.heap.size) (.slice hA1 p9.length hc1) (p9)) := Lib.hid ⟨(H20.out.1).trans ((hb).mono (by first | omega | exact Nat.le_refl _ | (simp; done) | (simp; omega))), (H20.out.2.1).below ((hb).mono (by first | omega | exact Nat.le_refl _ | (simp; done) | (simp; omega))), RdBT.below (H20.out.2.2.1) ((hb).mono (by first | omega | exact Nat.le_refl _ | (simp; done) | (simp; omega))), (H20.out.2.2.2.1).below hb (by first | omega | exact Nat.le_refl _ | (simp; done) | (simp; omega)), RdBD.below (H20.out.2.2.2.2.1) ((hb).mono (by first | omega | exact Nat.le_refl _ | (simp; done) | (simp; omega))), (H20.out.2.2.2.2.2.1).below hb, OwnW.below (H20.out.2.2.2.2.2.2.1) hb, (H20.out.2.2.2.2.2.2.2.1).below hb, OwnW.below (H20.out.2.2.2.2.2.2.2.2.1) hb, (H20.out.2.2.2.2.2.2.2.2.2.1).below hb (by first | omega | exact Nat.le_refl _ | (simp; done) | (simp; omega)), (H20.out.2.2.2.2.2.2.2.2.2.2.1).below hb (by first | omega | exact Nat.le_refl _ | (simp; done) | (simp; omega)), (H20.out.2.2.2.2.2.2.2.2.2.2.2.1).below hb, OwnW.below (H20.out.2.2.2.2.2.2.2.2.2.2.2.2.1) hb, (H20.out.2.2.2.2.2.2.2.2.2.2.2.2.2.1).below hb (by first | omega | exact Nat.le_refl _ | (simp; done) | (simp; omega)), ho0, ho1⟩
    clear hb H20 ho0 ho1 hp0
    clear A_20_0 A_20_1 A_20_lt bm_20_0 bm_20_1 bm_20_lt bx_20_0 bx_20_1 bx_20_lt bg_20_0 bg_20_1 bg_20_lt
    obtain ⟨A_21_0, A_21_1, _, _⟩ := blk_pair (H21.out.2.2.2.1)
    have A_21_lt := Blk.lt (H21.out.2.2.2.1)
    obtain ⟨bm_21_0, bm_21_1, _, _⟩ := blk_pair (H21.out.2.2.2.2.2.2.2.2.2.1)
    have bm_21_lt := Blk.lt (H21.out.2.2.2.2.2.2.2.2.2.1)
    obtain ⟨bx_21_0, bx_21_1, _, _⟩ := blk_pair (H21.out.2.2.2.2.2.2.2.2.2.2.1)
    have bx_21_lt := Blk.lt (H21.out.2.2.2.2.2.2.2.2.2.2.1)
    obtain ⟨bg_21_0, bg_21_1, _, _⟩ := blk_pair (H21.out.2.2.2.2.2.2.2.2.2.2.2.2.2.1)
    have bg_21_lt := Blk.lt (H21.out.2.2.2.2.2.2.2.2.2.2.2.2.2.1)
    go_wp2_with fail
    have hba : Below w21.heap.size w21 (w21.alloc (.cells #[.slice hA0 n9.length hc0, .slice hA1 p9.length hc1] 30)) := (Below.refl _ _).alloc (Nat.le_refl _) _
    have bx := Blk.new w21 #[.slice hA0 n9.length hc0, .slice hA1 p9.length hc1] 30
    refine (eqB_any _ _ _ _ n9 n9 p9 p9 _ (((H21.out.2.2.2.2.2.2.2.2.2.2.2.2.2.2.1).below hba).rd) (OwnWT.rd (OwnW.below (H21.out.2.2.2.2.2.2.2.2.2.2.2.2.2.2.2) hba)) (((H21.out.2.2.2.2.2.1).below hba).rd) (OwnWT.rd (OwnW.below (H21.out.2.2.2.2.2.2.1) hba)) rfl rfl).mono ?_
    rintro e w22 ⟨rfl, hb⟩
    have hs22 : w21.heap.size + 1 ≤ w22.heap.size := by have := hb.size; rw [World.size_alloc] at this; exact this
    replace bx := bx.below hb (by rw [World.size_alloc]; omega)
    replace hb : Below w21.heap.size w21 w22 := hba.trans (hb.mono (by rw [World.size_alloc]; omega))
    clear hba
    have H22 : Hid (Below w0.heap.size w0 w22 ∧ RdBI w22 w0.heap.size (.slice A0 r.length c0) r ∧ RdBT w22 w0.heap.size (.slice A1 s.length c1) s ∧ Blk w22 (w0.heap.size) #[.slice A0 r.length c0, .slice A1 s.length c1] 25 ∧ RdBD w22 w0.heap.size (.slice A2 ds.length c2) ds ∧ OwnI w22 (w5.heap.size) (w6.heap.size) (.slice mA0 n9.length mc0) (n9) ∧ OwnWT w22 (w5.heap.size) (w6.heap.size) (.slice mA1 p9.length mc1) (p9) ∧ OwnI w22 (w6.heap.size + 1) (w7.heap.size) (.slice xA0 r.length xc0) (mkI 1 r) ∧ OwnWT w22 (w6.heap.size + 1) (w7.heap.size) (.slice xA1 s.length xc1) (mtxs (1 + r.length) s.length) ∧ Blk w22 (w6.heap.size) #[.slice mA0 n9.length mc0, .slice mA1 p9.length mc1] 30 ∧ Blk w22 (w7.heap.size) #[.slice xA0 r.length xc0, .slice xA1 s.length xc1] 30 ∧ OwnI w22 (w8.heap.size) (w9.heap.size) (.slice gA0 n9.length gc0) (mkI 1 n9) ∧ OwnWT w22 (w8.heap.size) (w9.heap.size) (.slice gA1 p9.length gc1) (mtxs (1 + n9.length) p9.length) ∧ Blk w22 (w9.heap.size) #[.slice gA0 n9.length gc0, .slice gA1 p9.length gc1] 30 ∧ OwnI w22 (w20.heap.size) (w21.heap.size) (.slice hA0 n9.length hc0) (n9) ∧ OwnWT w22 (w20.heap.size) (w21.heap.size) (.slice hA1 p9.length hc1) (p9) ∧ Blk w22 (w21.heap.size) #[.slice hA0 n9.length hc0, .slice hA1 p9.length hc1] 30) := Lib.hid ⟨(H21.out.1).trans ((hb).mono (by first | omega | exact Nat.le_refl _ | (simp; done) | (simp; omega))), (H21.out.2.1).below ((hb).mono (by first | omega | exact Nat.le_refl _ | (simp; done) | (simp; omega))), RdBT.below (H21.out.2.2.1) ((hb).mono (by first | omega | exact Nat.le_refl _ | (simp; done) | (simp; omega))), (H21.out.2.2.2.1).below hb (by first | omega | exact Nat.le_refl _ | (simp; done) | (simp; omega)), RdBD.below (H21.out.2.2.2.2.1) ((hb).mono (by first | omega | exact Nat.le_refl _ | (simp; done) | (simp; omega))), (H21.out.2.2.2.2.2.1).below hb, OwnW.below (H21.out.2.2.2.2.2.2.1) hb, (H21.out.2.2.2.2.2.2.2.1).below hb, OwnW.below (H21.out.2.2.2.2.2.2.2.2.1) hb, (H21.out.2.2.2.2.2.2.2.2.2.1).below hb (by first | omega | exact Nat.le_refl _ | (simp; done) | (simp; omega)), (H21.out.2.2.2.2.2.2.2.2.2.2.1).below hb (by first | omega | exact Nat.le_refl _ | (simp; done) | (simp; omega)), (H21.out.2.2.2.2.2.2.2.2.2.2.2.1).below hb, OwnW.below (H21.out.2.2.2.2.2.2.2.2.2.2.2.2.1) hb, (H21.out.2.2.2.2.2.2.2.2.2.2.2.2.2.1).below hb (by first | omega | exact Nat.le_refl _ | (simp; done) | (simp; omega)), (H21.out.2.2.2.2.2.2.2.2.2.2.2.2.2.2.1).below hb, OwnW.below (H21.out.2.2.2.2.2.2.2.2.2.2.2.2.2.2.2) hb, bx⟩
    clear hb H21  bx
    clear A_21_0 A_21_1 A_21_lt bm_21_0 bm_21_1 bm_21_lt bx_21_0 bx_21_1 bx_21_lt bg_21_0 bg_21_1 bg_21_lt
    obtain ⟨A_22_0, A_22_1, _, _⟩ := blk_pair (H22.out.2.2.2.1)
    have A_22_lt := Blk.lt (H22.out.2.2.2.1)
    obtain ⟨bm_22_0, bm_22_1, _, _⟩ := blk_pair (H22.out.2.2.2.2.2.2.2.2.2.1)
    have bm_22_lt := Blk.lt (H22.out.2.2.2.2.2.2.2.2.2.1)
    obtain ⟨bx_22_0, bx_22_1, _, _⟩ := blk_pair (H22.out.2.2.2.2.2.2.2.2.2.2.1)
    have bx_22_lt := Blk.lt (H22.out.2.2.2.2.2.2.2.2.2.2.1)
    obtain ⟨bg_22_0, bg_22_1, _, _⟩ := blk_pair (H22.out.2.2.2.2.2.2.2.2.2.2.2.2.2.1)
    have bg_22_lt := Blk.lt (H22.out.2.2.2.2.2.2.2.2.2.2.2.2.2.1)
    obtain ⟨bh_22_0, bh_22_1, _, _⟩ := blk_pair (H22.out.2.2.2.2.2.2.2.2.2.2.2.2.2.2.2.2)
    have bh_22_lt := Blk.lt (H22.out.2.2.2.2.2.2.2.2.2.2.2.2.2.2.2.2)
    go_wp2_with fail
    refine (heldBench9 _ _ n9 p9 _ (by omega) (by omega) ((H22.out.2.2.2.2.2.2.2.2.2.2.2.1).rd) (OwnWT.rd (H22.out.2.2.2.2.2.2.2.2.2.2.2.2.1))).mono ?_
    rintro e w23 ⟨rfl, hb⟩
    have hs23 := hb.size
    have H23 : Hid (Below w0.heap.size w0 w23 ∧ RdBI w23 w0.heap.size (.slice A0 r.length c0) r ∧ RdBT w23 w0.heap.size (.slice A1 s.length c1) s ∧ Blk w23 (w0.heap.size) #[.slice A0 r.length c0, .slice A1 s.length c1] 25 ∧ RdBD w23 w0.heap.size (.slice A2 ds.length c2) ds ∧ OwnI w23 (w5.heap.size) (w6.heap.size) (.slice mA0 n9.length mc0) (n9) ∧ OwnWT w23 (w5.heap.size) (w6.heap.size) (.slice mA1 p9.length mc1) (p9) ∧ OwnI w23 (w6.heap.size + 1) (w7.heap.size) (.slice xA0 r.length xc0) (mkI 1 r) ∧ OwnWT w23 (w6.heap.size + 1) (w7.heap.size) (.slice xA1 s.length xc1) (mtxs (1 + r.length) s.length) ∧ Blk w23 (w6.heap.size) #[.slice mA0 n9.length mc0, .slice mA1 p9.length mc1] 30 ∧ Blk w23 (w7.heap.size) #[.slice xA0 r.length xc0, .slice xA1 s.length xc1] 30 ∧ OwnI w23 (w8.heap.size) (w9.heap.size) (.slice gA0 n9.length gc0) (mkI 1 n9) ∧ OwnWT w23 (w8.heap.size) (w9.heap.size) (.slice gA1 p9.length gc1) (mtxs (1 + n9.length) p9.length) ∧ Blk w23 (w9.heap.size) #[.slice gA0 n9.length gc0, .slice gA1 p9.length gc1] 30 ∧ OwnI w23 (w20.heap.size) (w21.heap.size) (.slice hA0 n9.length hc0) (n9) ∧ OwnWT w23 (w20.heap.size) (w21.heap.size) (.slice hA1 p9.length hc1) (p9) ∧ Blk w23 (w21.heap.size) #[.slice hA0 n9.length hc0, .slice hA1 p9.length hc1] 30) := Lib.hid ⟨(H22.out.1).trans ((hb).mono (by first | omega | exact Nat.le_refl _ | (simp; done) | (simp; omega))), (H22.out.2.1).below ((hb).mono (by first | omega | exact Nat.le_refl _ | (simp; done) | (simp; omega))), RdBT.below (H22.out.2.2.1) ((hb).mono (by first | omega | exact Nat.le_refl _ | (simp; done) | (simp; omega))), (H22.out.2.2.2.1).below hb (by first | omega | exact Nat.le_refl _ | (simp; done) | (simp; omega)), RdBD.below (H22.out.2.2.2.2.1) ((hb).mono (by first | omega | exact Nat.le_refl _ | (simp; done) | (simp; omega))), (H22.out.2.2.2.2.2.1).below hb, OwnW.below (H22.out.2.2.2.2.2.2.1) hb, (H22.out.2.2.2.2.2.2.2.1).below hb, OwnW.below (H22.out.2.2.2.2.2.2.2.2.1) hb, (H22.out.2.2.2.2.2.2.2.2.2.1).below hb (by first | omega | exact Nat.le_refl _ | (simp; done) | (simp; omega)), (H22.out.2.2.2.2.2.2.2.2.2.2.1).below hb (by first | omega | exact Nat.le_refl _ | (simp; done) | (simp; omega)), (H22.out.2.2.2.2.2.2.2.2.2.2.2.1).below hb, OwnW.below (H22.out.2.2.2.2.2.2.2.2.2.2.2.2.1) hb, (H22.out.2.2.2.2.2.2.2.2.2.2.2.2.2.1).below hb (by first | omega | exact Nat.le_refl _ | (simp; done) | (simp; omega)), (H22.out.2.2.2.2.2.2.2.2.2.2.2.2.2.2.1).below hb, OwnW.below (H22.out.2.2.2.2.2.2.2.2.2.2.2.2.2.2.2.1) hb, (H22.out.2.2.2.2.2.2.2.2.2.2.2.2.2.2.2.2).below hb (by first | omega | exact Nat.le_refl _ | (simp; done) | (simp; omega))⟩
    clear hb H22 
    clear A_22_0 A_22_1 A_22_lt bm_22_0 bm_22_1 bm_22_lt bx_22_0 bx_22_1 bx_22_lt bg_22_0 bg_22_1 bg_22_lt bh_22_0 bh_22_1 bh_22_lt
    obtain ⟨A_23_0, A_23_1, _, _⟩ := blk_pair (H23.out.2.2.2.1)
    have A_23_lt := Blk.lt (H23.out.2.2.2.1)
    obtain ⟨bm_23_0, bm_23_1, _, _⟩ := blk_pair (H23.out.2.2.2.2.2.2.2.2.2.1)
    have bm_23_lt := Blk.lt (H23.out.2.2.2.2.2.2.2.2.2.1)
    obtain ⟨bx_23_0, bx_23_1, _, _⟩ := blk_pair (H23.out.2.2.2.2.2.2.2.2.2.2.1)
    have bx_23_lt := Blk.lt (H23.out.2.2.2.2.2.2.2.2.2.2.1)
    obtain ⟨bg_23_0, bg_23_1, _, _⟩ := blk_pair (H23.out.2.2.2.2.2.2.2.2.2.2.2.2.2.1)
    have bg_23_lt := Blk.lt (H23.out.2.2.2.2.2.2.2.2.2.2.2.2.2.1)
    obtain ⟨bh_23_0, bh_23_1, _, _⟩ := blk_pair (H23.out.2.2.2.2.2.2.2.2.2.2.2.2.2.2.2.2)
    have bh_23_lt := Blk.lt (H23.out.2.2.2.2.2.2.2.2.2.2.2.2.2.2.2.2)
    go_wp2
    go_ret
    exact ⟨rfl, H23.out.1⟩
theorem exBenchRun_walk : LawWalkL 4 Tryz.f4 Rows.fnExactBenchRunRow.laid := by
  intro H enc W base args ds ps hval hA hL _
  rw [Tryz.params4] at hA hval
  obtain ⟨v0, v1, d0, d1, p0, p1, rfl, rfl, rfl, h0, h1⟩ := trodAll_two hA
  obtain ⟨A0, c0, zs0, B0, d0, ss0, rfl, hi0, hj0, hk0⟩ := bench_of_trod (hval 0 _ _ rfl rfl) h0
  obtain ⟨A1, c1, zs1, rfl, hi1⟩ := deeds_of_trod (hval 1 _ _ rfl rfl) h1
  exact exBenchRun_any A0 c0 zs0 B0 d0 ss0 A1 c1 zs1 W hi0 hj0 hk0 hi1 (strTab_of_laid lv_opTexts_named lv_opTexts_type Tryz.underlying109 Tryz.underlying9 (by kernel_rfl) (by kernel_rfl) (ss := opNames) (List.mem_of_getElem? (i := 3) (by kernel_rfl)) (by decide) hL) (tabIs_of_mem lv_uint64pow10_named lv_uint64pow10_type Tryz.underlying162 Tryz.underlying156 (by kernel_rfl) (by kernel_rfl) (List.mem_of_getElem? (i := 2) (by kernel_rfl)) hL)

noncomputable def exBenchRun_world (os : Os) : World := laidAt (laidAt (laidAt (laidAt (World.holding Tryz.prog os ⟨#[], #[], []⟩) 3 Rows.laid_math_bits_deBruijn32tab) 4 Rows.laid_math_bits_deBruijn64tab) 2 Rows.laid_internal_strconv_uint64pow10) 0 Rows.laid_loop_example_stackwords_impl_opTexts
theorem exBenchRun_met (os : Os) : laidMet Tryz.prog Rows.fnExactBenchRunRow.laid ((exBenchRun_world os).forCall (fun _ _ => 0) ⟨#[], #[.agg #[.slice none 0 0, .slice none 0 0], .slice none 0 0], []⟩).memory :=
  laidMet_of_run' 8 (by kernel_rfl) (by kernel_rfl)
theorem exBenchRun_reads (os : Os) {H : Type} (enc : TypeId × Value → H) : ∃ places, DataW.whole enc Tryz.prog ((exBenchRun_world os).forCall (fun _ _ => 0) ⟨#[], #[.agg #[.slice none 0 0, .slice none 0 0], .slice none 0 0], []⟩).memory Tryz.f4.params.toList Rows.fnExactBenchRunSpec.vars false #[.agg #[.slice none 0 0, .slice none 0 0], .slice none 0 0].toList 8 = some ([.agg [.nil, .nil], .nil], [strData opNames], places) := by
  have h : (DataW.whole enc Tryz.prog ((exBenchRun_world os).forCall (fun _ _ => 0) ⟨#[], #[.agg #[.slice none 0 0, .slice none 0 0], .slice none 0 0], []⟩).memory Tryz.f4.params.toList Rows.fnExactBenchRunSpec.vars false #[.agg #[.slice none 0 0, .slice none 0 0], .slice none 0 0].toList 8).map (fun x => (x.1, x.2.1)) = some ([.agg [.nil, .nil], .nil], [strData opNames]) := by kernel_rfl
  obtain ⟨⟨a, b, c⟩, h1, h2⟩ := Option.map_eq_some_iff.1 h
  simp only [Prod.mk.injEq] at h2
  obtain ⟨rfl, rfl⟩ := h2
  exact ⟨c, h1⟩

set_option maxRecDepth 100000 in
theorem exBenchRun_lifted (os : Os) (started : os.Started) (H : Type) (enc : TypeId × Value → H) (F : Stop.Interp) :
    ReturnsInHanded {} Tryz.checked os 4 .any ((OpenSpec.ofChange Rows.fnExactBenchRunSpec).preRow enc Tryz.prog Tryz.f4 Rows.fnExactBenchRunRow.domain false Rows.fnExactBenchRunRow.laid) (((OpenSpec.ofChange Rows.fnExactBenchRunSpec).at F).post enc Tryz.prog Tryz.f4 false true false false) := by
  obtain ⟨places, hx⟩ := exBenchRun_reads os enc
  refine returnsInHanded_of_row (C := Tryz.checked) (s := OpenSpec.ofChange Rows.fnExactBenchRunSpec) own started (by kernel_rfl) Tryz.func4
    (witness_row_at (enc := enc) (C := Tryz.checked) false (exBenchRun_world os) #[.agg #[.slice none 0 0, .slice none 0 0], .slice none 0 0] rfl (by kernel_rfl) (by kernel_rfl) (by kernel_rfl)
      (OpenSpec.preRow_of_cond 8 hx (by kernel_rfl) (fun k hk => by cases hk) (by kernel_rfl) (exBenchRun_met os))) ?_
  intro W base args ds gs before hval hW _ _ _ hL hsh _
  have hA := hW
  obtain ⟨p, q, hA, hV, _⟩ := hA
  refine (exBenchRun_walk H enc W base args ds p hval hA hL hsh).mono fun e W' ⟨he, hb⟩ => ⟨_, he, ?_⟩
  obtain ⟨g, t, cs, fuel, d, p', rfl, _⟩ := trodVars_one hV
  have hd := (trodAll_length hA).2
  match ds, hd with
  | [d0, d1], _ =>
    refine post_lawV (s := Rows.fnExactBenchRunSpec) laidOut hW (by kernel_rfl) ?_ rfl Tryz.underlying4 ⟨rfl, rfl, rfl⟩ hb
    intro n hn g t hg ht
    have hn2 : n ∈ ["loop.example/stackwords/impl.opTexts"] := hn
    simp only [List.mem_cons, List.not_mem_nil, or_false] at hn2
    rcases hn2 with rfl
    · obtain rfl := Option.some.inj (lv_opTexts_named.symm.trans hg)
      obtain rfl := Option.some.inj (lv_opTexts_type.symm.trans ht)
      exact lv_opTexts_readable

theorem exBenchRun_said : Rows.FnExactBenchRunSaid :=
  OpenClaim.holds_of_cond 4 Tryz.f4 rfl rfl rfl rfl rfl rfl rfl ⟨rfl, rfl, rfl, rfl, rfl⟩ rfl rfl rfl rfl rfl (by kernel_rfl) Tryz.func4 (by unfold joinedFacts; rw [pf_enter, pf_lifts, pf_make]; kernel_rfl)
    (of_decide_eq_true (by kernel_rfl)) (by unfold Func.isWrapper; first | (rw [if_pos (by decide +kernel)]; kernel_rfl) | (rw [if_neg (by decide +kernel)]; exact ⟨rfl, rfl⟩))
    (fun os started H enc _ F => by rw [OpenClaim.pre_eq_preRow]; exact exBenchRun_lifted os started H enc F)

theorem exBenchRun_plain (f : FuncId) (fn : Func) (hf : Tryz.pinned.checked.prog.funcNamed "loop.example/stackwords/laws.FnExactBenchRun" = some f) (hfn : Tryz.pinned.checked.prog.funcs[f]? = some fn) :
    false = Tryz.pinned.checked.prog.looks [] ∧ ∀ (j : Nat) t, fn.params[j]? = some t → Tryz.pinned.checked.prog.wantsStandIn t = false := by
  obtain rfl : f = 4 := Option.some.inj ((show Tryz.prog.funcNamed "loop.example/stackwords/laws.FnExactBenchRun" = some 4 by kernel_rfl).symm.trans hf) |>.symm
  obtain rfl : fn = Tryz.f4 := (Option.some.inj (Tryz.func4.symm.trans hfn)).symm
  refine ⟨by kernel_rfl, fun j t ht => ?_⟩
  rw [Tryz.params4] at ht
  have hm := Array.mem_of_getElem? ht
  simp only [List.mem_toArray, List.mem_cons, List.not_mem_nil, or_false] at hm
  rcases hm with rfl | rfl
  · exact (show Tryz.prog.wantsStandIn 25 = false by kernel_rfl)
  · exact (show Tryz.prog.wantsStandIn 39 = false by kernel_rfl)

/-- FnExactBenchRun: the card, as it is given. -/
theorem exBenchRun_card : Rows.FnExactBenchRunCardSaid :=
  Claim7.holds_tied_plain_at .later [] _ _ _ _ exBenchRun_said (fun _ h => by cases h) (by kernel_rfl) (fun _ h => by cases h) fnExactBenchRun_row_tie rfl ⟨rfl, rfl⟩ (by kernel_rfl) rfl exBenchRun_plain (by kernel_rfl)

end Go.Proofs.YtniolhdninpmmaaGreatDoor
