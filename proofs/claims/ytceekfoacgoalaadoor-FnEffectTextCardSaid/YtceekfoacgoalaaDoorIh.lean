/- The draw of an effect: l20Effect. -/
import Derived.Test.YtceekfoacgoalaaDoorIf
import Derived.Test.YtceekfoacgoalaaDoorIg
import Derived.Deep.DeepCutAuto
namespace Go.Proofs.YtceekfoacgoalaaDoor
set_option maxRecDepth 100000
open Go.RowKit Go.WideShapes Go.Deep

def EfPost (w0 : World) (g p : Nat) (bs : List Int) (w : World) (e : Ending) (w' : World) : Prop :=
  ∃ (u0 u1 : Value) (a b : List Int) (p' : Nat), e = .returned (.agg #[u0, u1]) ∧ Own w' w.heap.size u0 a ∧ Own w' w.heap.size u1 b ∧ a.length ≤ 200 ∧ b.length ≤ 200 ∧ RS w0 w' g bs p' ∧ p' ≤ p + 1000 ∧ Within g (g + 1) w w'
/-- The variable that holds the effect. -/
structure Ev (w0 : World) (g p : Nat) (bs : List Int) (w W X : World) (q : Nat) (u0 u1 : Value) (a b : List Int) : Prop where
  rs : RS w0 X g bs p
  wi : Within g (g + 1) W X
  lo : W.heap.size ≤ q
  bk : Blk X q #[u0, u1] 27
  o0 : Own X W.heap.size u0 a
  o1 : Own X W.heap.size u1 b
theorem Ev.pick {w0 : World} {g p p' : Nat} {bs : List Int} {w W X Y : World} {q : Nat} {u0 u1 : Value} {a b : List Int} (h : Ev w0 g p bs w W X q u0 u1 a b) (hg : g < W.heap.size) (hr : RS w0 Y g bs p') (hw : Within g (g + 1) X Y) : Ev w0 g p' bs w W Y q u0 u1 a b :=
  ⟨hr, h.wi.trans hw, h.lo, (hw.block q h.bk.lt (by have := h.lo; omega)).trans h.bk, (h.o0.within.apart hw (.inr hg)).own, (h.o1.within.apart hw (.inr hg)).own⟩
theorem Ev.step {w0 : World} {g p : Nat} {bs : List Int} {w W X Y : World} {q : Nat} {u0 u1 : Value} {a b : List Int} (h : Ev w0 g p bs w W X q u0 u1 a b) (hb : Below X.heap.size X Y) (h0 : w0.heap.size ≤ X.heap.size) : Ev w0 g p bs w W Y q u0 u1 a b :=
  ⟨h.rs.below hb h0, h.wi.trans (Within.of_below hb), h.lo, h.bk.below hb h.bk.lt, h.o0.below hb, h.o1.below hb⟩
theorem own_off {X : World} {q lo : Nat} {cs : Array Value} {u v : Value} {a : List Int} (h : Own X lo u a) (hB : Blk X q cs 27) (k : Nat) : Own (X.setCell ⟨q, k, none⟩ v) lo u a :=
  ⟨ownsRow_keep h.own fun j hj => heap_setCell_other X _ j v (fun e => ownsRow_ne h.own hB (by decide) (by rw [hj]; exact congrArg some e)), h.wf⟩
theorem Ev.set {w0 : World} {g p : Nat} {bs : List Int} {w W X : World} {q : Nat} {u0 u1 v0 v1 : Value} {a b c d : List Int} (h : Ev w0 g p bs w W X q u0 u1 a b) (h0 : w0.heap.size ≤ W.heap.size) (hc : Own X W.heap.size v0 c) (hd : Own X W.heap.size v1 d) : Ev w0 g p bs w W ((X.setCell ⟨q, 0, none⟩ v0).setCell ⟨q, 1, none⟩ v1) q v0 v1 c d := by
  have hb : Below q X ((X.setCell ⟨q, 0, none⟩ v0).setCell ⟨q, 1, none⟩ v1) := ((Below.refl q X).setCell (p := ⟨q, 0, none⟩) (Nat.le_refl _) _).setCell (p := ⟨q, 1, none⟩) (Nat.le_refl _) _
  have k1 := h.bk.set 0 v0
  exact ⟨h.rs.below (hb.mono h.lo) h0, h.wi.then_below hb h.lo, h.lo, k1.set 1 v1, own_off (own_off hc h.bk 0) k1 1, own_off (own_off hd h.bk 0) k1 1⟩
theorem Ev.set0 {w0 : World} {g p : Nat} {bs : List Int} {w W X : World} {q : Nat} {u0 u1 v0 : Value} {a b c : List Int} (h : Ev w0 g p bs w W X q u0 u1 a b) (h0 : w0.heap.size ≤ W.heap.size) (hc : Own X W.heap.size v0 c) : Ev w0 g p bs w W (X.setCell ⟨q, 0, none⟩ v0) q v0 u1 c b := by
  have hb : Below q X (X.setCell ⟨q, 0, none⟩ v0) := (Below.refl q X).setCell (p := ⟨q, 0, none⟩) (Nat.le_refl _) _
  exact ⟨h.rs.below (hb.mono h.lo) h0, h.wi.then_below hb h.lo, h.lo, h.bk.set 0 v0, own_off hc h.bk 0, own_off h.o1 h.bk 0⟩
theorem Ev.cells {w0 : World} {g p : Nat} {bs : List Int} {w W X : World} {q : Nat} {u0 u1 : Value} {a b : List Int} (h : Ev w0 g p bs w W X q u0 u1 a b) : X.cell? ⟨q, 0, none⟩ = some u0 ∧ X.cell? ⟨q, 1, none⟩ = some u1 ∧ X.frozen? ⟨q, 0, none⟩ = false ∧ X.frozen? ⟨q, 1, none⟩ = false := ⟨h.bk.cell 0, h.bk.cell 1, h.bk.free 0, h.bk.free 1⟩
theorem nam_row {zs : List Int} (L : List (Int × Int)) (h : eat zs.length true zs = some []) (hl : zs.length ≤ 60) (hL : L.length ≤ 900) : eat (nam zs.length true zs L).length true (nam zs.length true zs L) = some [] ∧ (nam zs.length true zs L).length ≤ 60 := by
  refine ⟨nam_eat _ true zs [] L h fun x => ?_, ?_⟩
  · have := rank_le L x; omega
  · have := nam_len h L; simp at this; omega
theorem lets_two {a b : List Int} (ha : eat a.length true a = some []) (hb : eat b.length true b = some []) (h1 : a.length ≤ 60) (h2 : b.length ≤ 60) : (lets b.length true b (lets a.length true a [])).length ≤ 120 := by
  have k1 := lets_len ha []
  have k2 := lets_len hb (lets a.length true a [])
  simp at k1 k2
  omega
theorem Ev.set1 {w0 : World} {g p : Nat} {bs : List Int} {w W X : World} {q : Nat} {u0 u1 v1 : Value} {a b d : List Int} (h : Ev w0 g p bs w W X q u0 u1 a b) (h0 : w0.heap.size ≤ W.heap.size) (hd : Own X W.heap.size v1 d) : Ev w0 g p bs w W (X.setCell ⟨q, 1, none⟩ v1) q u0 v1 a d := by
  have hb : Below q X (X.setCell ⟨q, 1, none⟩ v1) := (Below.refl q X).setCell (p := ⟨q, 1, none⟩) (Nat.le_refl _) _
  exact ⟨h.rs.below (hb.mono h.lo) h0, h.wi.then_below hb h.lo, h.lo, h.bk.set 1 v1, own_off h.o0 h.bk 1, own_off hd h.bk 1⟩
theorem ef_ret {w0 w W X : World} {g p p' : Nat} {bs : List Int} {u0 u1 : Value} {a b : List Int} (hr : RS w0 X g bs p') (hw : Within g (g + 1) w X) (h0 : Own X W.heap.size u0 a) (h1 : Own X W.heap.size u1 b) (hR : Blk X w.heap.size #[.slice none 0 0, .slice none 0 0] 27) (hW : w.heap.size ≤ W.heap.size) (hs0 : w0.heap.size ≤ w.heap.size) (ha : a.length ≤ 200) (hb : b.length ≤ 200) (hp : p' ≤ p + 1000) : EfPost w0 g p bs w (.returned (.agg #[u0, u1])) ((X.setCell ⟨w.heap.size, 0, none⟩ u0).setCell ⟨w.heap.size, 1, none⟩ u1) := by
  have hb2 : Below w.heap.size X ((X.setCell ⟨w.heap.size, 0, none⟩ u0).setCell ⟨w.heap.size, 1, none⟩ u1) := ((Below.refl _ X).setCell (p := ⟨w.heap.size, 0, none⟩) (Nat.le_refl _) _).setCell (p := ⟨w.heap.size, 1, none⟩) (Nat.le_refl _) _
  have k1 := hR.set 0 u0
  exact ⟨u0, u1, a, b, p', rfl, (own_off (own_off h0 hR 0) k1 1).mono hW, (own_off (own_off h1 hR 0) k1 1).mono hW, ha, hb, hr.below hb2 hs0, hp, hw.then_below hb2 (Nat.le_refl _)⟩
set_option maxHeartbeats 4000000 in
theorem effect_any (n : Int) (w0 : World) (g p : Nat) (bs : List Int) (w : World) (hn : 1 ≤ n ∧ n ≤ 1000000) (h : RS w0 w g bs p) (hp : p ≤ 100000000000) :
    Calls Tryd.prog 21 #[.pointer (some ⟨g, 0, none⟩), .int .i64 n] w (EfPost w0 g p bs w) := by
  have hgw := h.rdr.lt
  have hs0 : w0.heap.size ≤ w.heap.size := h.size
  obtain ⟨W, hW⟩ : ∃ W, w.alloc (.cells #[.slice none 0 0, .slice none 0 0] 27) = W := ⟨_, rfl⟩
  have hbW : Below w.heap.size w W := by rw [← hW]; exact (Below.refl _ _).alloc (Nat.le_refl _) _
  have hz : W.heap.size = w.heap.size + 1 := by rw [← hW]; simp
  have kR : Blk W w.heap.size #[.slice none 0 0, .slice none 0 0] 27 := by rw [← hW]; exact Blk.new w _ _
  have S0 := Lib.hid (And.intro (h.below hbW hs0) (And.intro kR (Within.of_below (lo := g) (hi := g + 1) hbW))); clear h hbW kR
  go_enter Tryd.func21, Tryd.ntmps21
  go_wp2_with fail
  try rw [hW]
  refine (rowV1 3 200000000000 (by omega) (by omega) w0 g p bs W S0.out.1 (by omega)).mono ?_
  rintro e w1 ⟨v1, a, p1, rfl, ho1, hl1, hr1, hp1, hg1, he1⟩
  have hz1 := hg1.size
  obtain ⟨Aa, ca, rfl, _⟩ := ho1.rd
  have X1 := Lib.hid (And.intro hr1 (And.intro hg1 ho1)); clear hr1 hg1 ho1
  go_wp2_with fail
  refine (rowV1 3 200000000000 (by omega) (by omega) w0 g p1 bs w1 X1.out.1 (by omega)).mono ?_
  rintro e w2 ⟨v2, b, p2, rfl, ho2, hl2, hr2, hp2, hg2, he2⟩
  have hz2 := hg2.size
  obtain ⟨Ab, cb, rfl, _⟩ := ho2.rd
  have X2 := Lib.hid (And.intro hr2 (And.intro (X1.out.2.1.trans hg2) (And.intro (X1.out.2.2.apart hg2 (.inr (by omega))) ho2))); clear hr2 hg2 ho2 X1
  have hla := whole_of he1 (by omega) []
  have hlb := whole_of he2 (by omega) (lets a.length true a [])
  obtain ⟨lb, hLB⟩ : ∃ l, lets b.length true b (lets a.length true a []) = l := ⟨_, rfl⟩
  have hlbl : lb.length ≤ 120 := by rw [← hLB]; exact lets_two he1 he2 (by omega) (by omega)
  rw [hLB] at hlb
  have HW := Lib.hid (And.intro hla hlb); clear hla hlb hLB
  have HNa := Lib.hid (nam_row lb he1 (by omega) (by omega)); have HNb := Lib.hid (nam_row lb he2 (by omega) (by omega))
  obtain ⟨na, hna⟩ : ∃ z, nam a.length true a lb = z := ⟨_, rfl⟩
  obtain ⟨nb, hnb⟩ : ∃ z, nam b.length true b lb = z := ⟨_, rfl⟩
  rw [hna] at HNa
  rw [hnb] at HNb
  have HT := l3Tidy_own _ _ a b _ lb w2 X2.out.2.2.1.rd X2.out.2.2.2.rd HW.out.1 HW.out.2
  rw [hna, hnb] at HT
  have HTH := Lib.hid HT; clear HT hna hnb he1 he2
  go_wp2_with fail
  refine HTH.out.mono ?_
  rintro e w3 ⟨u0, u1, m, rfl, hu0, hu1, hb3, hm1, hm2⟩
  obtain ⟨A0, c0, rfl, _⟩ := hu0.rd
  obtain ⟨A1, c1, rfl, _⟩ := hu1.rd
  obtain ⟨V, hV⟩ : ∃ V, w3.alloc (.cells #[.slice A0 na.length c0, .slice A1 nb.length c1] 27) = V := ⟨_, rfl⟩
  have hbV : Below w3.heap.size w3 V := by rw [← hV]; exact (Below.refl _ _).alloc (Nat.le_refl _) _
  have hz3 := hb3.size
  have kV : Blk V w3.heap.size #[.slice A0 na.length c0, .slice A1 nb.length c1] 27 := by rw [← hV]; exact Blk.new w3 _ _
  have hb2V : Below w2.heap.size w2 V := hb3.trans (hbV.mono hz3)
  have T := Lib.hid (show Ev w0 g p2 bs w W V w3.heap.size (.slice A0 na.length c0) (.slice A1 nb.length c1) na nb from ⟨X2.out.1.below hb2V (by omega), X2.out.2.1.trans (Within.of_below hb2V), by omega, kV, (hu0.own.below hbV).mono (by omega), (hu1.own.below hbV).mono (by omega)⟩); clear hu0 hu1 hb3 hbV kV hb2V X2 HTH
  go_wp2_with fail
  try rw [hV]
  refine (pick w0 g p2 3 bs V T.out.rs (by omega) (by omega)).mono ?_
  rintro e w4 ⟨x, rfl, hx0, hx1, hr4, hg4⟩
  have T4 := Lib.hid (T.out.pick (by omega) hr4 hg4); clear hr4 hg4 T
  have HNN := Lib.hid (And.intro HNa.out HNb.out)
  obtain ⟨e0, e1, e2, e3⟩ := (⟨T4.out.bk.cell 0, T4.out.bk.cell 1, T4.out.bk.free 0, T4.out.bk.free 1⟩ : w4.cell? ⟨w3.heap.size, 0, none⟩ = some (.slice A0 na.length c0) ∧ w4.cell? ⟨w3.heap.size, 1, none⟩ = some (.slice A1 nb.length c1) ∧ w4.frozen? ⟨w3.heap.size, 0, none⟩ = false ∧ w4.frozen? ⟨w3.heap.size, 1, none⟩ = false)
  go_upto_if 14 with fail
  go_cut [13] (fun _ wx => ∃ (A0 A1 : Option Addr) (c0 c1 : Nat) (a b : List Int), Ev w0 g (p2 + 1) bs w W wx w3.heap.size (.slice A0 a.length c0) (.slice A1 b.length c1) a b ∧ a.length ≤ 60 ∧ b.length ≤ 60)
  case first =>
    by_cases hx : x = 0
    · subst hx
      have hz4 := T4.out.bk.lt
      have hnb60 := HNN.out.2.2
      have hzW : W.heap.size ≤ w3.heap.size := T4.out.lo
      have hw0 : w0.heap.size ≤ W.heap.size := by omega
      have hbl : Below w4.heap.size w4 (w4.alloc (.cells #[] 3)) := (Below.refl _ _).alloc (Nat.le_refl _) _
      have nl := lits_own w4 [] (by simp) (by simp)
      have L := Lib.hid (And.intro (T4.out.step hbl (by omega)) (show OwnI (w4.alloc (.cells #[] 3)) w4.heap.size (w4.heap.size + 1) (.slice (some ⟨w4.heap.size, 0, none⟩) 0 0) [] from nl)); clear nl
      obtain ⟨f0, f1, f2, f3⟩ := L.out.1.cells
      go_wp2_with (at_builtin; refine wpList_append_V rfl _ _ _ rfl Tryd.underlying22 intInfo w4.heap.size (w4.heap.size + 1) (.slice (some ⟨w4.heap.size, 0, none⟩) 0 0) [] rfl L.out.2 (by simp) (.slice A1 nb.length c1) nb rfl L.out.1.o1.ints (by simp; omega) ?_)
      intro v6 w6 ho6 hb6
      obtain ⟨A6, c6, rfl, _⟩ := ho6.rd
      have hb46 : Below w4.heap.size w4 w6 := hbl.trans hb6
      have T6 := Lib.hid ((T4.out.step hb46 (by omega)).set0 hw0 (ho6.own.mono (by omega)))
      have T6b := Lib.hid (T4.out.step hb46 (by omega)); clear hbl hb6 L f0 f1 f2 f3 T4
      obtain ⟨f0, f1, f2, f3⟩ := T6b.out.cells
      obtain ⟨k0, k1, k2, k3⟩ := T6.out.cells
      have hlb2 := whole_of HNN.out.2.1 (by omega) (lets nb.length true nb [])
      obtain ⟨lb2, hLB2⟩ : ∃ l, lets nb.length true nb (lets nb.length true nb []) = l := ⟨_, rfl⟩
      have hlbl2 : lb2.length ≤ 120 := by rw [← hLB2]; exact lets_two HNN.out.2.1 HNN.out.2.1 (by omega) (by omega)
      rw [hLB2] at hlb2
      have HN2 := nam_row lb2 HNN.out.2.1 (by omega) (by omega)
      obtain ⟨nc, hnc⟩ : ∃ z, nam nb.length true nb lb2 = z := ⟨_, rfl⟩
      rw [hnc] at HN2
      obtain ⟨F, hF⟩ : ∃ F, w6.setCell ⟨w3.heap.size, 0, none⟩ (.slice A6 nb.length c6) = F := ⟨_, rfl⟩
      have T7 : Ev w0 g (p2 + 1) bs w W F w3.heap.size (.slice A6 nb.length c6) (.slice A1 nb.length c1) nb nb := by rw [← hF]; exact T6.out
      have HT2 := l3Tidy_own _ _ nb nb _ lb2 F T7.o0.ints T7.o1.ints (whole_of HNN.out.2.1 (by omega) []) hlb2
      rw [hnc] at HT2
      have HTH2 := Lib.hid HT2; have T7H := Lib.hid T7; have HNC := Lib.hid HN2; clear HT2 T7 HN2 hnc hLB2 hlb2
      have hFq := T7H.out.bk.lt
      obtain ⟨r0, r1, r2, r3⟩ := T7H.out.cells
      go_wp2_with fail
      try rw [hF]
      refine HTH2.out.mono ?_
      rintro e w7 ⟨y0, y1, m2, rfl, hy0, hy1, hb7, hm3, hm4⟩
      obtain ⟨A8, c8, rfl, _⟩ := hy0.rd
      obtain ⟨A9, c9, rfl, _⟩ := hy1.rd
      have hsF : w4.heap.size ≤ F.heap.size := by rw [← hF]; simp [World.setCell]; exact hb46.size
      have T8 := Lib.hid (T7H.out.step hb7 (by omega))
      have T9 := Lib.hid (T8.out.set hw0 (hy0.own.mono (show W.heap.size ≤ F.heap.size by omega)) (hy1.own.mono (show W.heap.size ≤ m2 by omega))); clear hy0 hy1 hb7 HTH2 f0 f1 f2 f3 k0 k1 k2 k3 r0 r1 r2 r3
      obtain ⟨f0, f1, f2, f3⟩ := T8.out.cells
      go_wp2_with fail
      go_meet
      exact ⟨_, _, _, _, nc, nc, T9.out, HNC.out.2, HNC.out.2⟩
    · have hxb : (x == 0) = false := by simpa using hx
      go_wp2_with fail
      go_meet
      exact ⟨_, _, _, _, na, nb, T4.out, HNN.out.1.2, HNN.out.2.2⟩
  case rest =>
    obtain ⟨B0, B1, d0, d1, ea, eb, hE, hla, hlb⟩ := hcut
    obtain ⟨w5, hwc⟩ : ∃ w, w = wc := ⟨_, rfl⟩
    subst hwc
    have Tz := Lib.hid hE; clear hE T4 e0 e1 e2 e3
    have hgW : g < W.heap.size := by omega
    go_wp2_with fail
    refine (odd w0 g (p2 + 1) n bs w5 Tz.out.rs hn (by omega)).mono ?_
    rintro e w6 ⟨bb, rfl, hr6, hg6⟩
    have T6 := Lib.hid (Tz.out.pick hgW hr6 hg6); clear hr6 hg6 Tz
    rcases bb with _ | _
    · skip
      obtain ⟨e0, e1, e2, e3⟩ := T6.out.cells
      have hR := Lib.hid (show Blk w6 w.heap.size #[.slice none 0 0, .slice none 0 0] 27 from (T6.out.wi.block w.heap.size (by omega) (by omega)).trans S0.out.2.1)
      obtain ⟨r0, r1, r2, r3⟩ := (⟨hR.out.cell 0, hR.out.cell 1, hR.out.free 0, hR.out.free 1⟩ : w6.cell? ⟨w.heap.size, 0, none⟩ = some (.slice none 0 0) ∧ w6.cell? ⟨w.heap.size, 1, none⟩ = some (.slice none 0 0) ∧ w6.frozen? ⟨w.heap.size, 0, none⟩ = false ∧ w6.frozen? ⟨w.heap.size, 1, none⟩ = false)
      go_wp2
      have kq := (hR.out.set 0 (.slice B0 ea.length d0)).set 1 (.slice B1 eb.length d1)
      have q0 := kq.cell 0
      have q1 := kq.cell 1
      simp only [List.setIfInBounds_toArray, List.set_cons_zero, List.set_cons_succ, List.getElem?_toArray, List.getElem?_cons_zero, List.getElem?_cons_succ] at q0 q1
      refine bodyPost_ret (v := .agg #[(.slice B0 ea.length d0), (.slice B1 eb.length d1)]) (by simp [results, Tryd.results21, go_sem, q0, q1]) rfl ?_
      exact ef_ret T6.out.rs (S0.out.2.2.trans T6.out.wi) T6.out.o0 T6.out.o1 hR.out (by omega) hs0 (by omega) (by omega) (by omega)
    · go_wp2_with fail
      refine (pick w0 g (p2 + 1 + 1) 4 bs w6 T6.out.rs (by omega) (by omega)).mono ?_
      rintro e w7 ⟨y, rfl, hy0, hy1, hr7, hg7⟩
      have T7 := Lib.hid (T6.out.pick hgW hr7 hg7); clear hr7 hg7 T6
      have hcases : y = 0 ∨ y = 1 ∨ y = 2 ∨ y = 3 := by omega
      clear hy0 hy1
      rcases hcases with rfl | rfl | rfl | rfl
      · skip
        obtain ⟨e0, e1, e2, e3⟩ := T7.out.cells
        have hR := Lib.hid (show Blk w7 w.heap.size #[.slice none 0 0, .slice none 0 0] 27 from ((T7.out.wi).block w.heap.size (by omega) (by omega)).trans S0.out.2.1)
        obtain ⟨r0, r1, r2, r3⟩ := (⟨hR.out.cell 0, hR.out.cell 1, hR.out.free 0, hR.out.free 1⟩ : w7.cell? ⟨w.heap.size, 0, none⟩ = some (.slice none 0 0) ∧ w7.cell? ⟨w.heap.size, 1, none⟩ = some (.slice none 0 0) ∧ w7.frozen? ⟨w.heap.size, 0, none⟩ = false ∧ w7.frozen? ⟨w.heap.size, 1, none⟩ = false)
        go_wp2
        have kq := (hR.out.set 0 (.slice none 0 0)).set 1 (.slice none 0 0)
        have q0 := kq.cell 0
        have q1 := kq.cell 1
        simp only [List.setIfInBounds_toArray, List.set_cons_zero, List.set_cons_succ, List.getElem?_toArray, List.getElem?_cons_zero, List.getElem?_cons_succ] at q0 q1
        refine bodyPost_ret (v := .agg #[(.slice none 0 0), (.slice none 0 0)]) (by simp [results, Tryd.results21, go_sem, q0, q1]) rfl ?_
        exact ef_ret (W := W) (T7.out.rs) (S0.out.2.2.trans (T7.out.wi)) (Own.nil _ _) (Own.nil _ _) hR.out (by omega) hs0 (by first | omega | simp) (by first | omega | simp) (by omega)
      · have h7 := T7.out.bk.lt
        have h7W : W.heap.size ≤ w3.heap.size := T7.out.lo
        have hbl : Below w7.heap.size w7 (w7.alloc (.cells #[] 3)) := (Below.refl _ _).alloc (Nat.le_refl _) _
        have nl := lits_own w7 [] (by simp) (by simp)
        have L := Lib.hid (And.intro (T7.out.step hbl (by omega)) (show OwnI (w7.alloc (.cells #[] 3)) w7.heap.size (w7.heap.size + 1) (.slice (some ⟨w7.heap.size, 0, none⟩) 0 0) [] from nl)); clear nl
        obtain ⟨f0, f1, f2, f3⟩ := L.out.1.cells
        go_wp2_with (at_builtin; refine wpList_append_V rfl _ _ _ rfl Tryd.underlying22 intInfo w7.heap.size (w7.heap.size + 1) (.slice (some ⟨w7.heap.size, 0, none⟩) 0 0) [] rfl L.out.2 (by simp) (.slice B0 ea.length d0) ea rfl L.out.1.o0.ints (by simp; omega) ?_)
        intro v8 w8 ho8 hb8
        obtain ⟨A8, c8, rfl, _⟩ := ho8.rd
        have hb78 : Below w7.heap.size w7 w8 := hbl.trans hb8
        have hz8 := hb78.size
        have hbl2 : Below w8.heap.size w8 (w8.alloc (.cells #[.int .i64 0] 3)) := (Below.refl _ _).alloc (Nat.le_refl _) _
        have nl2 := lits_own w8 [0] (by simp) (by intro z hz; simp only [List.mem_cons, List.not_mem_nil, or_false] at hz; apply wf_near; omega)
        have o8 : OwnI (w8.alloc (.cells #[.int .i64 0] 3)) w7.heap.size w8.heap.size (.slice A8 ea.length c8) ea := ho8.belowB hbl2 (Nat.le_refl _)
        have L2 := Lib.hid (And.intro o8 (And.intro nl2.rd (And.intro (T7.out.step hb78 (by omega)) (hb78.trans (hbl2.mono hz8))))); clear nl2 hbl2 hbl hb8 hb78 L f0 f1 f2 f3 ho8 o8
        obtain ⟨f0, f1, f2, f3⟩ := L2.out.2.2.1.cells
        go_wp2_with (at_builtin; refine wpList_append_V rfl _ _ _ rfl Tryd.underlying22 intInfo w7.heap.size w8.heap.size (.slice A8 ea.length c8) ea rfl L2.out.1 (by simp; omega) (.slice (some ⟨w8.heap.size, 0, none⟩) 1 1) [0] rfl L2.out.2.1 (by simp; omega) ?_)
        intro v9 w9 ho9 hb9
        obtain ⟨qs, hqs⟩ : ∃ q, ea ++ [0] = q := ⟨_, rfl⟩
        have hql : qs.length ≤ 61 := by rw [← hqs]; simp; omega
        rw [hqs] at ho9
        clear hqs
        obtain ⟨A9, c9, rfl, _⟩ := ho9.rd
        have hb79 : Below w7.heap.size w7 w9 := L2.out.2.2.2.trans hb9
        have T9 := Lib.hid (T7.out.step hb79 (by omega))
        obtain ⟨F, hF⟩ : ∃ F, w9.setCell ⟨w3.heap.size, 0, none⟩ (.slice A9 qs.length c9) = F := ⟨_, rfl⟩
        have TF := Lib.hid (show Ev w0 g (p2 + 1 + 1 + 1) bs w W F w3.heap.size (.slice A9 qs.length c9) (.slice B1 eb.length d1) qs eb by rw [← hF]; exact T9.out.set0 (by omega) (ho9.own.mono (by omega))); clear ho9 hb9 hb79 L2 f0 f1 f2 f3 T7
        obtain ⟨f0, f1, f2, f3⟩ := T9.out.cells
        obtain ⟨e0, e1, e2, e3⟩ := TF.out.cells
        have hR := Lib.hid (show Blk F w.heap.size #[.slice none 0 0, .slice none 0 0] 27 from ((TF.out.wi).block w.heap.size (by omega) (by omega)).trans S0.out.2.1)
        obtain ⟨r0, r1, r2, r3⟩ := (⟨hR.out.cell 0, hR.out.cell 1, hR.out.free 0, hR.out.free 1⟩ : F.cell? ⟨w.heap.size, 0, none⟩ = some (.slice none 0 0) ∧ F.cell? ⟨w.heap.size, 1, none⟩ = some (.slice none 0 0) ∧ F.frozen? ⟨w.heap.size, 0, none⟩ = false ∧ F.frozen? ⟨w.heap.size, 1, none⟩ = false)
        go_wp2
        have kq := (hR.out.set 0 (.slice A9 qs.length c9)).set 1 (.slice B1 eb.length d1)
        have q0 := kq.cell 0
        have q1 := kq.cell 1
        simp only [List.setIfInBounds_toArray, List.set_cons_zero, List.set_cons_succ, List.getElem?_toArray, List.getElem?_cons_zero, List.getElem?_cons_succ] at q0 q1
        refine bodyPost_ret (v := .agg #[(.slice A9 qs.length c9), (.slice B1 eb.length d1)]) (by simp [results, Tryd.results21, go_sem, q0, q1]) rfl ?_
        exact ef_ret (W := W) (TF.out.rs) (S0.out.2.2.trans (TF.out.wi)) (TF.out.o0) (TF.out.o1) hR.out (by omega) hs0 (by first | omega | simp) (by first | omega | simp) (by omega)
      · have h7 := T7.out.bk.lt
        have h7W : W.heap.size ≤ w3.heap.size := T7.out.lo
        have hbl : Below w7.heap.size w7 (w7.alloc (.cells #[.int .i64 3, .int .i64 1] 3)) := (Below.refl _ _).alloc (Nat.le_refl _) _
        have nl := lits_own w7 [3, 1] (by simp) (by intro z hz; simp only [List.mem_cons, List.not_mem_nil, or_false] at hz; apply wf_near; omega)
        obtain ⟨F, hF⟩ : ∃ F, w7.alloc (.cells #[.int .i64 3, .int .i64 1] 3) = F := ⟨_, rfl⟩
        rw [hF] at hbl
        have nF : OwnI F w7.heap.size (w7.heap.size + 1) (.slice (some ⟨w7.heap.size, 0, none⟩) 2 2) [3, 1] := by rw [← hF]; exact nl
        have zF : w7.heap.size < F.heap.size := by rw [← hF]; simp
        have hbg : Below F.heap.size F (F.alloc (.cells #[.int .i64 3, .int .i64 0] 3)) := (Below.refl _ _).alloc (Nat.le_refl _) _
        have ng := lits_own F [3, 0] (by simp) (by intro z hz; simp only [List.mem_cons, List.not_mem_nil, or_false] at hz; apply wf_near; omega)
        obtain ⟨G, hG⟩ : ∃ G, F.alloc (.cells #[.int .i64 3, .int .i64 0] 3) = G := ⟨_, rfl⟩
        rw [hG] at hbg
        have nG : OwnI G F.heap.size (F.heap.size + 1) (.slice (some ⟨F.heap.size, 0, none⟩) 2 2) [3, 0] := by rw [← hG]; exact ng
        have T8 := Lib.hid ((T7.out.step hbl (by omega)).step hbg (by omega))
        have NN := Lib.hid (And.intro (nF.own.below hbg) nG.own); clear nl ng nF nG hbl hbg T7
        obtain ⟨e0, e1, e2, e3⟩ := T8.out.cells
        have hR := Lib.hid (show Blk G w.heap.size #[.slice none 0 0, .slice none 0 0] 27 from ((T8.out.wi).block w.heap.size (by omega) (by omega)).trans S0.out.2.1)
        obtain ⟨r0, r1, r2, r3⟩ := (⟨hR.out.cell 0, hR.out.cell 1, hR.out.free 0, hR.out.free 1⟩ : G.cell? ⟨w.heap.size, 0, none⟩ = some (.slice none 0 0) ∧ G.cell? ⟨w.heap.size, 1, none⟩ = some (.slice none 0 0) ∧ G.frozen? ⟨w.heap.size, 0, none⟩ = false ∧ G.frozen? ⟨w.heap.size, 1, none⟩ = false)
        go_wp2
        have kq := (hR.out.set 0 (.slice (some ⟨w7.heap.size, 0, none⟩) 2 2)).set 1 (.slice (some ⟨F.heap.size, 0, none⟩) 2 2)
        have q0 := kq.cell 0
        have q1 := kq.cell 1
        simp only [List.setIfInBounds_toArray, List.set_cons_zero, List.set_cons_succ, List.getElem?_toArray, List.getElem?_cons_zero, List.getElem?_cons_succ] at q0 q1
        refine bodyPost_ret (v := .agg #[(.slice (some ⟨w7.heap.size, 0, none⟩) 2 2), (.slice (some ⟨F.heap.size, 0, none⟩) 2 2)]) (by simp [results, Tryd.results21, go_sem, q0, q1]) rfl ?_
        exact ef_ret (W := W) (T8.out.rs) (S0.out.2.2.trans (T8.out.wi)) (NN.out.1.mono (by omega)) (NN.out.2.mono (by omega)) hR.out (by omega) hs0 (by first | omega | simp) (by first | omega | simp) (by omega)
      · have hbl : Below w7.heap.size w7 (w7.alloc (.cells #[.int .i64 0] 3)) := (Below.refl _ _).alloc (Nat.le_refl _) _
        have nl := lits_own w7 [0] (by simp) (by intro z hz; simp only [List.mem_cons, List.not_mem_nil, or_false] at hz; apply wf_near; omega)
        have h7 := T7.out.bk.lt
        have h7W : W.heap.size ≤ w3.heap.size := T7.out.lo
        have T8 := Lib.hid (T7.out.step hbl (by omega))
        obtain ⟨F, hF⟩ : ∃ F, (w7.alloc (.cells #[.int .i64 0] 3)).setCell ⟨w3.heap.size, 1, none⟩ (.slice (some ⟨w7.heap.size, 0, none⟩) 1 1) = F := ⟨_, rfl⟩
        have T9 := Lib.hid (show Ev w0 g (p2 + 1 + 1 + 1) bs w W F w3.heap.size (.slice B0 ea.length d0) (.slice (some ⟨w7.heap.size, 0, none⟩) 1 1) ea [0] by rw [← hF]; exact T8.out.set1 (by omega) (nl.own.mono (by omega))); clear nl hbl T7
        obtain ⟨f0, f1, f2, f3⟩ := T8.out.cells
        obtain ⟨e0, e1, e2, e3⟩ := T9.out.cells
        have hR := Lib.hid (show Blk F w.heap.size #[.slice none 0 0, .slice none 0 0] 27 from ((T9.out.wi).block w.heap.size (by omega) (by omega)).trans S0.out.2.1)
        obtain ⟨r0, r1, r2, r3⟩ := (⟨hR.out.cell 0, hR.out.cell 1, hR.out.free 0, hR.out.free 1⟩ : F.cell? ⟨w.heap.size, 0, none⟩ = some (.slice none 0 0) ∧ F.cell? ⟨w.heap.size, 1, none⟩ = some (.slice none 0 0) ∧ F.frozen? ⟨w.heap.size, 0, none⟩ = false ∧ F.frozen? ⟨w.heap.size, 1, none⟩ = false)
        go_wp2
        have kq := (hR.out.set 0 (.slice B0 ea.length d0)).set 1 (.slice (some ⟨w7.heap.size, 0, none⟩) 1 1)
        have q0 := kq.cell 0
        have q1 := kq.cell 1
        simp only [List.setIfInBounds_toArray, List.set_cons_zero, List.set_cons_succ, List.getElem?_toArray, List.getElem?_cons_zero, List.getElem?_cons_succ] at q0 q1
        refine bodyPost_ret (v := .agg #[(.slice B0 ea.length d0), (.slice (some ⟨w7.heap.size, 0, none⟩) 1 1)]) (by simp [results, Tryd.results21, go_sem, q0, q1]) rfl ?_
        exact ef_ret (W := W) (T9.out.rs) (S0.out.2.2.trans (T9.out.wi)) (T9.out.o0) (T9.out.o1) hR.out (by omega) hs0 (by first | omega | simp) (by first | omega | simp) (by omega)
end Go.Proofs.YtceekfoacgoalaaDoor
