/- Several texts in one. -/
import Derived.Test.YtaehaalaeikloaaRs
import Derived.Test.YtaehaalaeikloaaRq
import Derived.Test.YtaehaalaeikloaaB2
import Derived.Test.YtaehaalaeikloaaOe
import Derived.Test.YtaehaalaeikloaaOf
import Derived.Test.YtaehaalaeikloaaOh
import Derived.Test.YtaehaalaeikloaaOi
/- The draw of registers: l20Regs. -/
namespace Go.Proofs.Ytaehaalaeikloaa
set_option maxRecDepth 100000
open Go.RowKit Go.WideShapes Go.Deep

theorem regStep_len1 (z : Int) (st : List (Int × Int × Int) × List Int) : (regStep z st).2.length ≤ st.2.length + 2 ∧ (regStep z st).1.length ≤ st.1.length + 1 := by
  unfold regStep
  split
  · first | (simp; done) | (simp; omega)
  · split
    · first | (simp; done) | (simp; omega)
    · split
      · first | (simp; done) | (simp; omega)
      · split
        · first | (simp; done) | (simp; omega)
        · exact ⟨by first | (simp; done) | (simp; omega), opPut_len _ _⟩
theorem regRun_len : ∀ (p : List Int) (st : List (Int × Int × Int) × List Int), (regRun st p).2.length ≤ st.2.length + 2 * p.length ∧ (regRun st p).1.length ≤ st.1.length + p.length := by
  intro p
  induction p with
  | nil => intro st; exact ⟨Nat.le_refl _, Nat.le_refl _⟩
  | cons z p ih =>
    intro st
    have h := ih (regStep z st)
    have h2 := regStep_len1 z st
    rw [regRun, List.length_cons]
    omega
theorem regsOfR_len (p : List Int) {T : Int} {ms : List (Int × Int × Int)} {row : List Int} {ok : Bool} (h : regsOfR p = (T, ms, row, ok)) : 0 ≤ T ∧ T ≤ 120 ∧ ms.length ≤ 60 ∧ row.length ≤ 240 := by
  by_cases hn : (countR p).1 < 0
  · rw [regsOfR_no hn] at h
    cases h
    simp
  · obtain ⟨hv, _, hT⟩ := countR_pos hn
    have hl := validB_len hv
    have h2 := countL_le p (0, 0)
    unfold regsOfR at h
    rw [if_neg hn] at h
    cases h
    have h3 := regRun_len p ([], startR (countR p).1.toNat)
    rw [startR_len] at h3
    have h4 : (countR p).1.toNat ≤ 120 := by rw [hT]; simp at h2; omega
    simp at h3
    refine ⟨by omega, by omega, by omega, by omega⟩
theorem Own.setN {w : World} {lo g o : Nat} {v u : Value} {zs : List Int} (h : Own w lo v zs) (hg : v.ownBlock ≠ some g) : Own (w.setCell ⟨g, o, none⟩ u) lo v zs := by
  refine ⟨ownsRow_keep h.own fun k hk => Below.heap_setCell _ _ _ _ ?_, h.wf⟩
  intro e
  exact hg (by rw [hk]; exact congrArg some e)
theorem ownsRow_setN {w : World} {lo g o d n : Nat} {e : TypeId} {v u : Value} {xs : List Value} (h : w.ownsRow lo e d v n xs) (hg : v.ownBlock ≠ some g) : (w.setCell ⟨g, o, none⟩ u).ownsRow lo e d v n xs := by
  refine ⟨h.1, ?_⟩
  rcases h.2 with h0 | ⟨k, cap, cur, rfl, hb, hh, h1⟩
  · exact .inl h0
  · refine .inr ⟨k, cap, cur, rfl, hb, (Below.heap_setCell _ _ _ _ ?_).trans hh, h1⟩
    intro e2
    exact hg (congrArg some e2)
structure RegV (W : World) (lo G : Nat) (t : Int) (u0 u1 : Value) (ms : List (Int × Int × Int)) (row : List Int) : Prop where
  blk : Blk W G #[.int .i64 t, u0, u1] 43
  lst : W.ownsRow lo 102 3 u0 ms.length ((flat3 ms).map (Value.int .i64))
  row : Own W lo u1 row
section
variable {W W' : World} {lo G : Nat} {t : Int} {u0 u1 : Value} {ms : List (Int × Int × Int)} {row : List Int}
theorem RegV.set0 (h : RegV W lo G t u0 u1 ms row) (t' : Int) : RegV (W.setCell ⟨G, 0, none⟩ (.int .i64 t')) lo G t' u0 u1 ms row :=
  ⟨h.blk.set 0 _, ownsRow_setN h.lst (ownsRow_blk_ne h.lst h.blk (by decide)), h.row.setN (ownsRow_blk_ne h.row.own h.blk (by decide))⟩
theorem RegV.row2 (h : RegV W lo G t u0 u1 ms row) {v' : Value} {row' : List Int} (ho : Own W' lo v' row') (hg : W.grownBy W' u1.ownBlock) : RegV (W'.setCell ⟨G, 2, none⟩ v') lo G t u0 v' ms row' := by
  have hb : Blk W' G #[.int .i64 t, u0, u1] 43 := (hg.block G h.blk.lt fun e => ownsRow_blk_ne h.row.own h.blk (by decide) e.symm).trans h.blk
  have hl := h.lst.kept hg (by
    rcases ownsRow_ne8 h.lst h.row.own (by decide) with h1 | h1
    · exact .inl h1
    · exact .inr h1)
  exact ⟨hb.set 2 _, ownsRow_setN hl (ownsRow_blk_ne hl hb (by decide)), ho.setN (ownsRow_blk_ne ho.own hb (by decide))⟩
theorem RegV.list1 (h : RegV W lo G t u0 u1 ms row) {v' : Value} {ms' : List (Int × Int × Int)} {hi : Nat} (ho : Own3 102 W' lo hi v' ms') (hg : W.grownBy W' u0.ownBlock) : RegV (W'.setCell ⟨G, 1, none⟩ v') lo G t v' u1 ms' row := by
  have hb : Blk W' G #[.int .i64 t, u0, u1] 43 := (hg.block G h.blk.lt fun e => ownsRow_blk_ne h.lst h.blk (by decide) e.symm).trans h.blk
  have hr : Own W' lo u1 row := ⟨h.row.own.kept hg (by
    rcases ownsRow_ne8 h.row.own h.lst (by decide) with h1 | h1
    · exact .inl h1
    · exact .inr h1), h.row.wf⟩
  exact ⟨hb.set 1 _, ownsRow_setN ho.own (ownsRow_blk_ne ho.own hb (by decide)), hr.setN (ownsRow_blk_ne hr.own hb (by decide))⟩
theorem RegV.apart (h : RegV W lo G t u0 u1 ms row) {g : Nat} (hw : Within g (g + 1) W W') (hg : g < lo) (hG : g < G) : RegV W' lo G t u0 u1 ms row :=
  ⟨Blk.apart9 h.blk hw (.inr (by omega)), ((Own3.mk (T := 102) (hi := W.heap.size) h.lst (fun k hk => (h.lst.lt k hk).2)).apart hw (.inr (by omega))).own,
    ⟨ownsRow_keep h.row.own fun k hk => hw.block k (h.row.ge k hk).2 (by have := (h.row.ge k hk).1; omega), h.row.wf⟩⟩
theorem RegV.far (h : RegV W lo G t u0 u1 ms row) {F : Nat} (hF : F < lo) (x0 x1 x2 : Value) : Own3 102 (((W.setCell ⟨F, 0, none⟩ x0).setCell ⟨F, 1, none⟩ x1).setCell ⟨F, 2, none⟩ x2) F W.heap.size u0 ms ∧ Own (((W.setCell ⟨F, 0, none⟩ x0).setCell ⟨F, 1, none⟩ x1).setCell ⟨F, 2, none⟩ x2) F u1 row :=
  ⟨((((Own3.mk (T := 102) (hi := W.heap.size) h.lst (fun k hk => (h.lst.lt k hk).2)).setO hF).setO hF).setO hF).mono (by omega) (Nat.le_refl _), (((h.row.setO hF).setO hF).setO hF).mono (by omega)⟩
end
def RegsPost (w0 : World) (g p : Nat) (bs : List Int) (w : World) (e : Ending) (w' : World) : Prop :=
  ∃ (t : Int) (u0 u1 : Value) (ms : List (Int × Int × Int)) (row : List Int) (p' : Nat), e = .returned (.agg #[.int .i64 t, u0, u1]) ∧ (∃ hi, Own3 102 w' w.heap.size hi u0 ms) ∧ Own w' w.heap.size u1 row ∧ (-1 ≤ t ∧ t ≤ 120 ∧ ms.length ≤ 61 ∧ row.length ≤ 241) ∧ RS w0 w' g bs p' ∧ p' ≤ p + 300 ∧ Within g (g + 1) w w'
set_option maxHeartbeats 4000000 in
theorem regs_any (w0 : World) (g p N : Nat) (n : Int) (bs : List Int) (w : World) (h : RS w0 w g bs p) (hp : p ≤ 400000000000) (hN : N ≤ 20) (hn : 1 ≤ n ∧ n ≤ 1000) :
    Calls Try.prog 84 #[.pointer (some ⟨g, 0, none⟩), .int .i64 N, .int .i64 n] w (RegsPost w0 g p bs w) := by
  have hgw := h.rdr.lt
  have hs0 : w0.heap.size ≤ w.heap.size := h.size
  have hb0 : Below w.heap.size w (w.alloc (.cells #[.int .i64 0, .slice none 0 0, .slice none 0 0] 43)) := (Below.refl _ _).alloc (Nat.le_refl _) _
  have S0 := Lib.hid (And.intro (h.below hb0 (by omega)) (And.intro (Within.of_below (lo := g) (hi := g + 1) hb0) (Blk.new w #[.int .i64 0, .slice none 0 0, .slice none 0 0] 43))); clear h hb0
  go_enter Try.func84, Try.ntmps84
  go_wp2_with fail
  refine (straight_any w0 g p N 0 bs _ S0.out.1 (by omega) hN (by omega)).mono ?_
  rintro e w2 ⟨v, zs, p2, rfl, ho2, hl2, hr2, hp2, hg2⟩
  have hz2 : w.heap.size + 1 ≤ w2.heap.size := by have := hg2.size; simpa using this
  have S2 := Lib.hid (And.intro ho2.rd (And.intro hr2 (And.intro (S0.out.2.1.trans hg2) (Blk.apart9 S0.out.2.2 hg2 (.inr (by omega)))))); clear ho2 hr2 hg2 S0
  rcases hR : regsOfR zs with ⟨T, ms, row, ok⟩
  obtain ⟨hT0, hT1, hm60, hr240⟩ := regsOfR_len zs hR
  have HR := Lib.hid hR; clear hR
  go_wp2_with fail
  refine (RegsOf_S _ zs _ S2.out.1 (by omega) T ms row ok HR.out).mono ?_
  rintro e w3 ⟨u0, u1, rfl, hl3, ho3, _, hb3⟩
  have hz3 : w2.heap.size ≤ w3.heap.size := hb3.size
  obtain ⟨Aa, ca, rfl, _⟩ := (Own3.mk (T := 102) (hi := w3.heap.size) hl3 (fun k hk => (hl3.lt k hk).2)).rd
  obtain ⟨Ab, cb, rfl, _⟩ := ho3.ints
  have hba : Below w3.heap.size w3 (w3.alloc (.cells #[.int .i64 T, .slice Aa ms.length ca, .slice Ab row.length cb] 43)) := (Below.refl _ _).alloc (Nat.le_refl _) _
  have hza : w3.heap.size + 1 ≤ (w3.alloc (.cells #[.int .i64 T, .slice Aa ms.length ca, .slice Ab row.length cb] 43)).heap.size := by simp
  have S3 := Lib.hid (And.intro (RegV.mk (Blk.new w3 #[.int .i64 T, .slice Aa ms.length ca, .slice Ab row.length cb] 43) ((Own3.mk (T := 102) (hi := w3.heap.size) hl3 (fun k hk => (hl3.lt k hk).2)).below hba).own (ho3.below hba)) (And.intro ((S2.out.2.2.2.below (hb3.trans (hba.mono hz3)) (by omega))) (And.intro (S2.out.2.1.below (hb3.trans (hba.mono hz3)) (by omega)) (S2.out.2.2.1.then_below (hb3.trans (hba.mono hz3)) (by omega))))); clear hl3 ho3 hb3 hba S2
  go_wp2_with fail
  refine (odd w0 g p2 n bs _ S3.out.2.2.1 (by omega) (by omega)).mono ?_
  rintro e w4 ⟨b, rfl, hr4, hg4⟩
  have hz4 : w3.heap.size + 1 ≤ w4.heap.size := by have := hg4.size; omega
  have S4 := Lib.hid (And.intro (S3.out.1.apart hg4 (by omega) (by omega)) (And.intro (Blk.apart9 S3.out.2.1 hg4 (.inr (by omega))) (And.intro hr4 (S3.out.2.2.2.trans hg4)))); clear hr4 hg4 S3 hza
  rcases b with _ | _
  · have RV := S4
    obtain ⟨e0, e1, e2, _, _, _⟩ := blkThree RV.out.1.blk
    have eF := (((RV.out.2.1.set 0 (.int .i64 T)).set 1 (.slice Aa ms.length ca)).set 2 (.slice Ab row.length cb))
    obtain ⟨m0, m1, m2, _, _, _⟩ := blkThree eF
    obtain ⟨n0, n1, n2, q0, q1, q2⟩ := blkThree RV.out.2.1
    have FIN := Lib.hid (show RegsPost w0 g p bs w (.returned (.agg #[.int .i64 T, .slice Aa ms.length ca, .slice Ab row.length cb])) (((w4.setCell ⟨w.heap.size, 0, none⟩ (.int .i64 T)).setCell ⟨w.heap.size, 1, none⟩ (.slice Aa ms.length ca)).setCell ⟨w.heap.size, 2, none⟩ (.slice Ab row.length cb)) from by
      have hb3 : Below w.heap.size w4 (((w4.setCell ⟨w.heap.size, 0, none⟩ (.int .i64 T)).setCell ⟨w.heap.size, 1, none⟩ (.slice Aa ms.length ca)).setCell ⟨w.heap.size, 2, none⟩ (.slice Ab row.length cb)) := (((Below.refl w.heap.size _).setCell (Nat.le_refl _) _).setCell (p := ⟨w.heap.size, 1, none⟩) (Nat.le_refl _) _).setCell (p := ⟨w.heap.size, 2, none⟩) (Nat.le_refl _) _
      exact ⟨T, _, _, ms, row, (p2 + 1), rfl, ⟨_, (RV.out.1.far (show w.heap.size < w2.heap.size by omega) _ _ _).1⟩, (RV.out.1.far (show w.heap.size < w2.heap.size by omega) _ _ _).2, by omega, RV.out.2.2.1.below hb3 (by omega), by omega, RV.out.2.2.2.then_below hb3 (Nat.le_refl _)⟩)
    clear RV eF
    go_wp2
    refine bodyPost_ret (v := .agg #[.int .i64 T, .slice Aa ms.length ca, .slice Ab row.length cb]) (by simp [results, Try.results84, go_sem, m0, m1, m2]) rfl ?_
    exact FIN.out
  · go_wp2_with fail
    refine (pick w0 g (p2 + 1) 4 bs _ S4.out.2.2.1 (by omega) (by omega)).mono ?_
    rintro e w5 ⟨x, rfl, hx0, hx1, hr5, hg5⟩
    have hz5 : w3.heap.size + 1 ≤ w5.heap.size := by have := hg5.size; omega
    have S5 := Lib.hid (And.intro (S4.out.1.apart hg5 (by omega) (by omega)) (And.intro (Blk.apart9 S4.out.2.1 hg5 (.inr (by omega))) (And.intro hr5 (S4.out.2.2.2.trans hg5)))); clear hr5 hg5 S4
    obtain ⟨a0, a1, a2, b0, b1, b2⟩ := blkThree S5.out.1.blk
    have hcases : x = 0 ∨ x = 1 ∨ x = 2 ∨ x = 3 := by omega
    clear hx0 hx1
    rcases hcases with rfl | rfl | rfl | rfl
    · have hb : Below w3.heap.size w5 (w5.setCell ⟨w3.heap.size, 0, none⟩ (.int .i64 (-1))) := (Below.refl w3.heap.size w5).setCell (p := ⟨w3.heap.size, 0, none⟩) (Nat.le_refl _) _
      have RV := Lib.hid (And.intro (S5.out.1.set0 (-1)) (And.intro (S5.out.2.1.below hb (by omega)) (And.intro (S5.out.2.2.1.below hb (by omega)) (S5.out.2.2.2.then_below hb (by omega))))); clear hb S5
      obtain ⟨e0, e1, e2, _, _, _⟩ := blkThree RV.out.1.blk
      have eF := (((RV.out.2.1.set 0 (.int .i64 (-1))).set 1 (.slice Aa ms.length ca)).set 2 (.slice Ab row.length cb))
      obtain ⟨m0, m1, m2, _, _, _⟩ := blkThree eF
      obtain ⟨n0, n1, n2, q0, q1, q2⟩ := blkThree RV.out.2.1
      have FIN := Lib.hid (show RegsPost w0 g p bs w (.returned (.agg #[.int .i64 (-1), .slice Aa ms.length ca, .slice Ab row.length cb])) ((((w5.setCell ⟨w3.heap.size, 0, none⟩ (.int .i64 (-1))).setCell ⟨w.heap.size, 0, none⟩ (.int .i64 (-1))).setCell ⟨w.heap.size, 1, none⟩ (.slice Aa ms.length ca)).setCell ⟨w.heap.size, 2, none⟩ (.slice Ab row.length cb)) from by
        have hb3 : Below w.heap.size (w5.setCell ⟨w3.heap.size, 0, none⟩ (.int .i64 (-1))) ((((w5.setCell ⟨w3.heap.size, 0, none⟩ (.int .i64 (-1))).setCell ⟨w.heap.size, 0, none⟩ (.int .i64 (-1))).setCell ⟨w.heap.size, 1, none⟩ (.slice Aa ms.length ca)).setCell ⟨w.heap.size, 2, none⟩ (.slice Ab row.length cb)) := (((Below.refl w.heap.size _).setCell (Nat.le_refl _) _).setCell (p := ⟨w.heap.size, 1, none⟩) (Nat.le_refl _) _).setCell (p := ⟨w.heap.size, 2, none⟩) (Nat.le_refl _) _
        exact ⟨(-1), _, _, ms, row, (p2 + 1 + 1), rfl, ⟨_, (RV.out.1.far (show w.heap.size < w2.heap.size by omega) _ _ _).1⟩, (RV.out.1.far (show w.heap.size < w2.heap.size by omega) _ _ _).2, by omega, RV.out.2.2.1.below hb3 (by omega), by omega, RV.out.2.2.2.then_below hb3 (Nat.le_refl _)⟩)
      clear RV eF
      go_wp2
      refine bodyPost_ret (v := .agg #[.int .i64 (-1), .slice Aa ms.length ca, .slice Ab row.length cb]) (by simp [results, Try.results84, go_sem, m0, m1, m2]) rfl ?_
      exact FIN.out
    · have hIz : InK .i64 (3000 + (ms.length : Int)) := wf_near _ (by omega)
      have HIZ := Lib.hid hIz; clear hIz
      go_wp2_with (at_builtin; refine wpList_append_Kz rfl _ _ _ rfl Try.underlying23 intInfo (3000 + (ms.length : Int)) rfl HIZ.out w2.heap.size _ row rfl S5.out.1.row (by omega) rfl (by omega) ?_)
      intro v6 w6 ho6 hg6
      have hb : Below w2.heap.size w5 w6 := below_of_only hg6 (by omega) (fun k hk => (S5.out.1.row.ge k hk).1)
      obtain ⟨A6, c6, e6, _⟩ := ho6.ints
      obtain ⟨n6, hn6⟩ : ∃ n, (row ++ [(3000 + (ms.length : Int))]).length = n := ⟨_, rfl⟩
      rw [hn6] at e6
      subst e6
      have hn6b : n6 ≤ 241 := by rw [← hn6]; simp; omega
      clear hn6
      have hb2 : Below w2.heap.size w5 (w6.setCell ⟨w3.heap.size, 2, none⟩ (.slice A6 n6 c6)) := hb.setCell (by show w2.heap.size ≤ w3.heap.size; omega) _
      obtain ⟨_, _, _, _, _, f6⟩ := blkThree (show Blk w6 w3.heap.size _ _ from (hg6.block w3.heap.size (by omega) fun e => ownsRow_blk_ne S5.out.1.row.own S5.out.1.blk (by decide) e.symm).trans S5.out.1.blk)
      have RV := Lib.hid (And.intro (S5.out.1.row2 ho6 hg6) (And.intro (S5.out.2.1.below hb2 (by omega)) (And.intro (S5.out.2.2.1.below hb2 (by omega)) (S5.out.2.2.2.then_below hb2 (by omega))))); clear hb hb2 S5 ho6 hg6
      obtain ⟨e0, e1, e2, _, _, _⟩ := blkThree RV.out.1.blk
      have eF := (((RV.out.2.1.set 0 (.int .i64 T)).set 1 (.slice Aa ms.length ca)).set 2 (.slice A6 n6 c6))
      obtain ⟨m0, m1, m2, _, _, _⟩ := blkThree eF
      obtain ⟨n0, n1, n2, q0, q1, q2⟩ := blkThree RV.out.2.1
      have FIN := Lib.hid (show RegsPost w0 g p bs w (.returned (.agg #[.int .i64 T, .slice Aa ms.length ca, .slice A6 n6 c6])) ((((w6.setCell ⟨w3.heap.size, 2, none⟩ (.slice A6 n6 c6)).setCell ⟨w.heap.size, 0, none⟩ (.int .i64 T)).setCell ⟨w.heap.size, 1, none⟩ (.slice Aa ms.length ca)).setCell ⟨w.heap.size, 2, none⟩ (.slice A6 n6 c6)) from by
        have hb3 : Below w.heap.size (w6.setCell ⟨w3.heap.size, 2, none⟩ (.slice A6 n6 c6)) ((((w6.setCell ⟨w3.heap.size, 2, none⟩ (.slice A6 n6 c6)).setCell ⟨w.heap.size, 0, none⟩ (.int .i64 T)).setCell ⟨w.heap.size, 1, none⟩ (.slice Aa ms.length ca)).setCell ⟨w.heap.size, 2, none⟩ (.slice A6 n6 c6)) := (((Below.refl w.heap.size _).setCell (Nat.le_refl _) _).setCell (p := ⟨w.heap.size, 1, none⟩) (Nat.le_refl _) _).setCell (p := ⟨w.heap.size, 2, none⟩) (Nat.le_refl _) _
        exact ⟨T, _, _, ms, (row ++ [3000 + (ms.length : Int)]), (p2 + 1 + 1), rfl, ⟨_, (RV.out.1.far (show w.heap.size < w2.heap.size by omega) _ _ _).1⟩, (RV.out.1.far (show w.heap.size < w2.heap.size by omega) _ _ _).2, by simp; omega, RV.out.2.2.1.below hb3 (by omega), by omega, RV.out.2.2.2.then_below hb3 (Nat.le_refl _)⟩)
      clear RV eF
      go_wp2
      refine bodyPost_ret (v := .agg #[.int .i64 T, .slice Aa ms.length ca, .slice A6 n6 c6]) (by simp [results, Try.results84, go_sem, m0, m1, m2]) rfl ?_
      exact FIN.out
    · have HLC := Lib.hid (blkThree (Blk.new w5 #[.int .i64 1001, .int .i64 0, .int .i64 0] 102))
      have HLB := Lib.hid (show Below w5.heap.size w5 (w5.alloc (.cells #[.int .i64 1001, .int .i64 0, .int .i64 0] 102)) from (Below.refl _ _).alloc (Nat.le_refl _) _)
      go_wp2_with (at_builtin; refine wpList_append_op rfl _ _ _ rfl 102 Try.underlying41 opInfoR w2.heap.size w5.heap.size _ ms rfl ((Own3.mk (T := 102) (hi := w5.heap.size) S5.out.1.lst (fun k hk => (S5.out.1.lst.lt k hk).2)).below HLB.out) (by simp; omega) w5.heap.size 1001 0 0 rfl HLC.out.1 HLC.out.2.1 HLC.out.2.2.1 (by omega) ?_)
      intro v6 w6 ho6 _ hg6a _
      have hg6 : w5.grownBy w6 (Value.slice Aa ms.length ca).ownBlock := World.grownBy.trans (only_of_below HLB.out _) hg6a
      have hb : Below w2.heap.size w5 w6 := below_of_only hg6 (by omega) (fun k hk => (S5.out.1.lst.lt k hk).1)
      obtain ⟨A6, c6, e6, _⟩ := ho6.rd
      obtain ⟨n6, hn6⟩ : ∃ n, (ms ++ [(1001, 0, 0)]).length = n := ⟨_, rfl⟩
      rw [hn6] at e6
      subst e6
      have hn6b : n6 ≤ 61 := by rw [← hn6]; simp; omega
      clear hn6
      have hb2 : Below w2.heap.size w5 (w6.setCell ⟨w3.heap.size, 1, none⟩ (.slice A6 n6 c6)) := hb.setCell (by show w2.heap.size ≤ w3.heap.size; omega) _
      obtain ⟨_, _, _, _, f6, _⟩ := blkThree (show Blk w6 w3.heap.size _ _ from (hg6.block w3.heap.size (by omega) fun e => ownsRow_blk_ne S5.out.1.lst S5.out.1.blk (by decide) e.symm).trans S5.out.1.blk)
      have RV := Lib.hid (And.intro (S5.out.1.list1 ho6 hg6) (And.intro (S5.out.2.1.below hb2 (by omega)) (And.intro (S5.out.2.2.1.below hb2 (by omega)) (S5.out.2.2.2.then_below hb2 (by omega))))); clear hb hb2 S5 ho6 hg6 hg6a HLB HLC
      obtain ⟨e0, e1, e2, _, _, _⟩ := blkThree RV.out.1.blk
      have eF := (((RV.out.2.1.set 0 (.int .i64 T)).set 1 (.slice A6 n6 c6)).set 2 (.slice Ab row.length cb))
      obtain ⟨m0, m1, m2, _, _, _⟩ := blkThree eF
      obtain ⟨n0, n1, n2, q0, q1, q2⟩ := blkThree RV.out.2.1
      have FIN := Lib.hid (show RegsPost w0 g p bs w (.returned (.agg #[.int .i64 T, .slice A6 n6 c6, .slice Ab row.length cb])) ((((w6.setCell ⟨w3.heap.size, 1, none⟩ (.slice A6 n6 c6)).setCell ⟨w.heap.size, 0, none⟩ (.int .i64 T)).setCell ⟨w.heap.size, 1, none⟩ (.slice A6 n6 c6)).setCell ⟨w.heap.size, 2, none⟩ (.slice Ab row.length cb)) from by
        have hb3 : Below w.heap.size (w6.setCell ⟨w3.heap.size, 1, none⟩ (.slice A6 n6 c6)) ((((w6.setCell ⟨w3.heap.size, 1, none⟩ (.slice A6 n6 c6)).setCell ⟨w.heap.size, 0, none⟩ (.int .i64 T)).setCell ⟨w.heap.size, 1, none⟩ (.slice A6 n6 c6)).setCell ⟨w.heap.size, 2, none⟩ (.slice Ab row.length cb)) := (((Below.refl w.heap.size _).setCell (Nat.le_refl _) _).setCell (p := ⟨w.heap.size, 1, none⟩) (Nat.le_refl _) _).setCell (p := ⟨w.heap.size, 2, none⟩) (Nat.le_refl _) _
        exact ⟨T, _, _, (ms ++ [(1001, 0, 0)]), row, (p2 + 1 + 1), rfl, ⟨_, (RV.out.1.far (show w.heap.size < w2.heap.size by omega) _ _ _).1⟩, (RV.out.1.far (show w.heap.size < w2.heap.size by omega) _ _ _).2, by simp; omega, RV.out.2.2.1.below hb3 (by omega), by omega, RV.out.2.2.2.then_below hb3 (Nat.le_refl _)⟩)
      clear RV eF
      go_wp2
      refine bodyPost_ret (v := .agg #[.int .i64 T, .slice A6 n6 c6, .slice Ab row.length cb]) (by simp [results, Try.results84, go_sem, m0, m1, m2]) rfl ?_
      exact FIN.out
    · have HIZ : Hid (InK .i64 1500) := Lib.hid (wf_near _ (by omega))
      go_wp2_with (at_builtin; refine wpList_append_Kz rfl _ _ _ rfl Try.underlying23 intInfo 1500 rfl HIZ.out w2.heap.size _ row rfl S5.out.1.row (by omega) rfl (by omega) ?_)
      intro v6 w6 ho6 hg6
      have hb : Below w2.heap.size w5 w6 := below_of_only hg6 (by omega) (fun k hk => (S5.out.1.row.ge k hk).1)
      obtain ⟨A6, c6, e6, _⟩ := ho6.ints
      obtain ⟨n6, hn6⟩ : ∃ n, (row ++ [1500]).length = n := ⟨_, rfl⟩
      rw [hn6] at e6
      subst e6
      have hn6b : n6 ≤ 241 := by rw [← hn6]; simp; omega
      clear hn6
      have hb2 : Below w2.heap.size w5 (w6.setCell ⟨w3.heap.size, 2, none⟩ (.slice A6 n6 c6)) := hb.setCell (by show w2.heap.size ≤ w3.heap.size; omega) _
      obtain ⟨_, _, _, _, _, f6⟩ := blkThree (show Blk w6 w3.heap.size _ _ from (hg6.block w3.heap.size (by omega) fun e => ownsRow_blk_ne S5.out.1.row.own S5.out.1.blk (by decide) e.symm).trans S5.out.1.blk)
      have RV := Lib.hid (And.intro (S5.out.1.row2 ho6 hg6) (And.intro (S5.out.2.1.below hb2 (by omega)) (And.intro (S5.out.2.2.1.below hb2 (by omega)) (S5.out.2.2.2.then_below hb2 (by omega))))); clear hb hb2 S5 ho6 hg6
      obtain ⟨e0, e1, e2, _, _, _⟩ := blkThree RV.out.1.blk
      have eF := (((RV.out.2.1.set 0 (.int .i64 T)).set 1 (.slice Aa ms.length ca)).set 2 (.slice A6 n6 c6))
      obtain ⟨m0, m1, m2, _, _, _⟩ := blkThree eF
      obtain ⟨n0, n1, n2, q0, q1, q2⟩ := blkThree RV.out.2.1
      have FIN := Lib.hid (show RegsPost w0 g p bs w (.returned (.agg #[.int .i64 T, .slice Aa ms.length ca, .slice A6 n6 c6])) ((((w6.setCell ⟨w3.heap.size, 2, none⟩ (.slice A6 n6 c6)).setCell ⟨w.heap.size, 0, none⟩ (.int .i64 T)).setCell ⟨w.heap.size, 1, none⟩ (.slice Aa ms.length ca)).setCell ⟨w.heap.size, 2, none⟩ (.slice A6 n6 c6)) from by
        have hb3 : Below w.heap.size (w6.setCell ⟨w3.heap.size, 2, none⟩ (.slice A6 n6 c6)) ((((w6.setCell ⟨w3.heap.size, 2, none⟩ (.slice A6 n6 c6)).setCell ⟨w.heap.size, 0, none⟩ (.int .i64 T)).setCell ⟨w.heap.size, 1, none⟩ (.slice Aa ms.length ca)).setCell ⟨w.heap.size, 2, none⟩ (.slice A6 n6 c6)) := (((Below.refl w.heap.size _).setCell (Nat.le_refl _) _).setCell (p := ⟨w.heap.size, 1, none⟩) (Nat.le_refl _) _).setCell (p := ⟨w.heap.size, 2, none⟩) (Nat.le_refl _) _
        exact ⟨T, _, _, ms, (row ++ [1500]), (p2 + 1 + 1), rfl, ⟨_, (RV.out.1.far (show w.heap.size < w2.heap.size by omega) _ _ _).1⟩, (RV.out.1.far (show w.heap.size < w2.heap.size by omega) _ _ _).2, by simp; omega, RV.out.2.2.1.below hb3 (by omega), by omega, RV.out.2.2.2.then_below hb3 (Nat.le_refl _)⟩)
      clear RV eF
      go_wp2
      refine bodyPost_ret (v := .agg #[.int .i64 T, .slice Aa ms.length ca, .slice A6 n6 c6]) (by simp [results, Try.results84, go_sem, m0, m1, m2]) rfl ?_
      exact FIN.out
end Go.Proofs.Ytaehaalaeikloaa

/- The draws of the laws of registers; FnRegsValid. -/
namespace Go.Proofs.Ytaehaalaeikloaa
set_option maxRecDepth 100000
open Go.RowKit Go.WideShapes Go.ChangeShapes Go.Deep

def DrawnRV (w : World) (e : Ending) (w' : World) : Prop :=
  ∃ (t : Int) (u0 u1 : Value) (ms : List (Int × Int × Int)) (row : List Int), e = .returned (.agg #[.int .i64 t, u0, u1]) ∧ Rd3 w' u0 ms ∧ RdI w' u1 row ∧ (-1 ≤ t ∧ t ≤ 120 ∧ ms.length ≤ 61 ∧ row.length ≤ 241) ∧ Below w.heap.size w w'
set_option maxHeartbeats 2000000 in
theorem DrawRegsValid_any (v : Value) (zs : List Int) (w : World) (h : RdC w v zs) : Calls Try.prog 32 #[v] w (DrawnRV w) := by
  have hb0 : Below w.heap.size w (w.alloc (.cells #[.int .i64 0, .slice none 0 0, .slice none 0 0] 43)) := (Below.refl _ _).alloc (Nat.le_refl _) _
  have S0 := Lib.hid (And.intro (RdBC.rd (RdBC.below (B := w.heap.size) h hb0) (by simp)) (And.intro hb0 (Blk.new w #[.int .i64 0, .slice none 0 0, .slice none 0 0] 43))); clear h hb0
  go_enter Try.func32, Try.ntmps32
  go_wp2_with fail
  refine (l20Open_any v zs _ S0.out.1).mono ?_
  rintro e w1 ⟨g, bs, rfl, hr, hg, hb⟩
  have hz1 : w.heap.size + 1 ≤ w1.heap.size := by have := hb.size; simpa using this
  have hgF : w.heap.size + 1 ≤ g := by simpa using hg
  have X := Lib.hid (And.intro hr (And.intro (S0.out.2.1.trans (hb.mono (by simp))) (S0.out.2.2.below hb (by simp)))); clear hr hb S0
  have hgw := X.out.1.lt
  go_wp2_with fail
  refine (regs_any w1 g 0 9 2 bs _ (RS.refl X.out.1) (by omega) (by omega) (by omega)).mono ?_
  rintro e w2 ⟨t, u0, u1, ms, row, p', rfl, ⟨hi, h3⟩, ho, hbd, _, _, hg2⟩
  have hz2 : w1.heap.size ≤ w2.heap.size := hg2.size
  obtain ⟨Aa, ca, rfl, _⟩ := h3.rd
  obtain ⟨Ab, cb, rfl, _⟩ := ho.ints
  have hB := Blk.apart9 X.out.2.2 hg2 (.inl (by omega))
  have hbw : Below w.heap.size w w2 := X.out.2.1.trans (hg2.below (by omega) (by omega))
  have Y := Lib.hid (And.intro h3 (And.intro ho (And.intro hbd (And.intro hbw hB)))); clear h3 ho hbd hbw hB hg2
  obtain ⟨n0, n1, n2, q0, q1, q2⟩ := blkThree Y.out.2.2.2.2
  have eF := (((Y.out.2.2.2.2.set 0 (.int .i64 t)).set 1 (.slice Aa ms.length ca)).set 2 (.slice Ab row.length cb))
  obtain ⟨m0, m1, m2, _, _, _⟩ := blkThree eF
  have FIN := Lib.hid (show DrawnRV w (.returned (.agg #[.int .i64 t, .slice Aa ms.length ca, .slice Ab row.length cb])) (((w2.setCell ⟨w.heap.size, 0, none⟩ (.int .i64 t)).setCell ⟨w.heap.size, 1, none⟩ (.slice Aa ms.length ca)).setCell ⟨w.heap.size, 2, none⟩ (.slice Ab row.length cb)) from
    ⟨t, _, _, ms, row, rfl, (((Y.out.1.setO (show w.heap.size < w1.heap.size by omega)).setO (show w.heap.size < w1.heap.size by omega)).setO (show w.heap.size < w1.heap.size by omega)).rd,
      (((Y.out.2.1.setO (show w.heap.size < w1.heap.size by omega)).setO (show w.heap.size < w1.heap.size by omega)).setO (show w.heap.size < w1.heap.size by omega)).within.rd, Y.out.2.2.1,
      ((Y.out.2.2.2.1.setCell (p := ⟨w.heap.size, 0, none⟩) (Nat.le_refl _) _).setCell (p := ⟨w.heap.size, 1, none⟩) (Nat.le_refl _) _).setCell (p := ⟨w.heap.size, 2, none⟩) (Nat.le_refl _) _⟩)
  clear Y eF
  go_wp2
  refine bodyPost_ret (v := .agg #[.int .i64 t, .slice Aa ms.length ca, .slice Ab row.length cb]) (by simp [results, Try.results32, go_sem, m0, m1, m2]) rfl ?_
  exact FIN.out
theorem regsB_less {t : Int} {ms : List (Int × Int × Int)} {row : List Int} (h : regsB t ms row = true) : regsB t ms [] = true := by
  unfold regsB at h ⊢
  rw [Bool.and_eq_true, Bool.and_eq_true, decide_eq_true_eq] at h
  rw [Bool.and_eq_true, Bool.and_eq_true, decide_eq_true_eq]
  exact ⟨⟨h.1.1, h.1.2.1, h.1.2.2.1, by simp⟩, h.2.1, by simp⟩
end Go.Proofs.Ytaehaalaeikloaa

/- The draw of registers and numbers; what registers leave that leave what they take. -/
namespace Go.Proofs.Ytaehaalaeikloaa
set_option maxRecDepth 100000
open Go.RowKit Go.WideShapes Go.ChangeShapes Go.Deep

structure KeepD (W : World) (w : World) (G m : Nat) (t : Int) (u0 u1 : Value) (ms : List (Int × Int × Int)) (row : List Int) : Prop where
  three : Own3 102 W m G u0 ms
  row : OwnI W m G u1 row
  blkG : Blk W G #[.int .i64 t, u0, u1] 43
  blkF : Blk W w.heap.size #[.int .i64 0, .slice none 0 0, .slice none 0 0] 43
  bel : Below w.heap.size w W
section
variable {W W' w : World} {G m : Nat} {t : Int} {u0 u1 : Value} {ms : List (Int × Int × Int)} {row : List Int}
theorem KeepD.within (h : KeepD W w G m t u0 u1 ms row) {g : Nat} (hw : Within g (g + 1) W W') (h1 : w.heap.size < g) (h2 : g < m) (h3 : m ≤ G) : KeepD W' w G m t u0 u1 ms row :=
  ⟨h.three.apart hw (.inr (by omega)), h.row.apart hw (.inr (by omega)), Blk.apart9 h.blkG hw (.inr (by omega)), Blk.apart9 h.blkF hw (.inl (by omega)), h.bel.trans (hw.below (by omega) h.bel.size)⟩
theorem KeepD.below (h : KeepD W w G m t u0 u1 ms row) (hb : Below (G + 1) W W') (h1 : w.heap.size < G) : KeepD W' w G m t u0 u1 ms row :=
  ⟨h.three.belowB hb (by omega), h.row.belowB hb (by omega), h.blkG.below hb (by omega), h.blkF.below hb (by omega), h.bel.trans (hb.mono (by omega))⟩
end
def DrawnRR (w : World) (e : Ending) (w' : World) : Prop :=
  ∃ (t : Int) (u0 u1 : Value) (ms : List (Int × Int × Int)) (row : List Int) (v : Value) (zs : List Int), e = .returned (.tuple #[.agg #[.int .i64 t, u0, u1], v]) ∧ Rd3 w' u0 ms ∧ RdI w' u1 row ∧ RdI w' v zs ∧ (-1 ≤ t ∧ t ≤ 120 ∧ ms.length ≤ 61 ∧ row.length ≤ 241 ∧ zs.length ≤ 121) ∧ Below w.heap.size w w'
set_option maxHeartbeats 4000000 in
theorem DrawRegsRun_any (v : Value) (zs : List Int) (w : World) (h : RdC w v zs) : Calls Try.prog 35 #[v] w (DrawnRR w) := by
  have hb0 : Below w.heap.size w (w.alloc (.cells #[.int .i64 0, .slice none 0 0, .slice none 0 0] 43)) := (Below.refl _ _).alloc (Nat.le_refl _) _
  have S0 := Lib.hid (And.intro (RdBC.rd (RdBC.below (B := w.heap.size) h hb0) (by simp)) (And.intro hb0 (Blk.new w #[.int .i64 0, .slice none 0 0, .slice none 0 0] 43))); clear h hb0
  go_enter Try.func35, Try.ntmps35
  go_wp2_with fail
  refine (l20Open_any v zs _ S0.out.1).mono ?_
  rintro e w1 ⟨g, bs, rfl, hr, hg, hb⟩
  have hz1 : w.heap.size + 1 ≤ w1.heap.size := by have := hb.size; simpa using this
  have hgF : w.heap.size + 1 ≤ g := by simpa using hg
  have X := Lib.hid (And.intro hr (And.intro (S0.out.2.1.trans (hb.mono (by simp))) (S0.out.2.2.below hb (by simp)))); clear hr hb S0 hg
  have hgw := X.out.1.lt
  go_wp2_with fail
  refine (regs_any w1 g 0 9 12 bs _ (RS.refl X.out.1) (by omega) (by omega) (by omega)).mono ?_
  rintro e w2 ⟨t, u0, u1, ms, row, p', rfl, ⟨hi, h3⟩, ho, ⟨ht0, ht1, hm61, hr241⟩, hrs, hp', hg2⟩
  have hz2 : w1.heap.size ≤ w2.heap.size := hg2.size
  obtain ⟨Aa, ca, rfl, _⟩ := h3.rd
  obtain ⟨Ab, cb, rfl, _⟩ := ho.ints
  have hba : Below w2.heap.size w2 ((w2.alloc (.cells #[.int .i64 t, .slice Aa ms.length ca, .slice Ab row.length cb] 43)).alloc (.cells #[] 3)) := ((Below.refl _ _).alloc (Nat.le_refl _) _).alloc (by simp) _
  have hbG : Blk ((w2.alloc (.cells #[.int .i64 t, .slice Aa ms.length ca, .slice Ab row.length cb] 43)).alloc (.cells #[] 3)) w2.heap.size #[.int .i64 t, .slice Aa ms.length ca, .slice Ab row.length cb] 43 := Blk.keep (Blk.new _ _ _)
  have K0 : KeepD ((w2.alloc (.cells #[.int .i64 t, .slice Aa ms.length ca, .slice Ab row.length cb] 43)).alloc (.cells #[] 3)) w w2.heap.size w1.heap.size t (.slice Aa ms.length ca) (.slice Ab row.length cb) ms row :=
    ⟨(Own3.mk (T := 102) (hi := w2.heap.size) h3.own (fun k hk => (h3.own.lt k hk).2)).below hba, (OwnI.mk (hi := w2.heap.size) ho (fun k hk => (ho.ge k hk).2)).below hba, hbG, (Blk.apart9 X.out.2.2 hg2 (.inl (by omega))).below hba (by omega), (X.out.2.1.trans (hg2.below (by omega) (by omega))).trans (hba.mono (by omega))⟩
  have L0 := (nilLit (w2.alloc (.cells #[.int .i64 t, .slice Aa ms.length ca, .slice Ab row.length cb] 43))).1
  have Y := Lib.hid (And.intro K0 (And.intro (hrs.below hba (by omega)) (show OwnI ((w2.alloc (.cells #[.int .i64 t, .slice Aa ms.length ca, .slice Ab row.length cb] 43)).alloc (.cells #[] 3)) (w2.heap.size + 1) ((w2.alloc (.cells #[.int .i64 t, .slice Aa ms.length ca, .slice Ab row.length cb] 43)).alloc (.cells #[] 3)).heap.size (.slice (some ⟨w2.heap.size + 1, 0, none⟩) 0 0) [] from by simpa using L0))); clear K0 L0 hba hbG h3 ho hrs hg2 X
  obtain ⟨N, hN⟩ : ∃ N : Nat, t.toNat = N := ⟨_, rfl⟩
  have hN1 : (N : Int) ≤ 120 := by omega
  have hN2 : t ≤ (N : Int) := by omega
  have hN3 : N = 0 ∨ (N : Int) = t := by omega
  have HN := Lib.hid hN3; clear hN hN3
  have hz3 : w2.heap.size + 2 ≤ ((w2.alloc (.cells #[.int .i64 t, .slice Aa ms.length ca, .slice Ab row.length cb] 43)).alloc (.cells #[] 3)).heap.size := by simp
  go_wp2
  go_loopw [6, 7] (fun iv kv wr => ∃ (k p2 : Nat) (qs : List Int), kv = .int .i64 k ∧ k ≤ N ∧ qs.length ≤ k ∧ w2.heap.size + 2 ≤ wr.heap.size ∧ OwnI wr (w2.heap.size + 1) wr.heap.size iv qs ∧ RS w1 wr g bs p2 ∧ p2 ≤ 300 + 4 * k ∧ KeepD wr w w2.heap.size w1.heap.size t (.slice Aa ms.length ca) (.slice Ab row.length cb) ms row) (fun _ kv _ => N - (intOf kv).toNat)
  case atStart => exact ⟨0, p', [], by first | rfl | simp, Nat.zero_le _, by simp, hz3, Y.out.2.2, Y.out.2.1, by omega, Y.out.1⟩
  case round =>
    clear Y hz3
    obtain ⟨k, p2, qs, rfl, hk, hql, hsz, hown, hrs, hp2, hkd⟩ := hrel
    obtain ⟨Av, cv, rfl, _⟩ := hown.rd
    obtain ⟨a0, a1, a2, _, _, _⟩ := blkThree hkd.blkG
    have R := Lib.hid (And.intro hown (And.intro hrs hkd)); clear hown hrs hkd
    by_cases hlt : (k : Int) < t
    · have hkN : k < N := by omega
      go_wp2_with fail
      refine (num w1 g p2 bs _ R.out.2.1 (by omega)).mono ?_
      rintro e w3 ⟨x, rfl, hx0, hx1, hrs, hg3⟩
      have hz3 : wr.heap.size ≤ w3.heap.size := hg3.size
      have R2 := Lib.hid (And.intro ((R.out.1.apart hg3 (.inr (by omega))).widen hz3) (And.intro hrs (R.out.2.2.within hg3 (by omega) (by omega) (by omega)))); clear hrs hg3 R
      go_wp2_with (at_builtin; refine wpList_append_z rfl _ _ _ rfl Try.underlying23 intInfo x rfl (wf_near _ (by omega)) (w2.heap.size + 1) w3.heap.size _ qs rfl R2.out.1 (by omega) rfl (by omega) ?_)
      intro v4 w4 ho4 hb4 _
      have hz4 : w2.heap.size + 2 ≤ w4.heap.size := by have := hb4.size; omega
      have R3 := Lib.hid (And.intro ho4 (And.intro (R2.out.2.1.below hb4 (by omega)) (R2.out.2.2.below hb4 (by omega)))); clear ho4 hb4 R2
      go_wp2
      go_roundw
      case rel => exact ⟨k + 1, p2 + 4, qs ++ [x], by go_num, by omega, by simp; omega, hz4, R3.out.1, R3.out.2.1, by omega, R3.out.2.2⟩
      case measure => simp [intOf]; omega
    · go_wp2_with fail
      refine (odd w1 g p2 14 bs _ R.out.2.1 (by omega) (by omega)).mono ?_
      rintro e w3 ⟨b, rfl, hrs, hg3⟩
      have hz3 : wr.heap.size ≤ w3.heap.size := hg3.size
      have R2 := Lib.hid (And.intro ((R.out.1.apart hg3 (.inr (by omega))).widen hz3) (R.out.2.2.within hg3 (by omega) (by omega) (by omega))); clear hrs hg3 R
      clear a0 a1 a2
      rcases b with _ | _
      · obtain ⟨a0, a1, a2, _, _, _⟩ := blkThree R2.out.2.blkG
        obtain ⟨n0, n1, n2, q0, q1, q2⟩ := blkThree R2.out.2.blkF
        have eF := (((R2.out.2.blkF.set 0 (.int .i64 t)).set 1 (.slice Aa ms.length ca)).set 2 (.slice Ab row.length cb))
        obtain ⟨m0, m1, m2, _, _, _⟩ := blkThree eF
        have FIN := Lib.hid (show DrawnRR w (.returned (.tuple #[.agg #[.int .i64 t, .slice Aa ms.length ca, .slice Ab row.length cb], (.slice Av qs.length cv)])) (((w3.setCell ⟨w.heap.size, 0, none⟩ (.int .i64 t)).setCell ⟨w.heap.size, 1, none⟩ (.slice Aa ms.length ca)).setCell ⟨w.heap.size, 2, none⟩ (.slice Ab row.length cb)) from
          ⟨t, _, _, ms, row, (.slice Av qs.length cv), qs, rfl, (((R2.out.2.three.setO (show w.heap.size < w1.heap.size by omega)).setO (show w.heap.size < w1.heap.size by omega)).setO (show w.heap.size < w1.heap.size by omega)).rd,
            (((R2.out.2.row.own.setO (show w.heap.size < w1.heap.size by omega)).setO (show w.heap.size < w1.heap.size by omega)).setO (show w.heap.size < w1.heap.size by omega)).within.rd,
            (((R2.out.1.own.setO (show w.heap.size < w2.heap.size + 1 by omega)).setO (show w.heap.size < w2.heap.size + 1 by omega)).setO (show w.heap.size < w2.heap.size + 1 by omega)).within.rd, ⟨ht0, ht1, hm61, hr241, by first | omega | (simp; omega)⟩,
            ((R2.out.2.bel.setCell (p := ⟨w.heap.size, 0, none⟩) (Nat.le_refl _) _).setCell (p := ⟨w.heap.size, 1, none⟩) (Nat.le_refl _) _).setCell (p := ⟨w.heap.size, 2, none⟩) (Nat.le_refl _) _⟩)
        clear R2 eF
        go_wp2
        refine bodyPost_ret (v := .tuple #[.agg #[.int .i64 t, .slice Aa ms.length ca, .slice Ab row.length cb], (.slice Av qs.length cv)]) (by simp [results, Try.results35, go_sem, m0, m1, m2]) rfl ?_
        exact FIN.out
      · go_wp2_with (at_builtin; refine wpList_append_z rfl _ _ _ rfl Try.underlying23 intInfo 1000 rfl (wf_near _ (by omega)) (w2.heap.size + 1) w3.heap.size _ qs rfl R2.out.1 (by omega) rfl (by omega) ?_)
        intro v4 w4 ho4 hb4 _
        have R4 := Lib.hid (And.intro ho4 (R2.out.2.below hb4 (by omega))); clear ho4 hb4
        obtain ⟨a0, a1, a2, _, _, _⟩ := blkThree R4.out.2.blkG
        obtain ⟨n0, n1, n2, q0, q1, q2⟩ := blkThree R4.out.2.blkF
        have eF := (((R4.out.2.blkF.set 0 (.int .i64 t)).set 1 (.slice Aa ms.length ca)).set 2 (.slice Ab row.length cb))
        obtain ⟨m0, m1, m2, _, _, _⟩ := blkThree eF
        have FIN := Lib.hid (show DrawnRR w (.returned (.tuple #[.agg #[.int .i64 t, .slice Aa ms.length ca, .slice Ab row.length cb], v4])) (((w4.setCell ⟨w.heap.size, 0, none⟩ (.int .i64 t)).setCell ⟨w.heap.size, 1, none⟩ (.slice Aa ms.length ca)).setCell ⟨w.heap.size, 2, none⟩ (.slice Ab row.length cb)) from
          ⟨t, _, _, ms, row, v4, (qs ++ [1000]), rfl, (((R4.out.2.three.setO (show w.heap.size < w1.heap.size by omega)).setO (show w.heap.size < w1.heap.size by omega)).setO (show w.heap.size < w1.heap.size by omega)).rd,
            (((R4.out.2.row.own.setO (show w.heap.size < w1.heap.size by omega)).setO (show w.heap.size < w1.heap.size by omega)).setO (show w.heap.size < w1.heap.size by omega)).within.rd,
            (((R4.out.1.own.setO (show w.heap.size < w2.heap.size + 1 by omega)).setO (show w.heap.size < w2.heap.size + 1 by omega)).setO (show w.heap.size < w2.heap.size + 1 by omega)).within.rd, ⟨ht0, ht1, hm61, hr241, by first | omega | (simp; omega)⟩,
            ((R4.out.2.bel.setCell (p := ⟨w.heap.size, 0, none⟩) (Nat.le_refl _) _).setCell (p := ⟨w.heap.size, 1, none⟩) (Nat.le_refl _) _).setCell (p := ⟨w.heap.size, 2, none⟩) (Nat.le_refl _) _⟩)
        clear R4 eF
        go_wp2
        refine bodyPost_ret (v := .tuple #[.agg #[.int .i64 t, .slice Aa ms.length ca, .slice Ab row.length cb], v4]) (by simp [results, Try.results35, go_sem, m0, m1, m2]) rfl ?_
        exact FIN.out
end Go.Proofs.Ytaehaalaeikloaa
