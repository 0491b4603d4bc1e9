/- The draw of registers: l20Regs. -/
import Derived.Test.YtaehaalaeikloaaRs
import Derived.Test.YtaehaalaeikloaaRq
namespace Go.Proofs.Ytaehaalaeikloaa
set_option maxRecDepth 100000
open Go.RowKit Go.WideShapes Go.Deep

theorem regStep_len1 (z : Int) (st : List (Int × Int × Int) × List Int) : (regStep z st).2.length ≤ st.2.length + 2 ∧ (regStep z st).1.length ≤ st.1.length + 1 := by
  unfold regStep
  split
  · first | (simp; done) | (simp; omega)
  · split
    · first | (simp; done) | (simp; omega)
    · split
      · first | (simp; done) | (simp; omega)
      · split
        · first | (simp; done) | (simp; omega)
        · exact ⟨by first | (simp; done) | (simp; omega), opPut_len _ _⟩
theorem regRun_len : ∀ (p : List Int) (st : List (Int × Int × Int) × List Int), (regRun st p).2.length ≤ st.2.length + 2 * p.length ∧ (regRun st p).1.length ≤ st.1.length + p.length := by
  intro p
  induction p with
  | nil => intro st; exact ⟨Nat.le_refl _, Nat.le_refl _⟩
  | cons z p ih =>
    intro st
    have h := ih (regStep z st)
    have h2 := regStep_len1 z st
    rw [regRun, List.length_cons]
    omega
theorem regsOfR_len (p : List Int) {T : Int} {ms : List (Int × Int × Int)} {row : List Int} {ok : Bool} (h : regsOfR p = (T, ms, row, ok)) : 0 ≤ T ∧ T ≤ 120 ∧ ms.length ≤ 60 ∧ row.length ≤ 240 := by
  by_cases hn : (countR p).1 < 0
  · rw [regsOfR_no hn] at h
    cases h
    simp
  · obtain ⟨hv, _, hT⟩ := countR_pos hn
    have hl := validB_len hv
    have h2 := countL_le p (0, 0)
    unfold regsOfR at h
    rw [if_neg hn] at h
    cases h
    have h3 := regRun_len p ([], startR (countR p).1.toNat)
    rw [startR_len] at h3
    have h4 : (countR p).1.toNat ≤ 120 := by rw [hT]; simp at h2; omega
    simp at h3
    refine ⟨by omega, by omega, by omega, by omega⟩
theorem Own.setN {w : World} {lo g o : Nat} {v u : Value} {zs : List Int} (h : Own w lo v zs) (hg : v.ownBlock ≠ some g) : Own (w.setCell ⟨g, o, none⟩ u) lo v zs := by
  refine ⟨ownsRow_keep h.own fun k hk => Below.heap_setCell _ _ _ _ ?_, h.wf⟩
  intro e
  exact hg (by rw [hk]; exact congrArg some e)
theorem ownsRow_setN {w : World} {lo g o d n : Nat} {e : TypeId} {v u : Value} {xs : List Value} (h : w.ownsRow lo e d v n xs) (hg : v.ownBlock ≠ some g) : (w.setCell ⟨g, o, none⟩ u).ownsRow lo e d v n xs := by
  refine ⟨h.1, ?_⟩
  rcases h.2 with h0 | ⟨k, cap, cur, rfl, hb, hh, h1⟩
  · exact .inl h0
  · refine .inr ⟨k, cap, cur, rfl, hb, (Below.heap_setCell _ _ _ _ ?_).trans hh, h1⟩
    intro e2
    exact hg (congrArg some e2)
structure RegV (W : World) (lo G : Nat) (t : Int) (u0 u1 : Value) (ms : List (Int × Int × Int)) (row : List Int) : Prop where
  blk : Blk W G #[.int .i64 t, u0, u1] 43
  lst : W.ownsRow lo 102 3 u0 ms.length ((flat3 ms).map (Value.int .i64))
  row : Own W lo u1 row
section
variable {W W' : World} {lo G : Nat} {t : Int} {u0 u1 : Value} {ms : List (Int × Int × Int)} {row : List Int}
theorem RegV.set0 (h : RegV W lo G t u0 u1 ms row) (t' : Int) : RegV (W.setCell ⟨G, 0, none⟩ (.int .i64 t')) lo G t' u0 u1 ms row :=
  ⟨h.blk.set 0 _, ownsRow_setN h.lst (ownsRow_blk_ne h.lst h.blk (by decide)), h.row.setN (ownsRow_blk_ne h.row.own h.blk (by decide))⟩
theorem RegV.row2 (h : RegV W lo G t u0 u1 ms row) {v' : Value} {row' : List Int} (ho : Own W' lo v' row') (hg : W.grownBy W' u1.ownBlock) : RegV (W'.setCell ⟨G, 2, none⟩ v') lo G t u0 v' ms row' := by
  have hb : Blk W' G #[.int .i64 t, u0, u1] 43 := (hg.block G h.blk.lt fun e => ownsRow_blk_ne h.row.own h.blk (by decide) e.symm).trans h.blk
  have hl := h.lst.kept hg (by
    rcases ownsRow_ne8 h.lst h.row.own (by decide) with h1 | h1
    · exact .inl h1
    · exact .inr h1)
  exact ⟨hb.set 2 _, ownsRow_setN hl (ownsRow_blk_ne hl hb (by decide)), ho.setN (ownsRow_blk_ne ho.own hb (by decide))⟩
theorem RegV.list1 (h : RegV W lo G t u0 u1 ms row) {v' : Value} {ms' : List (Int × Int × Int)} {hi : Nat} (ho : Own3 102 W' lo hi v' ms') (hg : W.grownBy W' u0.ownBlock) : RegV (W'.setCell ⟨G, 1, none⟩ v') lo G t v' u1 ms' row := by
  have hb : Blk W' G #[.int .i64 t, u0, u1] 43 := (hg.block G h.blk.lt fun e => ownsRow_blk_ne h.lst h.blk (by decide) e.symm).trans h.blk
  have hr : Own W' lo u1 row := ⟨h.row.own.kept hg (by
    rcases ownsRow_ne8 h.row.own h.lst (by decide) with h1 | h1
    · exact .inl h1
    · exact .inr h1), h.row.wf⟩
  exact ⟨hb.set 1 _, ownsRow_setN ho.own (ownsRow_blk_ne ho.own hb (by decide)), hr.setN (ownsRow_blk_ne hr.own hb (by decide))⟩
theorem RegV.apart (h : RegV W lo G t u0 u1 ms row) {g : Nat} (hw : Within g (g + 1) W W') (hg : g < lo) (hG : g < G) : RegV W' lo G t u0 u1 ms row :=
  ⟨Blk.apart9 h.blk hw (.inr (by omega)), ((Own3.mk (T := 102) (hi := W.heap.size) h.lst (fun k hk => (h.lst.lt k hk).2)).apart hw (.inr (by omega))).own,
    ⟨ownsRow_keep h.row.own fun k hk => hw.block k (h.row.ge k hk).2 (by have := (h.row.ge k hk).1; omega), h.row.wf⟩⟩
theorem RegV.far (h : RegV W lo G t u0 u1 ms row) {F : Nat} (hF : F < lo) (x0 x1 x2 : Value) : Own3 102 (((W.setCell ⟨F, 0, none⟩ x0).setCell ⟨F, 1, none⟩ x1).setCell ⟨F, 2, none⟩ x2) F W.heap.size u0 ms ∧ Own (((W.setCell ⟨F, 0, none⟩ x0).setCell ⟨F, 1, none⟩ x1).setCell ⟨F, 2, none⟩ x2) F u1 row :=
  ⟨((((Own3.mk (T := 102) (hi := W.heap.size) h.lst (fun k hk => (h.lst.lt k hk).2)).setO hF).setO hF).setO hF).mono (by omega) (Nat.le_refl _), (((h.row.setO hF).setO hF).setO hF).mono (by omega)⟩
end
def RegsPost (w0 : World) (g p : Nat) (bs : List Int) (w : World) (e : Ending) (w' : World) : Prop :=
  ∃ (t : Int) (u0 u1 : Value) (ms : List (Int × Int × Int)) (row : List Int) (p' : Nat), e = .returned (.agg #[.int .i64 t, u0, u1]) ∧ (∃ hi, Own3 102 w' w.heap.size hi u0 ms) ∧ Own w' w.heap.size u1 row ∧ (-1 ≤ t ∧ t ≤ 120 ∧ ms.length ≤ 61 ∧ row.length ≤ 241) ∧ RS w0 w' g bs p' ∧ p' ≤ p + 300 ∧ Within g (g + 1) w w'
set_option maxHeartbeats 4000000 in
theorem regs_any (w0 : World) (g p N : Nat) (n : Int) (bs : List Int) (w : World) (h : RS w0 w g bs p) (hp : p ≤ 400000000000) (hN : N ≤ 20) (hn : 1 ≤ n ∧ n ≤ 1000) :
    Calls Try.prog 84 #[.pointer (some ⟨g, 0, none⟩), .int .i64 N, .int .i64 n] w (RegsPost w0 g p bs w) := by
  have hgw := h.rdr.lt
  have hs0 : w0.heap.size ≤ w.heap.size := h.size
  have hb0 : Below w.heap.size w (w.alloc (.cells #[.int .i64 0, .slice none 0 0, .slice none 0 0] 43)) := (Below.refl _ _).alloc (Nat.le_refl _) _
  have S0 := Lib.hid (And.intro (h.below hb0 (by omega)) (And.intro (Within.of_below (lo := g) (hi := g + 1) hb0) (Blk.new w #[.int .i64 0, .slice none 0 0, .slice none 0 0] 43))); clear h hb0
  go_enter Try.func84, Try.ntmps84
  go_wp2_with fail
  refine (straight_any w0 g p N 0 bs _ S0.out.1 (by omega) hN (by omega)).mono ?_
  rintro e w2 ⟨v, zs, p2, rfl, ho2, hl2, hr2, hp2, hg2⟩
  have hz2 : w.heap.size + 1 ≤ w2.heap.size := by have := hg2.size; simpa using this
  have S2 := Lib.hid (And.intro ho2.rd (And.intro hr2 (And.intro (S0.out.2.1.trans hg2) (Blk.apart9 S0.out.2.2 hg2 (.inr (by omega)))))); clear ho2 hr2 hg2 S0
  rcases hR : regsOfR zs with ⟨T, ms, row, ok⟩
  obtain ⟨hT0, hT1, hm60, hr240⟩ := regsOfR_len zs hR
  have HR := Lib.hid hR; clear hR
  go_wp2_with fail
  refine (RegsOf_S _ zs _ S2.out.1 (by omega) T ms row ok HR.out).mono ?_
  rintro e w3 ⟨u0, u1, rfl, hl3, ho3, _, hb3⟩
  have hz3 : w2.heap.size ≤ w3.heap.size := hb3.size
  obtain ⟨Aa, ca, rfl, _⟩ := (Own3.mk (T := 102) (hi := w3.heap.size) hl3 (fun k hk => (hl3.lt k hk).2)).rd
  obtain ⟨Ab, cb, rfl, _⟩ := ho3.ints
  have hba : Below w3.heap.size w3 (w3.alloc (.cells #[.int .i64 T, .slice Aa ms.length ca, .slice Ab row.length cb] 43)) := (Below.refl _ _).alloc (Nat.le_refl _) _
  have hza : w3.heap.size + 1 ≤ (w3.alloc (.cells #[.int .i64 T, .slice Aa ms.length ca, .slice Ab row.length cb] 43)).heap.size := by simp
  have S3 := Lib.hid (And.intro (RegV.mk (Blk.new w3 #[.int .i64 T, .slice Aa ms.length ca, .slice Ab row.length cb] 43) ((Own3.mk (T := 102) (hi := w3.heap.size) hl3 (fun k hk => (hl3.lt k hk).2)).below hba).own (ho3.below hba)) (And.intro ((S2.out.2.2.2.below (hb3.trans (hba.mono hz3)) (by omega))) (And.intro (S2.out.2.1.below (hb3.trans (hba.mono hz3)) (by omega)) (S2.out.2.2.1.then_below (hb3.trans (hba.mono hz3)) (by omega))))); clear hl3 ho3 hb3 hba S2
  go_wp2_with fail
  refine (odd w0 g p2 n bs _ S3.out.2.2.1 (by omega) (by omega)).mono ?_
  rintro e w4 ⟨b, rfl, hr4, hg4⟩
  have hz4 : w3.heap.size + 1 ≤ w4.heap.size := by have := hg4.size; omega
  have S4 := Lib.hid (And.intro (S3.out.1.apart hg4 (by omega) (by omega)) (And.intro (Blk.apart9 S3.out.2.1 hg4 (.inr (by omega))) (And.intro hr4 (S3.out.2.2.2.trans hg4)))); clear hr4 hg4 S3 hza
  rcases b with _ | _
  · have RV := S4
    obtain ⟨e0, e1, e2, _, _, _⟩ := blkThree RV.out.1.blk
    have eF := (((RV.out.2.1.set 0 (.int .i64 T)).set 1 (.slice Aa ms.length ca)).set 2 (.slice Ab row.length cb))
    obtain ⟨m0, m1, m2, _, _, _⟩ := blkThree eF
    obtain ⟨n0, n1, n2, q0, q1, q2⟩ := blkThree RV.out.2.1
    have FIN := Lib.hid (show RegsPost w0 g p bs w (.returned (.agg #[.int .i64 T, .slice Aa ms.length ca, .slice Ab row.length cb])) (((w4.setCell ⟨w.heap.size, 0, none⟩ (.int .i64 T)).setCell ⟨w.heap.size, 1, none⟩ (.slice Aa ms.length ca)).setCell ⟨w.heap.size, 2, none⟩ (.slice Ab row.length cb)) from by
      have hb3 : Below w.heap.size w4 (((w4.setCell ⟨w.heap.size, 0, none⟩ (.int .i64 T)).setCell ⟨w.heap.size, 1, none⟩ (.slice Aa ms.length ca)).setCell ⟨w.heap.size, 2, none⟩ (.slice Ab row.length cb)) := (((Below.refl w.heap.size _).setCell (Nat.le_refl _) _).setCell (p := ⟨w.heap.size, 1, none⟩) (Nat.le_refl _) _).setCell (p := ⟨w.heap.size, 2, none⟩) (Nat.le_refl _) _
      exact ⟨T, _, _, ms, row, (p2 + 1), rfl, ⟨_, (RV.out.1.far (show w.heap.size < w2.heap.size by omega) _ _ _).1⟩, (RV.out.1.far (show w.heap.size < w2.heap.size by omega) _ _ _).2, by omega, RV.out.2.2.1.below hb3 (by omega), by omega, RV.out.2.2.2.then_below hb3 (Nat.le_refl _)⟩)
    clear RV eF
    go_wp2
    refine bodyPost_ret (v := .agg #[.int .i64 T, .slice Aa ms.length ca, .slice Ab row.length cb]) (by simp [results, Try.results84, go_sem, m0, m1, m2]) rfl ?_
    exact FIN.out
  · go_wp2_with fail
    refine (pick w0 g (p2 + 1) 4 bs _ S4.out.2.2.1 (by omega) (by omega)).mono ?_
    rintro e w5 ⟨x, rfl, hx0, hx1, hr5, hg5⟩
    have hz5 : w3.heap.size + 1 ≤ w5.heap.size := by have := hg5.size; omega
    have S5 := Lib.hid (And.intro (S4.out.1.apart hg5 (by omega) (by omega)) (And.intro (Blk.apart9 S4.out.2.1 hg5 (.inr (by omega))) (And.intro hr5 (S4.out.2.2.2.trans hg5)))); clear hr5 hg5 S4
    obtain ⟨a0, a1, a2, b0, b1, b2⟩ := blkThree S5.out.1.blk
    have hcases : x = 0 ∨ x = 1 ∨ x = 2 ∨ x = 3 := by omega
    clear hx0 hx1
    rcases hcases with rfl | rfl | rfl | rfl
    · have hb : Below w3.heap.size w5 (w5.setCell ⟨w3.heap.size, 0, none⟩ (.int .i64 (-1))) := (Below.refl w3.heap.size w5).setCell (p := ⟨w3.heap.size, 0, none⟩) (Nat.le_refl _) _
      have RV := Lib.hid (And.intro (S5.out.1.set0 (-1)) (And.intro (S5.out.2.1.below hb (by omega)) (And.intro (S5.out.2.2.1.below hb (by omega)) (S5.out.2.2.2.then_below hb (by omega))))); clear hb S5
      obtain ⟨e0, e1, e2, _, _, _⟩ := blkThree RV.out.1.blk
      have eF := (((RV.out.2.1.set 0 (.int .i64 (-1))).set 1 (.slice Aa ms.length ca)).set 2 (.slice Ab row.length cb))
      obtain ⟨m0, m1, m2, _, _, _⟩ := blkThree eF
      obtain ⟨n0, n1, n2, q0, q1, q2⟩ := blkThree RV.out.2.1
      have FIN := Lib.hid (show RegsPost w0 g p bs w (.returned (.agg #[.int .i64 (-1), .slice Aa ms.length ca, .slice Ab row.length cb])) ((((w5.setCell ⟨w3.heap.size, 0, none⟩ (.int .i64 (-1))).setCell ⟨w.heap.size, 0, none⟩ (.int .i64 (-1))).setCell ⟨w.heap.size, 1, none⟩ (.slice Aa ms.length ca)).setCell ⟨w.heap.size, 2, none⟩ (.slice Ab row.length cb)) from by
        have hb3 : Below w.heap.size (w5.setCell ⟨w3.heap.size, 0, none⟩ (.int .i64 (-1))) ((((w5.setCell ⟨w3.heap.size, 0, none⟩ (.int .i64 (-1))).setCell ⟨w.heap.size, 0, none⟩ (.int .i64 (-1))).setCell ⟨w.heap.size, 1, none⟩ (.slice Aa ms.length ca)).setCell ⟨w.heap.size, 2, none⟩ (.slice Ab row.length cb)) := (((Below.refl w.heap.size _).setCell (Nat.le_refl _) _).setCell (p := ⟨w.heap.size, 1, none⟩) (Nat.le_refl _) _).setCell (p := ⟨w.heap.size, 2, none⟩) (Nat.le_refl _) _
        exact ⟨(-1), _, _, ms, row, (p2 + 1 + 1), rfl, ⟨_, (RV.out.1.far (show w.heap.size < w2.heap.size by omega) _ _ _).1⟩, (RV.out.1.far (show w.heap.size < w2.heap.size by omega) _ _ _).2, by omega, RV.out.2.2.1.below hb3 (by omega), by omega, RV.out.2.2.2.then_below hb3 (Nat.le_refl _)⟩)
      clear RV eF
      go_wp2
      refine bodyPost_ret (v := .agg #[.int .i64 (-1), .slice Aa ms.length ca, .slice Ab row.length cb]) (by simp [results, Try.results84, go_sem, m0, m1, m2]) rfl ?_
      exact FIN.out
    · have hIz : InK .i64 (3000 + (ms.length : Int)) := wf_near _ (by omega)
      have HIZ := Lib.hid hIz; clear hIz
      go_wp2_with (at_builtin; refine wpList_append_Kz rfl _ _ _ rfl Try.underlying23 intInfo (3000 + (ms.length : Int)) rfl HIZ.out w2.heap.size _ row rfl S5.out.1.row (by omega) rfl (by omega) ?_)
      intro v6 w6 ho6 hg6
      have hb : Below w2.heap.size w5 w6 := below_of_only hg6 (by omega) (fun k hk => (S5.out.1.row.ge k hk).1)
      obtain ⟨A6, c6, e6, _⟩ := ho6.ints
      obtain ⟨n6, hn6⟩ : ∃ n, (row ++ [(3000 + (ms.length : Int))]).length = n := ⟨_, rfl⟩
      rw [hn6] at e6
      subst e6
      have hn6b : n6 ≤ 241 := by rw [← hn6]; simp; omega
      clear hn6
      have hb2 : Below w2.heap.size w5 (w6.setCell ⟨w3.heap.size, 2, none⟩ (.slice A6 n6 c6)) := hb.setCell (by show w2.heap.size ≤ w3.heap.size; omega) _
      obtain ⟨_, _, _, _, _, f6⟩ := blkThree (show Blk w6 w3.heap.size _ _ from (hg6.block w3.heap.size (by omega) fun e => ownsRow_blk_ne S5.out.1.row.own S5.out.1.blk (by decide) e.symm).trans S5.out.1.blk)
      have RV := Lib.hid (And.intro (S5.out.1.row2 ho6 hg6) (And.intro (S5.out.2.1.below hb2 (by omega)) (And.intro (S5.out.2.2.1.below hb2 (by omega)) (S5.out.2.2.2.then_below hb2 (by omega))))); clear hb hb2 S5 ho6 hg6
      obtain ⟨e0, e1, e2, _, _, _⟩ := blkThree RV.out.1.blk
      have eF := (((RV.out.2.1.set 0 (.int .i64 T)).set 1 (.slice Aa ms.length ca)).set 2 (.slice A6 n6 c6))
      obtain ⟨m0, m1, m2, _, _, _⟩ := blkThree eF
      obtain ⟨n0, n1, n2, q0, q1, q2⟩ := blkThree RV.out.2.1
      have FIN := Lib.hid (show RegsPost w0 g p bs w (.returned (.agg #[.int .i64 T, .slice Aa ms.length ca, .slice A6 n6 c6])) ((((w6.setCell ⟨w3.heap.size, 2, none⟩ (.slice A6 n6 c6)).setCell ⟨w.heap.size, 0, none⟩ (.int .i64 T)).setCell ⟨w.heap.size, 1, none⟩ (.slice Aa ms.length ca)).setCell ⟨w.heap.size, 2, none⟩ (.slice A6 n6 c6)) from by
        have hb3 : Below w.heap.size (w6.setCell ⟨w3.heap.size, 2, none⟩ (.slice A6 n6 c6)) ((((w6.setCell ⟨w3.heap.size, 2, none⟩ (.slice A6 n6 c6)).setCell ⟨w.heap.size, 0, none⟩ (.int .i64 T)).setCell ⟨w.heap.size, 1, none⟩ (.slice Aa ms.length ca)).setCell ⟨w.heap.size, 2, none⟩ (.slice A6 n6 c6)) := (((Below.refl w.heap.size _).setCell (Nat.le_refl _) _).setCell (p := ⟨w.heap.size, 1, none⟩) (Nat.le_refl _) _).setCell (p := ⟨w.heap.size, 2, none⟩) (Nat.le_refl _) _
        exact ⟨T, _, _, ms, (row ++ [3000 + (ms.length : Int)]), (p2 + 1 + 1), rfl, ⟨_, (RV.out.1.far (show w.heap.size < w2.heap.size by omega) _ _ _).1⟩, (RV.out.1.far (show w.heap.size < w2.heap.size by omega) _ _ _).2, by simp; omega, RV.out.2.2.1.below hb3 (by omega), by omega, RV.out.2.2.2.then_below hb3 (Nat.le_refl _)⟩)
      clear RV eF
      go_wp2
      refine bodyPost_ret (v := .agg #[.int .i64 T, .slice Aa ms.length ca, .slice A6 n6 c6]) (by simp [results, Try.results84, go_sem, m0, m1, m2]) rfl ?_
      exact FIN.out
    · have HLC := Lib.hid (blkThree (Blk.new w5 #[.int .i64 1001, .int .i64 0, .int .i64 0] 102))
      have HLB := Lib.hid (show Below w5.heap.size w5 (w5.alloc (.cells #[.int .i64 1001, .int .i64 0, .int .i64 0] 102)) from (Below.refl _ _).alloc (Nat.le_refl _) _)
      go_wp2_with (at_builtin; refine wpList_append_op rfl _ _ _ rfl 102 Try.underlying41 opInfoR w2.heap.size w5.heap.size _ ms rfl ((Own3.mk (T := 102) (hi := w5.heap.size) S5.out.1.lst (fun k hk => (S5.out.1.lst.lt k hk).2)).below HLB.out) (by simp; omega) w5.heap.size 1001 0 0 rfl HLC.out.1 HLC.out.2.1 HLC.out.2.2.1 (by omega) ?_)
      intro v6 w6 ho6 _ hg6a _
      have hg6 : w5.grownBy w6 (Value.slice Aa ms.length ca).ownBlock := World.grownBy.trans (only_of_below HLB.out _) hg6a
      have hb : Below w2.heap.size w5 w6 := below_of_only hg6 (by omega) (fun k hk => (S5.out.1.lst.lt k hk).1)
      obtain ⟨A6, c6, e6, _⟩ := ho6.rd
      obtain ⟨n6, hn6⟩ : ∃ n, (ms ++ [(1001, 0, 0)]).length = n := ⟨_, rfl⟩
      rw [hn6] at e6
      subst e6
      have hn6b : n6 ≤ 61 := by rw [← hn6]; simp; omega
      clear hn6
      have hb2 : Below w2.heap.size w5 (w6.setCell ⟨w3.heap.size, 1, none⟩ (.slice A6 n6 c6)) := hb.setCell (by show w2.heap.size ≤ w3.heap.size; omega) _
      obtain ⟨_, _, _, _, f6, _⟩ := blkThree (show Blk w6 w3.heap.size _ _ from (hg6.block w3.heap.size (by omega) fun e => ownsRow_blk_ne S5.out.1.lst S5.out.1.blk (by decide) e.symm).trans S5.out.1.blk)
      have RV := Lib.hid (And.intro (S5.out.1.list1 ho6 hg6) (And.intro (S5.out.2.1.below hb2 (by omega)) (And.intro (S5.out.2.2.1.below hb2 (by omega)) (S5.out.2.2.2.then_below hb2 (by omega))))); clear hb hb2 S5 ho6 hg6 hg6a HLB HLC
      obtain ⟨e0, e1, e2, _, _, _⟩ := blkThree RV.out.1.blk
      have eF := (((RV.out.2.1.set 0 (.int .i64 T)).set 1 (.slice A6 n6 c6)).set 2 (.slice Ab row.length cb))
      obtain ⟨m0, m1, m2, _, _, _⟩ := blkThree eF
      obtain ⟨n0, n1, n2, q0, q1, q2⟩ := blkThree RV.out.2.1
      have FIN := Lib.hid (show RegsPost w0 g p bs w (.returned (.agg #[.int .i64 T, .slice A6 n6 c6, .slice Ab row.length cb])) ((((w6.setCell ⟨w3.heap.size, 1, none⟩ (.slice A6 n6 c6)).setCell ⟨w.heap.size, 0, none⟩ (.int .i64 T)).setCell ⟨w.heap.size, 1, none⟩ (.slice A6 n6 c6)).setCell ⟨w.heap.size, 2, none⟩ (.slice Ab row.length cb)) from by
        have hb3 : Below w.heap.size (w6.setCell ⟨w3.heap.size, 1, none⟩ (.slice A6 n6 c6)) ((((w6.setCell ⟨w3.heap.size, 1, none⟩ (.slice A6 n6 c6)).setCell ⟨w.heap.size, 0, none⟩ (.int .i64 T)).setCell ⟨w.heap.size, 1, none⟩ (.slice A6 n6 c6)).setCell ⟨w.heap.size, 2, none⟩ (.slice Ab row.length cb)) := (((Below.refl w.heap.size _).setCell (Nat.le_refl _) _).setCell (p := ⟨w.heap.size, 1, none⟩) (Nat.le_refl _) _).setCell (p := ⟨w.heap.size, 2, none⟩) (Nat.le_refl _) _
        exact ⟨T, _, _, (ms ++ [(1001, 0, 0)]), row, (p2 + 1 + 1), rfl, ⟨_, (RV.out.1.far (show w.heap.size < w2.heap.size by omega) _ _ _).1⟩, (RV.out.1.far (show w.heap.size < w2.heap.size by omega) _ _ _).2, by simp; omega, RV.out.2.2.1.below hb3 (by omega), by omega, RV.out.2.2.2.then_below hb3 (Nat.le_refl _)⟩)
      clear RV eF
      go_wp2
      refine bodyPost_ret (v := .agg #[.int .i64 T, .slice A6 n6 c6, .slice Ab row.length cb]) (by simp [results, Try.results84, go_sem, m0, m1, m2]) rfl ?_
      exact FIN.out
    · have HIZ : Hid (InK .i64 1500) := Lib.hid (wf_near _ (by omega))
      go_wp2_with (at_builtin; refine wpList_append_Kz rfl _ _ _ rfl Try.underlying23 intInfo 1500 rfl HIZ.out w2.heap.size _ row rfl S5.out.1.row (by omega) rfl (by omega) ?_)
      intro v6 w6 ho6 hg6
      have hb : Below w2.heap.size w5 w6 := below_of_only hg6 (by omega) (fun k hk => (S5.out.1.row.ge k hk).1)
      obtain ⟨A6, c6, e6, _⟩ := ho6.ints
      obtain ⟨n6, hn6⟩ : ∃ n, (row ++ [1500]).length = n := ⟨_, rfl⟩
      rw [hn6] at e6
      subst e6
      have hn6b : n6 ≤ 241 := by rw [← hn6]; simp; omega
      clear hn6
      have hb2 : Below w2.heap.size w5 (w6.setCell ⟨w3.heap.size, 2, none⟩ (.slice A6 n6 c6)) := hb.setCell (by show w2.heap.size ≤ w3.heap.size; omega) _
      obtain ⟨_, _, _, _, _, f6⟩ := blkThree (show Blk w6 w3.heap.size _ _ from (hg6.block w3.heap.size (by omega) fun e => ownsRow_blk_ne S5.out.1.row.own S5.out.1.blk (by decide) e.symm).trans S5.out.1.blk)
      have RV := Lib.hid (And.intro (S5.out.1.row2 ho6 hg6) (And.intro (S5.out.2.1.below hb2 (by omega)) (And.intro (S5.out.2.2.1.below hb2 (by omega)) (S5.out.2.2.2.then_below hb2 (by omega))))); clear hb hb2 S5 ho6 hg6
      obtain ⟨e0, e1, e2, _, _, _⟩ := blkThree RV.out.1.blk
      have eF := (((RV.out.2.1.set 0 (.int .i64 T)).set 1 (.slice Aa ms.length ca)).set 2 (.slice A6 n6 c6))
      obtain ⟨m0, m1, m2, _, _, _⟩ := blkThree eF
      obtain ⟨n0, n1, n2, q0, q1, q2⟩ := blkThree RV.out.2.1
      have FIN := Lib.hid (show RegsPost w0 g p bs w (.returned (.agg #[.int .i64 T, .slice Aa ms.length ca, .slice A6 n6 c6])) ((((w6.setCell ⟨w3.heap.size, 2, none⟩ (.slice A6 n6 c6)).setCell ⟨w.heap.size, 0, none⟩ (.int .i64 T)).setCell ⟨w.heap.size, 1, none⟩ (.slice Aa ms.length ca)).setCell ⟨w.heap.size, 2, none⟩ (.slice A6 n6 c6)) from by
        have hb3 : Below w.heap.size (w6.setCell ⟨w3.heap.size, 2, none⟩ (.slice A6 n6 c6)) ((((w6.setCell ⟨w3.heap.size, 2, none⟩ (.slice A6 n6 c6)).setCell ⟨w.heap.size, 0, none⟩ (.int .i64 T)).setCell ⟨w.heap.size, 1, none⟩ (.slice Aa ms.length ca)).setCell ⟨w.heap.size, 2, none⟩ (.slice A6 n6 c6)) := (((Below.refl w.heap.size _).setCell (Nat.le_refl _) _).setCell (p := ⟨w.heap.size, 1, none⟩) (Nat.le_refl _) _).setCell (p := ⟨w.heap.size, 2, none⟩) (Nat.le_refl _) _
        exact ⟨T, _, _, ms, (row ++ [1500]), (p2 + 1 + 1), rfl, ⟨_, (RV.out.1.far (show w.heap.size < w2.heap.size by omega) _ _ _).1⟩, (RV.out.1.far (show w.heap.size < w2.heap.size by omega) _ _ _).2, by simp; omega, RV.out.2.2.1.below hb3 (by omega), by omega, RV.out.2.2.2.then_below hb3 (Nat.le_refl _)⟩)
      clear RV eF
      go_wp2
      refine bodyPost_ret (v := .agg #[.int .i64 T, .slice Aa ms.length ca, .slice A6 n6 c6]) (by simp [results, Try.results84, go_sem, m0, m1, m2]) rfl ?_
      exact FIN.out
end Go.Proofs.Ytaehaalaeikloaa
