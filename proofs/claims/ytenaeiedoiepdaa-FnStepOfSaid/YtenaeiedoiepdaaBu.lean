/- Several texts in one. -/
import Derived.Test.YtenaeiedoiepdaaB1
import Derived.Test.YtenaeiedoiepdaaSa
import Derived.Test.YtenaeiedoiepdaaJh
import Derived.Lib.SliceRun
import Derived.Test.YtenaeiedoiepdaaB4
import Derived.Test.YtenaeiedoiepdaaRr
/- Chapter 9: words for rows of the call's own: stores, prefixes, clones. -/
namespace Go.Proofs.Ytenaeiedoiepdaa
set_option maxRecDepth 100000
open Go.RowKit Go.WideShapes

theorem OwnI.put9 {w : World} {lo hi g cap : Nat} {zs : List Int} (h : OwnI w lo hi (.slice (some ⟨g, 0, none⟩) zs.length cap) zs) (k : Nat) (z : Int) (hz : InK .i64 z) :
    OwnI (w.setCell ⟨g, k, none⟩ (.int .i64 z)) lo hi (.slice (some ⟨g, 0, none⟩) (zs.set k z).length cap) (zs.set k z) ∧ Within lo hi w (w.setCell ⟨g, k, none⟩ (.int .i64 z)) := by
  obtain ⟨hst, hgr⟩ := h.own.own.stored k (.int .i64 z)
  refine ⟨⟨⟨by rw [List.length_set]; simpa [List.map_set] using hst, fun y hy => ?_⟩, fun q hq => h.lt q hq⟩, Within.of_only hgr fun q hq => ?_⟩
  · rcases List.mem_or_eq_of_mem_set hy with h1 | h1
    · exact h.own.wf y h1
    · rw [h1]; exact hz
  · cases hq
    exact ⟨(h.own.own.lt g rfl).1, h.lt g rfl⟩
theorem OwnI.cellAt9 {w : World} {lo hi g cap : Nat} {zs : List Int} (h : OwnI w lo hi (.slice (some ⟨g, 0, none⟩) zs.length cap) zs) (j : Nat) (hj : j < zs.length) : w.cell? ⟨g, j, none⟩ = some (.int .i64 (zs.getD j 0)) ∧ w.frozen? ⟨g, j, none⟩ = false := by
  refine ⟨?_, h.own.own.frozenAt j⟩
  rw [h.own.own.cellAt j (by omega), List.getElem?_map, List.getElem?_eq_getElem hj]
  simp [List.getD, List.getElem?_eq_getElem hj]
theorem OwnI.taken9 {w : World} {lo hi c : Nat} {A : Option Addr} {zs : List Int} {n : Nat} (h : OwnI w lo hi (.slice A zs.length c) zs) (hn : n ≤ zs.length) : RdI w (.slice A n c) (zs.take n) := by
  obtain ⟨A', c', e, hi', hc⟩ := h.rd
  cases e
  refine ⟨A, c, by rw [List.length_take, Nat.min_eq_left hn], ⟨by rw [List.length_take]; have := hi'.len; omega, fun z hz => hi'.wf z (List.mem_of_mem_take hz), fun h0 => ?_⟩, by rw [List.length_take]; omega⟩
  rw [List.length_take] at h0
  obtain ⟨b, off, e, hb, hcc⟩ := hi'.at_ (by omega)
  refine ⟨b, off, e, hb, fun j hj => ?_⟩
  rw [List.length_take] at hj
  rw [hcc j (by omega)]
  simp only [List.getD, List.getElem?_take]
  rw [if_pos (by omega)]
theorem clone9 (v : Value) (zs : List Int) (w : World) (h : RdI w v zs) (hl : zs.length ≤ 2000000) :
    Calls Try.prog 42 #[v] w fun e w' => ∃ u, e = .returned u ∧ OwnI w' w.heap.size w'.heap.size u zs ∧ Below w.heap.size w w' := by
  obtain ⟨A, c, rfl, hi, hc⟩ := h
  rcases A with _ | a
  · have h0 : zs = [] := by
      rcases zs with _ | ⟨z, zs⟩
      · rfl
      · obtain ⟨b, off, e, _⟩ := hi.at_ (by simp); cases e
    subst h0
    have hnil := fun (W : World) (n c : Nat) => Lib.run_eql_slice_nil (P := Try.prog) W 23 3 none n c 0 0 Try.underlying23
    clear hi hc
    go_enter Try.func42, Try.ntmps42
    go_wp2
    go_ret
    exact ⟨_, rfl, nilOwn _ _ _, Below.refl _ _⟩
  · have hm := hi.len
    have H := Lib.hid hi; clear hi
    have L0 := lit_own w [] (by simp)
    simp only [List.map_nil, List.length_nil] at L0
    have hnil := fun (W : World) (a : Option Addr) (n c : Nat) => Lib.run_eql_slice_nil (P := Try.prog) W 23 3 a n c 0 0 Try.underlying23
    go_enter Try.func42, Try.ntmps42
    go_wp2_with (at_builtin; refine wpList_append_ints rfl (.tmp 5) (.tmp 6) _ rfl w.heap.size 3 .i64 8 Try.underlying23 intInfo (Nat.le_refl _) _ [] rfl L0 (w.heap.size + 1) _ zs c rfl ((H.out.alloc (Nat.le_refl _) _).mono (by omega)) (by simp; omega) (by simp) ?_)
    intro v1 w1 hown1 hg1 _
    have hb1 : Below w.heap.size w w1 := ((Below.refl w.heap.size w).alloc (Nat.le_refl _) _).grown hg1 (by simp) (by intro k hk; simp [Value.ownBlock] at hk; omega)
    have ho1 : Own w1 w.heap.size v1 zs := ⟨by simpa using hown1, H.out.wf⟩
    have X := Lib.hid (And.intro ho1 hb1)
    clear hown1 hg1 hb1 ho1 L0
    go_wp2
    go_ret
    exact ⟨_, rfl, X.out.1.within, X.out.2⟩
end Go.Proofs.Ytenaeiedoiepdaa

/- Rows of words cloned by the program: cloneRows. -/
namespace Go.Proofs.Ytenaeiedoiepdaa
set_option maxRecDepth 100000
open Go.RowKit Go.WideShapes

set_option maxHeartbeats 1000000 in
theorem cloneRows_any (v : Value) (zss : List (List Int)) (w : World) (h : RdS w v zss) (hl2 : zss.length ≤ 100000) (hv2 : ∀ v ∈ zss, v.length ≤ 1000000) :
    Calls Try.prog 44 #[v] w fun e w' => ∃ u, e = .returned u ∧ OwnS w' w.heap.size w'.heap.size u zss ∧ Below w.heap.size w w' := by
  obtain ⟨A, c, rfl, hm, hr⟩ := h
  have Hr := Lib.hid hr; clear hr
  have Hl := Lib.hid hv2; clear hv2
  obtain ⟨i0, hi0, hz0, hz1, hz2⟩ := info_parts rowInfo
  go_enter Try.func44, Try.ntmps44
  go_wp2_with (at_make; refine wpList_make_full _ rfl _ _ _ rfl w.heap.size 23 i0 (.slice none 0 0) 1 Try.underlying24 hi0 hz0 hz1 _ _ _ _ zss.length rfl rfl rfl rfl ?c1 ?c2 ?c3 ?_)
  case c1 => rw [hz2]; omega
  case c2 => unfold maxLen; omega
  case c3 => simp
  intro w1 hown1 hg1
  rw [toList_madeCells_one] at hown1
  have hb1 : Below w.heap.size w w1 := below_of_only hg1 (Nat.le_refl _) (by simp)
  have hlt1 : w.heap.size < w1.heap.size := (hown1.lt w.heap.size rfl).2
  have hs0 := OwnVs.nils hown1
  have hs1 : ∃ vs, OwnVs w1 w.heap.size w1.heap.size (.slice (some ⟨w.heap.size, 0, none⟩) (zss.take 0 ++ List.replicate (zss.length - 0) ([] : List Int)).length zss.length) vs (zss.take 0 ++ List.replicate (zss.length - 0) ([] : List Int)) := ⟨_, by simpa using hs0⟩
  have Hs1 := Lib.hid hs1
  clear hown1 hg1 hs0 hs1
  generalize hG : w.heap.size = G at *
  have HG := Lib.hid hG; clear hG
  go_wp2
  go_loopw [11] (fun i wr => ∃ k : Nat, k ≤ zss.length ∧ i = .int .i64 k ∧ G < wr.heap.size ∧ Below G w wr ∧ ∃ vs, OwnVs wr G wr.heap.size (.slice (some ⟨G, 0, none⟩) (zss.take k ++ List.replicate (zss.length - k) ([] : List Int)).length zss.length) vs (zss.take k ++ List.replicate (zss.length - k) ([] : List Int))) (fun i _ => zss.length - (intOf i).toNat)
  case atStart => exact ⟨0, Nat.zero_le _, rfl, hlt1, hb1, Hs1.out⟩
  case round =>
    clear hb1 Hs1 hlt1
    obtain ⟨k, hk, rfl, hgk, hbk, vs, hownk⟩ := hrel
    have Hown := Lib.hid hownk; clear hownk
    by_cases hlt : k < zss.length
    · obtain ⟨b, off, rfl, hb, hc⟩ := Hr.out (by omega)
      have hz : zss[k]? = some zss[k] := List.getElem?_eq_getElem hlt
      obtain ⟨u, hcell, hu⟩ := hc k _ hz
      have hlz := Hl.out _ (List.getElem_mem hlt)
      have hrdu := (hu.below hbk).rd (by omega)
      replace hcell := (hbk.cell (p := ⟨b, off + k, none⟩) (by omega)).trans hcell
      have Hf := Lib.hid (fillS_set zss k hlt)
      have Hfl := Lib.hid (fillS_len zss k hk)
      clear hc hz hu
      generalize zss[k] = zs at *
      have HU := Lib.hid hrdu; clear hrdu
      have hltI : (k : Int) < zss.length := by omega
      go_wp2_with fail
      refine (clone9 u zs _ HU.out (by omega)).mono ?_
      rintro e w2 ⟨q, rfl, hq, hb2⟩
      have hs2 := hb2.size
      obtain ⟨A', c', rfl, _⟩ := hq.rd
      have hset := Hown.out.set hb2 hq (by omega) (k := k) (by rw [Hfl.out]; exact hlt)
      rw [Hf.out] at hset
      obtain ⟨⟨x, hold⟩, hfr⟩ : (∃ x, w2.cell? ⟨G, k, none⟩ = some x) ∧ w2.frozen? ⟨G, k, none⟩ = false := by
        have hrow : w2.ownsRow G 23 1 _ _ vs := Hown.out.row.kept (row := none) (only_of_below hb2 none) (.inr (by simp [Value.ownBlock]))
        refine ⟨?_, hrow.frozenAt k⟩
        rw [hrow.cellAt k (by rw [Hfl.out]; omega)]
        exact ⟨_, List.getElem?_eq_getElem (by rw [Hown.out.len, Hfl.out]; exact hlt)⟩
      have hex : ∃ vs', OwnVs _ G _ _ vs' (zss.take (k + 1) ++ List.replicate (zss.length - (k + 1)) ([] : List Int)) := ⟨_, hset⟩
      have X := Lib.hid (And.intro (Nat.lt_of_lt_of_le hgk (Nat.le_trans hs2 (Nat.le_of_eq (by simp [World.setCell] : w2.heap.size = (w2.setCell ⟨G, k, none⟩ (.slice A' zs.length c')).heap.size)))) (And.intro ((hbk.trans (hb2.mono (by omega))).setCell (p := ⟨G, k, none⟩) (Nat.le_refl _) (.slice A' zs.length c')) hex))
      clear hset hex hb2 hq
      go_wp2
      go_roundw
      case rel => exact ⟨k + 1, by omega, by go_num, X.out⟩
      case measure => simp [intOf]; omega
    · have hke : zss.take k ++ List.replicate (zss.length - k) ([] : List Int) = zss := by
        rw [List.take_of_length_le (by omega), show zss.length - k = 0 from by omega]; simp
      have Hke := Lib.hid hke; clear hke
      go_wp2
      go_ret
      refine ⟨_, rfl, ⟨vs, ?_⟩, by rw [HG.out]; exact hbk⟩
      have hfin := Hown.out
      rw [Hke.out] at hfin
      rw [HG.out]
      exact hfin
end Go.Proofs.Ytenaeiedoiepdaa

/- The program's runner: the contract of step. The program's runner: made out of a rest and values; its values and its words given out. RunOf of the program. -/
namespace Go.Proofs.Ytenaeiedoiepdaa
set_option maxRecDepth 100000
open Go.RowKit Go.WideShapes

theorem word_cases {z : Int} (h : isWordB z = true) : isNumB z = true ∨ z = 1001 ∨ z = 1002 ∨ z = 1003 ∨ z = 1004 ∨ z = 1005 ∨ (z = 1006 ∨ z = 1007 ∨ z = 1008 ∨ z = 1009) ∨ z = 1010 ∨ z = 1011 ∨ z = 1012 ∨ z = 1013 := by
  simp only [isWordB, Bool.or_eq_true, Bool.and_eq_true, decide_eq_true_eq] at h
  rcases h with h | h
  · exact .inl h
  · omega
set_option maxHeartbeats 1000000 in
theorem step_any (lo g : Nat) (rest : List Int) (st : List (List Int)) (w : World) (h : Run w lo g rest st) (hok : okS rest st) (hr : rest.length ≤ 600000000) :
    Calls Try.prog 14 #[.pointer (some ⟨g, 0, none⟩)] w (Did lo g w (stepR rest st) (fullB rest st)) := by
  have hlt := h.lt
  have H := Lib.hid h; clear h
  rcases rest with _ | ⟨z, r⟩
  · have HR : Hid (stepR [] st = none) := Lib.hid (by simp [stepR, l2R])
    rw [HR.out]
    go_enter Try.func14, Try.ntmps14
    go_wp2_with fail
    refine (popN_none lo g st _ H.out).mono ?_
    rintro e w' ⟨rfl, rfl⟩
    go_wp2
    go_ret
    exact (Did.no (Keeps.refl _ _ _) H.out).as (fun _ => rfl)
  · obtain ⟨hl, hv⟩ := stackB_all hok.2
    rw [List.length_cons] at hr
    have Hv := Lib.hid hv
    have hw : isWordB z = true := by
      have := hok.1
      simp only [restB, Bool.and_eq_true, List.all_cons] at this
      exact this.1.1
    rcases word_cases hw with hz | rfl | rfl | rfl | rfl | rfl | hz | rfl | rfl | rfl | rfl
    · have hzb : 0 ≤ z ∧ z ≤ 999 := by simpa [isNumB] using hz
      have HS := Lib.hid (step_num (r := r) hz hl hv)
      have HF : Hid (stepR (z :: r) st = none → true = fullB (z :: r) st) := Lib.hid (fun _ => full_yes (x := (r, [z] :: st)) (by rw [l2R, if_pos hzb.2]))
      have HZ := Lib.hid hz
      clear hw hz hok hv
      generalize stepR (z :: r) st = R at *
      go_enter Try.func14, Try.ntmps14
      go_wp2_with fail
      refine (popN lo g z r st _ H.out (by omega)).mono ?_
      rintro e w1 ⟨rfl, q1, q2, q3⟩
      have X := Lib.hid (And.intro q2 q3); clear q1 q2 q3
      have hlt1 := X.out.1.lt
      go_wp2_with fail
      refine (isNum_any z _).mono ?_
      rw [HZ.out]
      rintro e w' ⟨rfl, rfl⟩
      go_wp2_with fail
      obtain ⟨r1, r2, r3⟩ := X.out.1.lit z (by omega)
      have Y := Lib.hid (And.intro r1 (And.intro r3 (X.out.2.trans r2))); clear r1 r2 r3
      refine (put_any lo g r st _ [z] _ Y.out.1 Y.out.2.1 hl).mono ?_
      rw [← HS.out]
      rintro e w4 hd
      have V := Lib.hid (hd.after Y.out.2.2); clear hd
      obtain ⟨t, rfl, -⟩ := V.out
      go_wp2
      go_ret
      exact V.out.as HF.out
    · have HS := Lib.hid (step_dup (r := r) hl hv)
      have HF : Hid (stepR (1001 :: r) st = none → (!st.isEmpty) = fullB (1001 :: r) st) := Lib.hid (fun _ => full_dup)
      have HZ : Hid (isNumB 1001 = false) := Lib.hid rfl
      clear hw hok hv
      generalize stepR (1001 :: r) st = R at *
      go_enter Try.func14, Try.ntmps14
      go_wp2_with fail
      refine (popN lo g 1001 r st _ H.out (by omega)).mono ?_
      rintro e w1 ⟨rfl, q1, q2, q3⟩
      have X := Lib.hid (And.intro q2 q3); clear q1 q2 q3
      have hlt1 := X.out.1.lt
      go_wp2_with fail
      refine (isNum_any 1001 _).mono ?_
      rw [HZ.out]
      rintro e w' ⟨rfl, rfl⟩
      go_wp2_with fail
      refine (dup_any lo g r st _ X.out.1 hl Hv.out).mono ?_
      rw [← HS.out]
      rintro e w4 hd
      have V := Lib.hid (hd.after X.out.2); clear hd
      obtain ⟨t, rfl, -⟩ := V.out
      go_wp2
      go_ret
      exact V.out.as HF.out
    · have HS := Lib.hid (step_drop (r := r) hl hv)
      have HF := Lib.hid (full_op (r := r) (z := 1002) (by omega) (by omega) hl hv)
      have HZ : Hid (isNumB 1002 = false) := Lib.hid rfl
      clear hw hok hv
      generalize stepR (1002 :: r) st = R at *
      go_enter Try.func14, Try.ntmps14
      go_wp2_with fail
      refine (popN lo g 1002 r st _ H.out (by omega)).mono ?_
      rintro e w1 ⟨rfl, q1, q2, q3⟩
      have X := Lib.hid (And.intro q2 q3); clear q1 q2 q3
      have hlt1 := X.out.1.lt
      go_wp2_with fail
      refine (isNum_any 1002 _).mono ?_
      rw [HZ.out]
      rintro e w' ⟨rfl, rfl⟩
      go_wp2_with fail
      rcases st with _ | ⟨a, s1⟩
      · obtain rfl : R = none := HS.out
        refine (popV_none lo g r _ X.out.1).mono ?_
        rintro e w' ⟨rfl, rfl⟩
        go_wp2
        go_ret
        exact (Did.no X.out.2 X.out.1).as (fun _ => HF.out trivial)
      · obtain rfl : R = some (r, s1) := HS.out
        rw [List.length_cons] at hl
        refine (popV lo g r a s1 _ X.out.1 (by omega)).mono ?_
        rintro e w4 ⟨u, rfl, q1, q2, q3⟩
        have Y := Lib.hid (And.intro q2 (X.out.2.trans q3)); clear q1 q2 q3
        go_wp2
        go_ret
        exact Did.yes Y.out.2 Y.out.1
    · have HS := Lib.hid (step_swap (r := r) hl hv)
      have HF := Lib.hid (full_op (r := r) (z := 1003) (by omega) (by omega) hl hv)
      have HZ : Hid (isNumB 1003 = false) := Lib.hid rfl
      clear hw hok hv
      generalize stepR (1003 :: r) st = R at *
      go_enter Try.func14, Try.ntmps14
      go_wp2_with fail
      refine (popN lo g 1003 r st _ H.out (by omega)).mono ?_
      rintro e w1 ⟨rfl, q1, q2, q3⟩
      have X := Lib.hid (And.intro q2 q3); clear q1 q2 q3
      have hlt1 := X.out.1.lt
      go_wp2_with fail
      refine (isNum_any 1003 _).mono ?_
      rw [HZ.out]
      rintro e w' ⟨rfl, rfl⟩
      go_wp2_with fail
      refine (swap_any lo g r st _ X.out.1 hl Hv.out).mono ?_
      rw [← HS.out]
      rintro e w4 hd
      have V := Lib.hid (hd.after X.out.2); clear hd
      obtain ⟨t, rfl, -⟩ := V.out
      go_wp2
      go_ret
      exact V.out.as HF.out
    · have HS := Lib.hid (step_dip (r := r) hl hv)
      have HF := Lib.hid (full_op (r := r) (z := 1004) (by omega) (by omega) hl hv)
      have HZ : Hid (isNumB 1004 = false) := Lib.hid rfl
      clear hw hok hv
      generalize stepR (1004 :: r) st = R at *
      go_enter Try.func14, Try.ntmps14
      go_wp2_with fail
      refine (popN lo g 1004 r st _ H.out (by omega)).mono ?_
      rintro e w1 ⟨rfl, q1, q2, q3⟩
      have X := Lib.hid (And.intro q2 q3); clear q1 q2 q3
      have hlt1 := X.out.1.lt
      go_wp2_with fail
      refine (isNum_any 1004 _).mono ?_
      rw [HZ.out]
      rintro e w' ⟨rfl, rfl⟩
      go_wp2_with fail
      refine (dip_any lo g r st _ X.out.1 hl (by omega) Hv.out).mono ?_
      rw [← HS.out]
      rintro e w4 hd
      have V := Lib.hid (hd.after X.out.2); clear hd
      obtain ⟨t, rfl, -⟩ := V.out
      go_wp2
      go_ret
      exact V.out.as HF.out
    · have HS := Lib.hid (step_call (r := r) hl hv)
      have HF := Lib.hid (full_op (r := r) (z := 1005) (by omega) (by omega) hl hv)
      have HZ : Hid (isNumB 1005 = false) := Lib.hid rfl
      clear hw hok hv
      generalize stepR (1005 :: r) st = R at *
      go_enter Try.func14, Try.ntmps14
      go_wp2_with fail
      refine (popN lo g 1005 r st _ H.out (by omega)).mono ?_
      rintro e w1 ⟨rfl, q1, q2, q3⟩
      have X := Lib.hid (And.intro q2 q3); clear q1 q2 q3
      have hlt1 := X.out.1.lt
      go_wp2_with fail
      refine (isNum_any 1005 _).mono ?_
      rw [HZ.out]
      rintro e w' ⟨rfl, rfl⟩
      go_wp2_with fail
      refine (call_any lo g r st _ X.out.1 hl (by omega) Hv.out).mono ?_
      rw [← HS.out]
      rintro e w4 hd
      have V := Lib.hid (hd.after X.out.2); clear hd
      obtain ⟨t, rfl, -⟩ := V.out
      go_wp2
      go_ret
      exact V.out.as HF.out
    · have hz9 : 1006 ≤ z ∧ z ≤ 1009 := by omega
      have HS := Lib.hid (step_reck (r := r) hz9 hl hv)
      have HF := Lib.hid (full_op (r := r) (z := z) (by omega) (by omega) hl hv)
      have HZ : Hid (isNumB z = false) := Lib.hid (by simp [isNumB]; omega)
      clear hw hok hv hz9
      generalize stepR (z :: r) st = R at *
      rcases hz with rfl | rfl | rfl | rfl
      all_goals
        go_enter Try.func14, Try.ntmps14
        go_wp2_with fail
        refine (popN lo g _ r st _ H.out (by omega)).mono ?_
        rintro e w1 ⟨rfl, q1, q2, q3⟩
        have X := Lib.hid (And.intro q2 q3); clear q1 q2 q3
        have hlt1 := X.out.1.lt
        go_wp2_with fail
        refine (isNum_any _ _).mono ?_
        rw [HZ.out]
        rintro e w' ⟨rfl, rfl⟩
        go_wp2_with fail
        refine (reckon_any _ lo g r st _ X.out.1 hl Hv.out).mono ?_
        rw [← HS.out]
        rintro e w4 hd
        have V := Lib.hid (hd.after X.out.2); clear hd
        obtain ⟨t, rfl, -⟩ := V.out
        go_wp2
        go_ret
        exact V.out.as HF.out
    · have HS := Lib.hid (step_if (r := r) hl hv)
      have HF := Lib.hid (full_op (r := r) (z := 1010) (by omega) (by omega) hl hv)
      have HZ : Hid (isNumB 1010 = false) := Lib.hid rfl
      clear hw hok hv
      generalize stepR (1010 :: r) st = R at *
      go_enter Try.func14, Try.ntmps14
      go_wp2_with fail
      refine (popN lo g 1010 r st _ H.out (by omega)).mono ?_
      rintro e w1 ⟨rfl, q1, q2, q3⟩
      have X := Lib.hid (And.intro q2 q3); clear q1 q2 q3
      have hlt1 := X.out.1.lt
      go_wp2_with fail
      refine (isNum_any 1010 _).mono ?_
      rw [HZ.out]
      rintro e w' ⟨rfl, rfl⟩
      go_wp2_with fail
      refine (choose_any lo g r st _ X.out.1 hl (by omega) Hv.out).mono ?_
      rw [← HS.out]
      rintro e w4 hd
      have V := Lib.hid (hd.after X.out.2); clear hd
      obtain ⟨t, rfl, -⟩ := V.out
      go_wp2
      go_ret
      exact V.out.as HF.out
    · have HS := Lib.hid (step_times (r := r) hl hv)
      have HF := Lib.hid (full_op (r := r) (z := 1011) (by omega) (by omega) hl hv)
      have HZ : Hid (isNumB 1011 = false) := Lib.hid rfl
      clear hw hok hv
      generalize stepR (1011 :: r) st = R at *
      go_enter Try.func14, Try.ntmps14
      go_wp2_with fail
      refine (popN lo g 1011 r st _ H.out (by omega)).mono ?_
      rintro e w1 ⟨rfl, q1, q2, q3⟩
      have X := Lib.hid (And.intro q2 q3); clear q1 q2 q3
      have hlt1 := X.out.1.lt
      go_wp2_with fail
      refine (isNum_any 1011 _).mono ?_
      rw [HZ.out]
      rintro e w' ⟨rfl, rfl⟩
      go_wp2_with fail
      refine (times_any lo g r st _ X.out.1 hl (by omega) Hv.out).mono ?_
      rw [← HS.out]
      rintro e w4 hd
      have V := Lib.hid (hd.after X.out.2); clear hd
      obtain ⟨t, rfl, -⟩ := V.out
      go_wp2
      go_ret
      exact V.out.as HF.out
    · obtain ⟨n, hc, hn, hs⟩ := step_quote hok
      have HS := Lib.hid hs; clear hs
      have HF : Hid (stepR (1012 :: r) st = none → true = fullB (1012 :: r) st) := Lib.hid (fun _ => by rw [fullB, l2R, if_neg (by omega), if_pos rfl]; rfl)
      have HZ : Hid (isNumB 1012 = false) := Lib.hid rfl
      have Hc := Lib.hid hc; clear hc
      clear hw hok hv
      generalize stepR (1012 :: r) st = R at *
      go_enter Try.func14, Try.ntmps14
      go_wp2_with fail
      refine (popN lo g 1012 r st _ H.out (by omega)).mono ?_
      rintro e w1 ⟨rfl, q1, q2, q3⟩
      have X := Lib.hid (And.intro q2 q3); clear q1 q2 q3
      have hlt1 := X.out.1.lt
      go_wp2_with fail
      refine (isNum_any 1012 _).mono ?_
      rw [HZ.out]
      rintro e w' ⟨rfl, rfl⟩
      go_wp2_with fail
      refine (quoted_any lo g r n st _ X.out.1 Hc.out hn (by omega)).mono ?_
      rintro e w2 ⟨u, rfl, q1, q2, q3⟩
      have Y := Lib.hid (And.intro q1 (And.intro q2 (X.out.2.trans q3))); clear q1 q2 q3
      have hlt2 := Y.out.2.1.lt
      go_wp2_with fail
      refine (put_any lo g (r.drop n) st u (1012 :: r.take n) _ Y.out.2.1 Y.out.1 hl).mono ?_
      rw [← HS.out]
      rintro e w4 hd
      have V := Lib.hid (hd.after Y.out.2.2); clear hd
      obtain ⟨t, rfl, -⟩ := V.out
      go_wp2
      go_ret
      exact V.out.as HF.out
    · exfalso
      have := hok.1
      simp only [restB, Bool.and_eq_true] at this
      have h2 := this.2
      have hb : brk 1013 = -1 := rfl
      rw [fitsFrom, hb] at h2
      simp at h2
end Go.Proofs.Ytenaeiedoiepdaa
namespace Go.Proofs.Ytenaeiedoiepdaa
set_option maxRecDepth 100000
open Go.RowKit Go.WideShapes

def NewPost (r : List Int) (s : List (List Int)) (w : World) (e : Ending) (w' : World) : Prop := ∃ g, e = .returned (.pointer (some ⟨g, 0, none⟩)) ∧ Run w' w.heap.size g r s.reverse ∧ Below w.heap.size w w'
theorem newRunner_any (v0 v1 : Value) (r : List Int) (s : List (List Int)) (w : World) (h0 : RdI w v0 r) (h1 : RdS w v1 s) (hl : r.length ≤ 500000000) (hs : s.length ≤ 1000) :
    Calls Try.prog 13 #[v0, v1] w (NewPost r s w) := by
  have hb : Below w.heap.size w (w.alloc (.cells #[.slice none 0 0, .slice none 0 0, .bool false] 56)) := (Below.refl _ _).alloc (Nat.le_refl _) _
  have hrun : Run (w.alloc (.cells #[.slice none 0 0, .slice none 0 0, .bool false] 56)) w.heap.size w.heap.size [] [] :=
    ⟨_, _, [], Blk.new w _ _, Nat.le_refl _, World.ownsRow_nil _ _ _ _, by simp, rfl, World.ownsRow_nil _ _ _ _, by simp⟩
  have hv0 : Val (w.alloc (.cells #[.slice none 0 0, .slice none 0 0, .bool false] 56)) w.heap.size v0 r := hrun.below_val (h0.at_.below hb)
  have H := Lib.hid (And.intro hrun (And.intro hv0 hb)); clear hrun hv0 hb h0
  obtain ⟨A, c, rfl, hm, hr⟩ := h1
  have Hr := Lib.hid hr; clear hr
  go_enter Try.func13, Try.ntmps13
  go_wp2_with fail
  refine (ahead_any w.heap.size w.heap.size [] [] v0 r _ H.out.1 H.out.2.1 (by simp; omega)).mono ?_
  rw [List.append_nil]
  rintro e w1 ⟨rfl, q1, q2⟩
  have X := Lib.hid (And.intro q1 (H.out.2.2.trans q2.below)); clear q1 q2 H
  go_wp2
  go_loopw [15] (fun i wr => ∃ k : Nat, k ≤ s.length ∧ i = .int .i64 k ∧ Run wr w.heap.size w.heap.size r (s.take k).reverse ∧ Below w.heap.size w wr) (fun i _ => s.length - (intOf i).toNat)
  case atStart => exact ⟨0, Nat.zero_le _, rfl, by simpa using X.out.1, X.out.2⟩
  case round =>
    clear X
    obtain ⟨k, hk, rfl, hrk, hbk⟩ := hrel
    have X := Lib.hid (And.intro hrk hbk); clear hrk hbk
    by_cases hlt : k < s.length
    · obtain ⟨b, off, rfl, hb, hc⟩ := Hr.out (by omega)
      have hz : s[k]? = some s[k] := List.getElem?_eq_getElem hlt
      have ht : (s.take (k + 1)).reverse = s[k] :: (s.take k).reverse := by rw [List.take_add_one, hz]; simp only [Option.toList_some, List.reverse_append, List.reverse_cons, List.reverse_nil, List.nil_append, List.cons_append]
      obtain ⟨u, hcell, hu⟩ := hc k _ hz
      replace hcell := (X.out.2.cell (p := ⟨b, off + k, none⟩) hb).trans hcell
      have hval := X.out.1.below_val (hu.below X.out.2)
      have Y := Lib.hid (And.intro hval ht); clear hval ht hu hc hz
      generalize s[k] = zs at *
      have hltr := X.out.1.lt
      have hltI : (k : Int) < s.length := by omega
      have hkl : (s.take k).reverse.length ≤ 1000 := by simp; omega
      have Hkl := Lib.hid hkl; clear hkl
      go_wp2_with fail
      refine (pushV w.heap.size w.heap.size r (s.take k).reverse u zs _ X.out.1 Y.out.1 Hkl.out).mono ?_
      rintro e w2 ⟨rfl, q1, q2, _⟩
      rw [← Y.out.2] at q1
      have Z := Lib.hid (And.intro q1 (X.out.2.trans q2.below)); clear q1 q2
      go_wp2
      go_roundw
      case rel => exact ⟨k + 1, by omega, by go_num, Z.out⟩
      case measure => simp [intOf]; omega
    · have hall : s.take k = s := List.take_of_length_le (by omega)
      rw [hall] at X
      clear hall
      go_wp2
      go_ret
      exact ⟨_, rfl, X.out⟩

theorem RunAt.rdS {w : World} {lo g : Nat} {vr vs : Value} {us : List Value} {rest : List Int} {st : List (List Int)} (h : RunAt w lo g vr vs us rest st) : RdS w vs st.reverse := by
  rcases hq : h.vals.2 with ⟨rfl, h0⟩ | ⟨g2, cap, cur, rfl, hb, hh, h1, h2, h3⟩
  · exact ⟨none, 0, by simp [h0], by simp [h0], fun h1 => by simp [h0] at h1⟩
  · refine ⟨_, cap, by rw [List.length_reverse], ?_, fun h4 => ⟨g2, 0, rfl, (h.vals.lt g2 rfl).2, fun j zs hj => ?_⟩⟩
    · rw [List.length_reverse]; unfold maxLen at h2; omega
    · have hjl : j < st.length := by
        rcases Nat.lt_or_ge j st.length with h' | h'
        · exact h'
        · rw [List.getElem?_eq_none (by simpa using h')] at hj; cases hj
      have hu : us[j]? = some (us[j]'(by rw [h.len]; exact hjl)) := List.getElem?_eq_getElem _
      refine ⟨_, ?_, (h.inner j _ zs hu hj).1⟩
      rw [Nat.zero_add, h.vals.cellAt j (by omega), hu]

theorem stackValues_any (lo g : Nat) (rest : List Int) (st : List (List Int)) (w : World) (h : Run w lo g rest st) (hl : st.length ≤ 20) (hv : ∀ v ∈ st, valueB v = true) :
    Calls Try.prog 16 #[.pointer (some ⟨g, 0, none⟩)] w fun e w' => ∃ u, e = .returned u ∧ OwnS w' w.heap.size w'.heap.size u st.reverse ∧ Below w.heap.size w w' := by
  obtain ⟨vr, vs, us, h⟩ := h
  have hg := h.blk.lt
  have hrd := h.rdS
  have c1 := h.blk.cell 1
  simp only [List.getElem?_toArray, List.getElem?_cons_zero, List.getElem?_cons_succ] at c1
  clear h
  have hv2 : ∀ v ∈ st.reverse, v.length ≤ 1000000 := fun v hv' => by have := valueB_len (hv v (by simpa using hv')); omega
  have hl2 : st.reverse.length ≤ 100000 := by simp; omega
  generalize st.reverse = zss at *
  have HR := Lib.hid hrd; clear hrd
  have Hl := Lib.hid (And.intro hl2 hv2); clear hl2 hv2 hv hl
  go_enter Try.func16, Try.ntmps16
  go_wp2_with fail
  refine (cloneRows_any vs zss _ HR.out Hl.out.1 Hl.out.2).mono ?_
  rintro e w2 ⟨u, rfl, hu, hb⟩
  have X := Lib.hid (And.intro hu hb); clear hu hb
  go_wp2
  go_ret
  exact ⟨u, rfl, X.out.1, X.out.2⟩
end Go.Proofs.Ytenaeiedoiepdaa
namespace Go.Proofs.Ytenaeiedoiepdaa
set_option maxRecDepth 100000
open Go.RowKit Go.WideShapes

theorem runR_next {f k : Nat} {z : Int} {r : List Int} {st : List (List Int)} {x : List Int × List (List Int)} {o : Option (List (List Int) × Nat)} (hs : stepR (z :: r) st = some x) (h : o = (runR (f + 1) (z :: r) st).map (fun y => (y.1, y.2 + k))) : o = (runR f x.1 x.2).map (fun y => (y.1, y.2 + (k + 1))) := by
  rw [h, runR, hs]
  dsimp only
  rw [Option.map_map]
  congr 1
  funext y
  simp only [Function.comp]
  congr 1
  omega
theorem runR_stop {f k : Nat} {z : Int} {r : List Int} {st : List (List Int)} {o : Option (List (List Int) × Nat)} (hs : stepR (z :: r) st = none) (h : o = (runR f (z :: r) st).map (fun y => (y.1, y.2 + k))) : o = none := by
  rw [h]
  rcases f with _ | f
  · rfl
  · rw [runR, hs]; rfl
theorem stackB_rev {st : List (List Int)} (h : stackB st = true) : stackB st.reverse = true := by rw [stackB_reverse]; exact h

/-- Why a run of so many steps at most stops (0 done, 1 short, 2 long, 3 full), and how many steps are done before. -/
def whyB (r : List Int) (st : List (List Int)) : Int := if fullB r st = true then 3 else 1
def stopR : Nat → List Int → List (List Int) → Int × Nat
  | _, [], _ => (0, 0)
  | 0, w :: r, st => match stepR (w :: r) st with
    | none => (whyB (w :: r) st, 0)
    | some _ => (2, 0)
  | f + 1, w :: r, st => match stepR (w :: r) st with
    | none => (whyB (w :: r) st, 0)
    | some x => ((stopR f x.1 x.2).1, (stopR f x.1 x.2).2 + 1)
theorem stopR_nil (f : Nat) (st : List (List Int)) : stopR f [] st = (0, 0) := by cases f <;> rfl
theorem whyB_ne (r : List Int) (st : List (List Int)) : whyB r st = 3 ∨ whyB r st = 1 := by unfold whyB; split <;> simp
theorem stopR_run {f : Nat} {r : List Int} {st : List (List Int)} : (∀ x, runR f r st = some x → stopR f r st = (0, x.2)) ∧ (runR f r st = none → (stopR f r st).1 ≠ 0) := by
  induction f generalizing r st with
  | zero =>
    rcases r with _ | ⟨w, r⟩
    · exact ⟨fun x hx => by cases hx; rfl, fun h => by cases h⟩
    · refine ⟨fun x hx => (by cases hx), fun _ => ?_⟩
      rw [stopR]
      rcases stepR (w :: r) st with _ | y
      · rcases whyB_ne (w :: r) st with h | h <;> simp [h]
      · simp
  | succ f ih =>
    rcases r with _ | ⟨w, r⟩
    · exact ⟨fun x hx => by cases hx; rfl, fun h => by cases h⟩
    · rw [stopR, runR]
      rcases stepR (w :: r) st with _ | y
      · refine ⟨fun x hx => (by cases hx), fun _ => ?_⟩
        rcases whyB_ne (w :: r) st with h | h <;> simp [h]
      · obtain ⟨i1, i2⟩ := @ih y.1 y.2
        refine ⟨fun x hx => ?_, fun hx => ?_⟩
        · obtain ⟨z, hz, rfl⟩ := Option.map_eq_some_iff.1 hx
          simp only [i1 z hz]
        · exact i2 (Option.map_eq_none_iff.1 hx)
theorem stopR_next {f k : Nat} {z : Int} {r : List Int} {st : List (List Int)} {x : List Int × List (List Int)} {a : Int} {n : Nat} (hs : stepR (z :: r) st = some x) (h : (a, n) = ((stopR (f + 1) (z :: r) st).1, (stopR (f + 1) (z :: r) st).2 + k)) : (a, n) = ((stopR f x.1 x.2).1, (stopR f x.1 x.2).2 + (k + 1)) := by
  rw [h, stopR, hs]
  simp only [Prod.mk.injEq, true_and]
  omega
theorem stopR_stop {f k : Nat} {z : Int} {r : List Int} {st : List (List Int)} {a : Int} {n : Nat} (hs : stepR (z :: r) st = none) (h : (a, n) = ((stopR f (z :: r) st).1, (stopR f (z :: r) st).2 + k)) : a = whyB (z :: r) st ∧ n = k := by
  cases f <;> rw [stopR, hs] at h <;> simpa using h
theorem stopR_long {z : Int} {r : List Int} {st : List (List Int)} {x : List Int × List (List Int)} {a : Int} {n k : Nat} (hs : stepR (z :: r) st = some x) (h : (a, n) = ((stopR 0 (z :: r) st).1, (stopR 0 (z :: r) st).2 + k)) : a = 2 ∧ n = k := by
  rw [stopR, hs] at h; simpa using h
/-- How a program stops on a stack. -/
def stopOfR (p : List Int) (s : List (List Int)) : Int × Int :=
  if validB p = true ∧ stackB s = true then ((stopR 2000 p s.reverse).1, (((stopR 2000 p s.reverse).2 : Nat) : Int)) else (-1, 0)

def WRel (p : List Int) (s : List (List Int)) (lo g : Nat) (a : Int) (n : Nat) (w : World) (c : Value) (wr : World) : Prop := ∃ (k : Nat) (rest : List Int) (st : List (List Int)), c = .int .i64 k ∧ k ≤ 2000 ∧ Run wr lo g rest st ∧ okS rest st ∧ rest.length ≤ 60 + 125 * k ∧
  runR 2000 p s = (runR (2000 - k) rest st).map (fun y => (y.1, y.2 + k)) ∧ (a, n) = ((stopR (2000 - k) rest st).1, (stopR (2000 - k) rest st).2 + k) ∧ Below lo w wr
def RunDone (p : List Int) (s : List (List Int)) (lo g : Nat) (a : Int) (n : Nat) (w : World) (e : Ending) (w' : World) : Prop := e = .returned (.tuple #[.int .i64 a, .int .i64 (n : Int)]) ∧ Below lo w w' ∧ ∀ x, runR 2000 p s = some x → Run w' lo g [] x.1
end Go.Proofs.Ytenaeiedoiepdaa
