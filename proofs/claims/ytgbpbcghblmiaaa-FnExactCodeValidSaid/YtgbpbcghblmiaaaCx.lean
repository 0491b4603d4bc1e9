/- Chapter 6: CodeValid of the model, at a code by value. -/
import Derived.Test.YtgbpbcghblmiaaaCw
namespace Go.Proofs.Ytgbpbcghblmiaaa
set_option maxRecDepth 100000
open Go.RowKit Go.WideShapes Go.Deep

def modB (ms : List (Int × Int)) (fr : List Int) : Bool :=
  decide (1 ≤ fr.length) && decide (fr.length ≤ 60) && decide (ms.length ≤ 120) && decide (fr = (0 :: endsR 0 ms).take (endsR 0 ms).length) && decide ((0 :: endsR 0 ms).getD (endsR 0 ms).length 0 = (ms.length : Int)) && decide (0 < (endsR 0 ms).length)
theorem codeB_model {ms : List (Int × Int)} {fr : List Int} (h : ms.all (insOkR fr.length) = true) : codeB ms fr = modB ms fr := by
  rcases List.eq_nil_or_concat ms with rfl | ⟨ini, m, rfl⟩
  · simp [codeB, modB, endsB, endsR]
  · rw [List.concat_eq_append] at h ⊢
    have hE : endsR 0 (ini ++ [m]) = endsR 0 ini ++ (if m.1 = 3 then [((ini.length + 1 : Nat) : Int)] else []) := by
      rw [endsR_append, Nat.zero_add]; simp [endsR]
    have hB : endsB (ini ++ [m]) = decide (m.1 = 3) := by simp [endsB]
    have hD : (ini ++ [m]).dropLast = ini := List.dropLast_concat
    have hL : (ini ++ [m]).length = ini.length + 1 := by simp
    rw [Bool.eq_iff_iff]
    unfold codeB modB
    rw [h, hB, hD, hL]
    simp only [Bool.and_eq_true, decide_eq_true_eq, and_true]
    by_cases h3 : m.1 = 3
    · rw [if_pos h3] at hE
      have e1 : (endsR 0 (ini ++ [m])).length = (endsR 0 ini).length + 1 := by rw [hE]; simp
      have e2 : (0 :: endsR 0 (ini ++ [m])).take (endsR 0 (ini ++ [m])).length = 0 :: endsR 0 ini := by
        rw [e1, hE, List.take_succ_cons, List.take_left' rfl]
      have e3 : (0 :: endsR 0 (ini ++ [m])).getD (endsR 0 (ini ++ [m])).length 0 = ((ini.length + 1 : Nat) : Int) := by
        rw [e1, hE, List.getD_cons_succ, List.getD, List.getElem?_append_right (Nat.le_refl _), Nat.sub_self]; rfl
      rw [e2, e3, e1]
      constructor
      · rintro ⟨⟨⟨a1, a2⟩, _⟩, a4⟩
        exact ⟨⟨⟨⟨⟨by rw [a4]; simp, a1⟩, a2⟩, a4⟩, rfl⟩, by omega⟩
      · rintro ⟨⟨⟨⟨⟨_, a1⟩, a2⟩, a4⟩, _⟩, _⟩
        exact ⟨⟨⟨a1, a2⟩, h3⟩, a4⟩
    · rw [if_neg h3, List.append_nil] at hE
      rw [hE]
      constructor
      · rintro ⟨⟨_, a3⟩, _⟩; exact absurd a3 h3
      · rintro ⟨⟨_, a5⟩, a6⟩
        exfalso
        rcases hF : endsR 0 ini with _ | ⟨z, E⟩
        · rw [hF] at a6; simp at a6
        · rw [hF] at a5
          have hmem : (z :: E).getD E.length 0 ∈ endsR 0 ini := by
            rw [hF, List.getD, List.getElem?_eq_getElem (by simp), Option.getD_some]
            exact List.getElem_mem _
          have := (endsR_le hmem).2
          rw [List.length_cons, List.getD_cons_succ] at a5
          omega

theorem l6Ok_any (k a n : Int) (w : World) (hn : 0 ≤ n ∧ n ≤ 9223372036854775807) (y : Bool) (hy : insOkR n (k, a) = y) :
    Calls Try.prog 26 #[.agg #[.int .i64 k, .int .i64 a], .int .i64 n] w fun e w' => e = .returned (.bool y) ∧ Below w.heap.size w w' := by
  have hb : Below w.heap.size w (w.alloc (.cells #[.int .i64 k, .int .i64 a] 51)) := (Below.refl _ _).alloc (Nat.le_refl _) _
  have HB := Lib.hid hb; clear hb
  have HY := Lib.hid hy; clear hy
  by_cases k0 : k = 0
  · subst k0
    have hr := Lib.hid (show (decide (0 ≤ a) && decide (a ≤ 999)) = y by have := HY.out; simpa [insOkR, isNumB] using this)
    go_enter Try.func26, Try.ntmps26
    go_wp2_with fail
    refine (l1In_any a 0 999 _).mono ?_
    rw [hr.out]
    rintro e w' ⟨rfl, rfl⟩
    go_wp2
    go_ret
    exact ⟨rfl, HB.out⟩
  have b0 : (k == 0) = false := by simpa using k0
  by_cases k1 : k = 1
  · subst k1
    have hr := Lib.hid (show (decide (1 ≤ a) && decide (a ≤ n - 1)) = y by
      have h1 : insOkR n (1, a) = (decide (1 ≤ a) && decide (a < n)) := by simp [insOkR]
      rw [← HY.out, h1]
      congr 1
      rw [decide_eq_decide]; omega)
    clear k0 b0
    have m1 : IntKind.i64.wrap (n - 1) = n - 1 := IntWalk.i64_in _ (by omega)
    go_enter Try.func26, Try.ntmps26
    go_wp2_with fail
    refine (l1In_any a 1 (n - 1) _).mono ?_
    rw [hr.out]
    rintro e w' ⟨rfl, rfl⟩
    go_wp2
    go_ret
    exact ⟨rfl, HB.out⟩
  have b1 : (k == 1) = false := by simpa using k1
  by_cases k2 : k = 2
  · subst k2
    have hr := Lib.hid (show (decide (1001 ≤ a) && decide (a ≤ 1011)) = y by have := HY.out; simpa [insOkR] using this)
    clear k0 b0 k1 b1
    go_enter Try.func26, Try.ntmps26
    go_wp2_with fail
    refine (l1In_any a 1001 1011 _).mono ?_
    rw [hr.out]
    rintro e w' ⟨rfl, rfl⟩
    go_wp2
    go_ret
    exact ⟨rfl, HB.out⟩
  have b2 : (k == 2) = false := by simpa using k2
  by_cases k3 : k = 3
  · subst k3
    have hr := Lib.hid (show decide (a = 0) = y by have := HY.out; simpa [insOkR] using this)
    clear k0 b0 k1 b1 k2 b2
    by_cases ha : a = 0
    · subst ha
      obtain rfl : true = y := by rw [← hr.out]; simp
      go_enter Try.func26, Try.ntmps26
      go_wp2
      go_ret
      exact ⟨rfl, HB.out⟩
    · have hab : (a == 0) = false := by simpa using ha
      obtain rfl : false = y := by rw [← hr.out]; simp [ha]
      go_enter Try.func26, Try.ntmps26
      go_wp2
      go_ret
      exact ⟨rfl, HB.out⟩
  have b3 : (k == 3) = false := by simpa using k3
  have HZ : Hid (false = y) := Lib.hid (by rw [← HY.out]; simp [insOkR, k0, k1, k2, k3])
  go_enter Try.func26, Try.ntmps26
  go_wp2
  go_ret
  exact ⟨ret_bool HZ.out, HB.out⟩

theorem OwnI.taken {w : World} {lo hi c : Nat} {A : Option Addr} {zs : List Int} {n : Nat} (h : OwnI w lo hi (.slice A zs.length c) zs) (hn : n ≤ zs.length) : RdI w (.slice A n c) (zs.take n) := by
  obtain ⟨A', c', e, hi', hc⟩ := h.rd
  cases e
  have hln : (zs.take n).length = n := by rw [List.length_take]; omega
  refine ⟨A, c, by rw [hln], ⟨by rw [hln]; have := hi'.len; omega, fun z hz => hi'.wf z (List.mem_of_mem_take hz), fun h0 => ?_⟩, by rw [hln]; omega⟩
  rw [hln] at h0
  obtain ⟨b, off, e2, hb, hcc⟩ := hi'.at_ (by omega)
  refine ⟨b, off, e2, hb, fun j hj => ?_⟩
  rw [hln] at hj
  rw [hcc j (by omega)]
  simp only [List.getD, List.getElem?_take, if_pos hj]
theorem l1SameQ (v u : Value) (xs ys : List Int) (w : World) (hx : RdI w v xs) (hy : RdI w u ys) (b : Bool) (hb : decide (xs = ys) = b) :
    Calls Try.prog 28 #[v, u] w fun e w' => e = .returned (.bool b) ∧ ∃ n, w' = w.drewN n := by
  subst hb
  obtain ⟨A, c, rfl, hi, _⟩ := hx
  obtain ⟨A', c', rfl, hi', _⟩ := hy
  exact l1Same_any A A' c c' xs ys w hi hi'

theorem l1InQ (n lo hi : Int) (w : World) (b : Bool) (hb : (decide (lo ≤ n) && decide (n ≤ hi)) = b) :
    Calls Try.prog 27 #[.int .i64 n, .int .i64 lo, .int .i64 hi] w fun e w' => e = .returned (.bool b) ∧ ∃ k, w' = w.drewN k := by
  refine (l1In_any n lo hi w).mono ?_
  rintro e w' ⟨rfl, rfl⟩
  exact ⟨by rw [hb], 0, rfl⟩
set_option maxHeartbeats 8000000 in
theorem CodeValid_S (A0 : Option Addr) (c0 : Nat) (ms : List (Int × Int)) (A1 : Option Addr) (c1 : Nat) (fr : List Int) (w : World) (h0 : RdM w (.slice A0 ms.length c0) ms) (hl0 : ms.length ≤ 1048576) (h1 : RdI w (.slice A1 fr.length c1) fr) (hl1 : fr.length ≤ 1048576) (y : Bool) (hy : codeB ms fr = y) :
    Calls Try.prog 8 #[.agg #[.slice A0 ms.length c0, .slice A1 fr.length c1]] w fun e w' => e = .returned (.bool y) ∧ Below w.heap.size w w' := by
  have hb : Below w.heap.size w (w.alloc (.cells #[.slice A0 ms.length c0, .slice A1 fr.length c1] 30)) := (Below.refl _ _).alloc (Nat.le_refl _) _
  have hbl : Below (w.heap.size + 1) (w.alloc (.cells #[.slice A0 ms.length c0, .slice A1 fr.length c1] 30)) ((w.alloc (.cells #[.slice A0 ms.length c0, .slice A1 fr.length c1] 30)).alloc (.cells #[.int .i64 0] 3)) := (Below.refl _ _).alloc (by simp) _
  have hbk := (Blk.new w #[.slice A0 ms.length c0, .slice A1 fr.length c1] 30).below hbl (by omega)
  have hlit := lits_own (w.alloc (.cells #[.slice A0 ms.length c0, .slice A1 fr.length c1] 30)) [0] (by simp) (by intro z hz; simp only [List.mem_cons, List.not_mem_nil, or_false] at hz; subst hz; exact wf_near _ (by omega))
  have hb2 := hb.trans (hbl.mono (by omega))
  have H := Lib.hid (And.intro hb2 (And.intro (RdBM.below (RdBM.at_ h0) hb2) (And.intro (h1.at_.below hb2) (And.intro hbk (show OwnI ((w.alloc (.cells #[.slice A0 ms.length c0, .slice A1 fr.length c1] 30)).alloc (.cells #[.int .i64 0] 3)) (w.heap.size + 1) (w.heap.size + 1 + 1) (.slice (some ⟨w.heap.size + 1, 0, none⟩) 1 1) [0] by simpa using hlit)))))
  clear h0 h1 hb hbl hbk hlit hb2
  have HY := Lib.hid hy; clear hy
  go_enter Try.func8, Try.ntmps8
  go_wp2
  go_loopw [3, 4] (fun v i wr => ∃ k : Nat, k ≤ ms.length ∧ i = .int .i64 k ∧ w.heap.size + 1 + 1 ≤ wr.heap.size ∧ Below w.heap.size w wr ∧ RdBM wr w.heap.size (.slice A0 ms.length c0) ms ∧ RdBI wr w.heap.size (.slice A1 fr.length c1) fr ∧ Blk wr w.heap.size #[.slice A0 ms.length c0, .slice A1 fr.length c1] 30 ∧ OwnI wr (w.heap.size + 1) wr.heap.size v (0 :: endsR 0 (ms.take k)) ∧ (ms.take k).all (insOkR fr.length) = true) (fun _ i _ => ms.length - (intOf i).toNat)
  case atStart => exact ⟨0, Nat.zero_le _, rfl, by simp, H.out.1, H.out.2.1, H.out.2.2.1, H.out.2.2.2.1, by simpa [endsR] using H.out.2.2.2.2, by simp⟩
  case round =>
    clear H
    obtain ⟨k, hk, rfl, hsz, r1, r2, r3, r4, r5, r6⟩ := hrel
    obtain ⟨g0, g1, _, _⟩ := blkTwo r4
    have R := Lib.hid (And.intro r1 (And.intro r2 (And.intro r3 (And.intro r4 (And.intro r5 r6))))); clear r1 r2 r3 r4 r5 r6
    by_cases hlt : k < ms.length
    · have hltI : (k : Int) < ms.length := by omega
      obtain ⟨A2, c2, e2, _, hr⟩ := R.out.2.1
      cases e2
      obtain ⟨b, off, rfl, hbb, hcc⟩ := hr (by omega)
      obtain ⟨m, hm⟩ : ∃ m, ms[k]? = some m := ⟨_, List.getElem?_eq_getElem hlt⟩
      obtain ⟨d0, d1⟩ := hcc k m hm
      have hel := endsR_take hm
      have HM := Lib.hid (And.intro hm hel)
      clear hcc hr hm hel
      obtain ⟨z, a⟩ := m
      dsimp only at d0 d1
      have hd : Below wr.heap.size wr wr.drew := (Below.refl _ _).drew
      rcases ho : insOkR fr.length (z, a) with _ | _ <;> have HO := Lib.hid ho <;> clear ho
      · have hyf : false = y := by
          rw [← HY.out]; symm
          unfold codeB
          have : ms.all (insOkR fr.length) = false := by
            rw [List.all_eq_false]
            exact ⟨_, List.mem_of_getElem? HM.out.1, by rw [HO.out]; simp⟩
          rw [this]; simp
        subst hyf
        go_wp2_with fail
        go_region_with (go_at_call 26; refine (l6Ok_any z a fr.length _ (by omega) false HO.out).mono ?_; rintro e w2 ⟨rfl, hb2⟩)
        all_goals
          have hz2 : wr.heap.size ≤ w2.heap.size := hb2.size
          have V := Lib.hid (R.out.1.trans ((hd.trans hb2).mono (by omega))); clear hb2
          go_wp2
          go_ret
          exact ⟨rfl, V.out⟩
      · go_wp2_with fail
        go_region_with (go_at_call 26; refine (l6Ok_any z a fr.length _ (by omega) true HO.out).mono ?_; rintro e w2 ⟨rfl, hb2⟩)
        all_goals
          have hz2 : wr.heap.size ≤ w2.heap.size := hb2.size
          have hbt : Below wr.heap.size wr w2 := hd.trans hb2
          have hall : (ms.take (k + 1)).all (insOkR fr.length) = true := by
            rw [List.take_add_one, HM.out.1, List.all_append, R.out.2.2.2.2.2]; simp [HO.out]
          have hel2 := HM.out.2
          obtain ⟨E, hE⟩ : ∃ E, 0 :: endsR 0 (ms.take k) = E := ⟨_, rfl⟩
          have hEl : E.length ≤ 1048580 := by
            have := endsR_len 0 (ms.take k)
            rw [List.length_take] at this
            rw [← hE, List.length_cons]; omega
          have V := Lib.hid (And.intro (R.out.1.trans (hbt.mono (by omega))) (And.intro (R.out.2.1.below (hbt.mono (by omega))) (And.intro (R.out.2.2.1.below (hbt.mono (by omega))) (And.intro (R.out.2.2.2.1.below hbt (by omega)) (And.intro (show OwnI w2 (w.heap.size + 1) wr.heap.size u3 E by rw [← hE]; exact R.out.2.2.2.2.1.below hbt) (And.intro hall (And.intro hel2 hE)))))))
          have f0 := (hbt.cell (p := ⟨b, off + k * 2, none⟩) (by simp only; omega)).trans d0
          have f1 := (hbt.cell (p := ⟨b, off + k * 2 + 1, none⟩) (by simp only; omega)).trans d1
          obtain ⟨k0, k1, _, _⟩ := blkTwo V.out.2.2.2.1
          clear hall hel2 hE hb2 hbt
          by_cases h3 : z = 3
          · subst h3
            have hlit := lits_own w2 [((k : Int) + 1)] (by simp) (by intro z hz; simp only [List.mem_cons, List.not_mem_nil, or_false] at hz; subst hz; unfold InK; exact WalkArith.wf_i64 (by omega))
            have hbl : Below w2.heap.size w2 (w2.alloc (.cells #[.int .i64 ((k : Int) + 1)] 3)) := (Below.refl _ _).alloc (Nat.le_refl _) _
            have L := Lib.hid (And.intro (V.out.2.2.2.2.1.below hbl) (And.intro (show OwnI (w2.alloc (.cells #[.int .i64 ((k : Int) + 1)] 3)) w2.heap.size (w2.heap.size + 1) (.slice (some ⟨w2.heap.size, 0, none⟩) 1 1) [((k : Int) + 1)] by simpa using hlit) hbl)); clear hlit hbl
            have m1 : IntKind.i64.wrap ((k : Int) + 1) = (k : Int) + 1 := IntWalk.i64_in _ (by omega)
            go_wp2_with (at_builtin; go_loud (refine wpList_append_V rfl _ _ _ rfl Try.underlying23 intInfo (w.heap.size + 1) wr.heap.size _ E rfl L.out.1 (by simp; omega) _ [((k : Int) + 1)] rfl L.out.2.1.rd (by simp; omega) ?_))
            intro v w4 ho4 hb4
            have hz4 : w2.heap.size + 1 ≤ w4.heap.size := by have := hb4.size; simpa using this
            have Z := Lib.hid (And.intro ((V.out.1.trans (L.out.2.2.mono (by omega))).trans (hb4.mono (by omega))) (And.intro ((V.out.2.1.below (L.out.2.2.mono (by omega))).below (hb4.mono (by omega))) (And.intro ((V.out.2.2.1.below (L.out.2.2.mono (by omega))).below (hb4.mono (by omega))) (And.intro ((V.out.2.2.2.1.below L.out.2.2 (by omega)).below hb4 (by omega)) ho4)))); clear hb4 ho4 L
            go_wp2
            go_roundw
            case rel => exact ⟨k + 1, by omega, by go_num, by omega, Z.out.1, Z.out.2.1, Z.out.2.2.1, Z.out.2.2.2.1, by rw [V.out.2.2.2.2.2.2.1, ← List.cons_append, V.out.2.2.2.2.2.2.2]; simpa using Z.out.2.2.2.2, V.out.2.2.2.2.2.1⟩
            case measure => simp [intOf]; omega
          · have b3 : (z == 3) = false := by simpa using h3
            have N3 := Lib.hid h3; clear h3
            go_wp2
            go_roundw
            case rel => exact ⟨k + 1, by omega, by go_num, by omega, V.out.1, V.out.2.1, V.out.2.2.1, V.out.2.2.2.1, by rw [V.out.2.2.2.2.2.2.1, if_neg N3.out, List.append_nil, V.out.2.2.2.2.2.2.2]; exact ⟨V.out.2.2.2.2.1.own, fun g hg => by have := V.out.2.2.2.2.1.lt g hg; omega⟩, V.out.2.2.2.2.2.1⟩
            case measure => simp [intOf]; omega
    · obtain rfl : k = ms.length := by omega
      have hall : ms.all (insOkR fr.length) = true := by have := R.out.2.2.2.2.2; rwa [List.take_length] at this
      have hym : modB ms fr = y := by rw [← codeB_model hall]; exact HY.out
      have hown : OwnI wr (w.heap.size + 1) wr.heap.size u3 (0 :: endsR 0 ms) := by have := R.out.2.2.2.2.1; rwa [List.take_length] at this
      have hel := endsR_len 0 ms
      obtain ⟨E, hE⟩ : ∃ E, endsR 0 ms = E := ⟨_, rfl⟩
      unfold modB at hym
      rw [hE] at hym hown hel
      obtain ⟨Av, cv, hv, hvi, hvc⟩ := hown.rd
      rw [List.length_cons] at hv hvc
      subst hv
      obtain ⟨bv, ov, rfl, hbv, hcv⟩ := hvi.at_ (by simp)
      have hlast := hcv E.length (by simp)
      obtain ⟨zl, hzl⟩ : ∃ zl, (0 :: E).getD E.length 0 = zl := ⟨_, rfl⟩
      rw [hzl] at hlast hym
      have htk : RdI wr (.slice (some ⟨bv, ov, none⟩) E.length cv) ((0 :: E).take E.length) := OwnI.taken (zs := 0 :: E) hown (by simp)
      have HQ := Lib.hid (And.intro htk (R.out.2.2.1.rd (by omega)))
      have HM2 := Lib.hid hym
      clear hym hown hall hE hvi hcv htk hzl
      have m1 : ((E.length : Int) + 1) - 1 = (E.length : Int) := by omega
      rcases b1 : (decide ((1 : Int) ≤ (fr.length : Int)) && decide ((fr.length : Int) ≤ 60)) with _ | _
      · have B1 := Lib.hid b1; clear b1
        have hyf : false = y := by
          rw [← HM2.out]; symm
          have h1 : (decide (1 ≤ fr.length) && decide (fr.length ≤ 60)) = false := by
            rw [← B1.out]; congr 1 <;> rw [decide_eq_decide] <;> omega
          rw [h1]; simp
        subst hyf
        go_wp2
        go_quiet (first
          | (go_at_call 28; go_loud (exact Calls.quiet_of (l1SameQ _ _ fr ((0 :: E).take E.length) _ (HQ.out.2.step (below_drewN (Below.refl _ _) _)) (HQ.out.1.step (below_drewN (Below.refl _ _) _)) true B3.out)))
          | (go_at_call 27; go_loud (exact Calls.quiet_of (l1InQ (fr.length : Int) 1 60 _ false B1.out))))
        go_wp2
        go_ret
        exact ⟨rfl, below_drewN R.out.1 _⟩
      have B1 := Lib.hid b1; clear b1
      have h1 : (decide (1 ≤ fr.length) && decide (fr.length ≤ 60)) = true := by
        rw [← B1.out]; congr 1 <;> rw [decide_eq_decide] <;> omega
      rw [h1, Bool.true_and] at HM2
      clear h1
      by_cases c2 : ms.length ≤ 120
      case neg =>
        have c2I : decide ((ms.length : Int) ≤ 120) = false := by simp; omega
        have hyf : false = y := by
          rw [← HM2.out]; symm
          rw [show decide (ms.length ≤ 120) = false from by simp; omega]; simp
        subst hyf
        go_wp2
        go_quiet (first
          | (go_at_call 28; go_loud (exact Calls.quiet_of (l1SameQ _ _ fr ((0 :: E).take E.length) _ (HQ.out.2.step (below_drewN (Below.refl _ _) _)) (HQ.out.1.step (below_drewN (Below.refl _ _) _)) true B3.out)))
          | (go_at_call 27; go_loud (exact Calls.quiet_of (l1InQ (fr.length : Int) 1 60 _ true B1.out))))
        go_wp2
        go_ret
        exact ⟨rfl, below_drewN R.out.1 _⟩
      have c2I : decide ((ms.length : Int) ≤ 120) = true := by simp; omega
      rw [show decide (ms.length ≤ 120) = true from by simp; omega, Bool.true_and] at HM2
      rcases b3 : decide (fr = (0 :: E).take E.length) with _ | _
      · have B3 := Lib.hid b3
        have hyf : false = y := by
          rw [← HM2.out, b3]; simp
        subst hyf
        clear b3
        go_wp2
        go_quiet (first
          | (go_at_call 28; go_loud (exact Calls.quiet_of (l1SameQ _ _ fr ((0 :: E).take E.length) _ (HQ.out.2.step (below_drewN (Below.refl _ _) _)) (HQ.out.1.step (below_drewN (Below.refl _ _) _)) false B3.out)))
          | (go_at_call 27; go_loud (exact Calls.quiet_of (l1InQ (fr.length : Int) 1 60 _ true B1.out))))
        go_wp2
        go_ret
        exact ⟨rfl, below_drewN R.out.1 _⟩
      have B3 := Lib.hid b3
      rw [b3, Bool.true_and] at HM2
      clear b3
      by_cases c4 : zl = (ms.length : Int)
      case neg =>
        have c4b : (zl == (ms.length : Int)) = false := by simpa using c4
        have hyf : false = y := by
          rw [← HM2.out]; symm
          rw [show decide (zl = (ms.length : Int)) = false from by simpa using c4]; simp
        subst hyf
        go_wp2
        go_quiet (first
          | (go_at_call 28; go_loud (exact Calls.quiet_of (l1SameQ _ _ fr ((0 :: E).take E.length) _ (HQ.out.2.step (below_drewN (Below.refl _ _) _)) (HQ.out.1.step (below_drewN (Below.refl _ _) _)) true B3.out)))
          | (go_at_call 27; go_loud (exact Calls.quiet_of (l1InQ (fr.length : Int) 1 60 _ true B1.out))))
        go_wp2
        go_ret
        exact ⟨rfl, below_drewN R.out.1 _⟩
      subst c4
      have c4b : ((ms.length : Int) == (ms.length : Int)) = true := by simp
      simp only [decide_true, Bool.true_and] at HM2
      by_cases c5 : 0 < E.length
      · have c5I : decide ((0 : Int) < (E.length : Int)) = true := decide_eq_true (by omega)
        obtain rfl : true = y := by rw [← HM2.out]; simpa using c5
        go_wp2
        go_quiet (first
          | (go_at_call 28; go_loud (exact Calls.quiet_of (l1SameQ _ _ fr ((0 :: E).take E.length) _ (HQ.out.2.step (below_drewN (Below.refl _ _) _)) (HQ.out.1.step (below_drewN (Below.refl _ _) _)) true B3.out)))
          | (go_at_call 27; go_loud (exact Calls.quiet_of (l1InQ (fr.length : Int) 1 60 _ true B1.out))))
        go_wp2
        go_ret
        exact ⟨rfl, below_drewN R.out.1 _⟩
      · have c5I : decide ((0 : Int) < (E.length : Int)) = false := decide_eq_false (by omega)
        obtain rfl : false = y := by rw [← HM2.out]; symm; simpa using c5
        go_wp2
        go_quiet (first
          | (go_at_call 28; go_loud (exact Calls.quiet_of (l1SameQ _ _ fr ((0 :: E).take E.length) _ (HQ.out.2.step (below_drewN (Below.refl _ _) _)) (HQ.out.1.step (below_drewN (Below.refl _ _) _)) true B3.out)))
          | (go_at_call 27; go_loud (exact Calls.quiet_of (l1InQ (fr.length : Int) 1 60 _ true B1.out))))
        go_wp2
        go_ret
        exact ⟨rfl, below_drewN R.out.1 _⟩
end Go.Proofs.Ytgbpbcghblmiaaa
