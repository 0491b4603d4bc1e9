/- Chapter 9: TwiceOf, the model's; and what follows of both. -/
import Derived.Test.YtaehaalaeikloaaYh
import Derived.Test.YtaehaalaeikloaaYe
namespace Go.Proofs.Ytaehaalaeikloaa
set_option maxRecDepth 100000
open Go.RowKit Go.WideShapes

theorem l1Same9 (v u : Value) (xs ys : List Int) (w : World) (hx : RdI w v xs) (hy : RdI w u ys) (b : Bool) (hb : decide (xs = ys) = b) :
    Calls Try.prog 82 #[v, u] w fun e w' => e = .returned (.bool b) ∧ ∃ n, w' = w.drewN n := by
  subst hb
  obtain ⟨A, c, rfl, hi, _⟩ := hx
  obtain ⟨A', c', rfl, hi', _⟩ := hy
  exact l1Same_any A A' c c' xs ys w hi hi'
theorem l9At_any (A B : Option Addr) (c d k : Nat) (row ws : List Int) (w : World) (hw : 1 ≤ ws.length) (hwl : ws.length ≤ 2000000) (hk : k ≤ row.length) (hrl : row.length ≤ 2000000) (h0 : RdI w (.slice A row.length c) row) (h1 : RdI w (.slice B ws.length d) ws) (y : Bool) (hy : bgB ws (row.drop k) = y) :
    Calls Try.prog 143 #[.slice A row.length c, .int .i64 k, .slice B ws.length d] w fun e w' => e = .returned (.bool y) ∧ ∃ n, w' = w.drewN n := by
  have HY := Lib.hid hy; clear hy
  by_cases hl : k + ws.length ≤ row.length
  · obtain ⟨b, off, rfl, hb, hc⟩ := h0.some9 (by omega)
    have hlI : (k : Int) + ws.length ≤ row.length := by omega
    have e1 : ¬ c = k := by omega
    have e2 : k < c := by omega
    have H0 := Lib.hid (And.intro (h0.part9 k ws.length (c - k) hl (by omega)) h1); clear h0 h1
    go_enter Try.func143, Try.ntmps143
    go_wp2_with (go_at_call 82; refine (l1Same9 _ _ ((row.drop k).take ws.length) ws _ H0.out.1 H0.out.2 y HY.out).mono ?_; rintro e w' ⟨rfl, n, rfl⟩)
    go_ret
    exact ⟨rfl, _, rfl⟩
  · have hlI : ¬ (k : Int) + ws.length ≤ row.length := by omega
    obtain rfl : false = y := by rw [← HY.out]; exact (bg_no (by rw [List.length_drop]; omega)).symm
    go_enter Try.func143, Try.ntmps143
    go_wp2
    go_ret
    exact ⟨rfl, 0, rfl⟩
theorem cnt_drop_miss {ws row : List Int} {k : Nat} (hk : k < row.length) (h : bgB ws (row.drop k) = false) : cntR ws (row.drop k) = cntR ws (row.drop (k + 1)) := by
  rw [List.drop_eq_getElem_cons hk] at h ⊢
  exact cnt_miss h
theorem cnt_drop_hit {ws row : List Int} {k : Nat} (hw : 1 ≤ ws.length) (h : bgB ws (row.drop k) = true) : cntR ws (row.drop k) = cntR ws (row.drop (k + ws.length)) + 1 := by
  rw [cnt_hit hw h, List.drop_drop]
theorem cnt_le {ws : List Int} (hw : 1 ≤ ws.length) : ∀ (n : Nat) (p : List Int), p.length ≤ n → cntR ws p ≤ p.length := by
  intro n
  induction n with
  | zero => intro p h; rw [List.eq_nil_of_length_eq_zero (Nat.le_zero.1 h)]; simp [cntR, cntF]
  | succ n ih =>
    intro p h
    rcases p with _ | ⟨z, r⟩
    · simp [cntR, cntF]
    · rcases h0 : bgB ws (z :: r) with _ | _
      · rw [cnt_miss h0]; have := ih r (by simpa using h); simp; omega
      · rw [cnt_hit hw h0]
        have := ih ((z :: r).drop ws.length) (by rw [List.length_drop]; simp at h ⊢; omega)
        rw [List.length_drop] at this
        simp at this ⊢; omega
set_option maxHeartbeats 1000000 in
theorem l9Count_any (A B : Option Addr) (c d : Nat) (row ws : List Int) (w : World) (hw : 1 ≤ ws.length) (hwl : ws.length ≤ 1000000) (hrl : row.length ≤ 1000000) (h0 : RdI w (.slice A row.length c) row) (h1 : RdI w (.slice B ws.length d) ws) (y : Nat) (hy : cntR ws row = y) :
    Calls Try.prog 142 #[.slice A row.length c, .slice B ws.length d] w fun e w' => e = .returned (.int .i64 y) ∧ ∃ n, w' = w.drewN n := by
  have HY := Lib.hid hy; clear hy
  have H := Lib.hid (And.intro h0 h1); clear h0 h1
  have hyl : y ≤ row.length := by rw [← HY.out]; exact cnt_le hw _ _ (Nat.le_refl _)
  go_enter Try.func142, Try.ntmps142
  go_wp2
  go_loopw [5, 6] (fun q i wr => ∃ k m : Nat, k ≤ row.length ∧ m ≤ y ∧ i = .int .i64 k ∧ q = .int .i64 m ∧ (∃ n, wr = w.drewN n) ∧ m + cntR ws (row.drop k) = y) (fun _ i _ => row.length - (intOf i).toNat)
  case atStart => exact ⟨0, 0, Nat.zero_le _, Nat.zero_le _, rfl, rfl, ⟨0, rfl⟩, by rw [List.drop_zero, Nat.zero_add]; exact HY.out⟩
  case round =>
    obtain ⟨k, m, hk, hmy, rfl, rfl, hq, hc⟩ := hrel
    have HQ := Lib.hid hq; clear hq
    by_cases hlt : k < row.length
    · have hkI : (k : Int) < row.length := by omega
      have X := Lib.hid (And.intro (drewN_rd H.out.1 HQ.out) (drewN_rd H.out.2 HQ.out))
      rcases hbg : bgB ws (row.drop k) with _ | _
      · rw [cnt_drop_miss hlt hbg] at hc
        have HC := Lib.hid (And.intro hbg hc); clear hbg hc
        go_wp2_with fail
        refine (l9At_any A B c d k row ws _ hw (by omega) (by omega) (by omega) X.out.1 X.out.2 false HC.out.1).mono ?_
        rintro e w' ⟨rfl, hq2⟩
        have HQ2 := Lib.hid (quiet_trans HQ.out hq2); clear hq2
        go_wp2
        go_roundw
        case rel => exact ⟨k + 1, m, by omega, by omega, by go_num, rfl, HQ2.out, HC.out.2⟩
        case measure => simp [intOf]; omega
      · rw [cnt_drop_hit hw hbg] at hc
        have hbl := bg_len hbg
        rw [List.length_drop] at hbl
        have hm1 : m + 1 ≤ y := by omega
        have hc2 : m + 1 + cntR ws (row.drop (k + ws.length)) = y := by omega
        have HC := Lib.hid (And.intro hbg hc2); clear hbg hc hc2
        go_wp2_with fail
        refine (l9At_any A B c d k row ws _ hw (by omega) (by omega) (by omega) X.out.1 X.out.2 true HC.out.1).mono ?_
        rintro e w' ⟨rfl, hq2⟩
        have HQ2 := Lib.hid (quiet_trans HQ.out hq2); clear hq2
        go_wp2
        go_roundw
        case rel => exact ⟨k + ws.length, m + 1, by omega, hm1, by go_num, by go_num, HQ2.out, HC.out.2⟩
        case measure => simp [intOf]; omega
    · rw [List.drop_eq_nil_of_le (by omega)] at hc
      have hme : m = y := by simpa [cntR, cntF] using hc
      clear hc
      subst hme
      go_wp2
      go_ret
      exact ⟨rfl, HQ.out⟩
theorem twS_far {n : Nat} {p : List Int} {m a : Nat} (h : p.length < a + m) : twS n p m a = false := by
  unfold twS; rw [decide_eq_false (by omega)]; rfl
set_option maxHeartbeats 1000000 in
theorem TwiceOf_S (v0 : Value) (x0 : List (List Int)) (v1 : Value) (x1 : List Int) (w : World) (h0 : RdS w v0 x0) (hl0 : x0.length ≤ 1048576) (hls0 : szS x0 ≤ 1048576) (h1 : RdI w v1 x1) (hl1 : x1.length ≤ 1048576) (y0 : List Int) (y1 : Bool) (hR : twiceR x0 x1 = (y0, y1)) :
    Calls Try.prog 100 #[v0, v1] w fun e w' => ∃ u, e = .returned (.tuple #[u, .bool y1]) ∧ OwnI w' w.heap.size w'.heap.size u y0 ∧ Below w.heap.size w w' := by
  have H := Lib.hid (And.intro h0 h1)
  obtain ⟨A, c, rfl, _⟩ := h0
  obtain ⟨A1, c1, rfl, _⟩ := h1
  have HR := Lib.hid hR; clear hR
  rcases hd : usesOkB x0 x1 with _ | _ <;> have HD := Lib.hid hd <;> clear hd
  · obtain ⟨rfl, rfl⟩ : [] = y0 ∧ false = y1 := by have := HR.out; rw [twiceR, if_neg (by rw [HD.out]; simp)] at this; cases this; exact ⟨rfl, rfl⟩
    go_enter Try.func100, Try.ntmps100
    go_wp2_with fail
    refine (UsesOk_S _ x0 _ x1 _ H.out.1 hl0 hls0 H.out.2 hl1 false HD.out).mono ?_
    rintro e w1 ⟨rfl, hb⟩
    have N := Lib.hid (nilOut hb); clear hb
    go_wp2
    go_ret2
    exact ⟨_, rfl, N.out⟩
  have hu := HD.out
  simp only [usesOkB, Bool.and_eq_true] at hu
  have hl60 := uses_len hu.2
  have hn6 := (dictB_parts hu.1).1
  have hms : mostAt (twI x1) (x1.length + 1) (x1.length / 2) = mostAt (twS x0.length x1) (x1.length + 1) (x1.length / 2) := most_same hu.2 _ _
  have hr : (match twiceAtR x1 with | some (m, a) => (wdsR x1 m a, true) | none => (([] : List Int), false)) = (y0, y1) := (twiceR_yes HD.out).symm.trans HR.out
  have HMS := Lib.hid hms.symm; clear hms
  have HY := Lib.hid hr; clear hr HR hu
  go_enter Try.func100, Try.ntmps100
  go_wp2_with fail
  refine (UsesOk_S _ x0 _ x1 _ H.out.1 hl0 hls0 H.out.2 hl1 true HD.out).mono ?_
  rintro e w1 ⟨rfl, hb⟩
  have hz1 := hb.size
  have HB := Lib.hid hb; clear hb
  go_wp2
  go_loopw [6] (fun i wr => ∃ m : Nat, m ≤ x1.length / 2 ∧ i = .int .i64 m ∧ w1.heap.size ≤ wr.heap.size ∧ Below w.heap.size w wr ∧ mostAt (twS x0.length x1) (x1.length + 1) m = twiceAtR x1) (fun i _ => (intOf i).toNat)
  case atStart => exact ⟨x1.length / 2, Nat.le_refl _, by go_num, Nat.le_refl _, HB.out, HMS.out⟩
  case round =>
    obtain ⟨m, hm, rfl, hsz, hbk, hmo⟩ := hrel
    have HBK := Lib.hid hbk; clear hbk
    by_cases h2 : 2 ≤ m
    · rw [most_next _ _ _ h2] at hmo
      have HM := Lib.hid hmo; clear hmo
      have h2I : (2 : Int) ≤ m := by omega
      go_wp2
      go_loopw [7] (fun i wr => ∃ a : Nat, a ≤ x1.length ∧ i = .int .i64 a ∧ w1.heap.size ≤ wr.heap.size ∧ Below w.heap.size w wr ∧ firstAt (twS x0.length x1 m) a (x1.length + 1 - a) = firstAt (twS x0.length x1 m) 0 (x1.length + 1)) (fun i _ => x1.length - (intOf i).toNat)
      case atStart => exact ⟨0, Nat.zero_le _, rfl, hsz, HBK.out, rfl⟩
      case round =>
        clear HBK hsz
        obtain ⟨a, ha, rfl, hsz, hbk, hf⟩ := hrel
        have HBK := Lib.hid hbk; clear hbk
        by_cases hat : a + m ≤ x1.length
        · rw [first_next (by omega)] at hf
          have HF := Lib.hid hf; clear hf
          have hatI : (a : Int) + (m : Int) ≤ x1.length := by omega
          have hrd : RdI wr (.slice A1 x1.length c1) x1 := H.out.2.step (HBK.out)
          obtain ⟨b, off, rfl, hb, hc⟩ := hrd.some9 (by omega)
          have r1 := hrd.part9 a m (c1 - a) (by omega) (by omega)
          have l1 := wds_len (p := x1) (m := m) (a := a) (by omega)
          have htw : twS x0.length x1 m a = (usesB x0.length (wdsR x1 m a) && decide (2 ≤ cntR (wdsR x1 m a) x1)) := by unfold twS; rw [decide_eq_true (by omega), Bool.true_and]
          have r1' : RdI wr (.slice (some ⟨b, off + a, none⟩) m (c1 - a)) (wdsR x1 m a) := r1
          have X := Lib.hid (And.intro r1' (And.intro hrd (And.intro l1 htw))); clear r1 r1' l1 htw hrd
          have e1 : ¬ c1 = a := by omega
          have e3 : a < c1 := by omega
          rcases hb1 : usesB x0.length (wdsR x1 m a) with _ | _
          · have hno : twS x0.length x1 m a = false := by rw [X.out.2.2.2, hb1]; rfl
            have hf2 : firstAt (twS x0.length x1 m) (a + 1) (x1.length + 1 - (a + 1)) = firstAt (twS x0.length x1 m) 0 (x1.length + 1) := by rw [← HF.out, hno]; rfl
            have HF2 := Lib.hid (And.intro hf2 hb1); clear hf2 hb1 hno
            go_wp2_with fail
            refine (l9Named_any _ (wdsR x1 m a) x0.length _ (by omega) X.out.1 (by rw [X.out.2.2.1]; omega) false HF2.out.2).mono ?_
            rintro e w2 ⟨rfl, hb3⟩
            have hz3 := hb3.size
            have Z := Lib.hid (HBK.out.trans (hb3.mono HBK.out.size)); clear hb3
            go_wp2
            go_roundw
            case rel => exact ⟨a + 1, by omega, by go_num, by omega, Z.out, HF2.out.1⟩
            case measure => simp [intOf]; omega
          · obtain ⟨y, hcy⟩ : ∃ y, cntR (wdsR x1 m a) x1 = y := ⟨_, rfl⟩
            have hyl : y ≤ x1.length := by rw [← hcy]; exact cnt_le (by rw [X.out.2.2.1]; omega) _ _ (Nat.le_refl _)
            by_cases hy2 : 2 ≤ y
            · have hy2I : (2 : Int) ≤ y := by omega
              have hyes : twS x0.length x1 m a = true := by rw [X.out.2.2.2, hb1, hcy, decide_eq_true hy2]; rfl
              have htw : twiceAtR x1 = some (m, a) := by rw [← HM.out, ← HF.out, hyes]; rfl
              obtain ⟨rfl, rfl⟩ : wdsR x1 m a = y0 ∧ true = y1 := by have := HY.out; rw [htw] at this; cases this; exact ⟨rfl, rfl⟩
              have HF2 := Lib.hid (And.intro hcy hb1); clear hcy hb1 hyes htw
              go_wp2_with fail
              refine (l9Named_any _ (wdsR x1 m a) x0.length _ (by omega) X.out.1 (by rw [X.out.2.2.1]; omega) true HF2.out.2).mono ?_
              rintro e w2 ⟨rfl, hb3⟩
              have hz3 := hb3.size
              have Z := Lib.hid (And.intro (HBK.out.trans (hb3.mono HBK.out.size)) (And.intro (X.out.1.step hb3) (X.out.2.1.step hb3))); clear hb3
              go_wp2_with fail
              have hct := l9Count_any _ (some ⟨b, off + a, none⟩) c1 (c1 - a) x1 (wdsR x1 m a) w2 (by rw [X.out.2.2.1]; omega) (by rw [X.out.2.2.1]; omega) (by omega) Z.out.2.2 (by rw [X.out.2.2.1]; exact Z.out.2.1) y HF2.out.1
              rw [X.out.2.2.1] at hct
              refine hct.mono ?_
              clear hct
              rintro e w3 ⟨rfl, hq2⟩
              have hb4 : Below w2.heap.size w2 w3 := quiet_below hq2
              have hz4 := hb4.size
              have r5 := Z.out.2.1.step hb4
              have hbk3 := Z.out.1.trans (hb4.mono Z.out.1.size)
              have L1 := nilLit w3
              have Y := Lib.hid (And.intro hbk3 (And.intro L1 (r5.step L1.2))); clear hb4 hq2 r5 L1 hbk3
              have hl60' : (wdsR x1 m a).length ≤ 60 := by rw [X.out.2.2.1]; omega
              go_wp2_with (at_builtin; refine wpList_append_V rfl _ _ _ rfl Try.underlying23 intInfo w3.heap.size (w3.alloc (.cells #[] 3)).heap.size (.slice (some ⟨w3.heap.size, 0, none⟩) 0 0) [] rfl Y.out.2.1.1 (by simp) (.slice (some ⟨b, off + a, none⟩) m (c1 - a)) (wdsR x1 m a) rfl Y.out.2.2 (by simp; omega) ?_)
              intro v4 w4 ho4 hb5
              have hz5 : w3.heap.size ≤ w4.heap.size := by have := hb5.size; simp at this; omega
              have hzw := Y.out.1.size
              have ho5 : OwnI w4 w3.heap.size w4.heap.size v4 (wdsR x1 m a) := by simpa using ho4
              have hfin : OwnI w4 w.heap.size w4.heap.size v4 (wdsR x1 m a) := ⟨ho5.own.mono hzw, ho5.lt⟩
              have hbf : Below w.heap.size w w4 := (Y.out.1.trans (Y.out.2.1.2.mono hzw)).trans (hb5.mono (by omega))
              have F := Lib.hid (And.intro hfin hbf); clear hfin hbf ho4 ho5 hb5
              go_wp2
              go_ret2
              exact ⟨_, rfl, F.out.1, F.out.2⟩
            · have hy2I : ¬ (2 : Int) ≤ y := by omega
              have hno : twS x0.length x1 m a = false := by rw [X.out.2.2.2, hb1, hcy, decide_eq_false hy2]; rfl
              have hf2 : firstAt (twS x0.length x1 m) (a + 1) (x1.length + 1 - (a + 1)) = firstAt (twS x0.length x1 m) 0 (x1.length + 1) := by rw [← HF.out, hno]; rfl
              have HF2 := Lib.hid (And.intro hf2 (And.intro hcy hb1)); clear hf2 hcy hb1 hno
              go_wp2_with fail
              refine (l9Named_any _ (wdsR x1 m a) x0.length _ (by omega) X.out.1 (by rw [X.out.2.2.1]; omega) true HF2.out.2.2).mono ?_
              rintro e w2 ⟨rfl, hb3⟩
              have hz3 := hb3.size
              have Z := Lib.hid (And.intro (HBK.out.trans (hb3.mono HBK.out.size)) (And.intro (X.out.1.step hb3) (X.out.2.1.step hb3))); clear hb3
              go_wp2_with fail
              have hct := l9Count_any _ (some ⟨b, off + a, none⟩) c1 (c1 - a) x1 (wdsR x1 m a) w2 (by rw [X.out.2.2.1]; omega) (by rw [X.out.2.2.1]; omega) (by omega) Z.out.2.2 (by rw [X.out.2.2.1]; exact Z.out.2.1) y HF2.out.2.1
              rw [X.out.2.2.1] at hct
              refine hct.mono ?_
              clear hct
              rintro e w3 ⟨rfl, hq2⟩
              have hb4 : Below w2.heap.size w2 w3 := quiet_below hq2
              have hz4 := hb4.size
              have Y := Lib.hid (Z.out.1.trans (hb4.mono Z.out.1.size)); clear hb4 hq2
              go_wp2
              go_roundw
              case rel => exact ⟨a + 1, by omega, by go_num, by omega, Y.out, HF2.out.1⟩
              case measure => simp [intOf]; omega
        · have hn : firstAt (twS x0.length x1 m) 0 (x1.length + 1) = none := by
            rw [← hf]
            exact first_all fun y hy _ => twS_far (by omega)
          have hatI : ¬ (a : Int) + (m : Int) ≤ x1.length := by omega
          have hmo : mostAt (twS x0.length x1) (x1.length + 1) (m - 1) = twiceAtR x1 := by rw [← HM.out, hn]
          have HMO := Lib.hid hmo; clear hmo hn hf
          go_wp2
          go_roundw
          case rel => exact ⟨m - 1, by omega, by go_num, hsz, HBK.out, HMO.out⟩
          case measure => simp [intOf]; omega
    · have hn : twiceAtR x1 = none := by rw [← hmo]; exact most_low _ _ _ (by omega)
      clear hmo
      obtain ⟨rfl, rfl⟩ : [] = y0 ∧ false = y1 := by have := HY.out; rw [hn] at this; cases this; exact ⟨rfl, rfl⟩
      have h2I : ¬ (2 : Int) ≤ m := by omega
      have N := Lib.hid (nilOut HBK.out)
      clear hn
      go_wp2
      go_ret2
      exact ⟨_, rfl, N.out⟩
theorem twiceR_sz (d : List (List Int)) (p : List Int) : szI (twiceR d p).1 ≤ 1000000 := by
  rcases h : (twiceR d p).2 with _ | _
  · have : (twiceR d p).1 = [] := by
      unfold twiceR at h ⊢
      split
      · rename_i hu
        rw [if_pos hu] at h
        rcases ht : twiceAtR p with _ | ⟨m, a⟩
        · rfl
        · rw [ht] at h; cases h
      · rfl
    rw [this]; simp [szI]
  · obtain ⟨hu, m, a, he, _, _⟩ := twice_some h
    simp only [usesOkB, Bool.and_eq_true] at hu
    have := uses_len hu.2
    rw [he]
    unfold szI wdsR
    rw [List.length_take, List.length_drop]; omega
end Go.Proofs.Ytaehaalaeikloaa
