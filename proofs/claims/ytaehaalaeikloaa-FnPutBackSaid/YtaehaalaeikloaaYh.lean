/- Chapter 9: TwiceOf, the program's. -/
import Derived.Test.YtaehaalaeikloaaYg
import Derived.Test.YtaehaalaeikloaaYd
namespace Go.Proofs.Ytaehaalaeikloaa
set_option maxRecDepth 100000
open Go.RowKit Go.WideShapes

theorem first_next {t : Nat → Bool} {N a : Nat} (h : a < N) : firstAt t a (N - a) = if t a = true then some a else firstAt t (a + 1) (N - (a + 1)) := by
  rw [show N - a = (N - (a + 1)) + 1 from by omega, firstAt]
theorem most_next (t : Nat → Nat → Bool) (c m : Nat) (h : 2 ≤ m) : mostAt t c m = match firstAt (t m) 0 c with | some a => some (m, a) | none => mostAt t c (m - 1) := by
  obtain ⟨k, rfl⟩ : ∃ k, m = k + 2 := ⟨m - 2, by omega⟩
  rfl
theorem most_low (t : Nat → Nat → Bool) (c m : Nat) (h : m < 2) : mostAt t c m = none := by
  rcases m with _ | _ | m
  · rfl
  · rfl
  · omega
theorem twI_far {p : List Int} {m a : Nat} (h : p.length < a + 2 * m) : twI p m a = false := by
  unfold twI; rw [decide_eq_false (by omega)]; rfl
theorem twiceR_yes {d : List (List Int)} {p : List Int} (h : usesOkB d p = true) : twiceR d p = match twiceAtR p with | some (m, a) => (wdsR p m a, true) | none => ([], false) := by rw [twiceR, if_pos h]; rfl
set_option maxHeartbeats 1000000 in
theorem TwiceOf_I (v0 : Value) (x0 : List (List Int)) (v1 : Value) (x1 : List Int) (w : World) (h0 : RdS w v0 x0) (hl0 : x0.length ≤ 1048576) (hls0 : szS x0 ≤ 1048576) (h1 : RdI w v1 x1) (hl1 : x1.length ≤ 1048576) (y0 : List Int) (y1 : Bool) (hR : twiceR x0 x1 = (y0, y1)) :
    Calls Try.prog 97 #[v0, v1] w fun e w' => ∃ u, e = .returned (.tuple #[u, .bool y1]) ∧ OwnI w' w.heap.size w'.heap.size u y0 ∧ Below w.heap.size w w' := by
  have H := Lib.hid (And.intro h0 h1)
  obtain ⟨A, c, rfl, _⟩ := h0
  obtain ⟨A1, c1, rfl, _⟩ := h1
  have HR := Lib.hid hR; clear hR
  rcases hd : usesOkB x0 x1 with _ | _ <;> have HD := Lib.hid hd <;> clear hd
  · obtain ⟨rfl, rfl⟩ : [] = y0 ∧ false = y1 := by have := HR.out; rw [twiceR, if_neg (by rw [HD.out]; simp)] at this; cases this; exact ⟨rfl, rfl⟩
    go_enter Try.func97, Try.ntmps97
    go_wp2_with fail
    refine (UsesOk_I _ x0 _ x1 _ H.out.1 hl0 hls0 H.out.2 hl1 false HD.out).mono ?_
    rintro e w1 ⟨rfl, hb⟩
    have HB := Lib.hid hb; clear hb
    go_wp2
    go_ret2
    exact ⟨_, rfl, nilOwn _ _ _, HB.out⟩
  have hu := HD.out
  simp only [usesOkB, Bool.and_eq_true] at hu
  have hl60 := uses_len hu.2
  have hr : (match twiceAtR x1 with | some (m, a) => (wdsR x1 m a, true) | none => (([] : List Int), false)) = (y0, y1) := by rw [← twiceR_yes HD.out]; exact HR.out
  have HY := Lib.hid hr; clear hr HR hu
  go_enter Try.func97, Try.ntmps97
  go_wp2_with fail
  refine (UsesOk_I _ x0 _ x1 _ H.out.1 hl0 hls0 H.out.2 hl1 true HD.out).mono ?_
  rintro e w1 ⟨rfl, hb⟩
  have hz1 := hb.size
  have HB := Lib.hid hb; clear hb
  go_wp2
  go_loopw [6] (fun i wr => ∃ m : Nat, m ≤ x1.length / 2 ∧ i = .int .i64 m ∧ w1.heap.size ≤ wr.heap.size ∧ Below w.heap.size w wr ∧ mostAt (twI x1) (x1.length + 1) m = twiceAtR x1) (fun i _ => (intOf i).toNat)
  case atStart => exact ⟨x1.length / 2, Nat.le_refl _, by go_num, Nat.le_refl _, HB.out, rfl⟩
  case round =>
    obtain ⟨m, hm, rfl, hsz, hbk, hmo⟩ := hrel
    have HBK := Lib.hid hbk; clear hbk
    by_cases h2 : 2 ≤ m
    · rw [most_next _ _ _ h2] at hmo
      have HM := Lib.hid hmo; clear hmo
      have h2I : (2 : Int) ≤ m := by omega
      go_wp2
      go_loopw [7] (fun i wr => ∃ a : Nat, a ≤ x1.length ∧ i = .int .i64 a ∧ w1.heap.size ≤ wr.heap.size ∧ Below w.heap.size w wr ∧ firstAt (twI x1 m) a (x1.length + 1 - a) = firstAt (twI x1 m) 0 (x1.length + 1)) (fun i _ => x1.length - (intOf i).toNat)
      case atStart => exact ⟨0, Nat.zero_le _, rfl, hsz, HBK.out, rfl⟩
      case round =>
        clear HBK hsz
        obtain ⟨a, ha, rfl, hsz, hbk, hf⟩ := hrel
        have HBK := Lib.hid hbk; clear hbk
        by_cases hat : a + 2 * m ≤ x1.length
        · rw [first_next (by omega)] at hf
          have HF := Lib.hid hf; clear hf
          have hatI : (a : Int) + 2 * (m : Int) ≤ x1.length := by omega
          have hrd : RdI wr (.slice A1 x1.length c1) x1 := H.out.2.step (HBK.out)
          obtain ⟨b, off, rfl, hb, hc⟩ := hrd.some9 (by omega)
          have r1 := hrd.part9 a m (c1 - a) (by omega) (by omega)
          have r2 := hrd.from9 (a + m) (by omega)
          have l1 := wds_len (p := x1) (m := m) (a := a) (by omega)
          have l2 : (x1.drop (a + m)).length = x1.length - (a + m) := List.length_drop
          have htw : twI x1 m a = (fitsFrom 0 (wdsR x1 m a) && standsB (wdsR x1 m a) (x1.drop (a + m))) := by unfold twI; rw [decide_eq_true (by omega), Bool.true_and]
          have r1' : RdI wr (.slice (some ⟨b, off + a, none⟩) (wdsR x1 m a).length (c1 - a)) (wdsR x1 m a) := by rw [l1]; exact r1
          have r2' : RdI wr (.slice (some ⟨b, off + (a + m), none⟩) (x1.drop (a + m)).length (c1 - (a + m))) (x1.drop (a + m)) := by rw [l2]; exact r2
          have X := Lib.hid (And.intro r1' (And.intro r2' (And.intro l1 (And.intro l2 htw)))); clear r1 r2 r1' r2' l1 l2 htw hrd
          have e1 : ¬ c1 = a := by omega
          have e2 : ¬ c1 = a + m := by omega
          have e3 : a < c1 := by omega
          have e4 : a + m < c1 := by omega
          go_wp2
          go_quiet (fail)
          obtain ⟨W, HW⟩ : ∃ W, Hid (wr.drewN nq = W) := ⟨_, Lib.hid rfl⟩
          have hq : Below wr.heap.size wr W := by rw [← HW.out]; exact below_drewN (Below.refl _ _) nq
          have hWs : wr.heap.size ≤ W.heap.size := hq.size
          rw [HW.out]
          have Y := Lib.hid (And.intro (X.out.1.step hq) (And.intro (X.out.2.1.step hq) (HBK.out.trans (hq.mono HBK.out.size)))); clear hq
          obtain ⟨_, _, ei, hi, _⟩ := Y.out.1
          cases ei
          have hfit := bracketsFit_any _ (c1 - a) (wdsR x1 m a) W hi
          rw [X.out.2.2.1] at hfit
          have HFIT := Lib.hid hfit; clear hfit hi
          rcases hb1 : fitsFrom 0 (wdsR x1 m a) with _ | _
          · have hno : twI x1 m a = false := by rw [X.out.2.2.2.2, hb1]; rfl
            have hf2 : firstAt (twI x1 m) (a + 1) (x1.length + 1 - (a + 1)) = firstAt (twI x1 m) 0 (x1.length + 1) := by rw [← HF.out, hno]; rfl
            have HF2 := Lib.hid (And.intro hf2 hb1); clear hf2 hb1 hno
            go_wp2_with fail
            refine HFIT.out.mono ?_
            rw [HF2.out.2]
            rintro e w' ⟨rfl, rfl⟩
            go_wp2
            go_roundw
            case rel => exact ⟨a + 1, by omega, by go_num, by omega, Y.out.2.2, HF2.out.1⟩
            case measure => simp [intOf]; omega
          · rcases hb2 : standsB (wdsR x1 m a) (x1.drop (a + m)) with _ | _
            · have hno : twI x1 m a = false := by rw [X.out.2.2.2.2, hb1, hb2]; rfl
              have hf2 : firstAt (twI x1 m) (a + 1) (x1.length + 1 - (a + 1)) = firstAt (twI x1 m) 0 (x1.length + 1) := by rw [← HF.out, hno]; rfl
              have HF2 := Lib.hid (And.intro hf2 (And.intro hb1 hb2)); clear hf2 hb1 hb2 hno
              go_wp2_with fail
              refine HFIT.out.mono ?_
              rw [HF2.out.2.1]
              rintro e w' ⟨rfl, rfl⟩
              go_wp2_with fail
              have hst := standsIn_any _ _ _ _ (x1.drop (a + m)) (wdsR x1 m a) W (by rw [X.out.2.2.1]; omega) Y.out.2.1 Y.out.1 false HF2.out.2.2
              rw [X.out.2.2.1, X.out.2.2.2.1] at hst
              refine hst.mono ?_
              clear hst
              rintro e w2 ⟨rfl, hq2⟩
              have hb3 : Below W.heap.size W w2 := quiet_below hq2
              have hz3 := hb3.size
              have Z := Lib.hid (Y.out.2.2.trans (hb3.mono Y.out.2.2.size)); clear hb3 hq2
              go_wp2
              go_roundw
              case rel => exact ⟨a + 1, by omega, by go_num, by omega, Z.out, HF2.out.1⟩
              case measure => simp [intOf]; omega
            · have hyes : twI x1 m a = true := by rw [X.out.2.2.2.2, hb1, hb2]; rfl
              have htw : twiceAtR x1 = some (m, a) := by rw [← HM.out, ← HF.out, hyes]; rfl
              obtain ⟨rfl, rfl⟩ : wdsR x1 m a = y0 ∧ true = y1 := by have := HY.out; rw [htw] at this; cases this; exact ⟨rfl, rfl⟩
              have HF2 := Lib.hid (And.intro hb1 hb2); clear hb1 hb2 hyes htw
              go_wp2_with fail
              refine HFIT.out.mono ?_
              rw [HF2.out.1]
              rintro e w' ⟨rfl, rfl⟩
              go_wp2_with fail
              have hst := standsIn_any _ _ _ _ (x1.drop (a + m)) (wdsR x1 m a) W (by rw [X.out.2.2.1]; omega) Y.out.2.1 Y.out.1 true HF2.out.2
              rw [X.out.2.2.1, X.out.2.2.2.1] at hst
              refine hst.mono ?_
              clear hst
              rintro e w2 ⟨rfl, hq2⟩
              have hb3 : Below W.heap.size W w2 := quiet_below hq2
              have hz3 := hb3.size
              have r3 := Y.out.1.step hb3
              have r4 : RdI w2 (.slice (some ⟨b, off + a, none⟩) m (c1 - a)) (wdsR x1 m a) := by have := X.out.2.2.1; rwa [this] at r3
              have Z := Lib.hid (And.intro (Y.out.2.2.trans (hb3.mono Y.out.2.2.size)) r4); clear hb3 hq2 r3 r4
              go_wp2_with fail
              refine (clone9 _ (wdsR x1 m a) _ Z.out.2 (by rw [X.out.2.2.1]; omega)).mono ?_
              rintro e w3 ⟨u, rfl, ho, hb4⟩
              have hz4 := hb4.size
              have hzw := Z.out.1.size
              have hfin : OwnI w3 w.heap.size w3.heap.size u (wdsR x1 m a) := ⟨ho.own.mono hzw, ho.lt⟩
              have F := Lib.hid (And.intro hfin (Z.out.1.trans (hb4.mono hzw))); clear hfin ho hb4
              go_wp2
              go_ret2
              exact ⟨_, rfl, F.out.1, F.out.2⟩
        · have hn : firstAt (twI x1 m) 0 (x1.length + 1) = none := by
            rw [← hf]
            exact first_all fun y hy _ => twI_far (by omega)
          have hatI : ¬ (a : Int) + 2 * (m : Int) ≤ x1.length := by omega
          have hmo : mostAt (twI x1) (x1.length + 1) (m - 1) = twiceAtR x1 := by rw [← HM.out, hn]
          have HMO := Lib.hid hmo; clear hmo hn hf
          go_wp2
          go_roundw
          case rel => exact ⟨m - 1, by omega, by go_num, hsz, HBK.out, HMO.out⟩
          case measure => simp [intOf]; omega
    · have hn : twiceAtR x1 = none := by rw [← hmo]; exact most_low _ _ _ (by omega)
      clear hmo
      obtain ⟨rfl, rfl⟩ : [] = y0 ∧ false = y1 := by have := HY.out; rw [hn] at this; cases this; exact ⟨rfl, rfl⟩
      have h2I : ¬ (2 : Int) ≤ m := by omega
      clear hn
      go_wp2
      go_ret2
      exact ⟨_, rfl, nilOwn _ _ _, HBK.out⟩
end Go.Proofs.Ytaehaalaeikloaa
