/- Chapter 9: programs with names and dictionaries, the model's. -/
import Derived.Test.YtaehaalaeikloaaYc
import Derived.Test.YtaehaalaeikloaaYw
namespace Go.Proofs.Ytaehaalaeikloaa
set_option maxRecDepth 100000
open Go.RowKit Go.WideShapes

theorem plain_take {n : Nat} {zs : List Int} {k : Nat} (hk : k < zs.length) : plainR n (zs.take (k + 1)) = plainR n (zs.take k) ++ [if nmB n (zs.getD k 0) = true then 1001 else zs.getD k 0] := by
  unfold plainR
  rw [List.take_add_one, List.map_append]
  simp [List.getElem?_eq_getElem hk, List.getD]
theorem plain_len (n : Nat) (zs : List Int) : (plainR n zs).length = zs.length := by unfold plainR; simp
theorem nmB_l1 (n : Nat) (z : Int) : (decide (1101 ≤ z) && decide (z ≤ 1101 + (n : Int) - 1)) = nmB n z := by
  unfold nmB
  congr 1
  exact decide_eq_decide.2 (by omega)
set_option maxHeartbeats 1000000 in
theorem l9Named_any (v : Value) (zs : List Int) (n : Nat) (w : World) (hn : n ≤ 2000000) (h : RdI w v zs) (hl : zs.length ≤ 1048576) (y : Bool) (hy : usesB n zs = y) :
    Calls Try.prog 108 #[v, .int .i64 n] w fun e w' => e = .returned (.bool y) ∧ Below w.heap.size w w' := by
  obtain ⟨A, c, rfl, hi, hc⟩ := h
  have HI := Lib.hid hi; clear hi
  have HY := Lib.hid hy; clear hy
  have L0 := Lib.hid (nilLit w)
  go_enter Try.func108, Try.ntmps108
  go_wp2
  go_loopw [5, 6] (fun q i wr => ∃ k : Nat, k ≤ zs.length ∧ i = .int .i64 k ∧ w.heap.size ≤ wr.heap.size ∧ Below w.heap.size w wr ∧ OwnI wr w.heap.size wr.heap.size q (plainR n (zs.take k))) (fun _ i _ => zs.length - (intOf i).toNat)
  case atStart => exact ⟨0, Nat.zero_le _, rfl, by simp, L0.out.2, L0.out.1⟩
  case round =>
    clear L0
    obtain ⟨k, hk, rfl, hsz, hbk, hown⟩ := hrel
    have X := Lib.hid (And.intro hbk hown); clear hbk hown
    by_cases hlt : k < zs.length
    · obtain ⟨b, off, rfl, hb, hcc⟩ := HI.out.at_ (by omega)
      have hcell := (X.out.1.cell (p := ⟨b, off + k, none⟩) hb).trans (hcc k hlt)
      have hwz := HI.out.wf (zs.getD k 0) (by simp [List.getD, List.getElem?_eq_getElem hlt])
      have hpt := plain_take (n := n) hlt
      have hpl : (plainR n (zs.take k)).length ≤ 900000000 := by rw [plain_len, List.length_take]; omega
      have hkI : (k : Int) < zs.length := by omega
      clear hcc
      generalize zs.getD k 0 = z at *
      have hl1 := nmB_l1 n z
      have HW := Lib.hid hwz; clear hwz
      rcases hz : nmB n z with _ | _ <;> have HZ := Lib.hid hz <;> clear hz
      · have hl2 := hl1.trans HZ.out
        rw [HZ.out] at hpt
        have HL := Lib.hid hl2; clear hl2 hl1
        have HP := Lib.hid hpt; clear hpt
        go_wp2_with (first
          | (go_at_call 87; refine (l1In_any _ _ _ _).mono ?_; rw [HL.out]; rintro e w' ⟨rfl, rfl⟩)
          | (at_builtin; refine wpList_append_z rfl _ _ _ rfl Try.underlying23 intInfo z rfl HW.out w.heap.size wr.heap.size _ _ rfl X.out.2 hsz rfl hpl ?_))
        intro v2 w2 ho2 hb2 _
        have hz2 : w.heap.size ≤ w2.heap.size := by have := hb2.size; omega
        have ho3 : OwnI w2 w.heap.size w2.heap.size v2 (plainR n (zs.take (k + 1))) := by rw [HP.out]; exact ho2
        have Y := Lib.hid (And.intro (X.out.1.trans hb2) ho3); clear ho2 hb2 ho3 X
        go_wp2
        go_roundw
        case rel => exact ⟨k + 1, by omega, by go_num, hz2, Y.out.1, Y.out.2⟩
        case measure => simp [intOf]; omega
      · have hl2 := hl1.trans HZ.out
        rw [HZ.out] at hpt
        have HL := Lib.hid hl2; clear hl2 hl1
        have HP := Lib.hid hpt; clear hpt
        go_wp2_with (first
          | (go_at_call 87; refine (l1In_any _ _ _ _).mono ?_; rw [HL.out]; rintro e w' ⟨rfl, rfl⟩)
          | (at_builtin; refine wpList_append_z rfl _ _ _ rfl Try.underlying23 intInfo 1001 rfl (wf_near 1001 (by omega)) w.heap.size wr.heap.size _ _ rfl X.out.2 hsz rfl hpl ?_))
        intro v2 w2 ho2 hb2 _
        have hz2 : w.heap.size ≤ w2.heap.size := by have := hb2.size; omega
        have ho3 : OwnI w2 w.heap.size w2.heap.size v2 (plainR n (zs.take (k + 1))) := by rw [HP.out]; exact ho2
        have Y := Lib.hid (And.intro (X.out.1.trans hb2) ho3); clear ho2 hb2 ho3 X
        go_wp2
        go_roundw
        case rel => exact ⟨k + 1, by omega, by go_num, hz2, Y.out.1, Y.out.2⟩
        case measure => simp [intOf]; omega
    · have hke : zs.take k = zs := List.take_of_length_le (by omega)
      have hown := X.out.2
      rw [hke] at hown
      by_cases hl60 : zs.length ≤ 60
      · have hlI : (zs.length : Int) ≤ 60 := by omega
        have hf : l1From 0 (plainR n zs) = y := by rw [← HY.out, uses_plain, decide_eq_true hl60]; rfl
        have HF := Lib.hid hf; clear hf hke
        have HO := Lib.hid hown
        obtain ⟨A2, c2, rfl, hi2, _⟩ := hown.rd
        have HI2 := Lib.hid hi2; clear hi2 hown
        go_wp2_with (go_at_call 149; refine (l1Fits_any A2 c2 (plainR n zs) _ HI2.out).mono ?_; rw [HF.out]; rintro e w' ⟨rfl, rfl⟩)
        go_ret
        exact ⟨rfl, X.out.1⟩
      · have hlI : ¬ (zs.length : Int) ≤ 60 := by omega
        obtain rfl : false = y := by rw [← HY.out, uses_plain, decide_eq_false hl60]; rfl
        clear hown hke
        go_wp2
        go_ret
        exact ⟨rfl, X.out.1⟩
set_option maxHeartbeats 1000000 in
theorem DictValid_S (v0 : Value) (x0 : List (List Int)) (w : World) (h0 : RdS w v0 x0) (hl : x0.length ≤ 1048576) (hls : szS x0 ≤ 1048576) (y0 : Bool) (hR : dictB x0 = y0) :
    Calls Try.prog 148 #[v0] w fun e w' => e = .returned (.bool y0) ∧ Below w.heap.size w w' := by
  have H := Lib.hid h0
  obtain ⟨A, c, rfl, _⟩ := h0
  have HR := Lib.hid hR; clear hR
  have hd0 : dictFrom 0 x0 = dictFrom 0 x0 := rfl
  generalize hy : dictFrom 0 x0 = y at *
  have HY := Lib.hid hy; clear hy hd0
  go_enter Try.func148, Try.ntmps148
  go_wp2
  go_loopw [3] (fun i wr => ∃ k : Nat, k ≤ x0.length ∧ i = .int .i64 k ∧ Below w.heap.size w wr ∧ dictFrom k (x0.drop k) = y) (fun i _ => x0.length - (intOf i).toNat)
  case atStart => exact ⟨0, Nat.zero_le _, rfl, Below.refl _ _, by rw [List.drop_zero]; exact HY.out⟩
  case round =>
    obtain ⟨k, hk, rfl, hb, hd⟩ := hrel
    have HB := Lib.hid hb; clear hb
    by_cases hlt : k < x0.length
    · have hkI : (k : Int) < x0.length := by omega
      rw [dict_drop hlt] at hd
      have hx : x0[k]? = some x0[k] := List.getElem?_eq_getElem hlt
      obtain ⟨b, off, q, rfl, hbq, hcell, hq⟩ := H.out.get hx
      replace hcell := (HB.out.cell (p := ⟨b, off + k, none⟩) hbq).trans hcell
      have hq' := (hq.below HB.out).rd HB.out.size
      have hql : (x0[k]).length ≤ 1048576 := by
        have h1 := szS_take_succ x0 k _ hx
        have h2 := szS_take_le x0 (k + 1)
        omega
      have HD := Lib.hid (And.intro hd hq'); clear hd hq hq' hx
      generalize x0[k] = x at *
      rcases hu : usesB k x with _ | _ <;> have HU := Lib.hid hu <;> clear hu
      · have hyf : y = false := by rw [← HD.out.1, HU.out]; rfl
        obtain rfl : false = y0 := by rw [← HR.out, dictB, HY.out, hyf, Bool.and_false]
        clear hyf
        go_wp2_with fail
        refine (l9Named_any q x k _ (by omega) HD.out.2 hql false HU.out).mono ?_
        rintro e w' ⟨rfl, hb2⟩
        have HB2 := Lib.hid (HB.out.trans (hb2.mono HB.out.size)); clear hb2
        go_wp2
        go_ret
        exact ⟨rfl, HB2.out⟩
      · have hn : dictFrom (k + 1) (x0.drop (k + 1)) = y := by rw [← HD.out.1, HU.out]; rfl
        have HN := Lib.hid hn; clear hn
        go_wp2_with fail
        refine (l9Named_any q x k _ (by omega) HD.out.2 hql true HU.out).mono ?_
        rintro e w' ⟨rfl, hb2⟩
        have HB2 := Lib.hid (HB.out.trans (hb2.mono HB.out.size)); clear hb2
        go_wp2
        go_roundw
        case rel => exact ⟨k + 1, by omega, by go_num, HB2.out, HN.out⟩
        case measure => simp [intOf]; omega
    · rw [List.drop_eq_nil_of_le (by omega)] at hd
      have hyt : y = true := hd.symm
      have hr : decide (x0.length ≤ 6) = y0 := by rw [← HR.out, dictB, HY.out, hyt, Bool.and_true]
      clear hd hyt
      by_cases hl6 : x0.length ≤ 6
      · have hl6I : (x0.length : Int) ≤ 6 := by omega
        obtain rfl : true = y0 := by rw [← hr, decide_eq_true hl6]
        clear hr
        go_wp2
        go_ret
        exact ⟨rfl, HB.out⟩
      · have hl6I : ¬ (x0.length : Int) ≤ 6 := by omega
        obtain rfl : false = y0 := by rw [← hr, decide_eq_false hl6]
        clear hr
        go_wp2
        go_ret
        exact ⟨rfl, HB.out⟩
set_option maxHeartbeats 1000000 in
theorem UsesOk_S (v0 : Value) (x0 : List (List Int)) (v1 : Value) (x1 : List Int) (w : World) (h0 : RdS w v0 x0) (hl0 : x0.length ≤ 1048576) (hls0 : szS x0 ≤ 1048576) (h1 : RdI w v1 x1) (hl1 : x1.length ≤ 1048576) (y0 : Bool) (hR : usesOkB x0 x1 = y0) :
    Calls Try.prog 107 #[v0, v1] w fun e w' => e = .returned (.bool y0) ∧ Below w.heap.size w w' := by
  have H := Lib.hid (And.intro h0 h1); clear h1
  obtain ⟨A, c, rfl, _⟩ := h0
  have HR := Lib.hid hR; clear hR
  rcases hd : dictB x0 with _ | _ <;> have HD := Lib.hid hd <;> clear hd
  · obtain rfl : false = y0 := by rw [← HR.out, usesOkB, HD.out]; rfl
    go_enter Try.func107, Try.ntmps107
    go_wp2_with fail
    refine (DictValid_S _ x0 _ H.out.1 hl0 hls0 false HD.out).mono ?_
    rintro e w1 ⟨rfl, hb⟩
    have HB := Lib.hid hb; clear hb
    go_wp2
    go_ret
    exact ⟨rfl, HB.out⟩
  · have hu : usesB x0.length x1 = y0 := by rw [← HR.out, usesOkB, HD.out]; rfl
    have HU := Lib.hid hu; clear hu
    have hln := (dictB_parts HD.out).1
    go_enter Try.func107, Try.ntmps107
    go_wp2_with fail
    refine (DictValid_S _ x0 _ H.out.1 hl0 hls0 true HD.out).mono ?_
    rintro e w1 ⟨rfl, hb⟩
    have HB := Lib.hid hb; clear hb
    go_wp2_with fail
    refine (l9Named_any v1 x1 x0.length _ (by omega) (H.out.2.step HB.out) hl1 y0 HU.out).mono ?_
    rintro e w2 ⟨rfl, hb⟩
    have HB2 := Lib.hid (below_after HB.out hb); clear hb
    go_wp2
    go_ret
    exact ⟨rfl, HB2.out⟩
end Go.Proofs.Ytaehaalaeikloaa
