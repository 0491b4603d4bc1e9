/- Chapter 9: TwiceOf, the program's. -/
import Derived.Test.YtaehaalaeikloaaYd
import Derived.Test.YtaehaalaeikloaaSl
namespace Go.Proofs.Ytaehaalaeikloaa
set_option maxRecDepth 100000
open Go.RowKit Go.WideShapes

theorem RdI.some9 {w : World} {A : Option Addr} {zs : List Int} {c : Nat} (h : RdI w (.slice A zs.length c) zs) (h0 : 1 ≤ zs.length) : ∃ b off, A = some ⟨b, off, none⟩ ∧ b < w.heap.size ∧ zs.length ≤ c := by
  obtain ⟨_, _, e, hi, hc⟩ := h
  cases e
  obtain ⟨b, off, e, hb, _⟩ := hi.at_ (by omega)
  exact ⟨b, off, e, hb, hc⟩
theorem RdI.part9 {w : World} {b off c : Nat} {zs : List Int} (h : RdI w (.slice (some ⟨b, off, none⟩) zs.length c) zs) (i n c' : Nat) (hi : i + n ≤ zs.length) (hc : n ≤ c') : RdI w (.slice (some ⟨b, off + i, none⟩) n c') ((zs.drop i).take n) := by
  obtain ⟨_, _, e, hx, _⟩ := h
  cases e
  have hln : ((zs.drop i).take n).length = n := by rw [List.length_take, List.length_drop]; omega
  refine ⟨_, c', by rw [hln], ⟨by rw [hln]; have := hx.len; omega, fun z hz => hx.wf z (List.mem_of_mem_drop (List.mem_of_mem_take hz)), fun h0 => ?_⟩, by rw [hln]; exact hc⟩
  rw [hln] at h0
  obtain ⟨b', off', e, hb, hcc⟩ := hx.at_ (by omega)
  cases e
  refine ⟨_, _, rfl, hb, fun j hj => ?_⟩
  rw [hln] at hj
  rw [Nat.add_assoc, hcc (i + j) (by omega)]
  simp only [List.getD, List.getElem?_take, List.getElem?_drop, if_pos hj]
theorem RdI.from9 {w : World} {b off c : Nat} {zs : List Int} (h : RdI w (.slice (some ⟨b, off, none⟩) zs.length c) zs) (i : Nat) (hi : i ≤ zs.length) : RdI w (.slice (some ⟨b, off + i, none⟩) (zs.length - i) (c - i)) (zs.drop i) := by
  have hc : zs.length ≤ c := by obtain ⟨_, _, e, _, hc⟩ := h; cases e; exact hc
  have := h.part9 i (zs.length - i) (c - i) (by omega) (by omega)
  rwa [List.take_of_length_le (by rw [List.length_drop]; omega)] at this
theorem RdI.first9 {w : World} {b off c : Nat} {zs : List Int} (h : RdI w (.slice (some ⟨b, off, none⟩) zs.length c) zs) (n : Nat) (hi : n ≤ zs.length) : RdI w (.slice (some ⟨b, off, none⟩) n c) (zs.take n) := by
  have hc : zs.length ≤ c := by obtain ⟨_, _, e, _, hc⟩ := h; cases e; exact hc
  have := h.part9 0 n c (by omega) (by omega)
  simpa using this
theorem drewN_rd {w : World} {v : Value} {zs : List Int} (h : RdI w v zs) {w' : World} (hq : ∃ n, w' = w.drewN n) : RdI w' v zs := h.step (quiet_below hq)
theorem bg_no {ws row : List Int} (h : row.length < ws.length) : bgB ws row = false := by
  rcases hb : bgB ws row with _ | _
  · rfl
  · have := bg_len hb; omega
theorem beginsWith_any (A B : Option Addr) (c d : Nat) (row ws : List Int) (w : World) (hw : 1 ≤ ws.length) (h0 : RdI w (.slice A row.length c) row) (h1 : RdI w (.slice B ws.length d) ws) (y : Bool) (hy : bgB ws row = y) :
    Calls Try.prog 141 #[.slice A row.length c, .slice B ws.length d] w fun e w' => e = .returned (.bool y) ∧ ∃ n, w' = w.drewN n := by
  have hl0 := h0.len_le
  have hl1 := h1.len_le
  have HY := Lib.hid hy; clear hy
  by_cases hl : ws.length ≤ row.length
  · obtain ⟨b, off, rfl, hb, hc⟩ := h0.some9 (by omega)
    have hlI : (ws.length : Int) ≤ row.length := by omega
    have H0 := Lib.hid (And.intro (h0.first9 ws.length hl) h1); clear h0 h1
    go_enter Try.func141, Try.ntmps141
    go_wp2_with (go_at_call 119; refine (slEqQ _ _ (row.take ws.length) ws _ H0.out.1 H0.out.2 y HY.out).mono ?_; rintro e w' ⟨rfl, n, rfl⟩)
    go_ret
    exact ⟨rfl, _, rfl⟩
  · have hlI : ¬ (ws.length : Int) ≤ row.length := by omega
    obtain rfl : false = y := by rw [← HY.out]; exact (bg_no (by omega)).symm
    go_enter Try.func141, Try.ntmps141
    go_wp2
    go_ret
    exact ⟨rfl, 0, rfl⟩
theorem stands_drop {ws row : List Int} {k : Nat} (hk : k < row.length) : standsB ws (row.drop k) = (bgB ws (row.drop k) || standsB ws (row.drop (k + 1))) := by
  conv => lhs; rw [List.drop_eq_getElem_cons hk]
  rw [standsB, ← List.drop_eq_getElem_cons hk]
set_option maxHeartbeats 1000000 in
theorem standsIn_any (A B : Option Addr) (c d : Nat) (row ws : List Int) (w : World) (hw : 1 ≤ ws.length) (h0 : RdI w (.slice A row.length c) row) (h1 : RdI w (.slice B ws.length d) ws) (y : Bool) (hy : standsB ws row = y) :
    Calls Try.prog 140 #[.slice A row.length c, .slice B ws.length d] w fun e w' => e = .returned (.bool y) ∧ ∃ n, w' = w.drewN n := by
  have hl0 := h0.len_le
  have HY := Lib.hid hy; clear hy
  have H := Lib.hid (And.intro h0 h1); clear h0 h1
  go_enter Try.func140, Try.ntmps140
  go_wp2
  go_loopw [8] (fun i wr => ∃ k : Nat, k ≤ row.length ∧ i = .int .i64 k ∧ (∃ n, wr = w.drewN n) ∧ standsB ws (row.drop k) = y) (fun i _ => row.length - (intOf i).toNat)
  case atStart => exact ⟨0, Nat.zero_le _, rfl, ⟨0, rfl⟩, by rw [List.drop_zero]; exact HY.out⟩
  case round =>
    obtain ⟨k, hk, rfl, hq, hs⟩ := hrel
    have HQ := Lib.hid hq; clear hq
    by_cases hlt : k < row.length
    · have hkI : (k : Int) < row.length := by omega
      have hkI2 : (k : Int) ≤ row.length := by omega
      rw [stands_drop hlt] at hs
      have HS := Lib.hid hs; clear hs
      obtain ⟨b, off, rfl, hb, hc⟩ := H.out.1.some9 (by omega)
      have hkc : ¬ c = k := by omega
      have hkc2 : k < c := by omega
      have hrd : RdI wr (.slice (some ⟨b, off + k, none⟩) (row.drop k).length (c - k)) (row.drop k) := by
        rw [List.length_drop]; exact drewN_rd (H.out.1.from9 k (by omega)) HQ.out
      have hrw : RdI wr (.slice B ws.length d) ws := drewN_rd H.out.2 HQ.out
      have HX := Lib.hid (And.intro hrd hrw); clear hrd hrw
      have hdl : (row.drop k).length = row.length - k := List.length_drop
      have HDL := Lib.hid hdl; clear hdl
      rcases hbg : bgB ws (row.drop k) with _ | _ <;> have HB := Lib.hid hbg <;> clear hbg
      · have hn : standsB ws (row.drop (k + 1)) = y := by rw [← HS.out, HB.out]; rfl
        have HN := Lib.hid hn; clear hn
        go_wp2_with fail
        have hcall := beginsWith_any _ B (c - k) d (row.drop k) ws wr hw HX.out.1 HX.out.2 false HB.out
        rw [HDL.out] at hcall
        refine hcall.mono ?_
        clear hcall
        rintro e w' ⟨rfl, hq2⟩
        have HQ2 := Lib.hid (quiet_trans HQ.out hq2); clear hq2
        go_wp2
        go_roundw
        case rel => exact ⟨k + 1, by omega, by go_num, HQ2.out, HN.out⟩
        case measure => simp [intOf]; omega
      · obtain rfl : true = y := by rw [← HS.out, HB.out]; rfl
        go_wp2_with fail
        have hcall := beginsWith_any _ B (c - k) d (row.drop k) ws wr hw HX.out.1 HX.out.2 true HB.out
        rw [HDL.out] at hcall
        refine hcall.mono ?_
        clear hcall
        rintro e w' ⟨rfl, hq2⟩
        have HQ2 := Lib.hid (quiet_trans HQ.out hq2); clear hq2
        go_wp2
        go_ret
        exact ⟨rfl, HQ2.out⟩
    · rw [List.drop_eq_nil_of_le (by omega)] at hs
      obtain rfl : false = y := hs
      go_wp2
      go_ret
      exact ⟨rfl, HQ.out⟩
end Go.Proofs.Ytaehaalaeikloaa
