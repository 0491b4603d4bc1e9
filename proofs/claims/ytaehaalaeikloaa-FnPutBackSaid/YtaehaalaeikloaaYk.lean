/- Chapter 9: rows with words put in place of a name, and cut; maps from integers to values. -/
import Derived.Test.YtaehaalaeikloaaYj
import Derived.Test.YtaehaalaeikloaaYw
import Derived.Test.YtaehaalaeikloaaYg
import Derived.Maps.Views
import Derived.Maps.OwnOps
import Derived.Maps.OwnSet
namespace Go.Proofs.Ytaehaalaeikloaa
set_option maxRecDepth 100000
open Go.RowKit Go.WideShapes

set_option maxHeartbeats 1000000 in
theorem putFor_any (nm : Int) (v0 v1 : Value) (ws zs : List Int) (w : World) (h0 : RdI w v0 ws) (h1 : RdI w v1 zs) (hl0 : ws.length ≤ 10000) (hl1 : zs.length ≤ 10000) :
    Calls Try.prog 104 #[.int .i64 nm, v0, v1] w fun e w' => ∃ u, e = .returned u ∧ OwnI w' w.heap.size w'.heap.size u (pbR nm ws zs) ∧ Below w.heap.size w w' := by
  have H := Lib.hid (And.intro h0 h1)
  obtain ⟨A0, c0, rfl, _⟩ := h0
  obtain ⟨A1, c1, rfl, hi1, _⟩ := h1
  have HJ := Lib.hid hi1; clear hi1
  go_enter Try.func104, Try.ntmps104
  go_wp2
  go_loopw [7, 12] (fun q i wr => ∃ k : Nat, k ≤ zs.length ∧ i = .int .i64 k ∧ w.heap.size ≤ wr.heap.size ∧ Below w.heap.size w wr ∧ OwnI wr w.heap.size wr.heap.size q (pbR nm ws (zs.take k))) (fun _ i _ => zs.length - (intOf i).toNat)
  case atStart => exact ⟨0, Nat.zero_le _, rfl, Nat.le_refl _, Below.refl _ _, nilOwn _ _ _⟩
  case round =>
    obtain ⟨k, hk, rfl, hsz, hbk, hown⟩ := hrel
    have X := Lib.hid (And.intro hbk hown); clear hbk hown
    by_cases hlt : k < zs.length
    · have hkI : (k : Int) < zs.length := by omega
      obtain ⟨b, off, rfl, hb, hcc⟩ := HJ.out.at_ (by omega)
      have hcell := (X.out.1.cell (p := ⟨b, off + k, none⟩) hb).trans (hcc k hlt)
      have hwf := HJ.out.wf (zs.getD k 0) (by simp [List.getD, List.getElem?_eq_getElem hlt])
      have hpt := pb_take (nm := nm) (W := ws) hlt
      have hpl : (pbR nm ws (zs.take k)).length ≤ 900000000 := by
        have h1 := pb_len nm ws (zs.take k) 10000 hl0 (by omega)
        have h2 : (zs.take k).length ≤ 10000 := by rw [List.length_take]; omega
        have h3 : 10000 * (zs.take k).length ≤ 10000 * 10000 := Nat.mul_le_mul_left _ h2
        omega
      have HPT := Lib.hid hpt; clear hpt hcc
      have HW := Lib.hid hwf; clear hwf
      generalize zs.getD k 0 = z at *
      by_cases he : z = nm
      · have hpt := HPT.out
        rw [if_pos he] at hpt
        have HP := Lib.hid hpt; clear hpt HPT
        have heq : (z == nm) = true := by simpa using he
        clear he
        go_wp2_with (at_builtin; refine wpList_append_V rfl _ _ _ rfl Try.underlying23 intInfo w.heap.size wr.heap.size _ (pbR nm ws (zs.take k)) rfl X.out.2 hsz _ ws rfl (H.out.1.step X.out.1) (by omega) ?_)
        intro v2 w2 ho2 hb2
        have hz2 : w.heap.size ≤ w2.heap.size := by have := hb2.size; omega
        have ho3 : OwnI w2 w.heap.size w2.heap.size v2 (pbR nm ws (zs.take (k + 1))) := by rw [HP.out]; exact ho2
        have Y := Lib.hid (And.intro (X.out.1.trans hb2) ho3); clear ho2 hb2 ho3 X
        go_wp2
        go_roundw
        case rel => exact ⟨k + 1, by omega, by go_num, hz2, Y.out.1, Y.out.2⟩
        case measure => simp [intOf]; omega
      · have hpt := HPT.out
        rw [if_neg he] at hpt
        have HP := Lib.hid hpt; clear hpt HPT
        have heq : (z == nm) = false := by simpa using he
        clear he
        go_wp2_with (at_builtin; refine wpList_append_z rfl _ _ _ rfl Try.underlying23 intInfo z rfl HW.out w.heap.size wr.heap.size _ _ rfl X.out.2 hsz rfl hpl ?_)
        intro v2 w2 ho2 hb2 _
        have hz2 : w.heap.size ≤ w2.heap.size := by have := hb2.size; omega
        have ho3 : OwnI w2 w.heap.size w2.heap.size v2 (pbR nm ws (zs.take (k + 1))) := by rw [HP.out]; exact ho2
        have Y := Lib.hid (And.intro (X.out.1.trans hb2) ho3); clear ho2 hb2 ho3 X
        go_wp2
        go_roundw
        case rel => exact ⟨k + 1, by omega, by go_num, hz2, Y.out.1, Y.out.2⟩
        case measure => simp [intOf]; omega
    · have hke : zs.take k = zs := List.take_of_length_le (by omega)
      have hown := X.out.2
      rw [hke] at hown
      have HO := Lib.hid hown; clear hown hke
      go_wp2
      go_ret
      exact ⟨_, rfl, HO.out, X.out.1⟩
set_option maxHeartbeats 1000000 in
theorem cutLong_any (v : Value) (zs : List Int) (w : World) (h : RdI w v zs) (hl : zs.length ≤ 1000000000) :
    Calls Try.prog 144 #[v] w fun e w' => (∃ u, e = .returned u ∧ RdI w u (cutR 0 zs) ∧ (nwR zs ≤ 60 → u = v)) ∧ w = w' := by
  have H := Lib.hid h
  obtain ⟨A, c, rfl, hi, hc⟩ := h
  have HI := Lib.hid hi; clear hi
  go_enter Try.func144, Try.ntmps144
  go_wp2
  go_loop [3, 8] (fun m i => ∃ k n : Nat, k ≤ zs.length ∧ i = .int .i64 k ∧ m = .int .i64 n ∧ n ≤ 60 ∧ n = nwR (zs.take k) ∧ cutR 0 zs = zs.take k ++ cutR n (zs.drop k)) (fun _ i => zs.length - (intOf i).toNat)
  case atStart => exact ⟨0, 0, Nat.zero_le _, rfl, rfl, Nat.zero_le _, rfl, by simp⟩
  case round =>
    obtain ⟨k, n, hk, rfl, rfl, hn, hnw, hcut⟩ := hrel
    by_cases hlt : k < zs.length
    · have hkI : (k : Int) < zs.length := by omega
      obtain ⟨b, off, rfl, hb, hcc⟩ := HI.out.at_ (by omega)
      have hcell := hcc k hlt
      have hst := cut_step (c := n) hlt
      have hnt := nw_take hlt
      rw [← hnw] at hnt
      have hts := take_snoc hlt
      rw [hst] at hcut
      have hnl := nw_take_le zs (k + 1)
      clear hst hcc
      generalize hz : zs.getD k 0 = z at *
      rcases hw : isWordB z with _ | _ <;> have HW := Lib.hid hw <;> clear hw
      · simp only [HW.out, Bool.false_eq_true, if_false] at hcut hnt
        rw [if_neg (by omega)] at hcut
        have hnew : cutR 0 zs = zs.take (k + 1) ++ cutR n (zs.drop (k + 1)) := by rw [hcut, hts]; simp
        have HN := Lib.hid (And.intro hnt.symm hnew); clear hnt hnew hcut hts hnw hz hnl
        go_wp2_with (go_at_call 164; refine (isWord_any _ _).mono ?_; rw [HW.out]; rintro e w' ⟨rfl, rfl⟩)
        go_round
        case rel => exact ⟨k + 1, n, by omega, by go_num, rfl, hn, HN.out.1, HN.out.2⟩
        case measure => simp [intOf]; omega
      · simp only [HW.out, if_true] at hcut hnt
        by_cases h60 : 60 < n + 1
        · rw [if_pos h60] at hcut
          have hnew : cutR 0 zs = zs.take (k + 1) := by rw [hcut, hts]
          have hrd : RdI w (.slice (some ⟨b, off, none⟩) (k + 1) c) (cutR 0 zs) := by rw [hnew]; exact H.out.first9 (k + 1) (by omega)
          have hno : nwR zs ≤ 60 → False := fun h => by omega
          have HN := Lib.hid (And.intro hrd hno); clear hrd hno hnt hnew hcut hts hnw hz hnl
          have h60I : (60 : Int) < (n : Int) + 1 := by omega
          have hkc : k + 1 ≤ c := by omega
          go_wp2_with (go_at_call 164; refine (isWord_any _ _).mono ?_; rw [HW.out]; rintro e w' ⟨rfl, rfl⟩)
          go_ret
          exact ⟨⟨_, rfl, HN.out.1, fun h => (HN.out.2 h).elim⟩, rfl⟩
        · rw [if_neg h60] at hcut
          have hnew : cutR 0 zs = zs.take (k + 1) ++ cutR (n + 1) (zs.drop (k + 1)) := by rw [hcut, hts]; simp
          have HN := Lib.hid (And.intro hnt.symm hnew); clear hnt hnew hcut hts hnw hz hnl
          have h60I : ¬ (60 : Int) < (n : Int) + 1 := by omega
          go_wp2_with (go_at_call 164; refine (isWord_any _ _).mono ?_; rw [HW.out]; rintro e w' ⟨rfl, rfl⟩)
          go_round
          case rel => exact ⟨k + 1, n + 1, by omega, by go_num, by go_num, by omega, HN.out.1, HN.out.2⟩
          case measure => simp [intOf]; omega
    · have hke : cutR 0 zs = zs := by rw [hcut, List.drop_eq_nil_of_le (by omega), List.take_of_length_le (by omega)]; simp [cutR]
      have HK := Lib.hid hke; clear hke hcut hnw
      go_wp2
      go_ret
      exact ⟨⟨_, rfl, by rw [HK.out]; exact H.out, fun _ => rfl⟩, rfl⟩
end Go.Proofs.Ytaehaalaeikloaa
