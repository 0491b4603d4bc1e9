/- Chapter 7: PlacesThen, the program's and the model's. -/
import Derived.Test.YtjbfpbajbjnifaaJb
import Derived.Test.YtjbfpbajbjnifaaJh
import Derived.Test.YtjbfpbajbjnifaaB1
namespace Go.Proofs.Ytjbfpbajbjnifaa
set_option maxRecDepth 100000
open Go.RowKit Go.WideShapes

theorem allB_drop (many : Int) (zs : List Int) (k : Nat) (h : k < zs.length) : allB many (zs.drop k) = (decide (0 ≤ zs.getD k 0) && decide (zs.getD k 0 < many) && allB many (zs.drop (k + 1))) := by
  unfold allB
  rw [List.drop_eq_getElem_cons h, List.all_cons]; simp [List.getD, List.getElem?_eq_getElem h]
theorem allBelow_any (m : Int) (A : Option Addr) (c : Nat) (zs : List Int) (w : World) (h : Ints w A zs) :
    Calls Try.prog 80 #[.int .i64 m, .slice A zs.length c] w fun e w' => e = .returned (.bool (allB m zs)) ∧ w = w' := by
  have hm := h.len
  obtain ⟨-, -, hr⟩ := h
  have Hr := Lib.hid hr; clear hr
  go_enter Try.func80, Try.ntmps80
  go_wp2
  go_loop [9] (fun i => ∃ k : Nat, k ≤ zs.length ∧ i = .int .i64 k ∧ allB m (zs.drop k) = allB m zs) (fun i => zs.length - (intOf i).toNat)
  case atStart => exact ⟨0, Nat.zero_le _, rfl, by simp⟩
  case round =>
    obtain ⟨k, hk, rfl, hall⟩ := hrel
    by_cases hlt : k < zs.length
    · rw [allB_drop m zs k hlt] at hall
      have Hall := Lib.hid hall; clear hall
      obtain ⟨bb, off, rfl, hb, hc⟩ := Hr.out (by omega)
      have hcell := hc k hlt
      clear hc
      generalize zs.getD k 0 = z at *
      by_cases h0 : z < 0
      · go_wp2
        go_ret
        exact ⟨ret_bool (by rw [← Hall.out, show decide (0 ≤ z) = false from decide_eq_false (by omega)]; rfl), rfl⟩
      · by_cases h1 : m ≤ z
        · go_wp2
          go_ret
          exact ⟨ret_bool (by rw [← Hall.out, show decide (z < m) = false from decide_eq_false (by omega)]; simp), rfl⟩
        · go_wp2
          go_round
          case rel => exact ⟨k + 1, by omega, by go_num, by rw [← Hall.out, show decide (z < m) = true from decide_eq_true (by omega), show decide (0 ≤ z) = true from decide_eq_true (by omega)]; rfl⟩
          case measure => simp [intOf]; omega
    · rw [List.drop_eq_nil_of_le (by omega)] at hall
      have Hall := Lib.hid hall; clear hall
      go_wp2
      go_ret
      exact ⟨ret_bool (by rw [← Hall.out]; rfl), rfl⟩
theorem fillGet (ys : List Int) (n k : Nat) (hn : ys.length = n) (h : k < n) : ((ys.take k ++ List.replicate (n - k) 0).map (Value.int .i64))[k]? = some (.int .i64 0) := by subst hn; exact fill_get ys k h
theorem fillSet (ys : List Int) (n k : Nat) (hn : ys.length = n) (h : k < n) : ((ys.take k ++ List.replicate (n - k) 0).map (Value.int .i64)).set k (.int .i64 (ys.getD k 0)) = (ys.take (k + 1) ++ List.replicate (n - (k + 1)) 0).map (Value.int .i64) := by subst hn; exact fill_set ys k h
theorem allB_get {m : Int} {zs : List Int} (h : allB m zs = true) (k : Nat) (hk : k < zs.length) : ∃ n : Nat, zs.getD k 0 = n ∧ (n : Int) < m := by
  have h1 := allB_mem h (zs.getD k 0) (by simp [List.getD, List.getElem?_eq_getElem hk])
  exact ⟨(zs.getD k 0).toNat, by omega, by omega⟩

set_option maxHeartbeats 1000000 in
theorem PlacesThen_I (v0 : Value) (x0 : List Int) (v1 : Value) (x1 : List Int) (w : World) (h0 : RdI w v0 x0) (_ : x0.length ≤ 1048576) (h1 : RdI w v1 x1) (_ : x1.length ≤ 1048576) (y0 : List Int) (y1 : Bool) (hR : placesThenR x0 x1 = (y0, y1)) :
    Calls Try.prog 40 #[v0, v1] w fun e w' => ∃ u, e = .returned (.tuple #[u, .bool y1]) ∧ OwnI w' w.heap.size w'.heap.size u y0 ∧ Below w.heap.size w w' := by
  obtain ⟨A, c, rfl, hi, hc⟩ := h0
  obtain ⟨A1, c1, rfl, hi1, hc1⟩ := h1
  have hl0 := hi.len
  have hl1 := hi1.len
  have HI := Lib.hid hi; clear hi
  have HJ := Lib.hid hi1; clear hi1
  have HR := Lib.hid hR; clear hR
  have HB := Lib.hid (nilOwn w w.heap.size w.heap.size)
  by_cases q0 : 5 < x0.length
  · obtain ⟨rfl, rfl⟩ : [] = y0 ∧ false = y1 := by have := HR.out; rw [placesThenR, if_neg (by omega)] at this; cases this; exact ⟨rfl, rfl⟩
    have q0I : (5 : Int) < x0.length := by omega
    go_enter Try.func40, Try.ntmps40
    go_wp2
    go_ret2
    exact ⟨_, rfl, HB.out, Below.refl _ _⟩
  have q0I : ¬ (5 : Int) < x0.length := by omega
  by_cases q1 : 5 < x1.length
  · obtain ⟨rfl, rfl⟩ : [] = y0 ∧ false = y1 := by have := HR.out; rw [placesThenR, if_neg (by omega)] at this; cases this; exact ⟨rfl, rfl⟩
    have q1I : (5 : Int) < x1.length := by omega
    go_enter Try.func40, Try.ntmps40
    go_wp2
    go_ret2
    exact ⟨_, rfl, HB.out, Below.refl _ _⟩
  have q1I : ¬ (5 : Int) < x1.length := by omega
  rcases ha : allB x0.length x1 with _ | _ <;> have Ha := Lib.hid ha <;> clear ha
  · obtain ⟨rfl, rfl⟩ : [] = y0 ∧ false = y1 := by have := HR.out; rw [placesThenR, if_neg (by rw [show (x1.all fun z => decide (0 ≤ z) && decide (z < x0.length)) = false from Ha.out]; simp)] at this; cases this; exact ⟨rfl, rfl⟩
    go_enter Try.func40, Try.ntmps40
    go_wp2_with (go_at_call 80; refine (allBelow_any _ A1 c1 x1 _ HJ.out).mono ?_; rw [Ha.out]; rintro e w' ⟨rfl, rfl⟩)
    go_ret2
    exact ⟨_, rfl, HB.out, Below.refl _ _⟩
  obtain ⟨rfl, rfl⟩ : (x1.map fun z => x0.getD z.toNat 0) = y0 ∧ true = y1 := by have := HR.out; rw [placesThenR, if_pos ⟨by omega, by omega, Ha.out⟩] at this; cases this; exact ⟨rfl, rfl⟩
  clear HB HR
  have hyl : (x1.map fun z => x0.getD z.toNat 0).length = x1.length := by simp
  have hyg : ∀ k, k < x1.length → (x1.map fun z => x0.getD z.toNat 0).getD k 0 = x0.getD (x1.getD k 0).toNat 0 := by
    intro k hk; simp [List.getD, List.getElem?_eq_getElem hk]
  have hyw : ∀ z ∈ (x1.map fun z => x0.getD z.toNat 0), InK .i64 z := by
    intro z hz
    obtain ⟨y, hy, rfl⟩ := List.mem_map.1 hz
    by_cases hyl : y.toNat < x0.length
    · simp only [List.getD, List.getElem?_eq_getElem hyl, Option.getD_some]
      exact HI.out.wf _ (List.getElem_mem _)
    · simp only [List.getD, List.getElem?_eq_none (Nat.le_of_not_lt hyl), Option.getD_none]
      exact wf_small 0 (by omega)
  generalize (x1.map fun z => x0.getD z.toNat 0) = ys at *
  have HYL := Lib.hid hyl; clear hyl
  have HYG := Lib.hid hyg; clear hyg
  have HYW := Lib.hid hyw; clear hyw
  obtain ⟨i0, hi0, hz0, hz1, hz2⟩ := info_parts intInfo
  have hn5 : x1.length ≤ 5 := by omega
  go_enter Try.func40, Try.ntmps40
  go_wp2_with (first
    | (go_at_call 80; refine (allBelow_any _ A1 c1 x1 _ HJ.out).mono ?_; rw [Ha.out]; rintro e w' ⟨rfl, rfl⟩)
    | (at_make; refine wpList_make_full _ rfl _ _ _ rfl w.heap.size 3 i0 (.int .i64 0) 1 Try.underlying23 hi0 hz0 hz1 _ _ _ _ x1.length rfl rfl rfl rfl (by rw [hz2]; omega) (by unfold maxLen; omega) (by simp) ?_))
  intro w1 hown1 hg1
  rw [toList_madeCells_one] at hown1
  have hb1 : Below w.heap.size w w1 := below_of_only hg1 (Nat.le_refl _) (by simp)
  have hstart : w1.ownsRow w.heap.size 3 1 (.slice (some ⟨w.heap.size, 0, none⟩) x1.length x1.length) x1.length ((ys.take 0 ++ List.replicate (x1.length - 0) 0).map (Value.int .i64)) := by simpa using hown1
  have hlt1 : w.heap.size < w1.heap.size := (hown1.lt w.heap.size rfl).2
  clear hown1 hg1
  generalize hG : w.heap.size = g at *
  have HG := Lib.hid hG; clear hG
  go_wp2
  go_loopw [29] (fun i wr => ∃ k : Nat, k ≤ x1.length ∧ i = .int .i64 k ∧ g < wr.heap.size ∧ Below g w wr ∧ wr.ownsRow g 3 1 (.slice (some ⟨g, 0, none⟩) x1.length x1.length) x1.length ((ys.take k ++ List.replicate (x1.length - k) 0).map (Value.int .i64))) (fun i _ => x1.length - (intOf i).toNat)
  case atStart => exact ⟨0, Nat.zero_le _, rfl, hlt1, hb1, hstart⟩
  case round =>
    clear hb1 hstart hlt1
    obtain ⟨k, hk, rfl, hsz, hbk, hownk⟩ := hrel
    by_cases hlt : k < x1.length
    · obtain ⟨n, hn, hnl⟩ := allB_get Ha.out k hlt
      have hnl' : n < x0.length := by omega
      obtain ⟨b, off, rfl, hb, hcc⟩ := HJ.out.at_ (by omega)
      obtain ⟨b0, off0, rfl, hb0, hcc0⟩ := HI.out.at_ (by omega)
      rw [HG.out] at hb hb0
      have hcell := (hbk.cell (p := ⟨b, off + k, none⟩) hb).trans (hcc k hlt)
      have hcell0 := (hbk.cell (p := ⟨b0, off0 + n, none⟩) hb0).trans (hcc0 n hnl')
      rw [hn] at hcell
      have hold := (hownk.cellAt k (by omega)).trans (fillGet ys x1.length k HYL.out hlt)
      have hfr := hownk.frozenAt k
      have hst := (hownk.stored k (.int .i64 (ys.getD k 0))).1
      have hsz2 := (hownk.stored k (.int .i64 (ys.getD k 0)))
      rw [fillSet ys x1.length k HYL.out hlt] at hst
      have hyk := HYG.out k hlt
      rw [hn, Int.toNat_natCast] at hyk
      rw [← hyk] at hcell0
      clear hcc hcc0 hownk hyk
      have Hst := Lib.hid hst; clear hst hsz2 hn
      have hgb : g ≠ b := by omega
      have hgb0 : g ≠ b0 := by omega
      generalize ys.getD k 0 = z at *
      go_wp2
      go_roundw
      case rel => exact ⟨k + 1, by omega, by go_num, by simpa using hsz, hbk.setCell (Nat.le_refl _) _, Hst.out⟩
      case measure => simp [intOf]; omega
    · have hke : k = x1.length := by omega
      go_wp2
      go_ret2
      have hf : wr.ownsRow g 3 1 (.slice (some ⟨g, 0, none⟩) x1.length x1.length) ys.length (ys.map (Value.int .i64)) := by
        have h := hownk
        rw [hke, List.take_of_length_le (by rw [HYL.out]; omega)] at h
        rw [HYL.out]
        simpa using h
      exact ⟨_, rfl, by rw [HG.out]; exact ⟨⟨hf, HYW.out⟩, fun q hq => by simp [Value.ownBlock] at hq; omega⟩, by rw [HG.out]; exact hbk⟩

def thenL (a b : List Int) (k : Nat) : List Int := (b.take k).map fun z => a.getD z.toNat 0
theorem thenL_len (a b : List Int) (k : Nat) : (thenL a b k).length ≤ b.length := by unfold thenL; simp; omega
theorem thenOne {a b : List Int} {k : Nat} (hk : k < b.length) : thenL a b (k + 1) = thenL a b k ++ [a.getD (b.getD k 0).toNat 0] := by
  unfold thenL
  rw [List.take_add_one, List.map_append]; simp [List.getD, List.getElem?_eq_getElem hk]
set_option maxHeartbeats 1000000 in
theorem PlacesThen_S (v0 : Value) (x0 : List Int) (v1 : Value) (x1 : List Int) (w : World) (h0 : RdI w v0 x0) (hq0 : x0.length ≤ 1048576) (h1 : RdI w v1 x1) (hq1 : x1.length ≤ 1048576) (y0 : List Int) (y1 : Bool) (hR : placesThenR x0 x1 = (y0, y1)) :
    Calls Try.prog 41 #[v0, v1] w fun e w' => ∃ u, e = .returned (.tuple #[u, .bool y1]) ∧ OwnI w' w.heap.size w'.heap.size u y0 ∧ Below w.heap.size w w' := by
  obtain ⟨A, c, rfl, hi, hc⟩ := h0
  obtain ⟨A1, c1, rfl, hi1, hc1⟩ := h1
  have HI := Lib.hid hi; clear hi
  have HJ := Lib.hid hi1; clear hi1
  have HR := Lib.hid hR; clear hR
  have L0 := Lib.hid (nilLit w)
  go_enter Try.func41, Try.ntmps41
  go_wp2
  go_loopw [6, 7] (fun q i wr => ∃ k : Nat, k ≤ x1.length ∧ i = .int .i64 k ∧ w.heap.size ≤ wr.heap.size ∧ Below w.heap.size w wr ∧ OwnI wr w.heap.size wr.heap.size q (thenL x0 x1 k) ∧ allB x0.length (x1.drop k) = allB x0.length x1) (fun _ i _ => x1.length - (intOf i).toNat)
  case atStart => exact ⟨0, Nat.zero_le _, rfl, by simp, L0.out.2, L0.out.1, by simp⟩
  case round =>
    clear L0
    obtain ⟨k, hk, rfl, hsz, hbk, hown, hal⟩ := hrel
    have X := Lib.hid (And.intro hbk (And.intro hown hal)); clear hbk hown hal
    by_cases hlt : k < x1.length
    · obtain ⟨b, off, rfl, hb, hcc⟩ := HJ.out.at_ (by omega)
      have hcell := (X.out.1.cell (p := ⟨b, off + k, none⟩) hb).trans (hcc k hlt)
      clear hcc
      have hal := allB_drop x0.length x1 k hlt
      have hone := thenOne (a := x0) hlt
      have HO := Lib.hid hone; clear hone
      have HAL := Lib.hid hal; clear hal
      generalize x1.getD k 0 = z at *
      rcases hz : (decide (0 ≤ z) && decide (z ≤ (x0.length : Int) - 1)) with _ | _ <;> have HZ := Lib.hid hz <;> clear hz
      · have hf : allB x0.length x1 = false := by
          rw [← X.out.2.2, HAL.out]
          have := HZ.out
          rw [Bool.and_eq_false_iff] at this
          rcases this with h | h
          · rw [h]; simp
          · have : decide (z < (x0.length : Int)) = false := by rw [decide_eq_false_iff_not] at h ⊢; omega
            rw [this]; simp
        obtain ⟨rfl, rfl⟩ : [] = y0 ∧ false = y1 := by have := HR.out; rw [placesThenR, if_neg (by rw [show (x1.all fun z => decide (0 ≤ z) && decide (z < x0.length)) = false from hf]; simp)] at this; cases this; exact ⟨rfl, rfl⟩
        have N := Lib.hid (nilOut X.out.1)
        clear X hf HAL HO
        go_wp2_with (go_at_call 72; refine (l1In_any _ _ _ _).mono ?_; rw [HZ.out]; rintro e w' ⟨rfl, rfl⟩)
        go_ret2
        exact ⟨_, rfl, N.out⟩
      · have hz01 := HZ.out
        simp only [Bool.and_eq_true, decide_eq_true_eq] at hz01
        obtain ⟨n, rfl⟩ : ∃ n : Nat, z = n := ⟨z.toNat, by omega⟩
        have hnl : n < x0.length := by omega
        obtain ⟨b0, off0, rfl, hb0, hcc0⟩ := HI.out.at_ (by omega)
        have hcell0 := (X.out.1.cell (p := ⟨b0, off0 + n, none⟩) hb0).trans (hcc0 n hnl)
        have hwf := HI.out.wf (x0.getD n 0) (by simp [List.getD, List.getElem?_eq_getElem hnl])
        have HW := Lib.hid hwf; clear hwf hcc0 hz01
        have ho1 := HO.out
        rw [Int.toNat_natCast] at ho1
        have HO1 := Lib.hid ho1; clear ho1 HO
        have hal1 : allB x0.length (x1.drop (k + 1)) = allB x0.length x1 := by
          rw [← X.out.2.2, HAL.out, show decide ((0 : Int) ≤ n) = true from decide_eq_true (by omega), show decide ((n : Int) < x0.length) = true from decide_eq_true (by omega)]; rfl
        have HAL1 := Lib.hid hal1; clear hal1 HAL
        generalize x0.getD n 0 = y at *
        go_wp2_with (first
          | (go_at_call 72; refine (l1In_any _ _ _ _).mono ?_; rw [HZ.out]; rintro e w' ⟨rfl, rfl⟩)
          | (at_builtin; refine wpList_append_z rfl _ _ _ rfl Try.underlying23 intInfo y rfl HW.out w.heap.size wr.heap.size _ _ rfl X.out.2.1 hsz rfl (Nat.le_trans (thenL_len x0 x1 k) (by omega)) ?_))
        intro v2 w2 ho2 hb2 _
        have hz2 : w.heap.size ≤ w2.heap.size := by have := hb2.size; omega
        rw [← HO1.out] at ho2
        have Y := Lib.hid (And.intro (X.out.1.trans hb2) ho2); clear ho2 hb2 X
        go_wp2
        go_roundw
        case rel => exact ⟨k + 1, by omega, by go_num, hz2, Y.out.1, Y.out.2, HAL1.out⟩
        case measure => simp [intOf]; omega
    · obtain rfl : k = x1.length := by omega
      have hal := X.out.2.2
      have hown := X.out.2.1
      rw [List.drop_length] at hal
      unfold thenL at hown
      rw [List.take_length] at hown
      have hat : allB x0.length x1 = true := by rw [← hal]; rfl
      have N := Lib.hid (nilOut X.out.1)
      have Y := Lib.hid (And.intro hown hat); clear hown hat hal
      by_cases q0 : 5 < x0.length
      · obtain ⟨rfl, rfl⟩ : [] = y0 ∧ false = y1 := by have := HR.out; rw [placesThenR, if_neg (by omega)] at this; cases this; exact ⟨rfl, rfl⟩
        have q0I : (5 : Int) < x0.length := by omega
        go_wp2
        go_ret2
        exact ⟨_, rfl, N.out⟩
      have q0I : ¬ (5 : Int) < x0.length := by omega
      by_cases q1 : 5 < x1.length
      · obtain ⟨rfl, rfl⟩ : [] = y0 ∧ false = y1 := by have := HR.out; rw [placesThenR, if_neg (by omega)] at this; cases this; exact ⟨rfl, rfl⟩
        have q1I : (5 : Int) < x1.length := by omega
        go_wp2
        go_ret2
        exact ⟨_, rfl, N.out⟩
      have q1I : ¬ (5 : Int) < x1.length := by omega
      obtain ⟨rfl, rfl⟩ : (x1.map fun z => x0.getD z.toNat 0) = y0 ∧ true = y1 := by have := HR.out; rw [placesThenR, if_pos ⟨by omega, by omega, Y.out.2⟩] at this; cases this; exact ⟨rfl, rfl⟩
      go_wp2
      go_ret2
      exact ⟨_, rfl, Y.out.1, X.out.1⟩
theorem placesThenR_len (a b : List Int) : szI (placesThenR a b).1 ≤ 1000000 := by
  unfold placesThenR szI
  split
  · rename_i h; rw [List.length_map]; omega
  · simp
end Go.Proofs.Ytjbfpbajbjnifaa
