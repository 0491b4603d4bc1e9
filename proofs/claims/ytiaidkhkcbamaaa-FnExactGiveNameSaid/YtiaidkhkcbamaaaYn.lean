/- Chapter 9: MeansOf, the program's and the model's. -/
import Derived.Test.YtiaidkhkcbamaaaYm
import Derived.Test.YtiaidkhkcbamaaaYe
namespace Go.Proofs.Ytiaidkhkcbamaaa
set_option maxRecDepth 100000
open Go.RowKit Go.WideShapes

set_option maxHeartbeats 1000000 in
theorem MeansOf_I (v0 : Value) (x0 : List (List Int)) (v1 : Value) (x1 : List Int) (w : World) (h0 : RdS w v0 x0) (hl0 : x0.length ≤ 1048576) (hls0 : szS x0 ≤ 1048576) (h1 : RdI w v1 x1) (hl1 : x1.length ≤ 1048576) (y0 : List Int) (y1 : Bool) (hR : meansR x0 x1 = (y0, y1)) :
    Calls Try.prog 24 #[v0, v1] w fun e w' => ∃ u, e = .returned (.tuple #[u, .bool y1]) ∧ OwnI w' w.heap.size w'.heap.size u y0 ∧ Below w.heap.size w w' := by
  have H := Lib.hid (And.intro h0 h1); clear h1
  obtain ⟨A, c, rfl, _⟩ := h0
  have HR := Lib.hid hR; clear hR
  rcases hd : usesOkB x0 x1 with _ | _ <;> have HD := Lib.hid hd <;> clear hd
  · obtain ⟨rfl, rfl⟩ : [] = y0 ∧ false = y1 := by have := HR.out; rw [meansR, if_neg (by rw [HD.out]; simp)] at this; cases this; exact ⟨rfl, rfl⟩
    go_enter Try.func24, Try.ntmps24
    go_wp2_with fail
    refine (UsesOk_I _ x0 _ x1 _ H.out.1 hl0 hls0 H.out.2 hl1 false HD.out).mono ?_
    rintro e w1 ⟨rfl, hb⟩
    have HB := Lib.hid hb; clear hb
    go_wp2
    go_ret2
    exact ⟨_, rfl, nilOwn _ _ _, HB.out⟩
  go_enter Try.func24, Try.ntmps24
  go_wp2_with fail
  refine (UsesOk_I _ x0 _ x1 _ H.out.1 hl0 hls0 H.out.2 hl1 true HD.out).mono ?_
  rintro e w1 ⟨rfl, hb⟩
  have hz1 := hb.size
  have HB := Lib.hid (And.intro hb (And.intro (RdS.step H.out.1 hb) (H.out.2.step hb))); clear hb
  go_wp2_with fail
  refine (withoutNames_any _ x0 _ x1 _ HB.out.2.1 HB.out.2.2 HD.out).mono ?_
  rintro e w2 ⟨u, cur, rfl, hr, hcase, hb⟩
  have hz2 := hb.size
  have X := Lib.hid (And.intro hr (below_after HB.out.1 hb)); clear hb HB
  have hlm := hr.len_le
  obtain ⟨U, cu, rfl, _⟩ := hr
  rcases hcase with ⟨he, hl, ho⟩ | ⟨h6, hf⟩
  · subst he
    obtain ⟨rfl, rfl⟩ : flatR x0 x1 = y0 ∧ true = y1 := by have := HR.out; rw [meansR, if_pos ⟨HD.out, hl⟩] at this; cases this; exact ⟨rfl, rfl⟩
    have hlI : ¬ (60 : Int) < (flatR x0 x1).length := by omega
    have hfin : OwnI w2 w.heap.size w2.heap.size _ _ := ⟨ho.own.mono hz1, ho.lt⟩
    have HF := Lib.hid hfin; clear hfin ho
    go_wp2
    go_ret2
    exact ⟨_, rfl, HF.out, X.out.2⟩
  · obtain ⟨rfl, rfl⟩ : [] = y0 ∧ false = y1 := by have := HR.out; rw [meansR, if_neg (by omega)] at this; cases this; exact ⟨rfl, rfl⟩
    have hlI : (60 : Int) < cur.length := by omega
    clear hf
    go_wp2
    go_ret2
    exact ⟨_, rfl, nilOwn _ _ _, X.out.2⟩
theorem flat_take {d : List (List Int)} {p : List Int} {k : Nat} (hk : k < p.length) : flatR d (p.take (k + 1)) = flatR d (p.take k) ++ subR (flatsR d) (p.getD k 0) := by
  rw [take_snoc hk, flat_append]
  congr 1
  simp [flatR]
theorem flat_take_le9 (d : List (List Int)) (p : List Int) (k : Nat) : (flatR d (p.take k)).length ≤ (flatR d p).length := by
  conv => rhs; rw [← List.take_append_drop k p, flat_append]
  rw [List.length_append]; omega
def OutPost (d : List (List Int)) (p : List Int) (w : World) (e : Ending) (w' : World) : Prop :=
  ∃ u, e = .returned (.tuple #[u, .bool (decide ((flatR d p).length ≤ 60))]) ∧ OwnI w' w.heap.size w'.heap.size u (if (flatR d p).length ≤ 60 then flatR d p else []) ∧ Below w.heap.size w w'
set_option maxHeartbeats 1000000 in
theorem l9Out_any (x0 : List (List Int)) (h6 : x0.length ≤ 6) (hd : dictFrom 0 x0 = true) (n : Nat) : ∀ (v0 v1 : Value) (p : List Int) (w : World), usesB n p = true → n ≤ x0.length → RdS w v0 x0 → RdI w v1 p →
    Calls Try.prog 54 #[v0, v1] w (OutPost x0 p w) := by
  induction n using Nat.strongRecOn with
  | ind n ih =>
  intro v0 v1 p w hu hn h0 h1
  have hl60 := uses_len hu
  have HU := Lib.hid (And.intro hu hd); clear hu hd
  have H := Lib.hid (And.intro h0 h1)
  obtain ⟨A, c, rfl, _⟩ := h0
  obtain ⟨A1, c1, rfl, hi1, _⟩ := h1
  have HJ := Lib.hid hi1; clear hi1
  have HI := Lib.hid ih; clear ih
  have L0 := Lib.hid (nilLit w)
  go_enter Try.func54, Try.ntmps54
  go_wp2
  go_loopw [6, 7] (fun q i wr => ∃ k : Nat, k ≤ p.length ∧ i = .int .i64 k ∧ w.heap.size ≤ wr.heap.size ∧ Below w.heap.size w wr ∧ OwnI wr w.heap.size wr.heap.size q (flatR x0 (p.take k)) ∧ (flatR x0 (p.take k)).length ≤ 60) (fun _ i _ => p.length - (intOf i).toNat)
  case atStart => exact ⟨0, Nat.zero_le _, rfl, by simp, L0.out.2, L0.out.1, by simp [flatR]⟩
  case round =>
    clear L0
    obtain ⟨k, hk, rfl, hsz, hbk, hown, hfl⟩ := hrel
    have X := Lib.hid (And.intro hbk hown); clear hbk hown
    by_cases hlt : k < p.length
    · have hkI : (k : Int) < p.length := by omega
      obtain ⟨b, off, rfl, hb, hcc⟩ := HJ.out.at_ (by omega)
      have hcell := (X.out.1.cell (p := ⟨b, off + k, none⟩) hb).trans (hcc k hlt)
      have hwz := HJ.out.wf (p.getD k 0) (by simp [List.getD, List.getElem?_eq_getElem hlt])
      have hft := flat_take (d := x0) hlt
      have hfle := flat_take_le9 x0 p (k + 1)
      have huse := uses_all HU.out.1 (p.getD k 0) (by simp [List.getD, List.getElem?_eq_getElem hlt])
      clear hcc
      generalize p.getD k 0 = z at *
      have HW := Lib.hid hwz; clear hwz
      rcases huse with hnm | hwd
      · obtain ⟨m, hm, hze⟩ := nmB_iff.1 hnm
        have hm0 : m < x0.length := by omega
        have hxm : x0[m]? = some x0[m] := List.getElem?_eq_getElem hm0
        have hum := dict_get HU.out.2 hxm
        rw [Nat.zero_add] at hum
        have hsub : subR (flatsR x0) z = flatR x0 x0[m] := by rw [hze, sub_name, flats_get HU.out.2 hxm]
        obtain ⟨b2, off2, q, rfl, hbq, hcq, hq⟩ := H.out.1.get hxm
        have hcellq := (X.out.1.cell (p := ⟨b2, off2 + m, none⟩) hbq).trans hcq
        have hqr := (hq.below X.out.1).rd X.out.1.size
        have hz1 : ¬ z < 1101 := by omega
        have hz2 : z - 1101 = (m : Int) := by omega
        have hmI : (m : Int) < x0.length := by omega
        rw [hsub] at hft
        generalize x0[m] = xm at *
        have hcall := HI.out m hm _ q xm wr hum (by omega) (RdS.step H.out.1 X.out.1) hqr
        have R := Lib.hid (And.intro hcall hft); clear hcall hft hqr hq hcq hum hsub hnm hxm hze
        go_wp2_with fail
        refine R.out.1.mono ?_
        rintro e w3 ⟨u, rfl, ho, hb3⟩
        have hz3 := hb3.size
        by_cases hxl : (flatR x0 xm).length ≤ 60
        · rw [if_pos hxl] at ho
          rw [decide_eq_true hxl]
          have hown3 := ((X.out.2.below hb3).widen hz3)
          have R3 := Lib.hid (And.intro ho (And.intro hown3 (X.out.1.trans (hb3.mono hsz)))); clear ho hown3 hb3 X
          go_wp2_with (at_builtin; refine wpList_append_V rfl _ _ _ rfl Try.underlying28 intInfo w.heap.size w3.heap.size _ (flatR x0 (p.take k)) rfl R3.out.2.1 (by omega) _ (flatR x0 xm) rfl R3.out.1.rd (by omega) ?_)
          intro v4 w4 ho4 hb4
          have hz4 : w.heap.size ≤ w4.heap.size := by have := hb4.size; omega
          rw [← R.out.2] at ho4
          have Y := Lib.hid (And.intro (R3.out.2.2.trans hb4) ho4)
          have hlm := ho4.own.len_le
          obtain ⟨U, cu, rfl, _⟩ := ho4.rd
          clear ho4 hb4 R3
          by_cases hl4 : (flatR x0 (p.take (k + 1))).length ≤ 60
          · have hl4I : ¬ (60 : Int) < (flatR x0 (p.take (k + 1))).length := by omega
            go_wp2
            go_roundw
            case rel => exact ⟨k + 1, by omega, by go_num, hz4, Y.out.1, Y.out.2, hl4⟩
            case measure => simp [intOf]; omega
          · have hl4I : (60 : Int) < (flatR x0 (p.take (k + 1))).length := by omega
            have hno : ¬ (flatR x0 p).length ≤ 60 := by omega
            have N := Lib.hid (nilOut Y.out.1)
            have hfin : OutPost x0 p w (.returned (.tuple #[.slice (some ⟨w4.heap.size, 0, none⟩) 0 0, .bool false])) (w4.alloc (.cells #[] 3)) := ⟨_, by rw [decide_eq_false hno], by rw [if_neg hno]; exact N.out⟩
            have F := Lib.hid hfin; clear hfin
            go_wp2
            go_ret2
            exact F.out
        · rw [decide_eq_false hxl]
          have hno : ¬ (flatR x0 p).length ≤ 60 := by
            have h1 := congrArg List.length R.out.2
            rw [List.length_append] at h1
            omega
          have hb4 : Below w.heap.size w w3 := X.out.1.trans (hb3.mono hsz)
          have N := Lib.hid (nilOut hb4)
          have hfin : OutPost x0 p w (.returned (.tuple #[.slice (some ⟨w3.heap.size, 0, none⟩) 0 0, .bool false])) (w3.alloc (.cells #[] 3)) := ⟨_, by rw [decide_eq_false hno], by rw [if_neg hno]; exact N.out⟩
          have F := Lib.hid hfin; clear hfin hb4 ho hb3
          go_wp2
          go_ret2
          exact F.out
      · have hzb := isWordB_lt hwd
        have hz1 : z < 1101 := by omega
        rw [sub_word _ hwd] at hft
        have HFT := Lib.hid hft; clear hft hwd
        go_wp2_with (at_builtin; refine wpList_append_z rfl _ _ _ rfl Try.underlying28 intInfo z rfl HW.out w.heap.size wr.heap.size _ _ rfl X.out.2 hsz rfl (by omega) ?_)
        intro v4 w4 ho4 hb4 _
        have hz4 : w.heap.size ≤ w4.heap.size := by have := hb4.size; omega
        rw [← HFT.out] at ho4
        have Y := Lib.hid (And.intro (X.out.1.trans hb4) ho4)
        have hlm := ho4.own.len_le
        obtain ⟨U, cu, rfl, _⟩ := ho4.rd
        clear ho4 hb4 X
        by_cases hl4 : (flatR x0 (p.take (k + 1))).length ≤ 60
        · have hl4I : ¬ (60 : Int) < (flatR x0 (p.take (k + 1))).length := by omega
          go_wp2
          go_roundw
          case rel => exact ⟨k + 1, by omega, by go_num, hz4, Y.out.1, Y.out.2, hl4⟩
          case measure => simp [intOf]; omega
        · have hl4I : (60 : Int) < (flatR x0 (p.take (k + 1))).length := by omega
          have hno : ¬ (flatR x0 p).length ≤ 60 := by omega
          have N := Lib.hid (nilOut Y.out.1)
          have hfin : OutPost x0 p w (.returned (.tuple #[.slice (some ⟨w4.heap.size, 0, none⟩) 0 0, .bool false])) (w4.alloc (.cells #[] 3)) := ⟨_, by rw [decide_eq_false hno], by rw [if_neg hno]; exact N.out⟩
          have F := Lib.hid hfin; clear hfin
          go_wp2
          go_ret2
          exact F.out
    · have hke : p.take k = p := List.take_of_length_le (by omega)
      have hown := X.out.2
      rw [hke] at hfl hown
      have hfin : ∀ q, OwnI wr w.heap.size wr.heap.size q (flatR x0 p) → OutPost x0 p w (.returned (.tuple #[q, .bool true])) wr := fun q hq => ⟨q, by rw [decide_eq_true hfl], by rw [if_pos hfl]; exact hq, X.out.1⟩
      have F := Lib.hid (hfin _ hown); clear hfin hown hke
      go_wp2
      go_ret2
      exact F.out
set_option maxHeartbeats 1000000 in
theorem MeansOf_S (v0 : Value) (x0 : List (List Int)) (v1 : Value) (x1 : List Int) (w : World) (h0 : RdS w v0 x0) (hl0 : x0.length ≤ 1048576) (hls0 : szS x0 ≤ 1048576) (h1 : RdI w v1 x1) (hl1 : x1.length ≤ 1048576) (y0 : List Int) (y1 : Bool) (hR : meansR x0 x1 = (y0, y1)) :
    Calls Try.prog 25 #[v0, v1] w fun e w' => ∃ u, e = .returned (.tuple #[u, .bool y1]) ∧ OwnI w' w.heap.size w'.heap.size u y0 ∧ Below w.heap.size w w' := by
  have H := Lib.hid (And.intro h0 h1); clear h1
  obtain ⟨A, c, rfl, _⟩ := h0
  have HR := Lib.hid hR; clear hR
  rcases hd : usesOkB x0 x1 with _ | _ <;> have HD := Lib.hid hd <;> clear hd
  · obtain ⟨rfl, rfl⟩ : [] = y0 ∧ false = y1 := by have := HR.out; rw [meansR, if_neg (by rw [HD.out]; simp)] at this; cases this; exact ⟨rfl, rfl⟩
    go_enter Try.func25, Try.ntmps25
    go_wp2_with fail
    refine (UsesOk_S _ x0 _ x1 _ H.out.1 hl0 hls0 H.out.2 hl1 false HD.out).mono ?_
    rintro e w1 ⟨rfl, hb⟩
    have N := Lib.hid (nilOut hb); clear hb
    go_wp2
    go_ret2
    exact ⟨_, rfl, N.out⟩
  have hu := HD.out
  simp only [usesOkB, Bool.and_eq_true] at hu
  have hn6 := (dictB_parts hu.1).1
  have HU := Lib.hid (And.intro (dictB_parts hu.1).2 hu.2); clear hu
  go_enter Try.func25, Try.ntmps25
  go_wp2_with fail
  refine (UsesOk_S _ x0 _ x1 _ H.out.1 hl0 hls0 H.out.2 hl1 true HD.out).mono ?_
  rintro e w1 ⟨rfl, hb⟩
  have hz1 := hb.size
  have HB := Lib.hid (And.intro hb (And.intro (RdS.step H.out.1 hb) (H.out.2.step hb))); clear hb
  go_wp2_with fail
  refine (l9Out_any x0 hn6 HU.out.1 x0.length _ _ x1 _ HU.out.2 (Nat.le_refl _) HB.out.2.1 HB.out.2.2).mono ?_
  rintro e w2 ⟨u, rfl, ho, hb⟩
  have hy : decide ((flatR x0 x1).length ≤ 60) = y1 ∧ (if (flatR x0 x1).length ≤ 60 then flatR x0 x1 else []) = y0 := by
    have := HR.out
    by_cases hl : (flatR x0 x1).length ≤ 60
    · rw [meansR, if_pos ⟨HD.out, hl⟩] at this; cases this; exact ⟨decide_eq_true hl, if_pos hl⟩
    · rw [meansR, if_neg (fun h => hl h.2)] at this; cases this; exact ⟨decide_eq_false hl, if_neg hl⟩
  rw [hy.2] at ho
  rw [hy.1]
  have hfin : OwnI w2 w.heap.size w2.heap.size u y0 := ⟨ho.own.mono hz1, ho.lt⟩
  have F := Lib.hid (And.intro hfin (below_after HB.out.1 hb)); clear hfin ho hb hy
  go_wp2
  go_ret2
  exact ⟨_, rfl, F.out⟩
theorem meansR_sz (d : List (List Int)) (p : List Int) : szI (meansR d p).1 ≤ 1000000 := by
  unfold meansR szI
  split
  · rename_i h; have := h.2; show (flatR d p).length ≤ 1000000; omega
  · simp
end Go.Proofs.Ytiaidkhkcbamaaa
