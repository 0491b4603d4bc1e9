/- Chapter 7: PlacesOf of the model; TakesOf and SameShuffle of both. -/
import Derived.Test.YtkdpfiaegimnlaaJs
import Derived.Test.YtkdpfiaegimnlaaSl
namespace Go.Proofs.Ytkdpfiaegimnlaa
set_option maxRecDepth 100000
open Go.RowKit Go.WideShapes Go.Deep

set_option maxHeartbeats 2000000 in
theorem PlacesOf_S (v0 : Value) (x0 : List Int) (x1 : Int) (w : World) (h0 : RdI w v0 x0) (hq0 : x0.length ≤ 1048576) (_ : InK .i64 x1) (y0 : List Int) (y1 : Bool) (hR : placesR x0 x1 = (y0, y1)) :
    Calls Try.prog 31 #[v0, .int .i64 x1] w (PairI w y0 y1) := by
  have H := Lib.hid h0; clear h0
  have HR := Lib.hid hR; clear hR
  have L0 := Lib.hid (nilLit w)
  rcases hs : shufB x0 with _ | _ <;> have HS := Lib.hid hs <;> clear hs
  · obtain ⟨rfl, rfl⟩ := placesR_none HR.out (by rw [HS.out]; simp)
    go_enter Try.func31, Try.ntmps31
    go_wp2_with (go_at_call 80; refine (IsShuffle_Sw _ x0 _ H.out hq0 false HS.out).mono ?_; rintro e w' ⟨rfl, rfl⟩)
    go_ret2
    exact ⟨_, rfl, L0.out⟩
  rcases hm : (decide (0 ≤ x1) && decide (x1 ≤ 5)) with _ | _ <;> have HM := Lib.hid hm <;> clear hm
  · obtain ⟨rfl, rfl⟩ := placesR_none HR.out (by
      rintro ⟨_, h1, h2⟩
      have := HM.out
      rw [decide_eq_true h1, decide_eq_true h2] at this; cases this)
    go_enter Try.func31, Try.ntmps31
    go_wp2_with (first
      | (go_at_call 80; refine (IsShuffle_Sw _ x0 _ H.out hq0 true HS.out).mono ?_; rintro e w' ⟨rfl, rfl⟩)
      | (go_at_call 81; refine (l1In_any _ _ _ _).mono ?_; rw [HM.out]; rintro e w' ⟨rfl, rfl⟩))
    go_ret2
    exact ⟨_, rfl, L0.out⟩
  have hm2 := HM.out
  simp only [Bool.and_eq_true, decide_eq_true_eq] at hm2
  obtain ⟨n, rfl⟩ : ∃ n : Nat, x1 = n := ⟨x1.toNat, by omega⟩
  have hn5 : n ≤ 5 := by omega
  obtain ⟨hl60, hf, hsf⟩ : x0.length ≤ 60 ∧ fitsFrom 0 x0 = true ∧ shufFrom 1002 x0 = true := by
    have := HS.out
    rw [shufB, Bool.and_eq_true] at this
    have h1 := this.1
    have h2 := validB_len h1
    simp only [validB, Bool.and_eq_true] at h1
    exact ⟨h2, h1.2, this.2⟩
  have hrun : (match rowT x0 (topRow n) with
    | some t => if t.length ≤ 20 then (t.reverse, true) else ([], false)
    | none => ([], false)) = (y0, y1) := by
    have := HR.out
    rw [placesR, if_pos ⟨HS.out, by omega, by omega⟩, Int.toNat_natCast] at this
    exact this
  have HU := Lib.hid (And.intro hrun (And.intro hf hsf)); clear hrun HR hf hsf hm2
  go_enter Try.func31, Try.ntmps31
  go_wp2_with (first
    | (go_at_call 80; refine (IsShuffle_Sw _ x0 _ H.out hq0 true HS.out).mono ?_; rintro e w' ⟨rfl, rfl⟩)
    | (go_at_call 81; refine (l1In_any _ _ _ _).mono ?_; rw [HM.out]; rintro e w' ⟨rfl, rfl⟩))
  go_loopw [6, 7] (fun q i wr => ∃ k : Nat, k ≤ n ∧ i = .int .i64 k ∧ w.heap.size ≤ wr.heap.size ∧ OwnI wr w.heap.size wr.heap.size q (topRow k).reverse ∧ Below w.heap.size w wr) (fun _ i _ => n - (intOf i).toNat)
  case atStart => exact ⟨0, Nat.zero_le _, rfl, by simp, L0.out.1, L0.out.2⟩
  case round =>
    clear L0
    obtain ⟨k, hk, rfl, hsz, hown, hbk⟩ := hrel
    have X := Lib.hid (And.intro hown hbk); clear hown hbk
    by_cases hlt : k < n
    · have hltI : (k : Int) < n := by omega
      go_wp2_with (at_builtin; refine wpList_append_z rfl _ _ _ rfl Try.underlying25 intInfo (k : Int) rfl (wf_small _ (by omega)) w.heap.size wr.heap.size _ (topRow k).reverse rfl X.out.1 hsz rfl (by rw [List.length_reverse, topRow_len]; omega) ?_)
      intro v2 w2 ho2 hb2 _
      have hz2 : w.heap.size ≤ w2.heap.size := by have := hb2.size; omega
      rw [show (topRow k).reverse ++ [(k : Int)] = (topRow (k + 1)).reverse from by rw [topRow_succ, List.reverse_cons]] at ho2
      have Y := Lib.hid (And.intro ho2 (X.out.2.trans hb2)); clear ho2 hb2 X
      go_wp2
      go_roundw
      case rel => exact ⟨k + 1, by omega, by go_num, hz2, Y.out.1, Y.out.2⟩
      case measure => simp [intOf]; omega
    · obtain rfl : k = n := by omega
      have hx := H.out.step X.out.2
      have HX := Lib.hid hx; clear hx
      rcases hr : rowT x0 (topRow k) with _ | t
      · have hu := HU.out.1
        rw [hr] at hu
        cases hu
        have HP := Lib.hid (show rowPair x0 (topRow k) = ([], false) from by rw [rowPair, hr]); clear hr
        go_wp2_with fail
        refine (l7Row_any (x0.length + 1) _ x0 _ (topRow k) _ [] false (by omega) (by omega) (by rw [topRow_len]; omega) HX.out X.out.1.rd HU.out.2.1 HU.out.2.2 HP.out).mono ?_
        rintro e w2 ⟨u2, rfl, ho2, hb2⟩
        have Y := Lib.hid (nilOut (X.out.2.trans (hb2.mono hsz)))
        obtain ⟨Au, cu, rfl, _⟩ := ho2.rd
        clear ho2 hb2
        go_wp2
        go_ret2
        exact ⟨_, rfl, Y.out⟩
      · have hu := HU.out.1
        rw [hr] at hu
        dsimp only at hu
        have HP := Lib.hid (show rowPair x0 (topRow k) = (t.reverse, true) from by rw [rowPair, hr]); clear hr
        go_wp2_with fail
        refine (l7Row_any (x0.length + 1) _ x0 _ (topRow k) _ t.reverse true (by omega) (by omega) (by rw [topRow_len]; omega) HX.out X.out.1.rd HU.out.2.1 HU.out.2.2 HP.out).mono ?_
        rintro e w2 ⟨u2, rfl, ho2, hb2⟩
        have hbt := X.out.2.trans (hb2.mono hsz)
        obtain ⟨Au, cu, rfl, _⟩ := ho2.rd
        rw [List.length_reverse] at ho2 ⊢
        have Y := Lib.hid (And.intro (⟨ho2.own.mono hsz, ho2.lt⟩ : OwnI _ _ _ _ _) (And.intro hbt (nilOut hbt))); clear ho2 hb2 hbt
        by_cases hl20 : t.length ≤ 20
        · have hlI : ¬ (20 : Int) < t.length := by omega
          rw [if_pos hl20] at hu; cases hu
          go_wp2
          go_ret2
          exact ⟨_, rfl, Y.out.1, Y.out.2.1⟩
        · have hlI : (20 : Int) < t.length := by omega
          rw [if_neg hl20] at hu; cases hu
          go_wp2
          go_ret2
          exact ⟨_, rfl, Y.out.2.2⟩

theorem takesFrom_step (p : List Int) (k n : Nat) : takesFrom p k (n + 1) = if (placesR p k).2 = true then (k : Int) else takesFrom p (k + 1) n := rfl
theorem sameShufR_parts {p q xs ys : List Int} {a b y0 : Bool} (h : sameShufR p q = y0) (hp : placesR p 5 = (xs, a)) (hq : placesR q 5 = (ys, b)) : (a && b && decide (xs = ys)) = y0 := by
  rw [sameShufR, hp, hq] at h; exact h
set_option maxHeartbeats 1000000 in
theorem SameShuffle_I (v0 : Value) (x0 : List Int) (v1 : Value) (x1 : List Int) (w : World) (h0 : RdI w v0 x0) (hq0 : x0.length ≤ 1048576) (h1 : RdI w v1 x1) (hq1 : x1.length ≤ 1048576) (y0 : Bool) (hR : sameShufR x0 x1 = y0) :
    Calls Try.prog 33 #[v0, v1] w fun e w' => e = .returned (.bool y0) ∧ Below w.heap.size w w' := by
  have H := Lib.hid (And.intro h0 h1); clear h0 h1
  rcases hp : placesR x0 5 with ⟨xs, a⟩
  rcases hq : placesR x1 5 with ⟨ys, b⟩
  have hy := sameShufR_parts hR hp hq
  have HP := Lib.hid (And.intro hp hq)
  clear hR hp hq
  have I5 : InK .i64 5 := wf_small 5 (by omega)
  have HI5 := Lib.hid I5; clear I5
  go_enter Try.func33, Try.ntmps33
  go_wp2_with fail
  refine (PlacesOf_I _ x0 5 _ H.out.1 hq0 HI5.out xs a HP.out.1).mono ?_
  rintro e w1 ⟨u1, rfl, ho1, hb1⟩
  have X := Lib.hid (And.intro ho1 (And.intro (H.out.2.step hb1) hb1)); clear ho1 hb1
  go_wp2_with fail
  refine (PlacesOf_I _ x1 5 _ X.out.2.1 hq1 HI5.out ys b HP.out.2).mono ?_
  rintro e w2 ⟨u2, rfl, ho2, hb2⟩
  have Y := Lib.hid (And.intro (X.out.1.below hb2) (And.intro ho2 (X.out.2.2.trans (hb2.mono X.out.2.2.size)))); clear ho2 hb2
  rcases a with _ | _
  · have hy' : false = y0 := hy
    subst hy'
    go_wp2
    go_ret
    exact ⟨rfl, Y.out.2.2⟩
  rcases b with _ | _
  · have hy' : false = y0 := hy
    subst hy'
    go_wp2
    go_ret
    exact ⟨rfl, Y.out.2.2⟩
  have hy' : decide (xs = ys) = y0 := hy
  have HY := Lib.hid hy'; clear hy' hy
  go_wp2_with (go_at_call 74; refine (slEqQ _ _ xs ys _ Y.out.1.rd Y.out.2.1.rd y0 HY.out).mono ?_; rintro e w9 ⟨rfl, hb9⟩)
  obtain ⟨nq, rfl⟩ := hb9
  have V := Lib.hid (below_drewN Y.out.2.2 nq)
  go_ret
  exact ⟨rfl, V.out⟩
set_option maxHeartbeats 1000000 in
theorem SameShuffle_S (v0 : Value) (x0 : List Int) (v1 : Value) (x1 : List Int) (w : World) (h0 : RdI w v0 x0) (hq0 : x0.length ≤ 1048576) (h1 : RdI w v1 x1) (hq1 : x1.length ≤ 1048576) (y0 : Bool) (hR : sameShufR x0 x1 = y0) :
    Calls Try.prog 34 #[v0, v1] w fun e w' => e = .returned (.bool y0) ∧ Below w.heap.size w w' := by
  have H := Lib.hid (And.intro h0 h1); clear h0 h1
  rcases hp : placesR x0 5 with ⟨xs, a⟩
  rcases hq : placesR x1 5 with ⟨ys, b⟩
  have hy := sameShufR_parts hR hp hq
  have HP := Lib.hid (And.intro hp hq)
  clear hR hp hq
  have I5 : InK .i64 5 := wf_small 5 (by omega)
  have HI5 := Lib.hid I5; clear I5
  go_enter Try.func34, Try.ntmps34
  go_wp2_with fail
  refine (PlacesOf_S _ x0 5 _ H.out.1 hq0 HI5.out xs a HP.out.1).mono ?_
  rintro e w1 ⟨u1, rfl, ho1, hb1⟩
  have X := Lib.hid (And.intro ho1 (And.intro (H.out.2.step hb1) hb1)); clear ho1 hb1
  go_wp2_with fail
  refine (PlacesOf_S _ x1 5 _ X.out.2.1 hq1 HI5.out ys b HP.out.2).mono ?_
  rintro e w2 ⟨u2, rfl, ho2, hb2⟩
  have hr1 := (X.out.1.below hb2).rd
  have hr2 := ho2.rd
  obtain ⟨A1, c1, rfl, hi1, _⟩ := hr1
  obtain ⟨A2, c2, rfl, hi2, _⟩ := hr2
  have Y := Lib.hid (And.intro hi1 (And.intro hi2 (X.out.2.2.trans (hb2.mono X.out.2.2.size)))); clear ho2 hb2 hi1 hi2
  rcases a with _ | _
  · have hy' : false = y0 := hy
    subst hy'
    go_wp2
    go_ret
    exact ⟨rfl, Y.out.2.2⟩
  rcases b with _ | _
  · have hy' : false = y0 := hy
    subst hy'
    go_wp2
    go_ret
    exact ⟨rfl, Y.out.2.2⟩
  have hy' : decide (xs = ys) = y0 := hy
  have HY := Lib.hid hy'; clear hy' hy
  go_wp2_with (go_at_call 75; refine (l1Same_any _ _ _ _ xs ys _ Y.out.1 Y.out.2.1).mono ?_; rw [HY.out]; rintro e w9 ⟨rfl, hb9⟩)
  obtain ⟨nq, rfl⟩ := hb9
  have V := Lib.hid (below_drewN Y.out.2.2 nq)
  go_ret
  exact ⟨rfl, V.out⟩
theorem placesR_len' (p : List Int) (m : Int) : szI (placesR p m).1 ≤ 1000000 := by
  have := placesR_len p m
  unfold szI; omega
end Go.Proofs.Ytkdpfiaegimnlaa
