/- ProgFrom of the model, at registers by value. -/
import Derived.Test.YtklndkhnpbjhoaaOn
import Derived.Test.YtklndkhnpbjhoaaOi
namespace Go.Proofs.Ytklndkhnpbjhoaa
set_option maxRecDepth 100000
open Go.RowKit Go.WideShapes Go.Deep

theorem downR_step (d j : Nat) (h : j < d) : downR (d - j) = underR (d - 1 - j) 1003 ++ downR (d - (j + 1)) := by
  rw [show d - j = (d - 1 - j) + 1 from by omega, downR, show d - 1 - j = d - (j + 1) from by omega]
set_option maxHeartbeats 2000000 in
theorem l8Fetch_any (a many : Nat) (w : World) (ha : a < many) (hm : many ≤ 101) : Calls Try.prog 85 #[.int .i64 a, .int .i64 many] w (Gives w (liftR (many - 1 - a))) := by
  have hl0 := lits_own w [1001] (by simp) (by intro z hz; simp only [List.mem_cons, List.not_mem_nil, or_false] at hz; subst hz; exact wf_near _ (by omega))
  have hb0 : Below w.heap.size w (w.alloc (.cells #[.int .i64 1001] 3)) := (Below.refl _ _).alloc (Nat.le_refl _) _
  have L0 := Lib.hid (And.intro (show RdI (w.alloc (.cells #[.int .i64 1001] 3)) (.slice (some ⟨w.heap.size, 0, none⟩) 1 1) [1001] by simpa using hl0.rd) hb0); clear hl0 hb0
  obtain ⟨d, hd⟩ : ∃ d, many - 1 - a = d := ⟨_, rfl⟩
  rw [hd]
  have hdd : (many : Int) - 1 - (a : Int) = (d : Int) := by omega
  have HD := Lib.hid hd
  have hd100 : d ≤ 100 := by omega
  clear hd
  go_enter Try.func85, Try.ntmps85
  go_wp2_with fail
  refine (l7Dips_any d 1001 _ _ L0.out.1 (by omega)).mono ?_
  rintro e w1 ⟨u, rfl, ho, hb⟩
  have hz1 : w.heap.size + 1 ≤ w1.heap.size := by have := hb.size; simpa using this
  have X := Lib.hid (And.intro (OwnI.mk (ho.own.mono (show w.heap.size ≤ (w.alloc (.cells #[.int .i64 1001] 3)).heap.size by simp)) ho.lt) (L0.out.2.trans (hb.mono (by simp)))); clear ho hb L0
  go_wp2
  go_loopw [5, 6] (fun v i wr => ∃ (j : Nat) (zs : List Int), j ≤ d ∧ i = .int .i64 ((a : Int) + 1 + (j : Int)) ∧ w.heap.size ≤ wr.heap.size ∧ OwnI wr w.heap.size wr.heap.size v zs ∧ Below w.heap.size w wr ∧ zs ++ downR (d - j) = liftR d ∧ zs.length ≤ 31000) (fun _ i _ => many - (intOf i).toNat)
  case atStart => exact ⟨0, _, Nat.zero_le _, by simp, by omega, X.out.1, X.out.2, rfl, by rw [underR_len]; omega⟩
  case round =>
    clear X
    obtain ⟨j, zs, hj, rfl, hsz, r1, r2, r3, r4⟩ := hrel
    obtain ⟨Aq, cq, rfl, _⟩ := r1.rd
    have R := Lib.hid (And.intro r1 (And.intro r2 r3)); clear r1 r2 r3
    by_cases hlt : j < d
    · have hltI : (a : Int) + 1 + (j : Int) < (many : Int) := by have := HD.out; omega
      obtain ⟨q, hq⟩ : ∃ q, d - 1 - j = q := ⟨_, rfl⟩
      have hqq : (many : Int) - 1 - ((a : Int) + 1 + (j : Int)) = (q : Int) := by have := HD.out; omega
      have hds := downR_step d j hlt
      rw [hq] at hds
      have HS := Lib.hid hds
      have hul := underR_len q 1003
      have hql : zs.length + (underR q 1003).length ≤ 31000 := by
        have h := congrArg List.length R.out.2.2
        have h2 := @liftR_len d hd100
        rw [hds, List.length_append, List.length_append] at h
        omega
      have hq100 : q ≤ 100 := by omega
      have hl0 := lits_own wr [1003] (by simp) (by intro z hz; simp only [List.mem_cons, List.not_mem_nil, or_false] at hz; subst hz; exact wf_near _ (by omega))
      have hb0 : Below wr.heap.size wr (wr.alloc (.cells #[.int .i64 1003] 3)) := (Below.refl _ _).alloc (Nat.le_refl _) _
      have V := Lib.hid (And.intro (show RdI (wr.alloc (.cells #[.int .i64 1003] 3)) (.slice (some ⟨wr.heap.size, 0, none⟩) 1 1) [1003] by simpa using hl0.rd) (And.intro (R.out.1.below hb0) (R.out.2.1.trans (hb0.mono hsz)))); clear hl0 hb0 hds hul hq
      generalize hun : underR q 1003 = us at *
      have HUN := Lib.hid hun; clear hun
      go_wp2_with fail
      refine (l7Dips_any q 1003 _ _ V.out.1 (by omega)).mono ?_
      rw [HUN.out]
      rintro e w2 ⟨u2, rfl, ho, hb⟩
      have hz2 : wr.heap.size + 1 ≤ w2.heap.size := by have := hb.size; simpa using this
      have Y := Lib.hid (And.intro (V.out.2.1.below hb) (And.intro ho.rd (V.out.2.2.trans (hb.mono (by simp; omega))))); clear ho hb V
      go_wp2_with (at_builtin; refine wpList_append_V rfl _ _ _ rfl Try.underlying24 intInfo w.heap.size wr.heap.size _ zs rfl Y.out.1 (by omega) _ us rfl Y.out.2.1 (by omega) ?_)
      intro v3 w3 ho3 hb3
      have hz3 : w.heap.size ≤ w3.heap.size := by have := hb3.size; omega
      have Z := Lib.hid (And.intro ho3 (Y.out.2.2.trans hb3)); clear ho3 hb3 Y
      go_wp2
      go_roundw
      case rel => exact ⟨j + 1, zs ++ us, by omega, by first | (congr 1; push_cast; omega) | (simp; omega) | simp [Int.add_assoc], hz3, Z.out.1, Z.out.2, by rw [List.append_assoc, ← HS.out]; exact R.out.2.2, by rw [List.length_append]; omega⟩
      case measure => simp [intOf]; omega
    · obtain rfl : j = d := by omega
      have hgeI : ¬ (a : Int) + 1 + (j : Int) < (many : Int) := by have := HD.out; omega
      have hz : zs = liftR j := by have := R.out.2.2; rw [Nat.sub_self, downR, List.append_nil] at this; exact this
      have HZ := Lib.hid hz; clear hz
      go_wp2
      go_ret
      exact ⟨_, rfl, by rw [← HZ.out]; exact R.out.1, R.out.2.1⟩

set_option maxHeartbeats 2000000 in
theorem l8Put_any (t a x m : Int) (many n : Nat) (v0 v1 : Value) (w : World) (ht : 0 ≤ t ∧ t ≤ 20) (hn : n ≤ 60) (hk : knownB t n a = true) (hmn : t + n ≤ m) (hm : m = many) (hx : x = m) (hm2 : many ≤ 101) : Calls Try.prog 61 #[.agg #[.int .i64 t, v0, v1], .int .i64 a, .int .i64 x] w (Gives w (putG t a many)) := by
  subst hx
  have hb : Below w.heap.size w (w.alloc (.cells #[.int .i64 t, v0, v1] 26)) := (Below.refl _ _).alloc (Nat.le_refl _) _
  have HB := Lib.hid hb; clear hb
  by_cases h0 : a ≤ 999
  · have ha0 : 0 ≤ a := by unfold knownB at hk; rw [decide_eq_true_eq] at hk; omega
    have HP := Lib.hid (show putG t a many = [a] by rw [putG, if_pos h0])
    have hl0 := lits_own (w.alloc (.cells #[.int .i64 t, v0, v1] 26)) [a] (by simp) (by intro z hz; simp only [List.mem_cons, List.not_mem_nil, or_false] at hz; subst hz; exact wf_near _ (by omega))
    have hb2 : Below w.heap.size w ((w.alloc (.cells #[.int .i64 t, v0, v1] 26)).alloc (.cells #[.int .i64 a] 3)) := HB.out.alloc (by simp) _
    have L := Lib.hid (And.intro (show OwnI ((w.alloc (.cells #[.int .i64 t, v0, v1] 26)).alloc (.cells #[.int .i64 a] 3)) w.heap.size ((w.alloc (.cells #[.int .i64 t, v0, v1] 26)).alloc (.cells #[.int .i64 a] 3)).heap.size (.slice (some ⟨w.heap.size + 1, 0, none⟩) 1 1) [a] from ⟨by simpa using hl0.own.mono (show w.heap.size ≤ (w.alloc (.cells #[.int .i64 t, v0, v1] 26)).heap.size by simp), fun g hg => by simp [Value.ownBlock] at hg; simp; omega⟩) hb2); clear hl0 hb2 hk hm hmn
    go_enter Try.func61, Try.ntmps61
    go_wp2
    go_ret
    exact ⟨_, rfl, by rw [HP.out]; exact L.out.1, L.out.2⟩
  · obtain ⟨hp, hp2, ha1, ha2⟩ := placeOfR_eq hk h0 ht hn
    have HP := Lib.hid (show putG t a many = liftR (many - 1 - placeOfR t a) by rw [putG, if_neg h0])
    obtain ⟨q, hqq⟩ : ∃ q, placeOfR t a = q := ⟨_, rfl⟩
    rw [hqq] at hp hp2 HP
    have hql : q < many := by omega
    obtain rfl : x = (many : Int) := hm
    clear hk hqq hmn
    by_cases h3 : 3000 ≤ a
    · rw [if_pos h3] at hp
      have m1 : IntKind.i64.wrap (t + a) = t + a := IntWalk.i64_in _ (by omega)
      have m2 : IntKind.i64.wrap (t + a - 3000) = (q : Int) := by rw [IntWalk.i64_in _ (by omega)]; exact hp
      clear hp2 ha1
      go_enter Try.func61, Try.ntmps61
      go_wp2_with fail
      refine (l8Fetch_any q many _ hql hm2).mono ?_
      rintro e w1 ⟨u, rfl, ho, hb⟩
      have X := Lib.hid (And.intro (OwnI.mk (ho.own.mono (show w.heap.size ≤ (w.alloc (.cells #[.int .i64 t, v0, v1] 26)).heap.size by simp)) ho.lt) (HB.out.trans (hb.mono (by simp)))); clear ho hb
      go_wp2
      go_ret
      exact ⟨_, rfl, by rw [HP.out]; exact X.out.1, X.out.2⟩
    · rw [if_neg h3] at hp
      have m2 : IntKind.i64.wrap (a - 2000) = (q : Int) := by rw [IntWalk.i64_in _ (by omega)]; exact hp
      clear hp2 h0
      go_enter Try.func61, Try.ntmps61
      go_wp2_with fail
      refine (l8Fetch_any q many _ hql hm2).mono ?_
      rintro e w1 ⟨u, rfl, ho, hb⟩
      have X := Lib.hid (And.intro (OwnI.mk (ho.own.mono (show w.heap.size ≤ (w.alloc (.cells #[.int .i64 t, v0, v1] 26)).heap.size by simp)) ho.lt) (HB.out.trans (hb.mono (by simp)))); clear ho hb
      go_wp2
      go_ret
      exact ⟨_, rfl, by rw [HP.out]; exact X.out.1, X.out.2⟩
end Go.Proofs.Ytklndkhnpbjhoaa
