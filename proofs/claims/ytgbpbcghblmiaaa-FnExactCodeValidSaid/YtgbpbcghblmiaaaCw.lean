/- Chapter 6: CodeValid of the program, at a code by value. -/
import Derived.Test.YtgbpbcghblmiaaaCv
namespace Go.Proofs.Ytgbpbcghblmiaaa
set_option maxRecDepth 100000
open Go.RowKit Go.WideShapes Go.Deep

theorem codeB_false1 {ms : List (Int × Int)} {fr : List Int} (h : 60 < fr.length ∨ 120 < ms.length ∨ endsB ms = false) : codeB ms fr = false := by
  unfold codeB
  rcases h with h | h | h
  · rw [show decide (fr.length ≤ 60) = false from by simp; omega]; simp
  · rw [show decide (ms.length ≤ 120) = false from by simp; omega]; simp
  · rw [h]; simp
theorem endsB_pos {ms : List (Int × Int)} (h : endsB ms = true) : 0 < ms.length := by
  rcases ms with _ | _
  · cases h
  · simp

set_option maxHeartbeats 4000000 in
theorem CodeValid_I (A0 : Option Addr) (c0 : Nat) (ms : List (Int × Int)) (A1 : Option Addr) (c1 : Nat) (fr : List Int) (w : World) (h0 : RdM w (.slice A0 ms.length c0) ms) (hcap : ms.length ≤ c0) (h1 : RdI w (.slice A1 fr.length c1) fr) (y : Bool) (hy : codeB ms fr = y) :
    Calls Try.prog 10 #[.agg #[.slice A0 ms.length c0, .slice A1 fr.length c1]] w fun e w' => e = .returned (.bool y) ∧ Below w.heap.size w w' := by
  have hb : Below w.heap.size w (w.alloc (.cells #[.slice A0 ms.length c0, .slice A1 fr.length c1] 30)) := (Below.refl _ _).alloc (Nat.le_refl _) _
  have hbk := Blk.new w #[.slice A0 ms.length c0, .slice A1 fr.length c1] 30
  have H := Lib.hid (And.intro (h0.step hb) (And.intro (h1.step hb) (And.intro hb hbk)))
  have hml := h0.len_le
  have hfl := h1.len_le
  clear h0 h1 hb hbk
  have HY := Lib.hid hy; clear hy
  by_cases q1 : 60 < fr.length
  · obtain rfl : false = y := by rw [← HY.out, codeB_false1 (.inl q1)]
    have q1I : (60 : Int) < fr.length := by omega
    go_enter Try.func10, Try.ntmps10
    go_wp2
    go_ret
    exact ⟨rfl, H.out.2.2.1⟩
  have q1I : ¬ (60 : Int) < fr.length := by omega
  by_cases q2 : 120 < ms.length
  · obtain rfl : false = y := by rw [← HY.out, codeB_false1 (.inr (.inl q2))]
    have q2I : (120 : Int) < ms.length := by omega
    go_enter Try.func10, Try.ntmps10
    go_wp2
    go_ret
    exact ⟨rfl, H.out.2.2.1⟩
  have q2I : ¬ (120 : Int) < ms.length := by omega
  rcases he : endsB ms with _ | _ <;> have HE := Lib.hid he <;> clear he
  · obtain rfl : false = y := by rw [← HY.out, codeB_false1 (.inr (.inr HE.out))]
    go_enter Try.func10, Try.ntmps10
    go_wp2_with fail
    refine (endsBlock_any _ _ ms _ H.out.1 false HE.out).mono ?_
    rintro e w' ⟨rfl, rfl⟩
    go_wp2
    go_ret
    exact ⟨rfl, H.out.2.2.1⟩
  have hpos := endsB_pos HE.out
  go_enter Try.func10, Try.ntmps10
  go_wp2_with fail
  refine (endsBlock_any _ _ ms _ H.out.1 true HE.out).mono ?_
  rintro e w' ⟨rfl, rfl⟩
  go_wp2
  go_loopw [24] (fun i wr => ∃ k : Nat, k ≤ ms.length ∧ i = .int .i64 k ∧ w.heap.size + 1 ≤ wr.heap.size ∧ Below w.heap.size w wr ∧ RdBM wr (w.heap.size + 1) (.slice A0 ms.length c0) ms ∧ RdBI wr (w.heap.size + 1) (.slice A1 fr.length c1) fr ∧ Blk wr w.heap.size #[.slice A0 ms.length c0, .slice A1 fr.length c1] 30 ∧ (ms.take k).all (insOkR fr.length) = true) (fun i _ => ms.length - (intOf i).toNat)
  case atStart => exact ⟨0, Nat.zero_le _, rfl, by simp, H.out.2.2.1, by have h := RdBM.at_ H.out.1; rw [World.size_alloc] at h; exact h, by have h := H.out.2.1.at_; rw [World.size_alloc] at h; exact h, H.out.2.2.2, by simp⟩
  case round =>
    clear H
    obtain ⟨k, hk, rfl, hsz, r1, r2, r3, r4, r5⟩ := hrel
    obtain ⟨g0, g1, _, _⟩ := blkTwo r4
    have R := Lib.hid (And.intro r1 (And.intro r2 (And.intro r3 (And.intro r4 r5)))); clear r1 r2 r3 r4 r5
    by_cases hlt : k < ms.length
    · have hltI : (k : Int) < ms.length := by omega
      obtain ⟨A2, c2, e2, _, hr⟩ := R.out.2.1
      cases e2
      obtain ⟨b, off, rfl, hbb, hcc⟩ := hr (by omega)
      obtain ⟨m, hm⟩ : ∃ m, ms[k]? = some m := ⟨_, List.getElem?_eq_getElem hlt⟩
      obtain ⟨d0, d1⟩ := hcc k m hm
      have HM := Lib.hid hm
      clear hcc hr hm
      obtain ⟨z, a⟩ := m
      dsimp only at d0 d1
      have hba : Below wr.heap.size wr (wr.alloc (.cells #[.int .i64 z, .int .i64 a] 51)) := (Below.refl _ _).alloc (Nat.le_refl _) _
      have X := Lib.hid (And.intro (R.out.1.trans (hba.mono (by omega))) (And.intro (R.out.2.1.below (hba.mono (by omega))) (And.intro (R.out.2.2.1.below (hba.mono (by omega))) (R.out.2.2.2.1.below hba (by omega))))); clear hba
      obtain ⟨k0, k1, _, _⟩ := blkTwo X.out.2.2.2
      rcases ho : insOkR fr.length (z, a) with _ | _ <;> have HO := Lib.hid ho <;> clear ho
      · have hyf : false = y := by
          rw [← HY.out]; symm
          unfold codeB
          have : ms.all (insOkR fr.length) = false := by
            rw [List.all_eq_false]
            exact ⟨_, List.mem_of_getElem? HM.out, by rw [HO.out]; simp⟩
          rw [this]; simp
        subst hyf
        go_wp2_with fail
        refine (insOk_any z a fr.length _ false HO.out).mono ?_
        rintro e w2 ⟨rfl, hb2⟩
        have V := Lib.hid (X.out.1.trans (hb2.mono (by simp; omega))); clear hb2
        go_wp2
        go_ret
        exact ⟨rfl, V.out⟩
      · go_wp2_with fail
        refine (insOk_any z a fr.length _ true HO.out).mono ?_
        rintro e w2 ⟨rfl, hb2⟩
        have hz2 : wr.heap.size + 1 ≤ w2.heap.size := by have := hb2.size; simpa using this
        have hall : (ms.take (k + 1)).all (insOkR fr.length) = true := by
          rw [List.take_add_one, HM.out, List.all_append, R.out.2.2.2.2]; simp [HO.out]
        have V := Lib.hid (And.intro (X.out.1.trans (hb2.mono (by simp; omega))) (And.intro (X.out.2.1.below (hb2.mono (by simp; omega))) (And.intro (X.out.2.2.1.below (hb2.mono (by simp; omega))) (And.intro (X.out.2.2.2.below hb2 (by simp; omega)) hall)))); clear hb2 hall
        go_wp2
        go_roundw
        case rel => exact ⟨k + 1, by omega, by go_num, by omega, V.out⟩
        case measure => simp [intOf]; omega
    · obtain rfl : k = ms.length := by omega
      have hall : ms.all (insOkR fr.length) = true := by have := R.out.2.2.2.2; rwa [List.take_length] at this
      have hyl : decide (fr = 0 :: endsR 0 ms.dropLast) = y := by
        rw [← HY.out]; unfold codeB
        rw [hall, HE.out, show decide (fr.length ≤ 60) = true from by simp; omega, show decide (ms.length ≤ 120) = true from by simp; omega]; simp
      have HL := Lib.hid hyl; clear hyl hall
      have hd : Below wr.heap.size wr wr.drew := (Below.refl _ _).drew
      have HD := Lib.hid (And.intro hd (And.intro ((R.out.2.1.below (hd.mono (by omega))).rd (by show _ ≤ wr.heap.size; omega)) ((R.out.2.2.1.below (hd.mono (by omega))).rd (by show _ ≤ wr.heap.size; omega))))
      have hgz : w.heap.size < wr.drew.heap.size := by show w.heap.size < wr.heap.size; omega
      go_wp2_with fail
      go_region_with (first
        | (go_at_call 33; have hX := hbA; refine (slEqQ _ _ fr (0 :: endsR 0 ms.dropLast) _ (HD.out.2.2.step hbA) hoA.rd y HL.out).mono ?_; rintro e w9 ⟨rfl, hbB⟩)
        | (go_at_call 34; refine (beginsOf_any _ _ ms _ HD.out.2.1 hcap hpos (by omega)).mono ?_; rintro e wA ⟨uA, rfl, hoA, hbA⟩; have p0 := (hbA.cell (p := ⟨w.heap.size, 0, none⟩) hgz); have p1 := (hbA.cell (p := ⟨w.heap.size, 1, none⟩) hgz)))
      all_goals
        obtain ⟨nq, rfl⟩ := hbB
        have V := Lib.hid (below_drewN (R.out.1.trans ((HD.out.1.trans (hbA.mono (Nat.le_refl _))).mono (by omega))) nq)
        go_wp2
        go_ret
        exact ⟨rfl, V.out⟩
end Go.Proofs.Ytgbpbcghblmiaaa
