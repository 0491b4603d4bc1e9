/- Chapter 8: SameRegs of the model. -/
import Derived.Test.YtpdhdiidkjgjmaaGreatZz
import Derived.Test.YtpdhdiidkjgjmaaGreatBr
namespace Go.Proofs.YtpdhdiidkjgjmaaGreat
set_option maxRecDepth 100000
open Go.RowKit Go.WideShapes Go.Maps Go.Deep

set_option maxHeartbeats 8000000 in
theorem SameRegs_S (v0 : Value) (p : List Int) (v1 : Value) (q : List Int) (w : World) (h0 : RdI w v0 p) (hl0 : p.length ≤ 1048576) (h1 : RdI w v1 q) (hl1 : q.length ≤ 1048576) (b : Bool) (hR : sameRegsR p q = b) :
    Calls Tryz.prog 17 #[v0, v1] w fun e w' => e = .returned (.bool b) ∧ Below w.heap.size w w' := by
  rcases hA : regsOfR p with ⟨T, ms, row, ok⟩
  rcases hB : regsOfR q with ⟨T', ms', row', ok'⟩
  have hRR : (ok && (ok' && (decide (T = T') && (decide (ms = ms') && decide (row = row'))))) = b := by rw [← hR, sameRegsR, hA, hB]
  have HA := Lib.hid (And.intro hA (And.intro hB hRR)); clear hA hB hRR hR
  have H := Lib.hid (And.intro h0 h1); clear h0 h1
  go_enter Tryz.func17, Tryz.ntmps17
  go_wp2_with fail
  refine (RegsOf_S v0 p _ H.out.1 hl0 T ms row ok HA.out.1).mono ?_
  rintro e w1 ⟨u0, u1, rfl, a3, a1, _, hb⟩
  have hz1 := hb.size
  obtain ⟨r3, r1⟩ := rg_forms a3 a1
  obtain ⟨Aa, ca, rfl, _⟩ := id r3
  obtain ⟨Ab, cb, rfl, _⟩ := r1
  have r1 := (rg_forms a3 a1).2
  have hba : Below w1.heap.size w1 (w1.alloc (.cells #[.int .i64 T, .slice Aa ms.length ca, .slice Ab row.length cb] 27)) := (Below.refl _ _).alloc (Nat.le_refl _) _
  have S1 := Lib.hid (And.intro (r3.step hba) (And.intro (r1.step hba) (And.intro (hb.trans (hba.mono hz1)) (And.intro (H.out.2.step (hb.trans (hba.mono hz1))) (Blk.new w1 #[.int .i64 T, .slice Aa ms.length ca, .slice Ab row.length cb] 27))))); clear a3 a1 r3 r1 hb hba H
  go_wp2_with fail
  refine (RegsOf_S v1 q _ S1.out.2.2.2.1 hl1 T' ms' row' ok' HA.out.2.1).mono ?_
  rintro e w2 ⟨u0', u1', rfl, a3, a1, _, hb⟩
  have hz2 : w1.heap.size + 1 ≤ w2.heap.size := by have := hb.size; simpa using this
  obtain ⟨r3, r1⟩ := rg_forms a3 a1
  obtain ⟨Ba, da, rfl, _⟩ := id r3
  obtain ⟨Bb, db, rfl, _⟩ := r1
  have r1 := (rg_forms a3 a1).2
  have hba : Below w2.heap.size w2 (w2.alloc (.cells #[.int .i64 T', .slice Ba ms'.length da, .slice Bb row'.length db] 27)) := (Below.refl _ _).alloc (Nat.le_refl _) _
  have hbb := hb.trans (hba.mono hb.size)
  have S2 := Lib.hid (And.intro (S1.out.1.step hbb) (And.intro (S1.out.2.1.step hbb) (And.intro (S1.out.2.2.1.trans (hbb.mono (by simp; omega))) (And.intro (r3.step hba) (And.intro (r1.step hba) (And.intro (S1.out.2.2.2.2.below hbb (by simp)) (Blk.new w2 #[.int .i64 T', .slice Ba ms'.length da, .slice Bb row'.length db] 27))))))); clear a3 a1 r3 r1 hb hba hbb S1
  have hzW : w2.heap.size + 1 ≤ (w2.alloc (.cells #[.int .i64 T', .slice Ba ms'.length da, .slice Bb row'.length db] 27)).heap.size := by simp
  obtain ⟨c0, c1, c2, _, _, _⟩ := blkThree S2.out.2.2.2.2.2.1
  obtain ⟨d0, d1, d2, _, _, _⟩ := blkThree S2.out.2.2.2.2.2.2
  rcases ok with _ | _
  · obtain rfl : false = b := by simpa using HA.out.2.2
    go_wp2
    go_ret
    exact ⟨rfl, S2.out.2.2.1⟩
  rcases ok' with _ | _
  · obtain rfl : false = b := by simpa using HA.out.2.2
    go_wp2
    go_ret
    exact ⟨rfl, S2.out.2.2.1⟩
  by_cases hT : T = T'
  case neg =>
    obtain rfl : false = b := by have := HA.out.2.2; simp [hT] at this; exact this.symm
    have hTb : (T != T') = true := by rw [bne_iff_ne]; exact hT
    go_wp2
    go_ret
    exact ⟨rfl, S2.out.2.2.1⟩
  subst hT
  have HB := Lib.hid (show (decide (ms = ms') && decide (row = row')) = b by have := HA.out.2.2; simpa using this); clear HA
  have hTT : (T != T) = false := by simp
  by_cases hlen : ms.length = ms'.length
  case neg =>
    obtain rfl : false = b := by rw [← HB.out, decide_eq_false (fun e => hlen (by rw [e]))]; rfl
    have hlb : ((ms.length : Int) != (ms'.length : Int)) = true := by rw [bne_iff_ne]; omega
    clear hlen
    go_wp2
    go_ret
    exact ⟨rfl, S2.out.2.2.1⟩
  have hlb : ((ms.length : Int) != (ms'.length : Int)) = false := by rw [hlen]; simp
  have h1 : ms'.length ≤ ms.length := by omega
  have h2 : ms.length ≤ ms'.length := by omega
  clear hlen
  go_wp2_with fail
  refine (l1Same_any _ _ row row' _ S2.out.2.1 S2.out.2.2.2.2.1).mono ?_
  rintro e w3 ⟨rfl, hb⟩
  have hz3 := hb.size
  have bb0 := S2.out.2.2.2.2.2.1.below hb (by omega)
  have bb1 := S2.out.2.2.2.2.2.2.below hb (by omega)
  obtain ⟨_, _, e1, _, hrx⟩ := S2.out.1.step hb
  cases e1
  obtain ⟨_, _, e2, _, hry⟩ := S2.out.2.2.2.1.step hb
  cases e2
  have S3 := Lib.hid (And.intro hrx (And.intro hry (S2.out.2.2.1.trans (hb.mono (by omega))))); clear hb S2 c0 c1 c2 d0 d1 d2 hrx hry
  obtain ⟨c0, c1, c2, _, _, _⟩ := blkThree bb0
  obtain ⟨d0, d1, d2, _, _, _⟩ := blkThree bb1
  have BB := Lib.hid (And.intro bb0 bb1); clear bb0 bb1
  rcases hd : decide (row = row') with _ | _
  · obtain rfl : false = b := by have := HB.out; rw [hd, Bool.and_false] at this; exact this
    clear hd HB
    go_wp2
    go_ret
    exact ⟨rfl, S3.out.2.2⟩
  · have HB2 := Lib.hid (show decide (ms = ms') = b by have := HB.out; rw [hd, Bool.and_true] at this; exact this); clear hd HB
    go_wp2
    clear c0 c1 c2 d0 d1 d2
    go_loopw [9] (fun i wr => ∃ k : Nat, k ≤ ms.length ∧ i = .int .i64 k ∧ Below w3.heap.size w3 wr ∧ ms.take k = ms'.take k) (fun i _ => ms.length - (intOf i).toNat)
    case atStart => exact ⟨0, Nat.zero_le _, by first | rfl | simp, Below.refl _ _, rfl⟩
    case round =>
      obtain ⟨k, hk, rfl, hbl, ht⟩ := hrel
      obtain ⟨_, c1, _, _, _, _⟩ := blkThree (BB.out.1.below hbl (by omega))
      obtain ⟨_, d1, _, _, _, _⟩ := blkThree (BB.out.2.below hbl (by omega))
      by_cases hlt : k < ms.length
      · obtain ⟨b1, o1, rfl, hb1, hc1⟩ := S3.out.1 (by omega)
        obtain ⟨b2, o2, rfl, hb2, hc2⟩ := S3.out.2.1 (by omega)
        obtain ⟨m, hm⟩ : ∃ m, ms[k]? = some m := ⟨ms[k], List.getElem?_eq_getElem hlt⟩
        obtain ⟨q9, hq⟩ : ∃ q9, ms'[k]? = some q9 := ⟨ms'[k]'(by omega), List.getElem?_eq_getElem (by omega)⟩
        obtain ⟨t0, t1, t2⟩ := hc1 k m hm
        obtain ⟨r0, r1, r2⟩ := hc2 k q9 hq
        have e0 := (hbl.cell (p := ⟨b1, o1 + k * 3, none⟩) hb1).trans t0
        have e1 := (hbl.cell (p := ⟨b1, o1 + k * 3 + 1, none⟩) hb1).trans t1
        have e2 := (hbl.cell (p := ⟨b1, o1 + k * 3 + 2, none⟩) hb1).trans t2
        have f0 := (hbl.cell (p := ⟨b2, o2 + k * 3, none⟩) hb2).trans r0
        have f1 := (hbl.cell (p := ⟨b2, o2 + k * 3 + 1, none⟩) hb2).trans r1
        have f2 := (hbl.cell (p := ⟨b2, o2 + k * 3 + 2, none⟩) hb2).trans r2
        clear t0 t1 t2 r0 r1 r2 hc1 hc2
        have hltI : (k : Int) < ms.length := by omega
        have hlt2 : (k : Int) < ms'.length := by omega
        by_cases hmq : m = q9
        · subst hmq
          have V := Lib.hid (And.intro hbl (take_nextO ht hm hq)); clear hbl ht hm hq
          go_wp2
          go_quiet (fail)
          go_wp2
          go_roundw
          case rel => exact ⟨k + 1, by omega, by go_num, below_drewN V.out.1 _, V.out.2⟩
          case measure => simp [intOf]; omega
        · have hne : ¬ ms = ms' := fun e => hmq (by rw [e, hq] at hm; exact (Option.some.inj hm).symm)
          obtain rfl : false = b := by rw [← HB2.out]; symm; exact decide_eq_false hne
          obtain ⟨y0, y1, y2⟩ := m
          obtain ⟨z0, z1, z2⟩ := q9
          dsimp only at e0 e1 e2 f0 f1 f2
          have hcs : ¬ y0 = z0 ∨ (y0 = z0 ∧ ¬ y1 = z1) ∨ (y0 = z0 ∧ y1 = z1 ∧ ¬ y2 = z2) := by
            by_cases g0 : y0 = z0
            · by_cases g1 : y1 = z1
              · refine .inr (.inr ⟨g0, g1, fun g2 => hmq ?_⟩); rw [g0, g1, g2]
              · exact .inr (.inl ⟨g0, g1⟩)
            · exact .inl g0
          have V := Lib.hid (S3.out.2.2.trans (hbl.mono (by omega)))
          clear hne hmq hm hq hbl ht
          rcases hcs with g0 | ⟨rfl, g1⟩ | ⟨rfl, rfl, g2⟩
          all_goals
            go_wp2
            go_quiet (fail)
            go_wp2
            go_ret
            exact ⟨rfl, below_drewN V.out _⟩
      · have hfin : ms = ms' := by
          rwa [List.take_of_length_le (by omega), List.take_of_length_le (by omega)] at ht
        obtain rfl : true = b := by rw [← HB2.out]; symm; exact decide_eq_true hfin
        have V := Lib.hid (S3.out.2.2.trans (hbl.mono (by omega)))
        have hltI : ¬ (k : Int) < ms.length := by omega
        clear hfin ht hbl
        go_wp2
        go_ret
        exact ⟨rfl, V.out⟩
end Go.Proofs.YtpdhdiidkjgjmaaGreat
