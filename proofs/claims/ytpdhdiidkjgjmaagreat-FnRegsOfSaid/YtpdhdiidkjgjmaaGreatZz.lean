/- Chapter 8: SameRegs of the program. -/
import Derived.Test.YtpdhdiidkjgjmaaGreatZy
import Derived.Test.YtpdhdiidkjgjmaaGreatB1
import Derived.Deep.QuietTactic
import Derived.BigQuiet
namespace Go.Proofs.YtpdhdiidkjgjmaaGreat
set_option maxRecDepth 100000
open Go.RowKit Go.WideShapes Go.Maps Go.Deep

def sameRegsR (p q : List Int) : Bool := (regsOfR p).2.2.2 && ((regsOfR q).2.2.2 && (decide ((regsOfR p).1 = (regsOfR q).1) && (decide ((regsOfR p).2.1 = (regsOfR q).2.1) && decide ((regsOfR p).2.2.1 = (regsOfR q).2.2.1))))
theorem take_nextO {ms qs : List (Int × Int × Int)} {k : Nat} {m : Int × Int × Int} (h : ms.take k = qs.take k) (h1 : ms[k]? = some m) (h2 : qs[k]? = some m) : ms.take (k + 1) = qs.take (k + 1) := by
  rw [List.take_add_one, List.take_add_one, h, h1, h2]
set_option maxHeartbeats 4000000 in
theorem slEqOp_any (v u : Value) (ms qs : List (Int × Int × Int)) (w : World) (hx : Rd3 w v ms) (hy : Rd3 w u qs) (b : Bool) (hb : decide (ms = qs) = b) :
    Calls Tryz.prog 38 #[v, u] w fun e w' => e = .returned (.bool b) ∧ Below w.heap.size w w' := by
  obtain ⟨A, c, rfl, hmx, hrx⟩ := hx
  obtain ⟨B, d, rfl, hmy, hry⟩ := hy
  have HB := Lib.hid hb; clear hb
  have Hrx := Lib.hid hrx; clear hrx
  have Hry := Lib.hid hry; clear hry
  by_cases hlen : ms.length = qs.length
  case neg =>
    obtain rfl : false = b := by rw [← HB.out]; symm; exact decide_eq_false fun e => hlen (by rw [e])
    have hI : ((ms.length : Int) != (qs.length : Int)) = true := by rw [bne_iff_ne]; omega
    have hI2 : ¬ (ms.length : Int) = (qs.length : Int) := by omega
    clear hlen
    go_enter Tryz.func38, Tryz.ntmps38
    go_wp2
    go_ret
    exact ⟨rfl, Below.refl _ _⟩
  · rw [← hlen]
    have Hlen := Lib.hid hlen
    have h1 : qs.length ≤ ms.length := by omega
    have h2 : ms.length ≤ qs.length := by omega
    clear hlen
    go_enter Tryz.func38, Tryz.ntmps38
    go_wp2
    go_loopw [5, 13] (fun _ i wr => ∃ k : Nat, k ≤ ms.length ∧ i = .int .i64 k ∧ Below w.heap.size w wr ∧ ms.take k = qs.take k) (fun _ i _ => ms.length - (intOf i).toNat)
    case atStart => exact ⟨0, Nat.zero_le _, rfl, Below.refl _ _, rfl⟩
    case round =>
      obtain ⟨k, hk, rfl, hbl, ht⟩ := hrel
      by_cases hlt : k < ms.length
      · obtain ⟨b1, o1, rfl, hb1, hc1⟩ := Hrx.out (by omega)
        obtain ⟨b2, o2, rfl, hb2, hc2⟩ := Hry.out (by omega)
        obtain ⟨m, hm⟩ : ∃ m, ms[k]? = some m := ⟨ms[k], List.getElem?_eq_getElem hlt⟩
        obtain ⟨q, hq⟩ : ∃ q, qs[k]? = some q := ⟨qs[k]'(by omega), List.getElem?_eq_getElem (by omega)⟩
        obtain ⟨t0, t1, t2⟩ := hc1 k m hm
        obtain ⟨r0, r1, r2⟩ := hc2 k q hq
        have e0 := (hbl.cell (p := ⟨b1, o1 + k * 3, none⟩) hb1).trans t0
        have e1 := (hbl.cell (p := ⟨b1, o1 + k * 3 + 1, none⟩) hb1).trans t1
        have e2 := (hbl.cell (p := ⟨b1, o1 + k * 3 + 2, none⟩) hb1).trans t2
        have f0 := (hbl.cell (p := ⟨b2, o2 + k * 3, none⟩) hb2).trans r0
        have f1 := (hbl.cell (p := ⟨b2, o2 + k * 3 + 1, none⟩) hb2).trans r1
        have f2 := (hbl.cell (p := ⟨b2, o2 + k * 3 + 2, none⟩) hb2).trans r2
        clear t0 t1 t2 r0 r1 r2 hc1 hc2
        have hltI : (k : Int) < ms.length := by omega
        have hlt2 : (k : Int) < qs.length := by omega
        by_cases hmq : m = q
        · subst hmq
          have V := Lib.hid (And.intro hbl (take_nextO ht hm hq)); clear hbl ht hm hq
          go_wp2
          go_quiet (fail)
          go_wp2
          go_roundw
          case rel => exact ⟨k + 1, by omega, by go_num, below_drewN V.out.1 _, V.out.2⟩
          case measure => simp [intOf]; omega
        · have hne : ¬ ms = qs := fun e => hmq (by rw [e, hq] at hm; exact (Option.some.inj hm).symm)
          obtain rfl : false = b := by rw [← HB.out]; symm; exact decide_eq_false hne
          obtain ⟨y0, y1, y2⟩ := m
          obtain ⟨z0, z1, z2⟩ := q
          dsimp only at e0 e1 e2 f0 f1 f2
          have hcs : ¬ y0 = z0 ∨ (y0 = z0 ∧ ¬ y1 = z1) ∨ (y0 = z0 ∧ y1 = z1 ∧ ¬ y2 = z2) := by
            by_cases g0 : y0 = z0
            · by_cases g1 : y1 = z1
              · refine .inr (.inr ⟨g0, g1, fun g2 => hmq ?_⟩); rw [g0, g1, g2]
              · exact .inr (.inl ⟨g0, g1⟩)
            · exact .inl g0
          have V := Lib.hid hbl
          clear hne hmq hm hq hbl ht
          rcases hcs with g0 | ⟨rfl, g1⟩ | ⟨rfl, rfl, g2⟩
          all_goals
            go_wp2
            go_quiet (fail)
            go_wp2
            go_ret
            exact ⟨rfl, below_drewN V.out _⟩
      · have hfin : ms = qs := by
          rwa [List.take_of_length_le (by omega), List.take_of_length_le (by omega)] at ht
        obtain rfl : true = b := by rw [← HB.out]; symm; exact decide_eq_true hfin
        have V := Lib.hid hbl
        have hltI : ¬ (k : Int) < ms.length := by omega
        clear hfin ht hbl
        go_wp2
        go_ret
        exact ⟨rfl, V.out⟩
theorem slEqI_any (A B : Option Addr) (c d : Nat) (xs ys : List Int) (w : World) (hx : Ints w A xs) (hy : Ints w B ys) :
    Calls Tryz.prog 39 #[.slice A xs.length c, .slice B ys.length d] w fun e w' => e = .returned (.bool (decide (xs = ys))) ∧ ∃ n, w' = w.drewN n := by
  obtain ⟨hmx, -, hrx⟩ := hx
  obtain ⟨hmy, -, hry⟩ := hy
  have Hrx := Lib.hid hrx; clear hrx
  have Hry := Lib.hid hry; clear hry
  by_cases hlen : xs.length = ys.length
  · rw [← hlen]
    have Hlen := Lib.hid hlen
    have h1 : ys.length ≤ xs.length := by omega
    have h2 : xs.length ≤ ys.length := by omega
    clear hlen
    go_enter Tryz.func39, Tryz.ntmps39
    go_wp2
    go_loopw [5, 13] (fun _ i wr => ∃ k n : Nat, k ≤ xs.length ∧ i = .int .i64 k ∧ wr = w.drewN n ∧ xs.take k = ys.take k) (fun _ i _ => xs.length - (intOf i).toNat)
    case atStart => exact ⟨0, 0, Nat.zero_le _, rfl, rfl, rfl⟩
    case round =>
      obtain ⟨k, n, hk, rfl, rfl, ht⟩ := hrel
      have Ht := Lib.hid ht; clear ht
      by_cases hlt : k < xs.length
      · obtain ⟨b, off, rfl, hb, hc⟩ := Hrx.out (by omega)
        obtain ⟨b', off', rfl, hb', hc'⟩ := Hry.out (by omega)
        have hcell := hc k hlt
        have hcell' := hc' k (by omega)
        clear hc hc'
        have hlt' : (k : Int) < xs.length := by omega
        have hlt2 : (k : Int) < ys.length := by omega
        have hsucc := take_succ_eq hlt Hlen.out Ht.out
        have hne : xs.getD k 0 ≠ ys.getD k 0 → xs ≠ ys := ne_of_getD
        have Hs := Lib.hid hsucc; clear hsucc
        have Hn := Lib.hid hne; clear hne
        generalize xs.getD k 0 = x at *
        generalize ys.getD k 0 = y at *
        go_wp2
        go_quiet (fail)
        go_wp2
        · have hxy : (x != y) = true := by assumption
          have hf : ¬ xs = ys := Hn.out (by simpa using hxy)
          go_ret
          exact ⟨ret_bool (by simp [hf]), _, World.drewN_drewN _ _ _⟩
        · have hxy : (x != y) = false := by assumption
          have he : x = y := by simpa using hxy
          have hs := Hs.out he
          go_roundw
          case rel => exact ⟨k + 1, _, by omega, by go_num, rfl, hs⟩
          case measure => simp [intOf]; omega
      · have hfin : xs = ys := by
          have := Ht.out
          rwa [List.take_of_length_le (by omega), List.take_of_length_le (by omega)] at this
        have Hf := Lib.hid hfin; clear hfin
        go_wp2
        go_ret
        exact ⟨ret_bool (by simp [Hf.out]), n, rfl⟩
  · have hne : ¬ xs = ys := fun e => hlen (by rw [e])
    have hb : ((xs.length : Int) != (ys.length : Int)) = true := by rw [bne_iff_ne]; omega
    have Hne := Lib.hid hne; clear hne
    clear hlen
    go_enter Tryz.func39, Tryz.ntmps39
    go_wp2
    go_ret
    exact ⟨ret_bool (by simp [Hne.out]), 0, rfl⟩

theorem rg_forms {w : World} {u0 u1 : Value} {ms : List (Int × Int × Int)} {row : List Int} {lo : Nat} (h3 : w.ownsRow lo 33 3 u0 ms.length ((flat3 ms).map (Value.int .i64))) (h1 : Own w lo u1 row) : Rd3 w u0 ms ∧ RdI w u1 row :=
  ⟨(Own3.mk (T := 33) (hi := w.heap.size) h3 (fun k hk => (h3.lt k hk).2)).rd, h1.within.rd⟩
set_option maxHeartbeats 8000000 in
theorem SameRegs_I (v0 : Value) (p : List Int) (v1 : Value) (q : List Int) (w : World) (h0 : RdI w v0 p) (hl0 : p.length ≤ 1048576) (h1 : RdI w v1 q) (hl1 : q.length ≤ 1048576) (b : Bool) (hR : sameRegsR p q = b) :
    Calls Tryz.prog 16 #[v0, v1] w fun e w' => e = .returned (.bool b) ∧ Below w.heap.size w w' := by
  rcases hA : regsOfR p with ⟨T, ms, row, ok⟩
  rcases hB : regsOfR q with ⟨T', ms', row', ok'⟩
  have hRR : (ok && (ok' && (decide (T = T') && (decide (ms = ms') && decide (row = row'))))) = b := by rw [← hR, sameRegsR, hA, hB]
  have HA := Lib.hid (And.intro hA (And.intro hB hRR)); clear hA hB hRR hR
  have H := Lib.hid (And.intro h0 h1); clear h0 h1
  go_enter Tryz.func16, Tryz.ntmps16
  go_wp2_with fail
  refine (RegsOf_I v0 p _ H.out.1 hl0 T ms row ok HA.out.1).mono ?_
  rintro e w1 ⟨u0, u1, rfl, a3, a1, _, hb⟩
  have hz1 := hb.size
  obtain ⟨r3, r1⟩ := rg_forms a3 a1
  obtain ⟨Aa, ca, rfl, _⟩ := id r3
  obtain ⟨Ab, cb, rfl, _⟩ := r1
  have r1 := (rg_forms a3 a1).2
  have hba : Below w1.heap.size w1 (w1.alloc (.cells #[.int .i64 T, .slice Aa ms.length ca, .slice Ab row.length cb] 27)) := (Below.refl _ _).alloc (Nat.le_refl _) _
  have S1 := Lib.hid (And.intro (r3.step hba) (And.intro (r1.step hba) (And.intro (hb.trans (hba.mono hz1)) (And.intro (H.out.2.step (hb.trans (hba.mono hz1))) (Blk.new w1 #[.int .i64 T, .slice Aa ms.length ca, .slice Ab row.length cb] 27))))); clear a3 a1 r3 r1 hb hba H
  go_wp2_with fail
  refine (RegsOf_I v1 q _ S1.out.2.2.2.1 hl1 T' ms' row' ok' HA.out.2.1).mono ?_
  rintro e w2 ⟨u0', u1', rfl, a3, a1, _, hb⟩
  have hz2 : w1.heap.size + 1 ≤ w2.heap.size := by have := hb.size; simpa using this
  obtain ⟨r3, r1⟩ := rg_forms a3 a1
  obtain ⟨Ba, da, rfl, _⟩ := id r3
  obtain ⟨Bb, db, rfl, _⟩ := r1
  have r1 := (rg_forms a3 a1).2
  have hba : Below w2.heap.size w2 (w2.alloc (.cells #[.int .i64 T', .slice Ba ms'.length da, .slice Bb row'.length db] 27)) := (Below.refl _ _).alloc (Nat.le_refl _) _
  have hbb := hb.trans (hba.mono hb.size)
  have S2 := Lib.hid (And.intro (S1.out.1.step hbb) (And.intro (S1.out.2.1.step hbb) (And.intro (S1.out.2.2.1.trans (hbb.mono (by simp; omega))) (And.intro (r3.step hba) (And.intro (r1.step hba) (And.intro (S1.out.2.2.2.2.below hbb (by simp)) (Blk.new w2 #[.int .i64 T', .slice Ba ms'.length da, .slice Bb row'.length db] 27))))))); clear a3 a1 r3 r1 hb hba hbb S1
  have hzW : w2.heap.size + 1 ≤ (w2.alloc (.cells #[.int .i64 T', .slice Ba ms'.length da, .slice Bb row'.length db] 27)).heap.size := by simp
  obtain ⟨c0, c1, c2, _, _, _⟩ := blkThree S2.out.2.2.2.2.2.1
  obtain ⟨d0, d1, d2, _, _, _⟩ := blkThree S2.out.2.2.2.2.2.2
  rcases ok with _ | _
  · obtain rfl : false = b := by simpa using HA.out.2.2
    go_wp2
    go_ret
    exact ⟨rfl, S2.out.2.2.1⟩
  rcases ok' with _ | _
  · obtain rfl : false = b := by simpa using HA.out.2.2
    go_wp2
    go_ret
    exact ⟨rfl, S2.out.2.2.1⟩
  by_cases hT : T = T'
  case neg =>
    obtain rfl : false = b := by have := HA.out.2.2; simp [hT] at this; exact this.symm
    have hTb : (T == T') = false := by rw [beq_eq_false_iff_ne]; exact hT
    go_wp2
    go_ret
    exact ⟨rfl, S2.out.2.2.1⟩
  subst hT
  have HB := Lib.hid (show (decide (ms = ms') && decide (row = row')) = b by have := HA.out.2.2; simpa using this); clear HA
  go_wp2_with fail
  refine (slEqOp_any _ _ ms ms' _ S2.out.1 S2.out.2.2.2.1 (decide (ms = ms')) rfl).mono ?_
  rintro e w3 ⟨rfl, hb⟩
  have hz3 := hb.size
  have bb0 := S2.out.2.2.2.2.2.1.below hb (by omega)
  have bb1 := S2.out.2.2.2.2.2.2.below hb (by omega)
  have S3 := Lib.hid (And.intro (S2.out.2.1.step hb) (And.intro (S2.out.2.2.2.2.1.step hb) (S2.out.2.2.1.trans (hb.mono (by omega))))); clear hb S2 c0 c1 c2 d0 d1 d2
  obtain ⟨c0, c1, c2, _, _, _⟩ := blkThree bb0
  obtain ⟨d0, d1, d2, _, _, _⟩ := blkThree bb1
  clear bb0 bb1
  rcases hd : decide (ms = ms') with _ | _
  · obtain rfl : false = b := by have := HB.out; rw [hd] at this; simpa using this
    clear hd HB
    go_wp2
    go_ret
    exact ⟨rfl, S3.out.2.2⟩
  · have HB2 := Lib.hid (show decide (row = row') = b by have := HB.out; rw [hd] at this; simpa using this); clear hd HB
    obtain ⟨_, _, e1, i1, _⟩ := S3.out.1
    cases e1
    obtain ⟨_, _, e2, i2, _⟩ := S3.out.2.1
    cases e2
    have I := Lib.hid (And.intro i1 i2); clear i1 i2
    go_wp2_with fail
    refine (slEqI_any _ _ _ _ row row' _ I.out.1 I.out.2).mono ?_
    rw [HB2.out]
    rintro e w4 ⟨rfl, n4, rfl⟩
    go_wp2
    go_ret
    exact ⟨rfl, below_drewN S3.out.2.2 _⟩
end Go.Proofs.YtpdhdiidkjgjmaaGreat
