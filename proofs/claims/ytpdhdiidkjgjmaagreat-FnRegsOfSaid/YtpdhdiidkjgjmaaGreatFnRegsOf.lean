/- FnRegsOf: of every code and every other bytes: RegsOf is its model at the drawn program; no register is computed twice; the registers leave what the program leaves; CountOf tells how many. For every input. -/
import Derived.Test.YtpdhdiidkjgjmaaGreatI
import Derived.Test.YtpdhdiidkjgjmaaGreatBt
import Derived.Test.YtpdhdiidkjgjmaaGreatBu
import Derived.Test.YtpdhdiidkjgjmaaGreatZy
import Derived.Test.YtpdhdiidkjgjmaaGreatOh
import Derived.Test.YtpdhdiidkjgjmaaGreatCo
import Derived.Test.YtpdhdiidkjgjmaaGreatLift
import Derived.Deep.RegionWith
import Derived.Deep.RegionHeld3
namespace Go.Proofs.YtpdhdiidkjgjmaaGreat
set_option maxRecDepth 100000
open Go.RowKit Go.WideShapes Go.ChangeShapes Go.Maps Go.Deep

theorem stop3 {P : Prop} {b1 b2 : Bool} (h : ¬ (P ∧ b1 = true ∧ b2 = true)) : ¬ P ∨ (P ∧ b1 = false) ∨ (P ∧ b1 = true ∧ b2 = false) := by
  by_cases hp : P
  · rcases b1 with _ | _
    · exact .inr (.inl ⟨hp, rfl⟩)
    · rcases b2 with _ | _
      · exact .inr (.inr ⟨hp, rfl, rfl⟩)
      · exact absurd ⟨hp, rfl, rfl⟩ h
  · exact .inl hp
set_option maxHeartbeats 8000000 in
theorem fnRegsOf_any (A0 : Option Addr) (c0 : Nat) (x0 : List Int) (A1 : Option Addr) (c1 : Nat) (x1 : List Int) (w0 : World) (h0 : RdC w0 (.slice A0 x0.length c0) x0) (h1 : RdC w0 (.slice A1 x1.length c1) x1) :
    Calls Tryz.prog 3 #[.slice A0 x0.length c0, .slice A1 x1.length c1] w0 fun e w' => e = .returned (.bool true) ∧ Below w0.heap.size w0 w' := by
  have hm := h0.len_le
  have hm1 := h1.len_le
  have HH := Lib.hid h0; clear h0 h1
  by_cases hl : x0.length ≤ 1048576
  case neg =>
    go_enter Tryz.func3, Tryz.ntmps3
    go_wp2
    go_ret
    exact ⟨rfl, Below.refl _ _⟩
  by_cases hl1 : x1.length ≤ 1048576
  case neg =>
    go_enter Tryz.func3, Tryz.ntmps3
    go_wp2
    go_ret
    exact ⟨rfl, Below.refl _ _⟩
  go_enter Tryz.func3, Tryz.ntmps3
  go_wp2_with fail
  refine (DrawRegsOf_any _ x0 _ HH.out).mono ?_
  rintro e w1 ⟨p, zp, rfl, hop, hlp, hb⟩
  have hz1 := hb.size
  have S1 := Lib.hid (And.intro hb hop.rd); clear hop hb HH
  rcases hR : regsOfR zp with ⟨T, ms, row, ok⟩
  have hT := regs_T60 hR (by omega)
  have hL := regsOfR_len zp hR
  obtain ⟨tn, rfl⟩ := Int.eq_ofNat_of_zero_le hT.1
  have hT2 : tn ≤ 60 := by omega
  have hms : ms.length ≤ 60 := hL.2.2.1
  have HR := Lib.hid hR; clear hR hT hL
  go_wp2_with fail
  refine (RegsOf_I _ zp _ S1.out.2 (by omega) (tn : Int) ms row ok HR.out).mono ?_
  rintro e w2 ⟨u0, u1, rfl, ho, hi, _, hb⟩
  have hz2 := hb.size
  obtain ⟨h3, h1⟩ := rg_forms ho hi
  obtain ⟨Aa, ca, rfl, _⟩ := id h3
  obtain ⟨Ab, cb, rfl, _⟩ := id h1
  have hba : Below w2.heap.size w2 (w2.alloc (.cells #[.int .i64 (tn : Int), .slice Aa ms.length ca, .slice Ab row.length cb] 27)) := (Below.refl _ _).alloc (Nat.le_refl _) _
  have S2 := Lib.hid (And.intro ((S1.out.1.trans (hb.mono hz1)).trans (hba.mono (by omega))) (And.intro ((S1.out.2.step hb).step hba) (And.intro (Rd3.step h3 hba) (And.intro (h1.step hba) (Blk.new w2 #[.int .i64 (tn : Int), .slice Aa ms.length ca, .slice Ab row.length cb] 27))))); clear ho hi h3 h1 hb hba S1
  go_wp2_with fail
  refine (RegsOf_S _ zp _ S2.out.2.1 (by omega) (tn : Int) ms row ok HR.out).mono ?_
  rintro e w3 ⟨v0, v1, rfl, ho, hi, _, hb⟩
  have hz3 : w2.heap.size + 1 ≤ w3.heap.size := by have := hb.size; simpa using this
  obtain ⟨h3, h1⟩ := rg_forms ho hi
  obtain ⟨Ac, cc, rfl, _⟩ := id h3
  obtain ⟨Ad, cd, rfl, _⟩ := id h1
  have hbb : Below w3.heap.size w3 (w3.alloc (.cells #[.int .i64 (tn : Int), .slice Ac ms.length cc, .slice Ad row.length cd] 27)) := (Below.refl _ _).alloc (Nat.le_refl _) _
  have S3 := Lib.hid (And.intro ((S2.out.1.trans (hb.mono (by simp; omega))).trans (hbb.mono (by omega))) (And.intro ((S2.out.2.1.step hb).step hbb) (And.intro (Rd3.step (Rd3.step S2.out.2.2.1 hb) hbb) (And.intro ((S2.out.2.2.2.1.step hb).step hbb) (And.intro ((S2.out.2.2.2.2.below hb (by simp)).below hbb (by omega)) (And.intro (Rd3.step h3 hbb) (And.intro (h1.step hbb) (Blk.new w3 #[.int .i64 (tn : Int), .slice Ac ms.length cc, .slice Ad row.length cd] 27)))))))); clear ho hi h3 h1 hb hbb S2
  obtain ⟨g0, g1, g2, _, _, _⟩ := blkThree S3.out.2.2.2.2.1
  obtain ⟨e0, e1, e2, _, _, _⟩ := blkThree S3.out.2.2.2.2.2.2.2
  go_wp2_with fail
  refine (sameRegs9 (tn : Int) _ _ _ _ ms row _ S3.out.2.2.1 S3.out.2.2.2.1 S3.out.2.2.2.2.2.1 S3.out.2.2.2.2.2.2.1 (by omega)).mono ?_
  rintro e w4 ⟨rfl, hb⟩
  have hz4 : w3.heap.size + 1 ≤ w4.heap.size := by have := hb.size; simpa using this
  have S4 := Lib.hid (And.intro (S3.out.1.trans (hb.mono (by simp; omega))) (And.intro (S3.out.2.1.step hb) (And.intro (S3.out.2.2.1.step hb) (And.intro (S3.out.2.2.2.1.step hb) (S3.out.2.2.2.2.1.below hb (by simp; omega)))))); clear hb S3 g0 g1 g2 e0 e1 e2
  have hok : (ok != ok) = false := by simp
  obtain ⟨g0, g1, g2, _, _, _⟩ := blkThree S4.out.2.2.2.2
  rcases ok with _ | _
  · have ht0 := regs_none HR.out
    have htz : ((tn : Int) == 0) = true := by rw [ht0]; rfl
    go_wp2_with fail
    refine (alive_any _).mono ?_
    rintro e w5 ⟨rfl, hb⟩
    have S5 := Lib.hid (S4.out.1.trans (hb.mono (by omega))); clear hb S4
    go_wp2
    go_ret
    exact ⟨rfl, S5.out⟩
  · have HND := Lib.hid (regs_nodup HR.out)
    have HC := Lib.hid (regs_countOf HR.out)
    have HRD := Lib.hid (id S4.out.2.2.1)
    go_wp2
    go_loopw [10] (fun kv wr => ∃ k : Nat, k ≤ ms.length ∧ kv = .int .i64 k ∧ Below w4.heap.size w4 wr) (fun kv _ => ms.length - (intOf kv).toNat)
    case atStart => exact ⟨0, Nat.zero_le _, by first | rfl | simp, Below.refl _ _⟩
    case round =>
      obtain ⟨k, hk, rfl, hbl⟩ := hrel
      have p0 := (hbl.cell (p := ⟨w2.heap.size, 0, none⟩) (show w2.heap.size < w4.heap.size by omega)).trans g0
      have p1 := (hbl.cell (p := ⟨w2.heap.size, 1, none⟩) (show w2.heap.size < w4.heap.size by omega)).trans g1
      have p2 := (hbl.cell (p := ⟨w2.heap.size, 2, none⟩) (show w2.heap.size < w4.heap.size by omega)).trans g2
      have HB := Lib.hid hbl; clear hbl
      by_cases hlt : k < ms.length
      · have hltI : (k : Int) < (ms.length : Int) := by omega
        go_wp2
        go_loopw [11] (fun jv wq => ∃ j : Nat, j ≤ k ∧ jv = .int .i64 j ∧ Below w4.heap.size w4 wq) (fun jv _ => k - (intOf jv).toNat)
        case atStart => exact ⟨0, Nat.zero_le _, by first | rfl | simp, HB.out⟩
        case round =>
          clear HB p0 p1 p2
          obtain ⟨j, hj, rfl, hbl⟩ := hrel
          have p1 := (hbl.cell (p := ⟨w2.heap.size, 1, none⟩) (show w2.heap.size < w4.heap.size by omega)).trans g1
          by_cases hjk : j < k
          · have hjkI : (j : Int) < (k : Int) := by omega
            obtain ⟨_, _, ee, _, hrr⟩ := HRD.out
            cases ee
            obtain ⟨b1, o1, rfl, hb1, hc1⟩ := hrr (by omega)
            obtain ⟨x, hx⟩ : ∃ x, ms[j]? = some x := ⟨ms[j]'(by omega), List.getElem?_eq_getElem (by omega)⟩
            obtain ⟨y, hy⟩ : ∃ y, ms[k]? = some y := ⟨ms[k], List.getElem?_eq_getElem hlt⟩
            have hne := regs_ne HND.out hjk hx hy
            obtain ⟨t0, t1, t2⟩ := hc1 j x hx
            obtain ⟨r0, r1, r2⟩ := hc1 k y hy
            have x0 := (hbl.cell (p := ⟨b1, o1 + j * 3, none⟩) hb1).trans t0
            have x1 := (hbl.cell (p := ⟨b1, o1 + j * 3 + 1, none⟩) hb1).trans t1
            have x2 := (hbl.cell (p := ⟨b1, o1 + j * 3 + 2, none⟩) hb1).trans t2
            have y0 := (hbl.cell (p := ⟨b1, o1 + k * 3, none⟩) hb1).trans r0
            have y1 := (hbl.cell (p := ⟨b1, o1 + k * 3 + 1, none⟩) hb1).trans r1
            have y2 := (hbl.cell (p := ⟨b1, o1 + k * 3 + 2, none⟩) hb1).trans r2
            have hjm : (j : Int) < (ms.length : Int) := by omega
            obtain ⟨a0, a1, a2⟩ := x
            obtain ⟨d0, d1, d2⟩ := y
            dsimp only at x0 x1 x2 y0 y1 y2
            have hcs : ¬ a0 = d0 ∨ (a0 = d0 ∧ ¬ a1 = d1) ∨ (a0 = d0 ∧ a1 = d1 ∧ ¬ a2 = d2) := by
              by_cases q0 : a0 = d0
              · by_cases q1 : a1 = d1
                · refine .inr (.inr ⟨q0, q1, fun q2 => hne ?_⟩); rw [q0, q1, q2]
                · exact .inr (.inl ⟨q0, q1⟩)
              · exact .inl q0
            have V := Lib.hid hbl
            clear hne hx hy hbl t0 t1 t2 r0 r1 r2 hc1 hrr g0 g1 g2
            rcases hcs with q0 | ⟨rfl, q1⟩ | ⟨rfl, rfl, q2⟩
            all_goals
              go_wp2
              go_quiet (fail)
              go_wp2
              go_roundw
              case rel => exact ⟨j + 1, by omega, by go_num, below_drewN V.out _⟩
              case measure => simp [intOf]; omega
          · have hjkI : ¬ (j : Int) < (k : Int) := by omega
            have V := Lib.hid hbl; clear hbl
            go_wp2
            go_roundw
            case rel => exact ⟨k + 1, by omega, by go_num, V.out⟩
            case measure => simp [intOf]; omega
      · have hltI : ¬ (k : Int) < (ms.length : Int) := by omega
        have hz5 := HB.out.size
        have S5 := Lib.hid (And.intro (S4.out.1.trans (HB.out.mono (by omega))) (And.intro (S4.out.2.1.step HB.out) (And.intro (S4.out.2.2.1.step HB.out) (And.intro (S4.out.2.2.2.1.step HB.out) (S4.out.2.2.2.2.below HB.out (by omega)))))); clear HB S4 g0 g1 g2
        have hq1 : ¬ (tn : Int) < 0 := by omega
        have hq2 : ¬ (60 : Int) < (tn : Int) := by omega
        go_wp2_with fail
        refine (numbers_any tn (x1.length : Int) _ (by omega) (by omega)).mono ?_
        rintro e w6 ⟨ur, us, inn, rfl, hin, hr, hst, hb⟩
        have hz6 := hb.size
        clear p0 p1 p2
        have S6 := Lib.hid (And.intro (S5.out.1.trans (hb.mono (by omega))) (And.intro (S5.out.2.1.step hb) (And.intro (S5.out.2.2.1.step hb) (And.intro (S5.out.2.2.2.1.step hb) (And.intro (S5.out.2.2.2.2.below hb (by omega)) (And.intro hr hst)))))); clear hb S5 hst hr
        rcases hr1 : runOfR zp (inn.map fun z => [z]) with ⟨left, n1, b1⟩
        rcases hr2 : regsRunR (tn : Int) ms row inn with ⟨out, b2⟩
        have HF := Lib.hid (fun h1 : b1 = true => fun h2 : b2 = true => regs_ran HR.out (inn := inn) (by simpa using hin) (by rw [hr1, h1]) (by rw [hr2, h2]))
        have HR1 := Lib.hid hr1; clear hr1
        have HR2 := Lib.hid hr2; clear hr2
        generalize (inn.map fun z => [z]) = zss at *
        go_wp2_with fail
        refine (RunOf_I _ zp _ zss _ S6.out.2.1 (by omega) S6.out.2.2.2.2.2.2 left n1 b1 HR1.out).mono ?_
        rintro e w7 ⟨u7, rfl, ho7, hb⟩
        have hz7 := hb.size
        have b7 := S6.out.2.2.2.2.1.below hb (by omega)
        obtain ⟨p0, p1, p2, _, _, _⟩ := blkThree b7
        have S7 := Lib.hid (And.intro (S6.out.1.trans (hb.mono (by omega))) (And.intro (S6.out.2.1.step hb) (And.intro (S6.out.2.2.1.step hb) (And.intro (S6.out.2.2.2.1.step hb) (And.intro b7 (And.intro (S6.out.2.2.2.2.2.1.step hb) ho7)))))); clear hb S6 ho7 b7
        go_wp2_with fail
        refine (RegsRun_I (tn : Int) Aa ca ms Ab cb row _ inn _ S7.out.2.2.1 S7.out.2.2.2.1 S7.out.2.2.2.2.2.1 (by omega) out b2 HR2.out).mono ?_
        rintro e w8 ⟨u8, rfl, ho8, hb⟩
        have hz8 := hb.size
        have b8 := S7.out.2.2.2.2.1.below hb (by omega)
        clear p0 p1 p2
        obtain ⟨p0, p1, p2, _, _, _⟩ := blkThree b8
        have hls := S7.out.2.2.2.2.2.2.below hb
        have S8 := Lib.hid (And.intro (S7.out.1.trans (hb.mono (by omega))) (And.intro (S7.out.2.1.step hb) (And.intro hls.rd ho8.rd))); clear hb S7 ho8 b8 hls
        obtain ⟨Al, cl, rfl, _⟩ := id S8.out.2.2.1
        obtain ⟨Ao, co, rfl, _⟩ := id S8.out.2.2.2
        have HEND : Hid (∀ wx, Below w8.heap.size w8 wx → Calls Tryz.prog 14 #[p] wx fun e w' => e = .returned (.tuple #[.int .i64 (tn : Int), .int .i64 (row.length : Int)]) ∧ Below w0.heap.size w0 w' ∧ Below w8.heap.size w8 w') := Lib.hid fun wx hx => by
          refine (CountOf_I _ zp _ (S8.out.2.1.step hx) (by omega) (tn : Int) (row.length : Int) HC.out).mono ?_
          rintro e w' ⟨rfl, hb⟩
          exact ⟨rfl, (S8.out.1.trans (hx.mono (by omega))).trans (hb.mono (by have := hx.size; omega)), hx.trans (hb.mono hx.size)⟩
        have HP := Lib.hid (And.intro p0 (And.intro p1 p2)); clear p0 p1 p2
        go_wp2
        go_loopw [19] (fun kv wr => ∃ k : Nat, k ≤ left.length ∧ kv = .int .i64 k ∧ Below w8.heap.size w8 wr) (fun kv _ => left.length - (intOf kv).toNat)
        case atStart => exact ⟨0, Nat.zero_le _, by first | rfl | simp, Below.refl _ _⟩
        case round =>
          obtain ⟨i, hi, rfl, hbl⟩ := hrel
          have p0 := (hbl.cell (p := ⟨w2.heap.size, 0, none⟩) (show w2.heap.size < w8.heap.size by omega)).trans HP.out.1
          have p2 := (hbl.cell (p := ⟨w2.heap.size, 2, none⟩) (show w2.heap.size < w8.heap.size by omega)).trans HP.out.2.2
          by_cases hgo : (i : Int) < (left.length : Int) ∧ b1 = true ∧ b2 = true
          · obtain ⟨hi2, rfl, rfl⟩ := hgo
            have hlo := HF.out rfl rfl
            have hoo : left.length = out.length := by rw [hlo]; simp
            have hIo : ((out.length : Int) != (left.length : Int)) = false := by rw [hoo]; simp
            obtain ⟨y, hy⟩ : ∃ y, out[i]? = some y := ⟨out[i]'(by omega), List.getElem?_eq_getElem (by omega)⟩
            have hly : left[i]? = some [y] := by rw [hlo, List.getElem?_map, hy]; rfl
            obtain ⟨_, _, ee, hmm⟩ := S8.out.2.2.1
            cases ee
            obtain ⟨bl, ol, rfl, hbb, hcc⟩ := hmm.at_ (by omega)
            obtain ⟨uy, hcu, hru⟩ := hcc i [y] hly
            obtain ⟨_, _, ee, hii, _⟩ := S8.out.2.2.2
            cases ee
            obtain ⟨bo, oo, rfl, hbo, hco⟩ := hii.at_ (by omega)
            have hcy := hco i (by omega)
            rw [show out.getD i 0 = y by simp [List.getD, hy]] at hcy
            have hyw : InK .i64 y := hii.wf y (List.mem_of_getElem? hy)
            have hiO : (i : Int) < (out.length : Int) := by omega
            have hiN : i < out.length := by omega
            have hib : (i : Int) + 1 ≤ 9223372036854775807 := by have := hii.len; omega
            have HIL := Lib.hid (show i + 1 ≤ left.length by omega)
            clear hoo
            have HCY := Lib.hid hcy
            have c1 := (hbl.cell (p := ⟨bl, ol + i, none⟩) hbb).trans hcu
            have c2 := (hbl.cell (p := ⟨bo, oo + i, none⟩) hbo).trans hcy
            have hzr := hbl.size
            have bD : Below w8.heap.size w8 wr.drew := hbl.drew
            have bA : Below w8.heap.size w8 (wr.drew.alloc (.cells #[.int .i64 y] 3)) := bD.alloc (by simpa using hzr) _
            have c3 := (bA.cell (p := ⟨bl, ol + i, none⟩) hbb).trans hcu
            have hru2 : RdI (wr.drew.alloc (.cells #[.int .i64 y] 3)) uy [y] := (RdBI.below hru bA).rd (by simp; omega)
            have hlt2 : RdI (wr.drew.alloc (.cells #[.int .i64 y] 3)) (.slice (some ⟨wr.heap.size, 0, none⟩) 1 1) [y] := by simpa using (lits_own wr.drew [y] (by simp) (by intro z hz; simp only [List.mem_singleton] at hz; subst hz; exact hyw)).rd
            have U := Lib.hid (And.intro hru2 (And.intro hlt2 (And.intro bA hbl)))
            obtain ⟨Ay, cy, rfl, _⟩ := hru
            clear hcu hcc hco hcy hii hmm hru2 hlt2 hbl bD bA hlo hy hly
            go_wp2_with fail
            have c1 : wr.cell? ⟨bl, ol + i, none⟩ = some (.slice Ay 1 cy) := c1
            have c3 : (wr.drew.alloc (.cells #[.int .i64 y] 3)).cell? ⟨bl, ol + i, none⟩ = some (.slice Ay 1 cy) := c3
            have c4 := (U.out.2.2.1.cell (p := ⟨bo, oo + i, none⟩) hbo).trans HCY.out
            have hbr : bl < wr.heap.size := by omega
            have hor : bo < wr.heap.size := by omega
            go_region_held3 (fun w' => w'.cell? ⟨bl, ol + i, none⟩ = some (.slice Ay 1 cy) ∧ w'.cell? ⟨bo, oo + i, none⟩ = some (.int .i64 y)) (repeat' (first | with_reducible assumption | apply And.intro | rw [World.cell?_drew] | rw [World.cell?_alloc_lt _ _ _ (by first | omega | (simp; omega))])) (first
              | (go_at_call 13; refine (smI _ _ [y] [y] _ ?_ ?_ true (by simp)).mono ?_; exact U.out.1; exact U.out.2.1; rintro e w9 ⟨rfl, hb9⟩; have q1 := (hb9.cell (p := ⟨bl, ol + i, none⟩) (show bl < _ by simp; omega)).trans c3; have q2 := (hb9.cell (p := ⟨bo, oo + i, none⟩) (show bo < _ by simp; omega)).trans c4)
              | fail)
            all_goals
              have T9 := Lib.hid (U.out.2.2.1.trans (hb9.mono (by simp; omega)))
              go_wp2
              go_roundw
              case rel => exact ⟨i + 1, HIL.out, by go_num, T9.out⟩
              case measure => have := HIL.out; simp [intOf]; omega
          · have V := Lib.hid hbl; clear hbl
            have hend := stop3 hgo
            clear hgo HF HR1 HR2
            rcases hend with h1 | ⟨h1, rfl⟩ | ⟨h1, rfl, rfl⟩
            all_goals
              go_wp2_with fail
              refine (HEND.out _ V.out).mono ?_
              rintro e w9 ⟨rfl, hb, hb2⟩
              have r0 := (hb2.cell (p := ⟨w2.heap.size, 0, none⟩) (show w2.heap.size < w8.heap.size by omega)).trans HP.out.1
              have r2 := (hb2.cell (p := ⟨w2.heap.size, 2, none⟩) (show w2.heap.size < w8.heap.size by omega)).trans HP.out.2.2
              have Y9 := Lib.hid hb; clear hb hb2
              go_wp2
              go_ret
              exact ⟨rfl, Y9.out⟩

theorem fnRegsOf_walk : LawWalk 3 Tryz.f3 := by
  intro H enc W base args ds ps hval hA
  rw [Tryz.params3] at hA hval
  obtain ⟨v0, v1, d0, d1, p0, p1, rfl, rfl, rfl, h0, h1⟩ := trodAll_two hA
  obtain ⟨A0, c0, zs0, rfl, hi0, hc0⟩ := ints_of_trod Tryz.underlying22 Tryz.underlying5 cells_byte (hval 0 _ _ rfl rfl) h0
  obtain ⟨A1, c1, zs1, rfl, hi1, hc1⟩ := ints_of_trod Tryz.underlying22 Tryz.underlying5 cells_byte (hval 1 _ _ rfl rfl) h1
  exact fnRegsOf_any A0 c0 zs0 A1 c1 zs1 W (RdC.mk hi0 hc0) (RdC.mk hi1 hc1)

set_option maxRecDepth 100000 in
theorem fnRegsOf_lifted (os : Os) (started : os.Started) (H : Type) (enc : TypeId × Value → H) :
    ReturnsInHanded {} Tryz.checked os 3 .any (Rows.fnRegsOfSpec.pre6 enc Tryz.prog Tryz.f3 Rows.fnRegsOfRow.domain false) (Rows.fnRegsOfSpec.post enc Tryz.prog Tryz.f3 false true false false) := by
  refine returnsInHanded_of_change (C := Tryz.checked) own started (by kernel_rfl) Tryz.func3
    (ChangeSpec.witness6 (enc := enc) (C := Tryz.checked) false ⟨#[], #[.slice none 0 0, .slice none 0 0], []⟩ 8 (by kernel_rfl) (by kernel_rfl) (by kernel_rfl) (by kernel_rfl)) ?_
  intro W base args ds gs before hval hW _ _
  exact law_contract laidOut rfl (by kernel_rfl) rfl (fun H ds hd => by
    match ds, hd with
    | [d0, d1], _ => exact ⟨rfl, rfl, rfl⟩) fnRegsOf_walk W base args ds gs before hval hW

/-- FnRegsOf: the row as it is given. -/
theorem fnRegsOf_holds : Rows.FnRegsOfSaid :=
  OpenClaim.holds_of_wide 3 Tryz.f3 rfl rfl rfl rfl rfl rfl rfl ⟨rfl, rfl, rfl, rfl, rfl⟩ rfl rfl rfl rfl rfl (by kernel_rfl) Tryz.func3 (by unfold joinedFacts; rw [pf_enter, pf_lifts, pf_make]; kernel_rfl)
    (of_decide_eq_true (by kernel_rfl)) (by unfold Func.isWrapper; first | (rw [if_pos (by decide +kernel)]; kernel_rfl) | (rw [if_neg (by decide +kernel)]; exact ⟨rfl, rfl⟩))
    (fun os started H enc _ => fnRegsOf_lifted os started H enc)

end Go.Proofs.YtpdhdiidkjgjmaaGreat
