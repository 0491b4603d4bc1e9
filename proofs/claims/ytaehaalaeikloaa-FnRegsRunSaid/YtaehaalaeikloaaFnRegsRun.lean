/- FnRegsRun: of every code: RegsRun is its model at the drawn registers and numbers; what is left are numbers, as many as Outs; registers that leave what they take leave it. For every input. -/
import Derived.Test.YtaehaalaeikloaaI
import Derived.Test.YtaehaalaeikloaaBf
import Derived.Test.YtaehaalaeikloaaLift
namespace Go.Proofs.Ytaehaalaeikloaa
set_option maxRecDepth 100000
open Go.RowKit Go.WideShapes Go.ChangeShapes Go.Deep

theorem numsB_run (t : Int) : ∀ (ms : List (Int × Int × Int)) (zs : List Int), numsB zs = true → numsB (runOps t zs ms) = true := by
  intro ms
  induction ms with
  | nil => intro zs h; exact h
  | cons m ms ih => intro zs h; exact ih _ (numsB_step h)
theorem regsRunR_false {t : Int} {ms : List (Int × Int × Int)} {os zs y : List Int} (h : regsRunR t ms os zs = (y, false)) : y = [] := by
  unfold regsRunR at h
  split at h
  · cases h
  · cases h; rfl
theorem regsRunR_yes {t : Int} {ms : List (Int × Int × Int)} {os zs y : List Int} (h : regsRunR t ms os zs = (y, true)) : (zs.length : Int) = t ∧ t ≤ 20 ∧ numsB zs = true ∧ y.length = os.length ∧ ∀ k, 0 ≤ y.getD k 0 ∧ y.getD k 0 ≤ 999 := by
  unfold regsRunR at h
  split at h
  · rename_i hc
    obtain ⟨hb, hl, hn⟩ := hc
    cases h
    have hb2 := hb
    unfold regsB at hb2
    rw [Bool.and_eq_true, Bool.and_eq_true, decide_eq_true_eq] at hb2
    refine ⟨hl, hb2.1.2.1, hn, by simp, fun k => ?_⟩
    rcases Nat.lt_or_ge k os.length with hk | hk
    · rw [List.getD, List.getElem?_map, List.getElem?_eq_getElem hk]
      have hkn := List.all_eq_true.1 hb2.2.2 os[k] (List.getElem_mem hk)
      simpa using numsB_val (numsB_run t ms zs hn) hkn
    · rw [List.getD, List.getElem?_eq_none (by simpa using hk)]
      simp
  · cases h
theorem regsRunR_same {zs : List Int} (h : numsB zs = true) (hl : zs.length ≤ 20) : regsRunR (zs.length : Int) [] (startR zs.length) zs = (zs, true) := by
  have hb : regsB (zs.length : Int) [] (startR zs.length) = true := by
    unfold regsB
    rw [Bool.and_eq_true, Bool.and_eq_true, decide_eq_true_eq]
    refine ⟨⟨by omega, by omega, by simp, by rw [startR_len]; exact hl⟩, rfl, List.all_eq_true.2 fun z hz => ?_⟩
    unfold startR at hz
    obtain ⟨k, hk, rfl⟩ := List.mem_map.1 hz
    have := List.mem_range.1 hk
    unfold knownB
    rw [decide_eq_true_eq]
    exact .inr (.inl ⟨by omega, by omega⟩)
  unfold regsRunR
  rw [if_pos ⟨hb, rfl, h⟩]
  refine congrArg (·, true) ?_
  unfold startR
  rw [List.map_map]
  refine List.ext_getElem (by simp) fun k h1 h2 => ?_
  simp only [List.getElem_map, List.getElem_range, Function.comp, runOps]
  unfold valR
  rw [if_neg (by omega), if_neg (by have : k < zs.length := h2; omega), show (2000 + (k : Int) - 2000).toNat = k by omega]
  simp [List.getD, List.getElem?_eq_getElem h2]
set_option maxHeartbeats 8000000 in
theorem fnRegsRun_any (A0 : Option Addr) (c0 : Nat) (x0 : List Int) (w0 : World) (h0 : RdC w0 (.slice A0 x0.length c0) x0) :
    Calls Try.prog 8 #[.slice A0 x0.length c0] w0 fun e w' => e = .returned (.bool true) ∧ Below w0.heap.size w0 w' := by
  have hm := h0.len_le
  have HH := Lib.hid h0; clear h0
  by_cases hl : x0.length ≤ 1048576
  case neg =>
    go_enter Try.func8, Try.ntmps8
    go_wp2
    go_ret
    exact ⟨rfl, Below.refl _ _⟩
  go_enter Try.func8, Try.ntmps8
  go_wp2_with fail
  refine (DrawRegsRun_any _ x0 _ HH.out).mono ?_
  rintro e w1 ⟨t, u0, u1, ms, row, v, zs, rfl, h3, hi, hv, ⟨ht0, ht1, hm61, hr241, hz121⟩, hb⟩
  have hz1 := hb.size
  clear HH
  obtain ⟨Aa, ca, rfl, _⟩ := id h3
  obtain ⟨Ab, cb, rfl, _⟩ := id hi
  obtain ⟨Av, cv, rfl, _⟩ := id hv
  rcases hR : regsRunR t ms row zs with ⟨y0, y1⟩
  have hy1000 : y0.length ≤ 1000 := by have := regsRunR_len t ms row zs; rw [hR] at this; exact this
  have HR := Lib.hid hR; clear hR
  have hba : Below w1.heap.size w1 (w1.alloc (.cells #[.int .i64 t, .slice Aa ms.length ca, .slice Ab row.length cb] 43)) := (Below.refl _ _).alloc (Nat.le_refl _) _
  have S1 := Lib.hid (And.intro (h3.step hba) (And.intro (hi.step hba) (And.intro (hv.step hba) (And.intro (hb.trans (hba.mono hz1)) (Blk.new w1 #[.int .i64 t, .slice Aa ms.length ca, .slice Ab row.length cb] 43))))); clear h3 hi hv hb hba
  go_wp2_with fail
  refine (RegsRun_I t Aa ca ms Ab cb row _ zs _ S1.out.1 S1.out.2.1 S1.out.2.2.1 (by omega) y0 y1 HR.out).mono ?_
  rintro e w2 ⟨u, rfl, hu, hb⟩
  have hz2 : w1.heap.size + 1 ≤ w2.heap.size := by have := hb.size; simpa using this
  have b0 := S1.out.2.2.2.2.below hb (by simp)
  obtain ⟨g0, g1, g2, _, _, _⟩ := blkThree b0
  have S2 := Lib.hid (And.intro (S1.out.1.step hb) (And.intro (S1.out.2.1.step hb) (And.intro (S1.out.2.2.1.step hb) (And.intro (S1.out.2.2.2.1.trans (hb.mono (by simp; omega))) (And.intro b0 hu.rd))))); clear hb S1 b0 hu
  go_wp2_with fail
  refine (RegsRun_S t Aa ca ms Ab cb row _ zs _ S2.out.1 (by omega) S2.out.2.1 (by omega) S2.out.2.2.1 (by omega) y0 y1 HR.out).mono ?_
  rintro e w3 ⟨x, rfl, hx, hb⟩
  have hz3 : w2.heap.size ≤ w3.heap.size := hb.size
  have b0 := S2.out.2.2.2.2.1.below hb (by omega)
  clear g0 g1 g2
  have S3 := Lib.hid (And.intro (S2.out.2.2.2.2.2.step hb) (And.intro hx.rd (And.intro (S2.out.2.2.1.step hb) (And.intro (S2.out.2.2.2.1.trans (hb.mono (by omega))) b0)))); clear hb S2 b0 hx
  go_wp2_with fail
  refine (smI _ _ y0 y0 _ S3.out.1 S3.out.2.1 true (by simp)).mono ?_
  rintro e w4 ⟨rfl, hb⟩
  have hz4 : w3.heap.size ≤ w4.heap.size := hb.size
  have b0 := S3.out.2.2.2.2.below hb (by omega)
  have S4 := Lib.hid (And.intro (S3.out.1.step hb) (And.intro (S3.out.2.2.1.step hb) (And.intro (S3.out.2.2.2.1.trans (hb.mono (by omega))) b0))); clear hb S3 b0
  obtain ⟨Au, cu, rfl, _⟩ := S4.out.1
  have hbb : (y1 != y1) = false := by simp
  rcases y1 with _ | _
  · obtain rfl := regsRunR_false HR.out
    go_wp2_with fail
    refine (alive_any _).mono ?_
    rintro e w5 ⟨rfl, hb⟩
    have S5 := Lib.hid (S4.out.2.2.1.trans (hb.mono (by omega))); clear hb S4
    go_wp2
    go_ret
    exact ⟨rfl, S5.out⟩
  · obtain ⟨hzt, ht20, hn, hyl, hyv⟩ := regsRunR_yes HR.out
    obtain rfl : (zs.length : Int) = t := hzt
    have hz20 : zs.length ≤ 20 := by omega
    have HS := Lib.hid (And.intro (regsRunR_same hn hz20) (And.intro hyv hyl)); clear hn hyv hyl HR
    obtain ⟨g0, g1, g2, _, _, _⟩ := blkThree S4.out.2.2.2
    have hba : Below w4.heap.size w4 (w4.alloc (.cells #[.int .i64 zs.length, .slice none 0 0, .slice none 0 0] 43)) := (Below.refl _ _).alloc (Nat.le_refl _) _
    have S5 := Lib.hid (And.intro hba (Blk.new w4 #[.int .i64 zs.length, .slice none 0 0, .slice none 0 0] 43)); clear hba
    have hz5 : w4.heap.size + 1 ≤ (w4.alloc (.cells #[.int .i64 zs.length, .slice none 0 0, .slice none 0 0] 43)).heap.size := by simp
    go_wp2
    go_loopw [10] (fun kv wr => ∃ (k : Nat) (o : Value), kv = .int .i64 k ∧ k ≤ zs.length ∧ w4.heap.size + 1 ≤ wr.heap.size ∧ Below w4.heap.size w4 wr ∧ Blk wr w4.heap.size #[.int .i64 zs.length, .slice none 0 0, o] 43 ∧ Own wr (w4.heap.size + 1) o (startR k)) (fun kv _ => zs.length - (intOf kv).toNat)
    case atStart => exact ⟨0, .slice none 0 0, by first | rfl | simp, Nat.zero_le _, hz5, S5.out.1, S5.out.2, by simpa [startR] using Own.nil _ _⟩
    case round =>
      clear S5 hz5
      obtain ⟨k, o, rfl, hk, hsz, hbl, hbo, hown⟩ := hrel
      have hrk : (startR k).length ≤ 20 := by rw [startR_len]; omega
      have hss := startR_succ k
      have HS2 := Lib.hid hss; clear hss
      have HK := Lib.hid (startR_len k)
      generalize hrr : startR k = rk at *
      have HRR := Lib.hid hrr; clear hrr
      obtain ⟨Ao, co, rfl, _⟩ := hown.ints
      obtain ⟨e0, e1, e2, f0, f1, f2⟩ := blkThree hbo
      have hzr : w1.heap.size < w4.heap.size := by omega
      have p0 := (hbl.cell (p := ⟨w1.heap.size, 0, none⟩) hzr).trans g0
      have p2 := (hbl.cell (p := ⟨w1.heap.size, 2, none⟩) hzr).trans g2
      have R := Lib.hid (And.intro hbl (And.intro hbo hown)); clear hbl hbo hown
      by_cases hlt : k < zs.length
      · have hltI : (k : Int) < (zs.length : Int) := by omega
        go_wp2_with (at_builtin; refine wpList_append_Kz rfl _ _ _ rfl Try.underlying23 intInfo (2000 + (k : Int)) rfl (wf_near _ (by omega)) (w4.heap.size + 1) _ rk rfl R.out.2.2 (by omega) rfl (by omega) ?_)
        intro v6 w6 ho6 hg6
        have hz6 : w4.heap.size + 1 ≤ w6.heap.size := by have := hg6.size; omega
        have hb6 : Below w4.heap.size wr w6 := below_of_only hg6 (by omega) (fun k hk => by have := (R.out.2.2.ge k hk).1; omega)
        obtain ⟨A6, c6, e6, _⟩ := ho6.ints
        obtain ⟨n6, hn6⟩ : ∃ n, (rk ++ [2000 + (k : Int)]).length = n := ⟨_, rfl⟩
        rw [hn6] at e6
        subst e6
        clear hn6
        have hbk : Blk w6 w4.heap.size #[.int .i64 zs.length, .slice none 0 0, .slice Ao rk.length co] 43 := (hg6.block w4.heap.size (by omega) fun e => ownsRow_blk_ne R.out.2.2.own R.out.2.1 (by decide) e.symm).trans R.out.2.1
        obtain ⟨_, _, q6, _, _, f6⟩ := blkThree hbk
        have T := Lib.hid (And.intro ((R.out.1.trans hb6).setCell (p := ⟨w4.heap.size, 2, none⟩) (Nat.le_refl _) (.slice A6 n6 c6)) (And.intro (hbk.set 2 (.slice A6 n6 c6)) (ho6.setO (g := w4.heap.size) (o := 2) (u := .slice A6 n6 c6) (by omega)))); clear hbk hb6 ho6 hg6 R e0 e1 e2 f0 f1 f2 p0 p2
        have hz7 : w4.heap.size + 1 ≤ (w6.setCell ⟨w4.heap.size, 2, none⟩ (.slice A6 n6 c6)).heap.size := by simpa [World.setCell] using hz6
        go_wp2
        go_roundw
        case rel => exact ⟨k + 1, _, by go_num, by omega, hz7, T.out.1, T.out.2.1, by rw [HS2.out]; exact T.out.2.2⟩
        case measure => simp [intOf]; omega
      · obtain rfl : k = zs.length := by omega
        have HX := Lib.hid (show regsRunR (zs.length : Int) [] rk zs = (zs, true) from by rw [← HRR.out]; exact HS.out.1)
        have hzw : w4.heap.size ≤ wr.heap.size := by omega
        go_wp2_with fail
        refine (RegsRun_I (zs.length : Int) none 0 [] Ao co rk _ zs _ ⟨none, 0, rfl, by simp, fun h => by simp at h⟩ R.out.2.2.within.rd (S4.out.2.1.step R.out.1) (by omega) zs true HX.out).mono ?_
        rintro e w7 ⟨u7, rfl, hu7, hb⟩
        have hz7 : wr.heap.size ≤ w7.heap.size := hb.size
        have hbw : Below w4.heap.size w4 w7 := R.out.1.trans (hb.mono hzw)
        have h2c := (hbw.cell (p := ⟨w1.heap.size, 2, none⟩) hzr).trans g2
        have S7 := Lib.hid (And.intro (S4.out.1.step hbw) (And.intro (S4.out.2.1.step hbw) (And.intro hu7.rd (S4.out.2.2.1.trans (hbw.mono (by omega)))))); clear hu7 hb hbw R e0 e1 e2 f0 f1 f2 p0 p2
        go_wp2
        go_loopw [13] (fun kv wr => ∃ k : Nat, k ≤ y0.length ∧ kv = .int .i64 k ∧ Below w7.heap.size w7 wr) (fun kv _ => y0.length - (intOf kv).toNat)
        case atStart => exact ⟨0, Nat.zero_le _, by first | rfl | simp, Below.refl _ _⟩
        case round =>
          obtain ⟨i, hi, rfl, hbl⟩ := hrel
          by_cases hlt2 : i < y0.length
          · have hltI : (i : Int) < (y0.length : Int) := by omega
            obtain ⟨_, _, ee, hii, _⟩ := S7.out.1
            cases ee
            obtain ⟨bb, off, rfl, hbb, hcc⟩ := hii.at_ (by omega)
            have hcell := (hbl.cell (p := ⟨bb, off + i, none⟩) hbb).trans (hcc i hlt2)
            obtain ⟨hy0, hy9⟩ := HS.out.2.1 i
            clear hcc hii
            generalize y0.getD i 0 = yy at *
            have hd0 : decide (yy < 0) = false := by rw [decide_eq_false_iff_not]; omega
            have V := Lib.hid hbl; clear hbl
            first | (go_wp2; go_quiet (fail)) | go_wp2
            go_wp2
            go_roundw
            case rel => exact ⟨i + 1, by omega, by go_num, by first | exact below_drewN V.out _ | exact V.out⟩
            case measure => simp [intOf]; omega
          · obtain rfl : i = y0.length := by omega
            have hle : ((y0.length : Int) == (row.length : Int)) = true := by rw [HS.out.2.2]; simp
            have h2d := (hbl.cell (p := ⟨w1.heap.size, 2, none⟩) (by show w1.heap.size < w7.heap.size; omega)).trans h2c
            have hz9 := hbl.size
            have S8 := Lib.hid (And.intro (S7.out.2.2.1.step hbl) (And.intro (S7.out.2.1.step hbl) (S7.out.2.2.2.trans (hbl.mono (by omega))))); clear hbl S7
            go_wp2_with fail
            refine (smI _ _ zs zs _ S8.out.1 S8.out.2.1 true (by simp)).mono ?_
            rintro e w9 ⟨rfl, hb⟩
            have S9 := Lib.hid (S8.out.2.2.trans (hb.mono (by omega))); clear hb S8
            go_wp2
            go_ret
            exact ⟨rfl, S9.out⟩

theorem fnRegsRun_walk : LawWalk 8 Try.f8 := by
  intro H enc W base args ds ps hval hA
  rw [Try.params8] at hA hval
  obtain ⟨v0, d0, rfl, rfl, h0⟩ := trodAll_one hA
  obtain ⟨A0, c0, zs0, rfl, hi0, hc0⟩ := ints_of_trod Try.underlying22 Try.underlying5 cells_byte (hval 0 _ _ rfl rfl) h0
  exact fnRegsRun_any A0 c0 zs0 W (RdC.mk hi0 hc0)

set_option maxRecDepth 100000 in
theorem fnRegsRun_lifted (os : Os) (started : os.Started) (H : Type) (enc : TypeId × Value → H) :
    ReturnsInHanded {} Try.checked os 8 .any (Rows.fnRegsRunSpec.pre6 enc Try.prog Try.f8 Rows.fnRegsRunRow.domain false) (Rows.fnRegsRunSpec.post enc Try.prog Try.f8 false true false false) := by
  refine returnsInHanded_of_change (C := Try.checked) own started (by kernel_rfl) Try.func8
    (ChangeSpec.witness6 (enc := enc) (C := Try.checked) false ⟨#[], #[.slice none 0 0], []⟩ 8 (by kernel_rfl) (by kernel_rfl) (by kernel_rfl) (by kernel_rfl)) ?_
  intro W base args ds gs before hval hW _ _
  exact law_contract laidOut rfl (by kernel_rfl) rfl (fun H ds hd => by
    match ds, hd with
    | [d0], _ => exact ⟨rfl, rfl, rfl⟩) fnRegsRun_walk W base args ds gs before hval hW

/-- FnRegsRun: the row as it is given. -/
theorem fnRegsRun_holds : Rows.FnRegsRunSaid :=
  OpenClaim.holds_of_wide 8 Try.f8 rfl rfl rfl rfl rfl rfl rfl ⟨rfl, rfl, rfl, rfl, rfl⟩ rfl rfl rfl rfl rfl (by kernel_rfl) Try.func8 (by unfold joinedFacts; rw [pf_enter, pf_lifts, pf_make]; kernel_rfl)
    (of_decide_eq_true (by kernel_rfl)) (by unfold Func.isWrapper; first | (rw [if_pos (by decide +kernel)]; kernel_rfl) | (rw [if_neg (by decide +kernel)]; exact ⟨rfl, rfl⟩))
    (fun os started H enc _ => fnRegsRun_lifted os started H enc)

end Go.Proofs.Ytaehaalaeikloaa
