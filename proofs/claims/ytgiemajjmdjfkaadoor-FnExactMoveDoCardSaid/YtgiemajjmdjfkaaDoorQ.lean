/- Contracts of chapter 2's tests: values and stacks; the program's and the model's. -/
import Derived.Test.YtgiemajjmdjfkaaDoorMa
namespace Go.Proofs.YtgiemajjmdjfkaaDoor
set_option maxRecDepth 100000
open Go.RowKit Go.WideShapes

theorem isQuoted_any (v : Value) (zs : List Int) (w : World) (h : RdI w v zs) :
    Calls Tryd.prog 119 #[v] w fun e w' => e = .returned (.bool (isQ zs)) ∧ w = w' := by
  obtain ⟨A, c, rfl, hi, hc⟩ := h
  have hm := hi.len
  by_cases hl : 2 ≤ zs.length
  · obtain ⟨b, off, rfl, hb, hcc⟩ := hi.at_ (by omega)
    have hcell0 := hcc 0 (by omega)
    have hcell1 := hcc (zs.length - 1) (by omega)
    rw [Nat.add_zero] at hcell0
    have hq : isQ zs = ((zs.getD 0 0 == 1012) && (zs.getD (zs.length - 1) 0 == 1013)) := by simp [isQ, hl]
    have HQ := Lib.hid hq; clear hq hcc hi
    have hn1 : ((zs.length : Int) - 1).toNat = zs.length - 1 := by omega
    generalize zs.getD 0 0 = z0 at *
    generalize zs.getD (zs.length - 1) 0 = z1 at *
    rcases hz0 : (z0 == 1012) with _ | _
    all_goals
      go_enter Tryd.func119, Tryd.ntmps119
      go_wp2
      go_ret
      exact ⟨ret_bool (by rw [HQ.out]; simp [hz0]), rfl⟩
  · have hq : isQ zs = false := by simp [isQ, hl]
    have HQ := Lib.hid hq; clear hq
    go_enter Tryd.func119, Tryd.ntmps119
    go_wp2
    go_ret
    exact ⟨ret_bool (by rw [HQ.out]), rfl⟩

/-- The words between the brackets: a part of the same row. -/
theorem insideOf_any (v : Value) (zs : List Int) (w : World) (h : RdI w v zs) (hl : 2 ≤ zs.length) :
    Calls Tryd.prog 120 #[v] w fun e w' => (∃ u, e = .returned u ∧ RdI w u (inside zs) ∧ u.ownBlock = v.ownBlock) ∧ w = w' := by
  obtain ⟨A, c, rfl, hi, hc⟩ := h
  have hm := hi.len
  obtain ⟨b, off, rfl, hb, hcc⟩ := hi.at_ (by omega)
  have hsub := hi.sub 1 (zs.length - 2) (by omega)
  have HS := Lib.hid hsub; clear hsub hcc
  have HL : Hid (((zs.drop 1).take (zs.length - 2)).length = zs.length - 2) := Lib.hid (by simp; omega)
  go_enter Tryd.func120, Tryd.ntmps120
  go_wp2
  go_ret
  refine ⟨⟨_, rfl, ⟨some ⟨b, off + 1, none⟩, c - 1, ?_, HS.out, ?_⟩, rfl⟩, rfl⟩
  · rw [inside, HL.out]; rfl
  · rw [inside, HL.out]; omega

theorem ValueOk_any (v : Value) (zs : List Int) (w : World) (h : RdI w v zs) :
    Calls Tryd.prog 100 #[v] w fun e w' => e = .returned (.bool (valueB zs)) ∧ w = w' := by
  have H := Lib.hid h
  obtain ⟨A, c, rfl, hi, hc⟩ := h
  have hm := hi.len
  by_cases h1 : zs.length = 1
  · obtain ⟨b, off, rfl, hb, hcc⟩ := hi.at_ (by omega)
    have hcell0 := hcc 0 (by omega)
    rw [Nat.add_zero] at hcell0
    have hq : valueB zs = isNumB (zs.getD 0 0) := by rw [valueB, if_pos h1]
    have HQ := Lib.hid hq; clear hq hcc hi
    have h1b : ((zs.length : Int) == 1) = true := by simp; omega
    have hle : 0 < zs.length := by omega
    clear h1
    generalize zs.getD 0 0 = z0 at *
    go_enter Tryd.func100, Tryd.ntmps100
    go_wp2_with (go_at_call 106; refine (isNum_any _ _).mono ?_; rintro e w' ⟨rfl, rfl⟩)
    go_ret
    exact ⟨ret_bool HQ.out.symm, rfl⟩
  · have h1b : ((zs.length : Int) == 1) = false := by simp; omega
    have hv : valueB zs = (isQ zs && decide (zs.length ≤ 60) && validB (inside zs)) := by rw [valueB, if_neg h1]
    have HV := Lib.hid hv; clear hv h1 hi
    rcases hq : isQ zs with _ | _ <;> have HQ := Lib.hid hq <;> clear hq
    · go_enter Tryd.func100, Tryd.ntmps100
      go_wp2_with (go_at_call 119; refine (isQuoted_any _ zs _ H.out).mono ?_; rw [HQ.out]; rintro e w' ⟨rfl, rfl⟩)
      go_ret
      exact ⟨ret_bool (by rw [HV.out, HQ.out]; rfl), rfl⟩
    · have h2 : 2 ≤ zs.length := by
        have := HQ.out
        simp only [isQ, Bool.and_eq_true, decide_eq_true_eq] at this
        exact this.1.1
      by_cases h60 : zs.length ≤ 60
      · go_enter Tryd.func100, Tryd.ntmps100
        go_wp2_with fail
        refine (isQuoted_any _ zs _ H.out).mono ?_
        rw [HQ.out]
        rintro e w' ⟨rfl, rfl⟩
        go_wp2_with fail
        refine (insideOf_any _ zs _ H.out h2).mono ?_
        rintro e w' ⟨⟨u, rfl, hu, _⟩, rfl⟩
        obtain ⟨A', c', rfl, hi', _⟩ := hu
        have HI := Lib.hid hi'; clear hi'
        go_wp2_with fail
        refine (ProgValid_any A' c' (inside zs) _ HI.out).mono ?_
        rintro e w' ⟨rfl, rfl⟩
        go_wp2
        go_ret
        exact ⟨ret_bool (by rw [HV.out, HQ.out]; simp [h60]), rfl⟩
      · go_enter Tryd.func100, Tryd.ntmps100
        go_wp2_with (go_at_call 119; refine (isQuoted_any _ zs _ H.out).mono ?_; rw [HQ.out]; rintro e w' ⟨rfl, rfl⟩)
        go_ret
        exact ⟨ret_bool (by rw [HV.out]; simp [h60]), rfl⟩

theorem specValueOk_any (v : Value) (zs : List Int) (w : World) (h : RdI w v zs) :
    Calls Tryd.prog 117 #[v] w fun e w' => e = .returned (.bool (valueB zs)) ∧ w = w' := by
  have H := Lib.hid h
  obtain ⟨A, c, rfl, hi, hc⟩ := h
  have hm := hi.len
  have HI := Lib.hid hi
  by_cases h1 : zs.length = 1
  · obtain ⟨b, off, rfl, hb, hcc⟩ := hi.at_ (by omega)
    have hcell0 := hcc 0 (by omega)
    rw [Nat.add_zero] at hcell0
    have hq : valueB zs = isNumB (zs.getD 0 0) := by rw [valueB, if_pos h1]
    have HQ := Lib.hid hq; clear hq hcc hi
    have h1b : ((zs.length : Int) == 1) = true := by simp; omega
    have hle : 0 < zs.length := by omega
    clear h1
    generalize zs.getD 0 0 = z0 at *
    go_enter Tryd.func117, Tryd.ntmps117
    go_wp2_with (go_at_call 71; refine (l1In_any _ 0 999 _).mono ?_; rintro e w' ⟨rfl, rfl⟩)
    go_ret
    exact ⟨ret_bool (by rw [HQ.out]; rfl), rfl⟩
  · have h1b : ((zs.length : Int) == 1) = false := by simp; omega
    have hv : valueB zs = (validB zs && decide (2 ≤ zs.length) && (zs.getD 0 0 == 1012) && decide (cutAt 0 zs = some zs.length)) := by rw [valueB_spec, if_neg h1]
    have HV := Lib.hid hv; clear hv
    rcases hq : validB zs with _ | _ <;> have HQ := Lib.hid hq <;> clear hq
    · clear h1 hi
      go_enter Tryd.func117, Tryd.ntmps117
      go_wp2_with (go_at_call 28; refine (specValid_any _ _ zs _ HI.out).mono ?_; rw [HQ.out]; rintro e w' ⟨rfl, rfl⟩)
      go_ret
      exact ⟨ret_bool (by rw [HV.out, HQ.out]; rfl), rfl⟩
    · by_cases h2 : 2 ≤ zs.length
      · obtain ⟨b, off, rfl, hb, hcc⟩ := hi.at_ (by omega)
        have hcell0 := hcc 0 (by omega)
        rw [Nat.add_zero] at hcell0
        obtain ⟨n, hcut, hn1, hn2, _⟩ := cutAt_fits (show fitsFrom 0 zs = true by have := HQ.out; simp only [validB, Bool.and_eq_true] at this; exact this.2) (by rintro rfl; simp at h2)
        have hl60 := validB_len HQ.out
        rcases hz : (zs.getD 0 0 == 1012) with _ | _
        · rw [hz] at HV
          generalize zs.getD 0 0 = z0 at *
          clear h1 hi hcc hcut
          go_enter Tryd.func117, Tryd.ntmps117
          go_wp2_with (go_at_call 28; refine (specValid_any _ _ zs _ HI.out).mono ?_; rw [HQ.out]; rintro e w' ⟨rfl, rfl⟩)
          go_ret
          exact ⟨ret_bool (by rw [HV.out]; simp), rfl⟩
        · rw [hz] at HV
          rw [hcut, HQ.out, decide_eq_true h2] at HV
          generalize zs.getD 0 0 = z0 at *
          have Hcut := Lib.hid hcut
          clear h1 hi hcc hcut
          obtain ⟨m, rfl⟩ : ∃ m, n = m + 1 := ⟨n - 1, by omega⟩
          by_cases hnl : m + 1 = zs.length
          · have hb1 : ((m : Int) == (zs.length : Int) - 1) = true := by simp; omega
            have HN := Lib.hid hnl; clear hnl
            go_enter Tryd.func117, Tryd.ntmps117
            go_wp2_with fail
            refine (specValid_any _ _ zs _ HI.out).mono ?_
            rw [HQ.out]
            rintro e w' ⟨rfl, rfl⟩
            go_wp2_with fail
            refine (l1End_any _ c 0 (m + 1) m zs _ HI.out (by omega) (by simpa using Hcut.out) (by omega) (by omega)).mono ?_
            rintro e w' ⟨rfl, rfl⟩
            go_wp2
            go_ret
            exact ⟨ret_bool (by rw [HV.out, HN.out]; simp), rfl⟩
          · have hb1 : ((m : Int) == (zs.length : Int) - 1) = false := by simp; omega
            have HN := Lib.hid hnl; clear hnl
            go_enter Tryd.func117, Tryd.ntmps117
            go_wp2_with fail
            refine (specValid_any _ _ zs _ HI.out).mono ?_
            rw [HQ.out]
            rintro e w' ⟨rfl, rfl⟩
            go_wp2_with fail
            refine (l1End_any _ c 0 (m + 1) m zs _ HI.out (by omega) (by simpa using Hcut.out) (by omega) (by omega)).mono ?_
            rintro e w' ⟨rfl, rfl⟩
            go_wp2
            go_ret
            exact ⟨ret_bool (by rw [HV.out]; simp [HN.out]), rfl⟩
      · clear h1 hi
        go_enter Tryd.func117, Tryd.ntmps117
        go_wp2_with (go_at_call 28; refine (specValid_any _ _ zs _ HI.out).mono ?_; rw [HQ.out]; rintro e w' ⟨rfl, rfl⟩)
        go_ret
        exact ⟨ret_bool (by rw [HV.out]; simp [h2]), rfl⟩

theorem all_take_snoc (zss : List (List Int)) (k : Nat) (zs : List Int) (h : zss[k]? = some zs) (ht : (zss.take k).all valueB = true) : (zss.take (k + 1)).all valueB = valueB zs := by
  rw [List.take_add_one, List.all_append, ht, h]; simp
theorem all_no (zss : List (List Int)) (k : Nat) (zs : List Int) (h : zss[k]? = some zs) (hf : valueB zs = false) : zss.all valueB = false := by
  rw [List.all_eq_false]; exact ⟨zs, List.mem_of_getElem? h, by simp [hf]⟩

theorem allValues_any (v : Value) (zss : List (List Int)) (w : World) (h : RdS w v zss) :
    Calls Tryd.prog 86 #[v] w fun e w' => e = .returned (.bool (zss.all valueB)) ∧ w = w' := by
  obtain ⟨A, c, rfl, hm, hr⟩ := h
  have Hr := Lib.hid hr; clear hr
  go_enter Tryd.func86, Tryd.ntmps86
  go_wp2
  go_loop [7] (fun i => ∃ k : Nat, k ≤ zss.length ∧ i = .int .i64 k ∧ (zss.take k).all valueB = true) (fun i => zss.length - (intOf i).toNat)
  case atStart => exact ⟨0, Nat.zero_le _, rfl, by simp⟩
  case round =>
    obtain ⟨k, hk, rfl, hall⟩ := hrel
    have Hall := Lib.hid hall; clear hall
    by_cases hlt : k < zss.length
    · obtain ⟨b, off, rfl, hb, hc⟩ := Hr.out (by omega)
      have hz : zss[k]? = some zss[k] := List.getElem?_eq_getElem hlt
      generalize zss[k] = zs at *
      obtain ⟨u, hcell, hu⟩ := hc k zs hz
      have Hs := Lib.hid (all_take_snoc zss k zs hz Hall.out)
      have Hn := Lib.hid (all_no zss k zs hz)
      have HU := Lib.hid (hu.rd (Nat.le_refl _))
      clear hc hz hu
      have hltI : (k : Int) < zss.length := by omega
      rcases hb : valueB zs with _ | _ <;> have Hb := Lib.hid hb <;> clear hb
      all_goals
        go_wp2_with (go_at_call 100; refine (ValueOk_any _ zs _ HU.out).mono ?_; rw [Hb.out]; rintro e w' ⟨rfl, rfl⟩)
      · go_ret
        exact ⟨ret_bool (Hn.out Hb.out).symm, rfl⟩
      · go_round
        case rel => exact ⟨k + 1, by omega, by go_num, by rw [Hs.out]; exact Hb.out⟩
        case measure => simp [intOf]; omega
    · go_wp2
      go_ret
      exact ⟨ret_bool (by rw [← Hall.out, List.take_of_length_le (by omega)]), rfl⟩

theorem StackOk_any (v : Value) (zss : List (List Int)) (w : World) (h : RdS w v zss) :
    Calls Tryd.prog 65 #[v] w fun e w' => e = .returned (.bool (stackB zss)) ∧ w = w' := by
  have H := Lib.hid h
  obtain ⟨A, c, rfl, hm, _⟩ := h
  by_cases hl : zss.length ≤ 20
  · go_enter Tryd.func65, Tryd.ntmps65
    go_wp2_with (go_at_call 86; refine (allValues_any _ zss _ H.out).mono ?_; rintro e w' ⟨rfl, rfl⟩)
    go_ret
    exact ⟨ret_bool (by simp [stackB, hl]), rfl⟩
  · go_enter Tryd.func65, Tryd.ntmps65
    go_wp2
    go_ret
    exact ⟨ret_bool (by simp [stackB, hl]), rfl⟩

end Go.Proofs.YtgiemajjmdjfkaaDoor
