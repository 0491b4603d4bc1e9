/- FnProgParts: of every code: ProgParts is its model at the drawn program; one after the other the parts are the program; each is a valid program of one part. For every input. -/
import Derived.Test.YtabjlloohcnijaaFnProgQuote
namespace Go.Proofs.Ytabjlloohcnijaa
open Go.RowKit Go.WideShapes Go.ChangeShapes

theorem cutAt_take {o : Int} {l : List Int} {n : Nat} (h : cutAt o l = some n) : cutAt o (l.take n) = some n ∧ (fitsFrom o l = true → fitsFrom o (l.take n) = true) := by
  induction l generalizing o n with
  | nil => simp [cutAt] at h
  | cons z r ih =>
    rw [cutAt] at h
    by_cases h0 : o + brk z = 0
    · rw [if_pos h0] at h
      injection h with h; subst h
      simp [cutAt, h0, fitsFrom]
    · rw [if_neg h0] at h
      rcases h1 : cutAt (o + brk z) r with _ | m
      · rw [h1] at h; simp at h
      · rw [h1] at h
        simp at h; subst h
        obtain ⟨h2, h3⟩ := ih h1
        refine ⟨by rw [List.take_succ_cons, cutAt, if_neg h0, h2]; rfl, fun hf => ?_⟩
        rw [fitsFrom] at hf
        rw [List.take_succ_cons, fitsFrom]
        by_cases hn : o + brk z < 0
        · simp [hn] at hf
        · rw [if_neg hn] at hf ⊢; exact h3 hf
theorem parts_all (N : Nat) : ∀ l : List Int, l.length ≤ N → fitsFrom 0 l = true →
    (∀ q ∈ partsFrom 0 [] l, fitsFrom 0 q = true ∧ cutAt 0 q = some q.length ∧ q.length ≤ l.length ∧ ∀ z ∈ q, z ∈ l) ∧ (partsFrom 0 [] l).flatten = l := by
  induction N with
  | zero =>
    intro l hl _
    have : l = [] := List.eq_nil_of_length_eq_zero (by omega)
    subst this; simp [partsFrom]
  | succ N ih =>
    intro l hl hf
    by_cases hn : l = []
    · subst hn; simp [partsFrom]
    · obtain ⟨n, hc, h1, h2, h3⟩ := cutAt_fits hf hn
      rw [partsFrom_cut hc]
      obtain ⟨i1, i2⟩ := ih (l.drop n) (by simp; omega) h3
      obtain ⟨t1, t2⟩ := cutAt_take hc
      have hlen : (l.take n).length = n := by simp; omega
      refine ⟨?_, ?_⟩
      · intro q hq
        rw [List.nil_append, List.mem_cons] at hq
        rcases hq with rfl | hq
        · exact ⟨t2 hf, by rw [hlen]; exact t1, by omega, fun z hz => List.mem_of_mem_take hz⟩
        · obtain ⟨j1, j2, j3, j4⟩ := i1 q hq
          exact ⟨j1, j2, by simp at j3; omega, fun z hz => List.mem_of_mem_drop (j4 z hz)⟩
      · rw [List.nil_append, List.flatten_cons, i2, List.take_append_drop]
theorem parts_ok {p : List Int} (hp : validB p = true) : (∀ q ∈ partsR p, validB q = true ∧ partsR q = [q] ∧ q.length ≤ 60) ∧ (partsR p).flatten = p := by
  have hl := validB_len hp
  have hp' := hp
  simp only [validB, Bool.and_eq_true, decide_eq_true_eq] at hp
  obtain ⟨h1, h2⟩ := parts_all p.length p (Nat.le_refl _) hp.2
  rw [partsR, if_pos hp']
  refine ⟨fun q hq => ?_, h2⟩
  obtain ⟨j1, j2, j3, j4⟩ := h1 q hq
  have hv : validB q = true := by
    simp only [validB, Bool.and_eq_true, decide_eq_true_eq]
    exact ⟨⟨by omega, List.all_eq_true.2 fun z hz => List.all_eq_true.1 hp.1.2 z (j4 z hz)⟩, j1⟩
  refine ⟨hv, ?_, by omega⟩
  rw [partsR, if_pos hv, partsFrom_cut j2]
  simp [partsFrom]
theorem partsR_bad {p : List Int} (hp : validB p = false) : partsR p = [] := by rw [partsR, if_neg (by simp [hp])]
theorem partsR_count {p : List Int} : (partsR p).length ≤ 60 := by
  unfold partsR
  split
  · rename_i h
    have hl := validB_len h
    have : ∀ (l : List Int) (o : Int) (cur : List Int), (partsFrom o cur l).length ≤ l.length := by
      intro l
      induction l with
      | nil => simp [partsFrom]
      | cons z r ih =>
        intro o cur
        rw [partsFrom]; split
        · have := ih 0 []; simp; omega
        · have := ih (o + brk z) (cur ++ [z]); simp; omega
    have := this p 0 []
    omega
  · simp
theorem flatten_take_succ (zss : List (List Int)) (k : Nat) (s : List Int) (h : zss[k]? = some s) : (zss.take (k + 1)).flatten = (zss.take k).flatten ++ s := by
  rw [List.take_add_one, h]; simp
theorem flatten_take_le (zss : List (List Int)) (k : Nat) : (zss.take k).flatten.length ≤ zss.flatten.length := by
  conv => rhs; rw [← List.take_append_drop k zss]
  rw [List.flatten_append, List.length_append]; omega

set_option maxHeartbeats 2000000 in
theorem fnProgParts_any (A0 : Option Addr) (c0 : Nat) (x0 : List Int) (w0 : World) (h0 : RdC w0 (.slice A0 x0.length c0) x0) :
    Calls Try.prog 6 #[.slice A0 x0.length c0] w0 fun e w' => e = .returned (.bool true) ∧ Below w0.heap.size w0 w' := by
  have hm := h0.len_le
  have HH := Lib.hid h0; clear h0
  by_cases hl : x0.length ≤ 1048576
  case neg =>
    go_enter Try.func6, Try.ntmps6
    go_wp2
    go_ret
    exact ⟨rfl, Below.refl _ _⟩
  have S0 : Hid (Below w0.heap.size w0 w0 ∧ RdBC w0 w0.heap.size (.slice A0 x0.length c0) x0) := Lib.hid ⟨Below.refl _ _, HH.out⟩
  clear HH
  go_enter Try.func6, Try.ntmps6
  go_wp2_with fail
  refine (DrawProgParts_any (.slice A0 x0.length c0) x0 _ ((S0.out.2).rd (by omega))).mono ?_
  rintro e w_1 ⟨p, zp, rfl, ho1, hl_p, hb1⟩
  have hz1 : w0.heap.size ≤ w_1.heap.size := by have := hb1.size; simpa using this
  replace hb1 : Below (w0.heap.size) w0 w_1 := by simpa using hb1
  have S1 : Hid (Below w0.heap.size w0 w_1 ∧ RdBC w_1 w0.heap.size (.slice A0 x0.length c0) (x0) ∧ OwnI w_1 (w0.heap.size) (w_1.heap.size) p (zp)) := Lib.hid ⟨(S0.out.1).trans (hb1.mono (by omega)), (S0.out.2).below (hb1.mono (by omega)), (by simpa using ho1)⟩
  clear S0
  clear ho1 hb1
  -- at w_1: S1: base code p
  generalize hR : partsR zp = zss
  have hcnt : zss.length ≤ 60 := by rw [← hR]; exact partsR_count
  have HR := Lib.hid hR; clear hR
  go_wp2_with fail
  refine (ProgParts_I _ zp _ ((S1.out.2.2).rd) (by omega) _ HR.out).mono ?_
  rintro e w_2 ⟨parts, rfl, ho2, hb2⟩
  have hz2 : w_1.heap.size ≤ w_2.heap.size := by have := hb2.size; simpa using this
  replace hb2 : Below (w_1.heap.size) w_1 w_2 := by simpa using hb2
  have S2 : Hid (Below w0.heap.size w0 w_2 ∧ RdBC w_2 w0.heap.size (.slice A0 x0.length c0) (x0) ∧ OwnI w_2 (w0.heap.size) (w_1.heap.size) p (zp) ∧ OwnS w_2 (w_1.heap.size) (w_2.heap.size) parts (zss)) := Lib.hid ⟨(S1.out.1).trans (hb2.mono (by omega)), (S1.out.2.1).below (hb2.mono (by omega)), (S1.out.2.2).belowB hb2 (by omega), (by simpa using ho2)⟩
  clear S1
  clear ho2 hb2
  go_wp2_with fail
  refine (ProgParts_S _ zp _ ((S2.out.2.2.1).rd) (by omega) _ HR.out).mono ?_
  rintro e w_3 ⟨parts2, rfl, ho3, hb3⟩
  have hz3 : w_2.heap.size ≤ w_3.heap.size := by have := hb3.size; simpa using this
  replace hb3 : Below (w_2.heap.size) w_2 w_3 := by simpa using hb3
  have S3 : Hid (Below w0.heap.size w0 w_3 ∧ RdBC w_3 w0.heap.size (.slice A0 x0.length c0) (x0) ∧ OwnI w_3 (w0.heap.size) (w_1.heap.size) p (zp) ∧ OwnS w_3 (w_1.heap.size) (w_2.heap.size) parts (zss) ∧ OwnS w_3 (w_2.heap.size) (w_3.heap.size) parts2 (zss)) := Lib.hid ⟨(S2.out.1).trans (hb3.mono (by omega)), (S2.out.2.1).below (hb3.mono (by omega)), (S2.out.2.2.1).belowB hb3 (by omega), (S2.out.2.2.2).belowB hb3 (by omega), (by simpa using ho3)⟩
  clear S2
  clear ho3 hb3
  go_wp2_with fail
  refine (smS _ _ _ _ _ ((S3.out.2.2.2.1).rd) ((S3.out.2.2.2.2).rd) true (decide_eq_true rfl)).mono ?_
  rintro e w_4 ⟨rfl, hb4⟩
  have hz4 : w_3.heap.size ≤ w_4.heap.size := by have := hb4.size; simpa using this
  replace hb4 : Below (w_3.heap.size) w_3 w_4 := by simpa using hb4
  have S4 : Hid (Below w0.heap.size w0 w_4 ∧ RdBC w_4 w0.heap.size (.slice A0 x0.length c0) (x0) ∧ OwnI w_4 (w0.heap.size) (w_1.heap.size) p (zp) ∧ OwnS w_4 (w_1.heap.size) (w_2.heap.size) parts (zss) ∧ OwnS w_4 (w_2.heap.size) (w_3.heap.size) parts2 (zss)) := Lib.hid ⟨(S3.out.1).trans (hb4.mono (by omega)), (S3.out.2.1).below (hb4.mono (by omega)), (S3.out.2.2.1).belowB hb4 (by omega), (S3.out.2.2.2.1).belowB hb4 (by omega), (S3.out.2.2.2.2).belowB hb4 (by omega)⟩
  clear S3
  clear hb4
  have hb5 : Below (w_4.heap.size) w_4 (w_4.alloc (.cells #[] 3)) := (Below.refl _ _).alloc (by first | omega | simp) _
  have ho5 := lits_own w_4 [] (by simp) (by simp)
  have S5 : Hid (Below w0.heap.size w0 (w_4.alloc (.cells #[] 3)) ∧ RdBC (w_4.alloc (.cells #[] 3)) w0.heap.size (.slice A0 x0.length c0) (x0) ∧ OwnI (w_4.alloc (.cells #[] 3)) (w0.heap.size) (w_1.heap.size) p (zp) ∧ OwnS (w_4.alloc (.cells #[] 3)) (w_1.heap.size) (w_2.heap.size) parts (zss) ∧ OwnI (w_4.alloc (.cells #[] 3)) (w_4.heap.size) (w_4.heap.size + 1) (.slice (some ⟨w_4.heap.size, 0, none⟩) 0 0) ([])) := Lib.hid ⟨(S4.out.1).trans (hb5.mono (by omega)), (S4.out.2.1).below (hb5.mono (by omega)), (S4.out.2.2.1).belowB hb5 (by omega), (S4.out.2.2.2.1).belowB hb5 (by omega), (by simpa using ho5)⟩
  clear S4
  clear hb5 ho5
  -- at (w_4.alloc (.cells #[] 3)): S5: base code p parts all
  obtain ⟨Ap, cp, hpv, _⟩ := (S5.out.2.2.2.1).rd
  subst hpv
  have hgood : validB zp = true → (∀ (k : Nat) q, zss[k]? = some q → validB q = true ∧ partsR q = [q] ∧ q.length ≤ 60) ∧ zss.flatten = zp := fun hv => by
    have h := parts_ok hv
    rw [HR.out] at h
    exact ⟨fun k q hq => h.1 q (List.mem_of_getElem? hq), h.2⟩
  have hbad : validB zp = false → zss = [] := fun hv => by rw [← HR.out]; exact partsR_bad hv
  have Hgood := Lib.hid hgood; clear hgood
  have Hbad := Lib.hid hbad; clear hbad
  generalize hv : validB zp = vp
  have Hv := Lib.hid hv; clear hv
  have hwd : Hid (∀ (k : Nat) q, zss[k]? = some q → validB q = true ∧ partsR q = [q] ∧ q.length ≤ 60) := Lib.hid (by
    rcases vp with _ | _
    · intro k q hq; rw [Hbad.out Hv.out] at hq; simp at hq
    · exact (Hgood.out Hv.out).1)
  have hfl : zss.flatten.length ≤ 100 := by
    rcases vp with _ | _
    · rw [Hbad.out Hv.out]; simp
    · rw [(Hgood.out Hv.out).2]; omega
  go_wp2
  go_loopw [5, 6] (fun v i wr => ∃ k : Nat, k ≤ zss.length ∧ i = .int .i64 k ∧ w_4.heap.size + 1 ≤ wr.heap.size ∧ Below w0.heap.size w0 wr ∧ OwnI wr w0.heap.size w_1.heap.size p zp ∧ OwnS wr w_1.heap.size w_2.heap.size (.slice Ap zss.length cp) zss ∧ OwnI wr w_4.heap.size wr.heap.size v (zss.take k).flatten) (fun _ i _ => zss.length - (intOf i).toNat)
  case atStart => exact ⟨0, Nat.zero_le _, rfl, by simp, S5.out.1, S5.out.2.2.1, S5.out.2.2.2.1, by simpa using S5.out.2.2.2.2⟩
  case round =>
    clear S5
    obtain ⟨k, hk, rfl, hwr, q1, q2, q3, q4⟩ := hrel
    have Q := Lib.hid (And.intro q1 (And.intro q2 (And.intro q3 q4))); clear q1 q2 q3 q4
    by_cases hlt : k < zss.length
    · have hz : zss[k]? = some zss[k] := List.getElem?_eq_getElem hlt
      generalize zss[k] = zs at *
      obtain ⟨b, off, u, rfl, hb, hcell, hu⟩ := (Q.out.2.2.1.rd).get hz
      have hqs := hwd.out k zs hz
      have hsucc := flatten_take_succ zss k zs hz
      have hle := flatten_take_le zss k
      have Hqs := Lib.hid hqs
      have hql := hqs.2.2
      have Hsucc := Lib.hid hsucc; clear hsucc hqs hz
      have HU := Lib.hid hu; clear hu
      have hltI : (k : Int) < zss.length := by omega
      go_wp2_with fail
      refine (ProgValid_I u zs _ HU.out (by omega) true Hqs.out.1).mono ?_
      rintro e w_6 ⟨rfl, hb6⟩
      have hz6 := hb6.size
      have hcell6 := (hb6.cell (p := ⟨b, off + k, none⟩) hb).trans hcell
      have HB6 := Lib.hid hb6; clear hb6
      go_wp2_with fail
      refine (ProgParts_I u zs _ (RdI.step HU.out HB6.out) (by omega) _ Hqs.out.2.1).mono ?_
      rintro e w_7 ⟨r, rfl, ho7, hb7⟩
      have hz7 := hb7.size
      have hcell7 := (hb7.cell (p := ⟨b, off + k, none⟩) (show b < w_6.heap.size by omega)).trans hcell6
      obtain ⟨Ar, cr, rfl, _⟩ := ho7.rd
      have HB7 := Lib.hid (below_after HB6.out hb7); clear hb7 ho7
      go_wp2_with (at_builtin; refine wpList_append_V rfl _ _ _ rfl Try.underlying23 intInfo w_4.heap.size wr.heap.size _ _ rfl (Q.out.2.2.2.below HB7.out) (by omega) u zs rfl (RdI.step HU.out HB7.out) (by omega) ?_)
      intro v8 w_8 ho8 hb8
      have hz8 := hb8.size
      have X := Lib.hid (And.intro ((Q.out.1.trans (HB7.out.mono (by omega))).trans (hb8.mono (by omega))) (And.intro ((Q.out.2.1.below HB7.out).belowB hb8 (by omega)) (And.intro ((Q.out.2.2.1.below HB7.out).belowB hb8 (by omega)) ho8)))
      clear ho8 hb8
      go_wp2
      go_roundw
      case rel => exact ⟨k + 1, by omega, by go_num, by omega, X.out.1, X.out.2.1, X.out.2.2.1, by rw [Hsucc.out]; exact X.out.2.2.2⟩
      case measure => simp [intOf]; omega
    · have hall : zss.take k = zss := List.take_of_length_le (by omega)
      have Hall := Lib.hid hall; clear hall
      have hle := flatten_take_le zss k
      go_wp2_with fail
      refine (ProgValid_I p zp _ Q.out.2.1.rd (by omega) vp Hv.out).mono ?_
      rintro e w_6 ⟨rfl, hb6⟩
      have hz6 := hb6.size
      have Q6 := Lib.hid (And.intro (Q.out.1.trans (hb6.mono (by omega))) (And.intro (Q.out.2.1.below hb6) (Q.out.2.2.2.below hb6))); clear hb6
      rcases vp with _ | _
      · have h0 := Hbad.out Hv.out
        have hz0 : ((zss.length : Int) == 0) = true := by rw [h0]; rfl
        have H0 := Lib.hid h0; clear h0
        go_wp2_with fail
        refine (alive_any _).mono ?_
        rintro e w_7 ⟨rfl, hb7⟩
        have Q7 := Lib.hid (Q6.out.1.trans (hb7.mono (by omega))); clear hb7
        go_wp2
        go_ret
        exact ⟨rfl, Q7.out⟩
      · have hfz := (Hgood.out Hv.out).2
        have Hfz := Lib.hid hfz; clear hfz
        go_wp2_with fail
        refine (smI _ _ _ _ _ Q6.out.2.2.rd Q6.out.2.1.rd true (decide_eq_true (by rw [Hall.out, Hfz.out]))).mono ?_
        rintro e w_7 ⟨rfl, hb7⟩
        have hz7 := hb7.size
        have Q7 := Lib.hid (Q6.out.1.trans (hb7.mono (by omega))); clear hb7
        go_wp2_with fail
        refine (alive_any _).mono ?_
        rintro e w_8 ⟨rfl, hb8⟩
        have Q8 := Lib.hid (Q7.out.trans (hb8.mono (by omega))); clear hb8
        go_wp2
        go_ret
        exact ⟨rfl, Q8.out⟩

theorem fnProgParts_walk : LawWalk 6 Try.f6 := by
  intro H enc W base args ds ps hval hA
  rw [Try.params6] at hA hval
  obtain ⟨v0, d0, rfl, rfl, h0⟩ := trodAll_one hA
  obtain ⟨A0, c0, zs0, rfl, hi0, hc0⟩ := ints_of_trod Try.underlying22 Try.underlying5 cells_byte (hval 0 _ _ rfl rfl) h0
  exact fnProgParts_any A0 c0 zs0 W (RdC.mk hi0 hc0)

set_option maxRecDepth 100000 in
theorem fnProgParts_lifted (os : Os) (started : os.Started) (H : Type) (enc : TypeId × Value → H) :
    ReturnsInHanded {} Try.checked os 6 .any (Rows.fnProgPartsSpec.pre6 enc Try.prog Try.f6 Rows.fnProgPartsRow.domain false) (Rows.fnProgPartsSpec.post enc Try.prog Try.f6 false true false false) := by
  refine returnsInHanded_of_change (C := Try.checked) own started (by kernel_rfl) Try.func6
    (ChangeSpec.witness6 (enc := enc) (C := Try.checked) false ⟨#[], #[.slice none 0 0], []⟩ 8 (by kernel_rfl) (by kernel_rfl) (by kernel_rfl) (by kernel_rfl)) ?_
  intro W base args ds gs before hval hW _ _
  exact law_contract laidOut rfl (by kernel_rfl) rfl (fun H ds hd => by
    match ds, hd with
    | [d0], _ => exact ⟨rfl, rfl, rfl⟩) fnProgParts_walk W base args ds gs before hval hW

/-- FnProgParts: the row as it is given. -/
theorem fnProgParts_holds : Rows.FnProgPartsSaid :=
  OpenClaim.holds_of_wide 6 Try.f6 rfl rfl rfl rfl rfl rfl rfl ⟨rfl, rfl, rfl, rfl, rfl⟩ rfl rfl rfl rfl rfl (by kernel_rfl) Try.func6 (by kernel_rfl)
    (of_decide_eq_true (by kernel_rfl)) (by unfold Func.isWrapper; first | (rw [if_pos (by decide +kernel)]; kernel_rfl) | (rw [if_neg (by decide +kernel)]; exact ⟨rfl, rfl⟩))
    (fun os started H enc _ => fnProgParts_lifted os started H enc)

end Go.Proofs.Ytabjlloohcnijaa
