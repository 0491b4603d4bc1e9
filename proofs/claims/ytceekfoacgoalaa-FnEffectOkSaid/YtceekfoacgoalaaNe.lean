/- NeedsOf, the program's and the model's. -/
import Derived.Test.YtceekfoacgoalaaTz
import Derived.Deep.RegionHeld3
namespace Go.Proofs.Ytceekfoacgoalaa
set_option maxRecDepth 100000
open Go.RowKit Go.WideShapes Go.Deep

def leadR : List Int → Nat
  | [] => 0
  | z :: zs => if z = 4 then leadR zs + 1 else 0
theorem lead_lt {n : Nat} : ∀ {zs r : List Int}, eat n true zs = some r → leadR zs < zs.length := by
  induction n with
  | zero => intro zs r h; cases h
  | succ n ih =>
    intro zs r h
    rcases zs with _ | ⟨z, zs⟩
    · rw [eat] at h; simp at h
    · rw [eat_t] at h
      rw [leadR, List.length_cons]
      by_cases h3 : z = 3
      · rw [if_neg (by omega)]; omega
      rw [if_neg h3] at h
      by_cases h4 : z = 4
      · rw [if_pos h4] at h ⊢
        rcases h5 : eat n true zs with _ | r1
        · rw [h5] at h; cases h
        · have := ih h5; omega
      · rw [if_neg h4]; omega
theorem lead_row {zs : List Int} (h : rowB zs = true) : leadR zs < zs.length ∧ zs.length ≤ 150 := by
  obtain ⟨h1, h2, _⟩ := wholeR_some (wholeR_of_row h [])
  exact ⟨lead_lt h2, h1⟩
theorem lead_drop {zs : List Int} {k : Nat} (hk : k < zs.length) : leadR (zs.drop k) = if zs.getD k 0 = 4 then leadR (zs.drop (k + 1)) + 1 else 0 := by
  rw [List.drop_eq_getElem_cons hk, leadR]
  simp [List.getD, List.getElem?_eq_getElem hk]
theorem notput_any (z : Int) (w : World) (y : Bool) (hy : (z != 4) = y) : Calls Try.prog 56 #[.int .i64 z] w fun e w' => e = .returned (.bool y) ∧ w = w' := by
  go_enter Try.func56, Try.ntmps56
  go_wp2
  go_ret
  exact ⟨rfl, rfl⟩
theorem indexFunc_any (A : Option Addr) (c : Nat) (zs : List Int) (w : World) (h : RdI w (.slice A zs.length c) zs) (hl : leadR zs < zs.length) (hm : zs.length ≤ 1000000) :
    Calls Try.prog 55 #[.slice A zs.length c, .func (.func 56) #[] #[]] w fun e w' => e = .returned (.int .i64 (leadR zs : Int)) ∧ w = w' := by
  obtain ⟨_, _, ei, hi, _⟩ := h
  cases ei
  have HI := Lib.hid hi; clear hi
  have HL := Lib.hid hl; clear hl
  go_enter Try.func55, Try.ntmps55
  go_wp2
  go_loop [8] (fun i => ∃ k : Nat, k < zs.length ∧ i = .int .i64 k ∧ leadR zs = k + leadR (zs.drop k)) (fun i => zs.length - (intOf i).toNat)
  case atStart => exact ⟨0, by have := HL.out; omega, rfl, by simp⟩
  case round =>
    obtain ⟨k, hk, rfl, hld⟩ := hrel
    obtain ⟨b, off, rfl, hb, hcc⟩ := HI.out.at_ (by omega)
    have hcell := hcc k hk
    rw [lead_drop hk] at hld
    have HD := Lib.hid hld; clear hld hcc
    have hkI : (k : Int) < zs.length := by omega
    generalize zs.getD k 0 = z at *
    by_cases h4 : z = 4
    · subst h4
      have hk1 : k + 1 < zs.length := by have h1 := HD.out; rw [if_pos rfl] at h1; have h2 := HL.out; omega
      have HD2 := Lib.hid (show leadR zs = k + 1 + leadR (zs.drop (k + 1)) by have h1 := HD.out; rw [if_pos rfl] at h1; omega)
      go_wp2_with fail
      refine (notput_any 4 _ false (by simp)).mono ?_
      rintro e w' ⟨rfl, rfl⟩
      go_wp2
      go_round
      case rel => exact ⟨k + 1, hk1, by go_num, HD2.out⟩
      case measure => simp [intOf]; omega
    · have hne : (z != 4) = true := by simpa using h4
      have hfin : leadR zs = k := by have h1 := HD.out; rw [if_neg h4] at h1; omega
      have HF := Lib.hid hfin; clear hfin h4
      go_wp2_with fail
      refine (notput_any z _ true hne).mono ?_
      rintro e w' ⟨rfl, rfl⟩
      go_wp2
      go_ret
      exact ⟨ret_i64 (by rw [HF.out]), rfl⟩
theorem values_any (v : Value) (zs : List Int) (w : World) (h : RdI w v zs) (hl : leadR zs < zs.length) (hm : zs.length ≤ 1000000) (x : Int) (hx : (leadR zs : Int) = x) :
    Calls Try.prog 34 #[v] w fun e w' => e = .returned (.int .i64 x) ∧ w = w' := by
  have H := Lib.hid h
  obtain ⟨A, c, rfl, _⟩ := h
  have HX := Lib.hid hx; clear hx
  go_enter Try.func34, Try.ntmps34
  go_wp2_with fail
  refine (indexFunc_any A c zs _ H.out hl hm).mono ?_
  rw [HX.out]
  rintro e w' ⟨rfl, rfl⟩
  go_wp2
  go_ret
  exact ⟨rfl, rfl⟩
def needsR (a b : List Int) : Int × Int := if effB a b = true then ((leadR a : Int), (leadR b : Int)) else (-1, -1)
theorem effB_rows {a b : List Int} (h : effB a b = true) : rowB a = true ∧ rowB b = true := by
  rcases ha : rowB a with _ | _
  · rw [effB_no (.inl ha)] at h; cases h
  · rcases hb : rowB b with _ | _
    · rw [effB_no (.inr hb)] at h; cases h
    · exact ⟨rfl, rfl⟩
set_option maxHeartbeats 2000000 in
theorem NeedsOf_I (v0 v1 : Value) (a b : List Int) (w : World) (h0 : RdI w v0 a) (h1 : RdI w v1 b) (x y : Int) (hR : needsR a b = (x, y)) :
    Calls Try.prog 13 #[.agg #[v0, v1]] w fun e w' => e = .returned (.tuple #[.int .i64 x, .int .i64 y]) ∧ Below w.heap.size w w' := by
  have hb0 : Below w.heap.size w (w.alloc (.cells #[v0, v1] 25)) := (Below.refl _ _).alloc (Nat.le_refl _) _
  have bp := Blk.new w #[v0, v1] 25
  have H := Lib.hid (And.intro (h0.step hb0) (And.intro (h1.step hb0) (And.intro hb0 bp)))
  obtain ⟨A0, c0, rfl, _⟩ := h0
  obtain ⟨A1, c1, rfl, _⟩ := h1
  clear hb0 bp
  have HR := Lib.hid hR; clear hR
  rcases he : effB a b with _ | _ <;> have He := Lib.hid he <;> clear he
  · obtain ⟨rfl, rfl⟩ : -1 = x ∧ -1 = y := by have := HR.out; rw [needsR, if_neg (by rw [He.out]; simp)] at this; cases this; exact ⟨rfl, rfl⟩
    go_enter Try.func13, Try.ntmps13
    go_wp2_with fail
    refine (EffectOk_I _ _ a b _ H.out.1 H.out.2.1).mono ?_
    rw [He.out]
    rintro e w1 ⟨rfl, hb⟩
    have X := Lib.hid (H.out.2.2.1.trans (hb.mono (by simp))); clear hb
    go_wp2
    go_ret2
    exact ⟨rfl, X.out⟩
  obtain ⟨ra, rb⟩ := effB_rows He.out
  obtain ⟨la, l150⟩ := lead_row ra
  obtain ⟨lb, m150⟩ := lead_row rb
  obtain ⟨hx, hy⟩ : (leadR a : Int) = x ∧ (leadR b : Int) = y := by have := HR.out; rw [needsR, if_pos He.out] at this; cases this; exact ⟨rfl, rfl⟩
  have HX := Lib.hid (And.intro (And.intro hx hy) (And.intro la lb)); clear hx hy la lb ra rb
  go_enter Try.func13, Try.ntmps13
  go_wp2_with fail
  refine (EffectOk_I _ _ a b _ H.out.1 H.out.2.1).mono ?_
  rw [He.out]
  rintro e w1 ⟨rfl, hb⟩
  have hz1 : w.heap.size + 1 ≤ w1.heap.size := by have := hb.size; simpa using this
  have b1 := H.out.2.2.2.below hb (by simp)
  have c10 := b1.cell 0
  have c11 := b1.cell 1
  simp only [List.getElem?_toArray, List.getElem?_cons_zero, List.getElem?_cons_succ] at c10 c11
  have hd : Below w1.heap.size w1 w1.drew := (Below.refl _ _).drew
  have S1 := Lib.hid (And.intro ((H.out.1.step hb).step hd) (And.intro ((H.out.2.1.step hb).step hd) ((H.out.2.2.1.trans (hb.mono (by simp))).trans (hd.mono (by omega))))); clear hb b1 H hd
  go_wp2
  go_region_held3 (fun w' => w'.cell? ⟨w.heap.size, 0, none⟩ = some (.slice A0 a.length c0) ∧ w'.cell? ⟨w.heap.size, 1, none⟩ = some (.slice A1 b.length c1)) (repeat' (first | assumption | apply And.intro | rw [World.cell?_drew])) (first
    | (go_at_call 34; refine (values_any _ b _ U1.out.2 HX.out.2.2 (by omega) y HX.out.1.2).mono ?_; rintro e w' ⟨rfl, rfl⟩)
    | (go_at_call 34; refine (values_any _ a _ S1.out.1 HX.out.2.1 (by omega) x HX.out.1.1).mono ?_; rintro e w' ⟨rfl, rfl⟩; have U1 := Lib.hid (And.intro trivial S1.out.2.1))
    | fail)
  go_wp2
  go_ret2
  exact ⟨rfl, S1.out.2.2⟩
set_option maxHeartbeats 2000000 in
theorem NeedsOf_S (v0 v1 : Value) (a b : List Int) (w : World) (h0 : RdI w v0 a) (h1 : RdI w v1 b) (hl0 : a.length ≤ 1048576) (hl1 : b.length ≤ 1048576) (x y : Int) (hR : needsR a b = (x, y)) :
    Calls Try.prog 14 #[.agg #[v0, v1]] w fun e w' => e = .returned (.tuple #[.int .i64 x, .int .i64 y]) ∧ Below w.heap.size w w' := by
  have hb0 : Below w.heap.size w (w.alloc (.cells #[v0, v1] 25)) := (Below.refl _ _).alloc (Nat.le_refl _) _
  have bp := Blk.new w #[v0, v1] 25
  have H := Lib.hid (And.intro (h0.step hb0) (And.intro (h1.step hb0) (And.intro hb0 bp)))
  obtain ⟨A0, c0, rfl, _⟩ := h0
  obtain ⟨A1, c1, rfl, _⟩ := h1
  clear hb0 bp
  have HR := Lib.hid hR; clear hR
  rcases he : effB a b with _ | _ <;> have He := Lib.hid he <;> clear he
  · obtain ⟨rfl, rfl⟩ : -1 = x ∧ -1 = y := by have := HR.out; rw [needsR, if_neg (by rw [He.out]; simp)] at this; cases this; exact ⟨rfl, rfl⟩
    go_enter Try.func14, Try.ntmps14
    go_wp2_with fail
    refine (EffectOk_S _ _ a b _ H.out.1 H.out.2.1 hl0 hl1 false He.out).mono ?_
    rintro e w1 ⟨rfl, hb⟩
    have X := Lib.hid (H.out.2.2.1.trans (hb.mono (by simp))); clear hb
    go_wp2
    go_ret2
    exact ⟨rfl, X.out⟩
  obtain ⟨ra, rb⟩ := effB_rows He.out
  obtain ⟨la, l150⟩ := lead_row ra
  obtain ⟨lb, m150⟩ := lead_row rb
  obtain ⟨hx, hy⟩ : (leadR a : Int) = x ∧ (leadR b : Int) = y := by have := HR.out; rw [needsR, if_pos He.out] at this; cases this; exact ⟨rfl, rfl⟩
  have HX := Lib.hid (And.intro (And.intro hx hy) (And.intro la lb)); clear hx hy la lb ra rb
  go_enter Try.func14, Try.ntmps14
  go_wp2_with fail
  refine (EffectOk_S _ _ a b _ H.out.1 H.out.2.1 hl0 hl1 true He.out).mono ?_
  rintro e w1 ⟨rfl, hb⟩
  have hz1 : w.heap.size + 1 ≤ w1.heap.size := by have := hb.size; simpa using this
  have b1 := H.out.2.2.2.below hb (by simp)
  have c10 := b1.cell 0
  have c11 := b1.cell 1
  simp only [List.getElem?_toArray, List.getElem?_cons_zero, List.getElem?_cons_succ] at c10 c11
  have S1 := Lib.hid (And.intro (H.out.1.step hb) (And.intro (H.out.2.1.step hb) (H.out.2.2.1.trans (hb.mono (by simp))))); clear hb b1 H
  go_wp2
  go_loop [4] (fun i => ∃ k : Nat, k < a.length ∧ i = .int .i64 k ∧ leadR a = k + leadR (a.drop k)) (fun i => a.length - (intOf i).toNat)
  case atStart => exact ⟨0, by have := HX.out.2.1; omega, rfl, by simp⟩
  case round =>
    obtain ⟨k, hk, rfl, hld⟩ := hrel
    obtain ⟨_, _, ei, hi, _⟩ := S1.out.1
    cases ei
    obtain ⟨b0, off, rfl, hb, hcc⟩ := hi.at_ (by omega)
    have hcell := hcc k hk
    rw [lead_drop hk] at hld
    have HD := Lib.hid hld; clear hld hcc hi
    have hkI : (k : Int) < a.length := by omega
    generalize a.getD k 0 = z at *
    by_cases h4 : z = 4
    · subst h4
      have hk1 : k + 1 < a.length := by have h1 := HD.out; rw [if_pos rfl] at h1; have h2 := HX.out.2.1; omega
      have HD2 := Lib.hid (show leadR a = k + 1 + leadR (a.drop (k + 1)) by have h1 := HD.out; rw [if_pos rfl] at h1; omega)
      go_wp2
      go_round
      case rel => exact ⟨k + 1, hk1, by go_num, HD2.out⟩
      case measure => simp [intOf]; omega
    · have hne : (z == 4) = false := by simpa using h4
      have hfin : (k : Int) = x := by have h1 := HD.out; rw [if_neg h4] at h1; rw [← HX.out.1.1]; omega
      have HF := Lib.hid hfin; clear hfin h4
      go_wp2
      go_loop [5] (fun i => ∃ k : Nat, k < b.length ∧ i = .int .i64 k ∧ leadR b = k + leadR (b.drop k)) (fun i => b.length - (intOf i).toNat)
      case atStart => exact ⟨0, by have := HX.out.2.2; omega, rfl, by simp⟩
      case round =>
        obtain ⟨j, hj, rfl, hld⟩ := hrel
        obtain ⟨_, _, ei, hi, _⟩ := S1.out.2.1
        cases ei
        obtain ⟨b2, off2, rfl, hb2, hcc⟩ := hi.at_ (by omega)
        have hcell2 := hcc j hj
        rw [lead_drop hj] at hld
        have HD := Lib.hid hld; clear hld hcc hi
        have hjI : (j : Int) < b.length := by omega
        generalize b.getD j 0 = z2 at *
        by_cases h4 : z2 = 4
        · subst h4
          have hk1 : j + 1 < b.length := by have h1 := HD.out; rw [if_pos rfl] at h1; have h2 := HX.out.2.2; omega
          have HD2 := Lib.hid (show leadR b = j + 1 + leadR (b.drop (j + 1)) by have h1 := HD.out; rw [if_pos rfl] at h1; omega)
          go_wp2
          go_round
          case rel => exact ⟨j + 1, hk1, by go_num, HD2.out⟩
          case measure => simp [intOf]; omega
        · have hne2 : (z2 == 4) = false := by simpa using h4
          have hfin : (j : Int) = y := by have h1 := HD.out; rw [if_neg h4] at h1; rw [← HX.out.1.2]; omega
          have HF2 := Lib.hid hfin; clear hfin h4
          go_wp2
          go_ret2
          exact ⟨by simp [HF.out, HF2.out], S1.out.2.2⟩
end Go.Proofs.Ytceekfoacgoalaa
