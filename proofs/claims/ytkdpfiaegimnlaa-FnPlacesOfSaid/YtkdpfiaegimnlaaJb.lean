/- Chapter 7: IsShuffle, the program's and the model's. -/
import Derived.Test.YtkdpfiaegimnlaaJa
import Derived.Test.YtkdpfiaegimnlaaB4
namespace Go.Proofs.Ytkdpfiaegimnlaa
set_option maxRecDepth 100000
open Go.RowKit Go.WideShapes

theorem movesValues_any (n : Int) (w : World) :
    Calls Try.prog 112 #[.int .i64 n] w fun e w' => e = .returned (.bool (mvB n)) ∧ w = w' := by
  go_enter Try.func112, Try.ntmps112
  go_wp2
  all_goals go_ret
  all_goals exact ⟨by simp_all [mvB], rfl⟩

theorem IsShuffle_any (A : Option Addr) (c : Nat) (zs : List Int) (w : World) (h : Ints w A zs) :
    Calls Try.prog 77 #[.slice A zs.length c] w fun e w' => e = .returned (.bool (shufB zs)) ∧ w = w' := by
  have hm := h.len
  have HI := Lib.hid h
  obtain ⟨-, -, hr⟩ := h
  have Hr := Lib.hid hr; clear hr
  rcases hv : validB zs with _ | _ <;> have Hv := Lib.hid hv <;> clear hv
  · go_enter Try.func77, Try.ntmps77
    go_wp2_with (go_at_call 63; refine (ProgValid_any A c zs _ HI.out).mono ?_; rw [Hv.out]; rintro e w' ⟨rfl, rfl⟩)
    go_ret
    exact ⟨ret_bool (by rw [shufB, Hv.out]; rfl), rfl⟩
  go_enter Try.func77, Try.ntmps77
  go_wp2_with (go_at_call 63; refine (ProgValid_any A c zs _ HI.out).mono ?_; rw [Hv.out]; rintro e w' ⟨rfl, rfl⟩)
  have HS : Hid (shufB zs = shufFrom 1002 zs) := Lib.hid (by rw [shufB, Hv.out, Bool.true_and])
  go_loop [3, 11] (fun o i => ∃ (k : Nat) (b : Int), k ≤ zs.length ∧ i = .int .i64 k ∧ o = .int .i64 b ∧ shufFrom b (zs.drop k) = shufFrom 1002 zs) (fun _ i => zs.length - (intOf i).toNat)
  case atStart => exact ⟨0, 1002, Nat.zero_le _, rfl, rfl, by simp⟩
  case round =>
    obtain ⟨k, b, hk, rfl, rfl, hall⟩ := hrel
    by_cases hlt : k < zs.length
    · rw [shufFrom_drop b zs k hlt] at hall
      have Hall := Lib.hid hall; clear hall
      obtain ⟨bb, off, rfl, hb, hc⟩ := Hr.out (by omega)
      have hcell := hc k hlt
      clear hc
      generalize zs.getD k 0 = z at *
      rcases hmv : mvB z with _ | _ <;> have Hmv := Lib.hid hmv <;> clear hmv
      · go_wp2_with (go_at_call 112; refine (movesValues_any _ _).mono ?_; rw [Hmv.out]; rintro e w' ⟨rfl, rfl⟩)
        go_ret
        exact ⟨ret_bool (by rw [HS.out, ← Hall.out, Hmv.out]; rfl), rfl⟩
      rcases h4 : (z == 1004) with _ | _ <;> rcases h3 : (b == 1013) with _ | _
      all_goals
        go_wp2_with (go_at_call 112; refine (movesValues_any _ _).mono ?_; rw [Hmv.out]; rintro e w' ⟨rfl, rfl⟩)
      · go_round
        case rel => exact ⟨k + 1, z, by omega, by go_num, rfl, by rw [← Hall.out, Hmv.out, h4, h3]; rfl⟩
        case measure => simp [intOf]; omega
      · go_ret
        exact ⟨ret_bool (by rw [HS.out, ← Hall.out, Hmv.out, h4, h3]; rfl), rfl⟩
      · go_ret
        exact ⟨ret_bool (by rw [HS.out, ← Hall.out, Hmv.out, h4, h3]; rfl), rfl⟩
      · go_round
        case rel => exact ⟨k + 1, z, by omega, by go_num, rfl, by rw [← Hall.out, Hmv.out, h4, h3]; rfl⟩
        case measure => simp [intOf]; omega
    · rw [List.drop_eq_nil_of_le (by omega), shufFrom] at hall
      have Hall := Lib.hid hall; clear hall
      go_wp2
      go_ret
      exact ⟨ret_bool (by rw [HS.out, ← Hall.out]; rfl), rfl⟩

/-- The same, at values. -/
theorem RdI.sub {w : World} {b off : Nat} {zs : List Int} (h : Ints w (some ⟨b, off, none⟩) zs) (i n c' : Nat) (hi : i + n ≤ zs.length) (hc : n ≤ c') : RdI w (.slice (some ⟨b, off + i, none⟩) n c') ((zs.drop i).take n) := by
  have h1 : ((zs.drop i).take n).length = n := by simp; omega
  refine ⟨some ⟨b, off + i, none⟩, c', ?_, h.sub i n hi, by omega⟩
  rw [h1]
theorem moves_cases {l : List Int} (hf : fitsFrom 0 l = true) :
    l = [] ∨ (∃ z r, l = z :: r ∧ (1001 ≤ z ∧ z ≤ 1003) ∧ fitsFrom 0 r = true ∧ shufFrom 1002 l = shufFrom 1002 r) ∨
    (∃ inner r, l = 1012 :: (inner ++ 1013 :: r) ∧ fitsFrom 0 inner = true ∧ fitsFrom 0 r = true ∧ cutAt 0 l = some (inner.length + 2) ∧
      shufFrom 1002 l = (decide (r.getD 0 0 = 1004) && decide (0 < r.length) && shufFrom 1002 inner && shufFrom 1002 (r.drop 1)) ∧ (r.getD 0 0 = 1004 → fitsFrom 0 (r.drop 1) = true)) ∨
    (∃ z r, l = z :: r ∧ ¬ (1001 ≤ z ∧ z ≤ 1003) ∧ z ≠ 1012 ∧ shufFrom 1002 l = false) := by
  cases l with
  | nil => exact .inl rfl
  | cons z r =>
    right
    by_cases h1 : 1001 ≤ z ∧ z ≤ 1003
    · left
      have hb : brk z = 0 := by unfold brk; rw [if_neg (by omega), if_neg (by omega)]
      rw [fitsFrom, hb, if_neg (by omega)] at hf
      refine ⟨z, r, rfl, h1, by simpa using hf, ?_⟩
      have e1 : mvB z = true := by
        have : z = 1001 ∨ z = 1002 ∨ z = 1003 := by omega
        rcases this with rfl | rfl | rfl <;> rfl
      have e2 : (z == 1004) = false := by rw [beq_eq_false_iff_ne]; omega
      rw [shufFrom, e1, e2, shufFrom_same (b := z) (c := 1002) r (by rw [show (z == 1013) = false from by rw [beq_eq_false_iff_ne]; omega]; rfl)]
      rfl
    · right
      by_cases ho : z = 1012
      · subst ho
        left
        obtain ⟨inner, rest, rfl, i1, i2, i3⟩ := cut_open hf
        refine ⟨inner, rest, rfl, i1, i2, i3, ?_, ?_⟩
        · rw [shufFrom, shufFrom_end, shufFrom_same (b := 1012) (c := 1002) inner (by decide)]
          cases rest with
          | nil => simp [shufFrom]
          | cons y q =>
            rw [shufFrom]
            by_cases hy : y = 1004
            · subst hy
              rw [shufFrom_same (b := 1004) (c := 1002) q (by decide)]
              simp [mvB]
            · have : (y == 1004) = false := by rw [beq_eq_false_iff_ne]; exact hy
              rw [this]; simp [hy]
        · intro hy
          cases rest with
          | nil => simp at hy
          | cons y q =>
            have hy' : y = 1004 := by simpa using hy
            subst hy'
            have hb : brk 1004 = 0 := rfl
            rw [fitsFrom, hb, if_neg (by omega)] at i2
            exact i2
      · right
        refine ⟨z, r, rfl, h1, ho, ?_⟩
        rw [shufFrom]
        by_cases h4 : z = 1004
        · subst h4; simp
        by_cases h3 : z = 1013
        · subst h3
          have hb : brk 1013 = -1 := rfl
          rw [fitsFrom, hb] at hf; simp at hf
        have : mvB z = false := by
          simp [mvB]; omega
        rw [this]; rfl

set_option maxHeartbeats 1000000 in
theorem l7Moves_any (N : Nat) : ∀ (v : Value) (zs : List Int) (w : World), zs.length ≤ N → zs.length ≤ 1000000 → RdI w v zs → fitsFrom 0 zs = true →
    Calls Try.prog 118 #[v] w fun e w' => e = .returned (.bool (shufFrom 1002 zs)) ∧ w = w' := by
  induction N with
  | zero =>
    intro v zs w hN _ h _
    obtain ⟨A, c, rfl, hi, hc⟩ := h
    obtain rfl := List.eq_nil_of_length_eq_zero (l := zs) (by omega)
    clear hi
    go_enter Try.func118, Try.ntmps118
    go_wp2
    go_loop [3] (fun i => i = .int .i64 0) (fun _ => 0)
    case atStart => rfl
    case round =>
      subst hrel
      go_wp2
      go_ret
      exact ⟨rfl, rfl⟩
  | succ N ih =>
    intro v zs w hN hl h hf
    have IH := Lib.hid ih; clear ih
    obtain ⟨A, c, rfl, hi, hc⟩ := h
    have HI := Lib.hid hi; clear hi
    have Hf := Lib.hid hf; clear hf
    go_enter Try.func118, Try.ntmps118
    go_wp2
    go_loop [3] (fun i => ∃ k : Nat, k ≤ zs.length ∧ i = .int .i64 k ∧ fitsFrom 0 (zs.drop k) = true ∧ shufFrom 1002 (zs.drop k) = shufFrom 1002 zs) (fun i => zs.length - (intOf i).toNat)
    case atStart => exact ⟨0, Nat.zero_le _, rfl, by simpa using Hf.out, by simp⟩
    case round =>
      obtain ⟨k, hk, rfl, hfk, hall⟩ := hrel
      by_cases hlt : k < zs.length
      · obtain ⟨bb, off, rfl, hb, hcc⟩ := HI.out.at_ (by omega)
        have hcell := hcc k hlt
        have hz0 : zs.drop k = zs.getD k 0 :: zs.drop (k + 1) := by
          rw [List.drop_eq_getElem_cons hlt]; simp [List.getD, List.getElem?_eq_getElem hlt]
        rcases moves_cases hfk with h0 | ⟨z, r, he, hz, hfr, hs⟩ | ⟨inner, r, he, hi1, hi2, hcut, hs, hr1⟩ | ⟨z, r, he, hz, hzo, hs⟩
        · rw [h0] at hz0; cases hz0
        · rw [he] at hz0
          injection hz0 with hz1 hz2
          have Hal := Lib.hid (And.intro hfr ((hs.symm.trans hall))); clear hs hall hfk hfr
          rw [← hz1] at hcell
          have b0 : ((decide (1001 ≤ z) && decide (z ≤ 1003)) : Bool) = true := by simp [hz.1, hz.2]
          have HB := Lib.hid b0
          have HZ := Lib.hid hz2; clear b0 hcc hz he hz1 hz2
          go_wp2_with (go_at_call 81; refine (l1In_any _ _ _ _).mono ?_; rw [HB.out]; rintro e w' ⟨rfl, rfl⟩)
          go_round
          case rel => exact ⟨k + 1, by omega, by go_num, by rw [← HZ.out]; exact Hal.out.1, by rw [← HZ.out]; exact Hal.out.2⟩
          case measure => simp [intOf]; omega
        · rw [he] at hz0
          injection hz0 with hz1 hz2
          rw [← hz1] at hcell
          have hlen : k + (inner.length + 2 + r.length) = zs.length := by
            have := congrArg List.length he
            simp at this; omega
          obtain ⟨e0, he0⟩ : ∃ e0, e0 + 1 = k + (inner.length + 2) := ⟨k + (inner.length + 1), by omega⟩
          have hdr : zs.drop (e0 + 1) = r := by
            have h1 := congrArg (List.drop (inner.length + 2)) he
            rw [List.drop_drop, show k + (inner.length + 2) = e0 + 1 from by omega] at h1
            rw [h1, List.drop_succ_cons, show inner.length + 1 = (inner ++ [1013]).length from by simp, show inner ++ 1013 :: r = (inner ++ [1013]) ++ r from by simp, List.drop_left]
          have hin : (zs.drop (k + 1)).take (e0 - (k + 1)) = inner := by
            rw [← hz2, show e0 - (k + 1) = inner.length from by omega]; simp
          have hsub := RdI.sub HI.out (k + 1) (e0 - (k + 1)) (c - (k + 1)) (by omega) (by omega)
          rw [hin] at hsub
          have Hall := Lib.hid (hs.symm.trans hall)
          have HR1 := Lib.hid hr1
          have HD := Lib.hid hdr
          have HS := Lib.hid hsub
          have HIN := Lib.hid (show inner.length ≤ N ∧ inner.length ≤ 1000000 from by omega)
          have HC := Lib.hid hcut
          have b0 : ((decide ((1001 : Int) ≤ 1012) && decide ((1012 : Int) ≤ 1003)) : Bool) = false := rfl
          have HB := Lib.hid b0; clear b0
          have HF := Lib.hid hi1
          have L1 := Lib.hid (l1End_any (some ⟨bb, off, none⟩) c k (inner.length + 2) e0 zs w HI.out (by omega) hcut (by omega) (by omega))
          have hke : k + 1 ≤ e0 := by omega
          have hez : e0 + 1 ≤ zs.length := by omega
          clear hs hall hr1 hin hsub he hz1 hz2 hcut hi1 hi2 hfk
          by_cases hr : e0 + 1 < zs.length
          · have hy := hcc (e0 + 1) hr
            have hyr : zs.getD (e0 + 1) 0 = r.getD 0 0 := by rw [← hdr]; simp [List.getD]
            rw [hyr] at hy
            have hrl : decide (0 < r.length) = true := decide_eq_true (by omega)
            have HRL := Lib.hid hrl; clear hrl hyr hdr hcc hlen he0
            generalize r.getD 0 0 = y at *
            have hrI : decide ((zs.length : Int) ≤ (e0 : Int) + 1) = false := decide_eq_false (by omega)
            have hck : ¬ c = k + 1 := by omega
            rcases h4 : (y == 1004) with _ | _
            · have hyb : (y != 1004) = true := by rw [bne, h4]; rfl
              have hyn : decide (y = 1004) = false := by rw [decide_eq_false_iff_not]; exact beq_eq_false_iff_ne.1 h4
              have HYN := Lib.hid hyn; clear hyn
              go_wp2_with (first
                | (go_at_call 81; refine (l1In_any _ _ _ _).mono ?_; rw [HB.out]; rintro e w' ⟨rfl, rfl⟩)
                | (go_at_call 89; refine L1.out.mono ?_; rintro e w' ⟨rfl, rfl⟩))
              go_ret
              exact ⟨ret_bool (by rw [← Hall.out, HYN.out]; rfl), rfl⟩
            · have hyn : y = 1004 := by simpa using h4
              have hyb : (y != 1004) = false := by rw [bne, h4]; rfl
              have HYN := Lib.hid (show decide (y = 1004) = true from decide_eq_true hyn)
              have HFR := Lib.hid (HR1.out hyn); clear hyn
              rcases hm : shufFrom 1002 inner with _ | _ <;> have Hm := Lib.hid hm <;> clear hm
              all_goals
                go_wp2_with (first
                  | (go_at_call 81; refine (l1In_any _ _ _ _).mono ?_; rw [HB.out]; rintro e w' ⟨rfl, rfl⟩)
                  | (go_at_call 89; refine L1.out.mono ?_; rintro e w' ⟨rfl, rfl⟩)
                  | (go_at_call 118; refine (IH.out _ inner _ HIN.out.1 HIN.out.2 HS.out HF.out).mono ?_; rw [Hm.out]; rintro e w' ⟨rfl, rfl⟩))
              · go_ret
                exact ⟨ret_bool (by rw [← Hall.out, Hm.out]; simp), rfl⟩
              · go_round
                case rel => exact ⟨e0 + 2, by omega, by go_num, by have := HFR.out; rw [← HD.out, List.drop_drop] at this; exact this, by rw [← Hall.out, HYN.out, HRL.out, Hm.out, ← HD.out, List.drop_drop]; rfl⟩
                case measure => simp [intOf]; omega
          · have hrl : decide (0 < r.length) = false := decide_eq_false (by omega)
            have HRL := Lib.hid hrl; clear hrl hcc hdr hlen he0
            have hrI : decide ((zs.length : Int) ≤ (e0 : Int) + 1) = true := decide_eq_true (by omega)
            go_wp2_with (first
              | (go_at_call 81; refine (l1In_any _ _ _ _).mono ?_; rw [HB.out]; rintro e w' ⟨rfl, rfl⟩)
              | (go_at_call 89; refine L1.out.mono ?_; rintro e w' ⟨rfl, rfl⟩))
            go_ret
            exact ⟨ret_bool (by rw [← Hall.out, HRL.out]; simp), rfl⟩
        · rw [he] at hz0
          injection hz0 with hz1 hz2
          rw [← hz1] at hcell
          have Hal := Lib.hid (hs.symm.trans hall); clear hs hall hfk
          have b0 : ((decide (1001 ≤ z) && decide (z ≤ 1003)) : Bool) = false := by
            rw [Bool.eq_false_iff]; intro h; simp at h; exact hz h
          have b1 : (z == 1012) = false := by rw [beq_eq_false_iff_ne]; exact hzo
          have HB := Lib.hid b0; clear b0 hcc hz he hzo hz1 hz2
          go_wp2_with (go_at_call 81; refine (l1In_any _ _ _ _).mono ?_; rw [HB.out]; rintro e w' ⟨rfl, rfl⟩)
          go_ret
          exact ⟨ret_bool Hal.out, rfl⟩
      · obtain rfl : k = zs.length := by omega
        have Hal := Lib.hid hall; clear hall hfk
        go_wp2
        go_ret
        exact ⟨ret_bool (by rw [← Hal.out, List.drop_length]; rfl), rfl⟩
theorem shufB_long {zs : List Int} (h : 60 < zs.length) : shufB zs = false := by
  rw [shufB, validB, show decide (zs.length ≤ 60) = false from decide_eq_false (by omega)]; rfl
theorem IsShuffle_Sw (v0 : Value) (x0 : List Int) (w : World) (h0 : RdI w v0 x0) (_ : x0.length ≤ 1048576) (y0 : Bool) (hR : shufB x0 = y0) :
    Calls Try.prog 80 #[v0] w fun e w' => e = .returned (.bool y0) ∧ w = w' := by
  have H := Lib.hid h0
  obtain ⟨A, c, rfl, hi, hc⟩ := h0
  have HI := Lib.hid hi; clear hi
  have HR := Lib.hid hR; clear hR
  rcases hv : validB x0 with _ | _ <;> have Hv := Lib.hid hv <;> clear hv
  · obtain rfl : false = y0 := by rw [← HR.out, shufB, Hv.out]; rfl
    go_enter Try.func80, Try.ntmps80
    go_wp2_with (go_at_call 62; refine (specValid_any A c x0 _ HI.out).mono ?_; rw [Hv.out]; rintro e w' ⟨rfl, rfl⟩)
    go_ret
    exact ⟨rfl, rfl⟩
  · have hl := validB_len Hv.out
    have hf : fitsFrom 0 x0 = true := by have := Hv.out; simp only [validB, Bool.and_eq_true] at this; exact this.2
    have HF := Lib.hid hf; clear hf
    have HS : Hid (shufFrom 1002 x0 = y0) := Lib.hid (by rw [← HR.out, shufB, Hv.out]; rfl)
    go_enter Try.func80, Try.ntmps80
    go_wp2_with (first
      | (go_at_call 62; refine (specValid_any A c x0 _ HI.out).mono ?_; rw [Hv.out]; rintro e w' ⟨rfl, rfl⟩)
      | (go_at_call 118; refine (l7Moves_any x0.length _ x0 _ (Nat.le_refl _) (by omega) H.out HF.out).mono ?_; rw [HS.out]; rintro e w' ⟨rfl, rfl⟩))
    go_ret
    exact ⟨rfl, rfl⟩
theorem IsShuffle_S (v0 : Value) (x0 : List Int) (w : World) (h0 : RdI w v0 x0) (hl : x0.length ≤ 1048576) (y0 : Bool) (hR : shufB x0 = y0) :
    Calls Try.prog 80 #[v0] w fun e w' => e = .returned (.bool y0) ∧ Below w.heap.size w w' := by
  refine (IsShuffle_Sw v0 x0 w h0 hl y0 hR).mono ?_
  rintro e w' ⟨rfl, rfl⟩
  exact ⟨rfl, Below.refl _ _⟩
theorem IsShuffle_I (v0 : Value) (x0 : List Int) (w : World) (h0 : RdI w v0 x0) (_ : x0.length ≤ 1048576) (y0 : Bool) (hR : shufB x0 = y0) :
    Calls Try.prog 77 #[v0] w fun e w' => e = .returned (.bool y0) ∧ Below w.heap.size w w' := by
  obtain ⟨A, c, rfl, hi, hc⟩ := h0
  refine (IsShuffle_any A c x0 w hi).mono ?_
  rw [hR]
  rintro e w' ⟨rfl, rfl⟩
  exact ⟨rfl, Below.refl _ _⟩
end Go.Proofs.Ytkdpfiaegimnlaa
