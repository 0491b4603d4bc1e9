/- Numbers and words as texts, by the model: l1Number, WordText. -/
import Derived.Test.YtjblecinkedppaaGreatDoorNc
import Derived.Laws.IdiomStrings
namespace Go.Proofs.YtjblecinkedppaaGreatDoor
set_option maxRecDepth 100000
open Go.RowKit Go.WideShapes
open Lib (decDigits)

theorem dig_byte {n : Nat} (h : n < 10) : ((UInt8.ofNat (48 + n)).toNat : Int) = 48 + n := by rw [dig_toNat h]; omega
theorem run_one_byte (W : World) (g : Nat) (c : UInt8) (x : Int) (hx : x = c.toNat) (h : W.cell? ⟨g, 0, none⟩ = some (.int .u8 x)) :
    (convert 22 9 (.slice (some ⟨g, 0, none⟩) 1 1)).run Tryz.prog W = .ok (.string ⟨#[c]⟩) W := by
  have := run_convert_bytes_back (P := Tryz.prog) W 22 9 5 ⟨g, 0, none⟩ 1 [c] Tryz.underlying22 Tryz.underlying5 Tryz.underlying9 (fun j hj => by
    obtain rfl : j = 0 := by simpa using hj
    simpa [Addr.add, hx] using h)
  simpa using this

theorem dec_one {n : Nat} (h : n < 10) : ∃ c : UInt8, decDigits n = [c] ∧ 48 + (n : Int) = c.toNat := ⟨_, dec1 h, (dig_byte h).symm⟩
theorem dec_more {n : Nat} (h : ¬ n < 10) : ∃ c : UInt8, decDigits n = decDigits (n / 10) ++ [c] ∧ 48 + ((n : Int) % 10) = c.toNat := ⟨_, decS h, by rw [dig_byte (by omega)]; omega⟩
theorem dec_len9 {n : Nat} (h : n ≤ 99999) : (decDigits n).length ≤ 5 := by
  by_cases h1 : n < 10
  · rw [dec1 h1]; simp
  · by_cases h2 : n / 10 < 10
    · rw [decS h1, dec1 h2]; simp
    · rw [decS h1, List.length_append]
      have : (decDigits (n / 10)).length ≤ 4 := by
        by_cases h3 : n / 10 / 10 < 10
        · rw [decS h2, dec1 h3]; simp
        · rw [decS h2, decS h3, List.length_append, List.length_append]
          have : (decDigits (n / 10 / 10 / 10)).length ≤ 2 := by
            by_cases h4 : n / 10 / 10 / 10 < 10
            · rw [dec1 h4]; simp
            · rw [decS h4, dec1 (by omega)]; simp
          simp; omega
      simp; omega
theorem kept_byte {w w' : World} {T : TypeId} {x : Int} (hb : Below (w.alloc (.cells #[.int .u8 x] T)).heap.size (w.alloc (.cells #[.int .u8 x] T)) w') : w'.cell? ⟨w.heap.size, 0, none⟩ = some (.int .u8 x) := (hb.cell (by simp)).trans (by simp)
theorem kept_byteD {w w' : World} {T : TypeId} {x : Int} (hb : Below (w.alloc (.cells #[.int .u8 x] T)).drew.heap.size (w.alloc (.cells #[.int .u8 x] T)).drew w') : w'.cell? ⟨w.heap.size, 0, none⟩ = some (.int .u8 x) := (hb.cell (by simp)).trans (by simp)
set_option maxHeartbeats 1000000 in
theorem l1Number_any (n : Nat) (w : World) (h : n ≤ 99999) :
    Calls Tryz.prog 91 #[.int .i64 n] w fun e w' => e = .returned (.string ⟨(decDigits n).toArray⟩) ∧ Below w.heap.size w w' := by
  induction n using Nat.strongRecOn generalizing w with
  | _ n ih =>
    by_cases hn : n < 10
    · have hw : IntKind.u8.wrap (48 + (n : Int)) = 48 + n := IntWalk.u8_in _ (by omega)
      obtain ⟨c, hd, hx⟩ := dec_one hn
      have HR := Lib.hid hd
      have hc := run_one_byte (w.alloc (.cells #[.int .u8 (48 + (n : Int))] 5)) w.heap.size c (48 + (n : Int)) hx (by simp)
      have hnI : (n : Int) < 10 := by omega
      clear ih hd hx
      go_enter Tryz.func91, Tryz.ntmps91
      go_wp2
      go_ret
      rw [HR.out]
      exact ⟨rfl, (Below.refl _ _).alloc (Nat.le_refl _) _⟩
    · obtain ⟨c, hd, hx⟩ := dec_more hn
      obtain ⟨r, hr⟩ : ∃ r : Int, r = (n : Int) % 10 := ⟨_, rfl⟩
      rw [← hr] at hx
      obtain ⟨q, hq⟩ : ∃ q : Nat, q = n / 10 := ⟨_, rfl⟩
      rw [← hq] at hd
      have hw : IntKind.u8.wrap (48 + r) = 48 + r := IntWalk.u8_in _ (by omega)
      have hq1 : (n : Int).tdiv 10 = (q : Int) := by rw [Int.tdiv_eq_ediv_of_nonneg (by omega)]; omega
      have hr1 : (n : Int).tmod 10 = r := by rw [Int.tmod_eq_emod_of_nonneg (by omega)]; omega
      have hwq : IntKind.i64.wrap (q : Int) = q := IntWalk.i64_in _ (by omega)
      have hwr : IntKind.i64.wrap (48 + r) = 48 + r := IntWalk.i64_in _ (by omega)
      have hnI : ¬ (n : Int) < 10 := by omega
      have HD := Lib.hid hd
      have IH := Lib.hid (fun w => ih q (by omega) w (by omega))
      have HC := Lib.hid (fun W g => run_one_byte W g c (48 + r) hx)
      obtain ⟨S, hS⟩ : ∃ S : ByteArray, (⟨(decDigits n).toArray⟩ : ByteArray) = S := ⟨_, rfl⟩
      have hadd : ∀ W, (Op.stringOp .add ⟨(decDigits q).toArray⟩ ⟨#[c]⟩).run Tryz.prog W = .ok (.string S) W := fun W => by
        have hl := dec_len9 (n := q) (by omega)
        have := run_string_add_lists (P := Tryz.prog) W (decDigits q) [c] (by omega) (by simp)
        rw [← hS, hd]; exact this
      have HS := Lib.hid hS
      have hca := fun (W : World) => HC.out (W.alloc (.cells #[.int .u8 (48 + r)] 5)) W.heap.size (by simp)
      have hcd := fun (W : World) => HC.out (W.alloc (.cells #[.int .u8 (48 + r)] 5)).drew W.heap.size (by simp)
      clear ih hd hx hr hq hn hS
      go_enter Tryz.func91, Tryz.ntmps91
      go_wp2
      go_region_with (first
        | (go_at_call 91; refine (IH.out _).mono ?_; rintro e w' ⟨rfl, hb⟩; have hcb := HC.out w' _ (kept_byteD hb); have HB := Lib.hid hb; clear hb)
        | (go_at_call 91; refine (IH.out _).mono ?_; rintro e w' ⟨rfl, hb⟩; have hcb := HC.out w' _ (kept_byte hb); have HB := Lib.hid hb; clear hb)
        | (go_at_call 91; refine (IH.out _).mono ?_; rintro e w' ⟨rfl, hb⟩; have HB := Lib.hid hb; clear hb)
        | fail)
      all_goals go_wp2
      all_goals go_ret
      all_goals refine ⟨(by show Ending.returned (Value.string S) = _; rw [HS.out]), ?_⟩
      all_goals first
        | exact ((Below.refl w.heap.size w).drew.trans HB.out).alloc HB.out.size _
        | exact (((Below.refl w.heap.size w).alloc (Nat.le_refl _) _).drew).trans (HB.out.mono (by simp))
        | exact (((Below.refl w.heap.size w).drew).alloc (Nat.le_refl _) _).trans (HB.out.mono (by simp))
        | (trace_state; fail)

theorem WordText_S (z : Int) (w : World) :
    Calls Tryz.prog 65 #[.int .i64 z] w fun e w' => e = .returned (.string ⟨(wordT z).toArray⟩) ∧ Below w.heap.size w w' := by
  rcases hn : isNumB z with _ | _
  · have hd1 : (decide (0 ≤ z) && decide (z ≤ 999)) = false := hn
    by_cases hb : 1001 ≤ z ∧ z ≤ 1013
    · have HR := Lib.hid (wordT_op hb)
      have hd2 : (decide (1001 ≤ z) && decide (z ≤ 1013)) = true := by simp; omega
      have D1 := Lib.hid hd1
      have D2 := Lib.hid hd2
      obtain ⟨k, rfl⟩ : ∃ k : Nat, z = 1001 + k := ⟨(z - 1001).toNat, by omega⟩
      have hk : k ≤ 12 := by omega
      obtain ⟨t, htk⟩ : ∃ t, opNames[k]? = some t := ⟨_, List.getElem?_eq_getElem (show k < opNames.length by simp [opNames]; omega)⟩
      have HV : Hid (opNames.getD (1001 + (k : Int) - 1001).toNat [] = t) := Lib.hid (by rw [show (1001 + (k : Int) - 1001).toNat = k by omega, List.getD, htk]; rfl)
      have hkI : (1001 + (k : Int) - 1001) = k := by omega
      have hw1 : IntKind.i64.wrap (1001 + (k : Int) - 1001) = k := by rw [hkI]; exact IntWalk.i64_in _ (by omega)
      have HT := Lib.hid htk
      clear hn hb hd1 hd2 htk hkI
      go_enter Tryz.func65, Tryz.ntmps65
      go_wp2_with fail
      refine (l1In_any _ 0 999 _).mono ?_
      rw [D1.out]
      rintro e w' ⟨rfl, rfl⟩
      go_wp2_with fail
      refine (l1In_any _ 1001 1013 _).mono ?_
      rw [D2.out]
      rintro e w' ⟨rfl, rfl⟩
      go_wp2_with fail
      refine (l1Names_any _).mono ?_
      rintro e w1 ⟨rfl, ⟨T, hh⟩, hb⟩
      have HB := Lib.hid hb; clear hb
      have hcell : w1.cell? ⟨w.heap.size, k, none⟩ = some (.string ⟨t.toArray⟩) := by
        rw [cell_of_row _ _ _ _ _ _ hh]; simp [strVals, HT.out]
      clear hh
      go_wp2
      go_ret
      rw [HR.out, HV.out]
      exact ⟨rfl, HB.out⟩
    · have hd2 : (decide (1001 ≤ z) && decide (z ≤ 1013)) = false := by
        rw [Bool.and_eq_false_iff, decide_eq_false_iff_not, decide_eq_false_iff_not]; omega
      have HR := Lib.hid (wordT_no (z := z) (by rw [isWordB, hn, hd2]; rfl))
      have D1 := Lib.hid hd1
      have D2 := Lib.hid hd2
      clear hn hb hd1 hd2
      go_enter Tryz.func65, Tryz.ntmps65
      go_wp2_with fail
      refine (l1In_any _ 0 999 _).mono ?_
      rw [D1.out]
      rintro e w' ⟨rfl, rfl⟩
      go_wp2_with fail
      refine (l1In_any _ 1001 1013 _).mono ?_
      rw [D2.out]
      rintro e w' ⟨rfl, rfl⟩
      go_wp2
      go_ret
      rw [HR.out]
      exact ⟨rfl, Below.refl _ _⟩
  · have hb := isNumB_iff.1 hn
    have HR := Lib.hid (wordT_num hb)
    have D1 : Hid ((decide (0 ≤ z) && decide (z ≤ 999)) = true) := Lib.hid hn
    obtain ⟨k, rfl⟩ := Int.eq_ofNat_of_zero_le hb.1
    have hk : k ≤ 999 := by omega
    clear hn hb
    go_enter Tryz.func65, Tryz.ntmps65
    go_wp2_with fail
    refine (l1In_any _ 0 999 _).mono ?_
    rw [D1.out]
    rintro e w' ⟨rfl, rfl⟩
    go_wp2_with fail
    refine (l1Number_any k _ (by omega)).mono ?_
    rintro e w1 ⟨rfl, hb⟩
    have HB := Lib.hid hb; clear hb
    go_wp2
    go_ret
    rw [HR.out]
    exact ⟨rfl, HB.out⟩
end Go.Proofs.YtjblecinkedppaaGreatDoor
