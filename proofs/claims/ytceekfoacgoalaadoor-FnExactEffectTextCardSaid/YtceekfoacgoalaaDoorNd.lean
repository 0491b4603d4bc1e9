/- Numbers and words as texts, by the model: l1Number, WordText. -/
import Derived.Test.YtceekfoacgoalaaDoorNc
import Derived.Laws.IdiomStrings
namespace Go.Proofs.YtceekfoacgoalaaDoor
set_option maxRecDepth 100000
open Go.RowKit Go.WideShapes
open Lib (decDigits)

theorem dig_byte {n : Nat} (h : n < 10) : ((UInt8.ofNat (48 + n)).toNat : Int) = 48 + n := by rw [dig_toNat h]; omega
theorem run_one_byte (W : World) (g : Nat) (c : UInt8) (x : Int) (hx : x = c.toNat) (h : W.cell? ⟨g, 0, none⟩ = some (.int .u8 x)) :
    (convert 31 9 (.slice (some ⟨g, 0, none⟩) 1 1)).run Tryd.prog W = .ok (.string ⟨#[c]⟩) W := by
  have := run_convert_bytes_back (P := Tryd.prog) W 31 9 5 ⟨g, 0, none⟩ 1 [c] Tryd.underlying31 Tryd.underlying5 Tryd.underlying9 (fun j hj => by
    obtain rfl : j = 0 := by simpa using hj
    simpa [Addr.add, hx] using h)
  simpa using this

theorem dec_one {n : Nat} (h : n < 10) : ∃ c : UInt8, decDigits n = [c] ∧ 48 + (n : Int) = c.toNat := ⟨_, dec1 h, (dig_byte h).symm⟩
theorem dec_more {n : Nat} (h : ¬ n < 10) : ∃ c : UInt8, decDigits n = decDigits (n / 10) ++ [c] ∧ 48 + ((n : Int) % 10) = c.toNat := ⟨_, decS h, by rw [dig_byte (by omega)]; omega⟩
theorem dec_len9 {n : Nat} (h : n ≤ 99999) : (decDigits n).length ≤ 5 := by
  by_cases h1 : n < 10
  · rw [dec1 h1]; simp
  · by_cases h2 : n / 10 < 10
    · rw [decS h1, dec1 h2]; simp
    · rw [decS h1, List.length_append]
      have : (decDigits (n / 10)).length ≤ 4 := by
        by_cases h3 : n / 10 / 10 < 10
        · rw [decS h2, dec1 h3]; simp
        · rw [decS h2, decS h3, List.length_append, List.length_append]
          have : (decDigits (n / 10 / 10 / 10)).length ≤ 2 := by
            by_cases h4 : n / 10 / 10 / 10 < 10
            · rw [dec1 h4]; simp
            · rw [decS h4, dec1 (by omega)]; simp
          simp; omega
      simp; omega
theorem kept_byte {w w' : World} {T : TypeId} {x : Int} (hb : Below (w.alloc (.cells #[.int .u8 x] T)).heap.size (w.alloc (.cells #[.int .u8 x] T)) w') : w'.cell? ⟨w.heap.size, 0, none⟩ = some (.int .u8 x) := (hb.cell (by simp)).trans (by simp)
theorem kept_byteD {w w' : World} {T : TypeId} {x : Int} (hb : Below (w.alloc (.cells #[.int .u8 x] T)).drew.heap.size (w.alloc (.cells #[.int .u8 x] T)).drew w') : w'.cell? ⟨w.heap.size, 0, none⟩ = some (.int .u8 x) := (hb.cell (by simp)).trans (by simp)
set_option maxHeartbeats 1000000 in
theorem l1Number_any (n : Nat) (w : World) (h : n ≤ 99999) :
    Calls Tryd.prog 28 #[.int .i64 n] w fun e w' => e = .returned (.string ⟨(decDigits n).toArray⟩) ∧ Below w.heap.size w w' := by
  induction n using Nat.strongRecOn generalizing w with
  | _ n ih =>
    by_cases hn : n < 10
    · have hw : IntKind.u8.wrap (48 + (n : Int)) = 48 + n := IntWalk.u8_in _ (by omega)
      obtain ⟨c, hd, hx⟩ := dec_one hn
      have HR := Lib.hid hd
      have hc := run_one_byte (w.alloc (.cells #[.int .u8 (48 + (n : Int))] 5)) w.heap.size c (48 + (n : Int)) hx (by simp)
      have hnI : (n : Int) < 10 := by omega
      clear ih hd hx
      go_enter Tryd.func28, Tryd.ntmps28
      go_wp2
      go_ret
      rw [HR.out]
      exact ⟨rfl, (Below.refl _ _).alloc (Nat.le_refl _) _⟩
    · obtain ⟨c, hd, hx⟩ := dec_more hn
      obtain ⟨r, hr⟩ : ∃ r : Int, r = (n : Int) % 10 := ⟨_, rfl⟩
      rw [← hr] at hx
      obtain ⟨q, hq⟩ : ∃ q : Nat, q = n / 10 := ⟨_, rfl⟩
      rw [← hq] at hd
      have hw : IntKind.u8.wrap (48 + r) = 48 + r := IntWalk.u8_in _ (by omega)
      have hq1 : (n : Int).tdiv 10 = (q : Int) := by rw [Int.tdiv_eq_ediv_of_nonneg (by omega)]; omega
      have hr1 : (n : Int).tmod 10 = r := by rw [Int.tmod_eq_emod_of_nonneg (by omega)]; omega
      have hwq : IntKind.i64.wrap (q : Int) = q := IntWalk.i64_in _ (by omega)
      have hwr : IntKind.i64.wrap (48 + r) = 48 + r := IntWalk.i64_in _ (by omega)
      have hnI : ¬ (n : Int) < 10 := by omega
      have HD := Lib.hid hd
      have IH := Lib.hid (fun w => ih q (by omega) w (by omega))
      have HC := Lib.hid (fun W g => run_one_byte W g c (48 + r) hx)
      obtain ⟨S, hS⟩ : ∃ S : ByteArray, (⟨(decDigits n).toArray⟩ : ByteArray) = S := ⟨_, rfl⟩
      have hadd : ∀ W, (Op.stringOp .add ⟨(decDigits q).toArray⟩ ⟨#[c]⟩).run Tryd.prog W = .ok (.string S) W := fun W => by
        have hl := dec_len9 (n := q) (by omega)
        have := run_string_add_lists (P := Tryd.prog) W (decDigits q) [c] (by omega) (by simp)
        rw [← hS, hd]; exact this
      have HS := Lib.hid hS
      have hca := fun (W : World) => HC.out (W.alloc (.cells #[.int .u8 (48 + r)] 5)) W.heap.size (by simp)
      have hcd := fun (W : World) => HC.out (W.alloc (.cells #[.int .u8 (48 + r)] 5)).drew W.heap.size (by simp)
      clear ih hd hx hr hq hn hS
      go_enter Tryd.func28, Tryd.ntmps28
      go_wp2
      go_region_with (first
        | (go_at_call 28; refine (IH.out _).mono ?_; rintro e w' ⟨rfl, hb⟩; have hcb := HC.out w' _ (kept_byteD hb); have HB := Lib.hid hb; clear hb)
        | (go_at_call 28; refine (IH.out _).mono ?_; rintro e w' ⟨rfl, hb⟩; have hcb := HC.out w' _ (kept_byte hb); have HB := Lib.hid hb; clear hb)
        | (go_at_call 28; refine (IH.out _).mono ?_; rintro e w' ⟨rfl, hb⟩; have HB := Lib.hid hb; clear hb)
        | fail)
      all_goals go_wp2
      all_goals go_ret
      all_goals refine ⟨(by show Ending.returned (Value.string S) = _; rw [HS.out]), ?_⟩
      all_goals first
        | exact ((Below.refl w.heap.size w).drew.trans HB.out).alloc HB.out.size _
        | exact (((Below.refl w.heap.size w).alloc (Nat.le_refl _) _).drew).trans (HB.out.mono (by simp))
        | exact (((Below.refl w.heap.size w).drew).alloc (Nat.le_refl _) _).trans (HB.out.mono (by simp))
        | (trace_state; fail)

end Go.Proofs.YtceekfoacgoalaaDoor
