/- The marks of rows of strings: markText, markStringS, heldStringS. -/
import Derived.Test.YtdabbjlefpgkmaaDoorAa
import Derived.Test.YtdabbjlefpgkmaaDoorNg
namespace Go.Proofs.YtdabbjlefpgkmaaDoor
set_option maxRecDepth 100000
open Go.RowKit Go.WideShapes
open Lib (decDigits)

/-- The mark k as a text. -/
def mtx (k : Nat) : List UInt8 := 109 :: decDigits k
def mtxs (k : Nat) : Nat → List (List UInt8)
  | 0 => []
  | n + 1 => mtx k :: mtxs (k + 1) n
theorem mtxs_len (k n : Nat) : (mtxs k n).length = n := by
  induction n generalizing k with
  | zero => rfl
  | succ n ih => simp [mtxs, ih]
theorem mtxs_get (k n j : Nat) (h : j < n) : (mtxs k n)[j]? = some (mtx (k + j)) := by
  induction n generalizing k j with
  | zero => omega
  | succ n ih =>
    rcases j with _ | j
    · simp [mtxs]
    · simp only [mtxs, List.getElem?_cons_succ]; rw [ih (k + 1) j (by omega)]; congr 2; omega
theorem mtxs_set (ss : List (List UInt8)) (a k : Nat) (h : k < ss.length) : (mtxs a k ++ ss.drop k).set k (mtx (a + k)) = mtxs a (k + 1) ++ ss.drop (k + 1) := by
  have hm : mtxs a (k + 1) = mtxs a k ++ [mtx (a + k)] := by
    apply List.ext_getElem?
    intro j
    by_cases hj : j < k
    · rw [mtxs_get a (k + 1) j (by omega), List.getElem?_append_left (by rw [mtxs_len]; omega), mtxs_get a k j hj]
    · by_cases hj2 : j = k
      · subst hj2; rw [mtxs_get a (j + 1) j (by omega), List.getElem?_append_right (by rw [mtxs_len]; omega), mtxs_len]; simp
      · rw [List.getElem?_eq_none (by rw [mtxs_len]; omega), List.getElem?_eq_none (by simp [mtxs_len]; omega)]
  rw [List.set_append_right _ _ (by rw [mtxs_len]; omega), mtxs_len, Nat.sub_self, List.drop_eq_getElem_cons h, List.set_cons_zero, hm, List.append_assoc]
  rfl
theorem dec_len99 {n : Nat} (h : n ≤ 9999999) : (decDigits n).length ≤ 7 := by
  have h1 : ∀ m, m ≤ 99 → (decDigits m).length ≤ 2 := fun m hm => by
    by_cases h1 : m < 10
    · rw [dec1 h1]; simp
    · rw [decS h1, dec1 (by omega)]; simp
  by_cases h2 : n ≤ 99999
  · have := dec_len9 h2; omega
  · have h3 := dec_len9 (n := n / 10 / 10) (by omega)
    rw [decS (by omega), decS (by omega)]
    simp; omega

set_option maxHeartbeats 1000000 in
theorem markText_any (k : Nat) (w : World) (h1 : 1 ≤ k) (h2 : k ≤ 9999999) :
    Calls Tryd.prog 54 #[.int .i64 k] w fun e w' => e = .returned (.string ⟨(mtx k).toArray⟩) ∧ Below w.heap.size w w' := by
  have hkI : (0 : Int) < k := by omega
  have hlen := dec_len99 h2
  go_enter Tryd.func54, Tryd.ntmps54
  go_wp2
  go_loopw [0, 3] (fun a o wr => ∃ (m : Nat) (X : ByteArray), m ≤ k ∧ a = .int .i64 m ∧ o = .string X ∧ decDigits k = (if m = 0 then [] else decDigits m) ++ bytesOf X ∧ Below w.heap.size w wr) (fun a _ _ => (intOf a).toNat)
  case atStart => exact ⟨k, ⟨#[]⟩, Nat.le_refl _, rfl, rfl, by rw [if_neg (by omega)]; simp [bytesOf], Below.refl _ _⟩
  case round =>
    obtain ⟨m, X, hmk, rfl, rfl, hd, hb⟩ := hrel
    have hXl : X.size ≤ 7 := by
      have := congrArg List.length hd
      rw [List.length_append, bytes_len] at this; omega
    by_cases hm0 : m = 0
    · subst hm0
      rw [if_pos rfl, List.nil_append] at hd
      obtain ⟨S, hS⟩ : ∃ S : ByteArray, (⟨(mtx k).toArray⟩ : ByteArray) = S := ⟨_, rfl⟩
      have hadd : ∀ W, (Op.stringOp .add ⟨#[109]⟩ X).run Tryd.prog W = .ok (.string S) W := fun W => by
        have hsz : (⟨#[109]⟩ : ByteArray).size = 1 := rfl
        rw [run_string_add_sum W _ _ (by rw [hsz]; omega), ← hS]
        congr 2
        apply ByteArray.ext
        rw [ByteArray.data_append, mtx, hd]
        simp [bytesOf]
      have HS := Lib.hid hS
      have HB := Lib.hid hb
      clear hS hb hd
      go_wp2
      go_ret
      exact ⟨by rw [HS.out]; rfl, HB.out⟩
    · have hmI : (0 : Int) < m := by omega
      obtain ⟨c, hc1, hc2⟩ : ∃ c : UInt8, decDigits m = (if m / 10 = 0 then [] else decDigits (m / 10)) ++ [c] ∧ 48 + ((m : Int) % 10) = c.toNat := by
        by_cases h10 : m < 10
        · obtain ⟨c, e1, e2⟩ := dec_one h10
          refine ⟨c, by rw [if_pos (by omega), e1]; rfl, ?_⟩
          rw [← e2]; omega
        · obtain ⟨c, e1, e2⟩ := dec_more h10
          exact ⟨c, by rw [if_neg (by omega)]; exact e1, e2⟩
      obtain ⟨r, hr⟩ : ∃ r : Int, r = (m : Int) % 10 := ⟨_, rfl⟩
      rw [← hr] at hc2
      obtain ⟨q, hq⟩ : ∃ q : Nat, q = m / 10 := ⟨_, rfl⟩
      rw [← hq] at hc1
      have hw : IntKind.u8.wrap (48 + r) = 48 + r := IntWalk.u8_in _ (by omega)
      have hq1 : (m : Int).tdiv 10 = (q : Int) := by rw [Int.tdiv_eq_ediv_of_nonneg (by omega)]; omega
      have hr1 : (m : Int).tmod 10 = r := by rw [Int.tmod_eq_emod_of_nonneg (by omega)]; omega
      have hwq : IntKind.i64.wrap (q : Int) = q := IntWalk.i64_in _ (by omega)
      have hwr : IntKind.i64.wrap (48 + r) = 48 + r := IntWalk.i64_in _ (by omega)
      have HC := Lib.hid (fun W g => run_one_byte W g c (48 + r) hc2)
      have hca := fun (W : World) => HC.out (W.alloc (.cells #[.int .u8 (48 + r)] 5)) W.heap.size (by simp)
      have hcd := fun (W : World) => HC.out (W.alloc (.cells #[.int .u8 (48 + r)] 5)).drew W.heap.size (by simp)
      obtain ⟨Y, hY⟩ : ∃ Y : ByteArray, (⟨([c] ++ bytesOf X).toArray⟩ : ByteArray) = Y := ⟨_, rfl⟩
      have hYb : bytesOf Y = [c] ++ bytesOf X := by rw [← hY, bytes_mk]
      have hadd : ∀ W, (Op.stringOp .add ⟨#[c]⟩ X).run Tryd.prog W = .ok (.string Y) W := fun W => by
        have hsz : (⟨#[c]⟩ : ByteArray).size = 1 := rfl
        rw [run_string_add_sum W _ _ (by rw [hsz]; omega), ← hY]
        congr 2
      have HR := Lib.hid (show decDigits k = (if q = 0 then [] else decDigits q) ++ bytesOf Y by
        rw [hd, if_neg hm0, hc1, hYb]; simp)
      have hqm : q < m := by omega
      have HB := Lib.hid hb
      clear hb hd hc1 hc2 hr hq hY hYb hm0
      go_wp2
      go_roundw
      case rel => exact ⟨q, Y, by omega, by go_num, rfl, HR.out, HB.out.alloc HB.out.size _⟩
      case measure => simp [intOf]; omega
end Go.Proofs.YtdabbjlefpgkmaaDoor
