/- Numbers as texts: plain facts on lists of bytes. -/
import Derived.Test.YtdabbjlefpgkmaaDoorB1
namespace Go.Proofs.YtdabbjlefpgkmaaDoor
set_option maxRecDepth 100000

def dg (c : UInt8) : Bool := decide (48 ≤ (c.toNat : Int)) && decide ((c.toNat : Int) ≤ 57)
/-- As the program reads: digit by digit, never beyond 999. -/
def readFrom : Int → List UInt8 → Option Int
  | n, [] => some n
  | n, c :: r => if dg c = true ∧ 10 * n + ((c.toNat : Int) - 48) ≤ 999 then readFrom (10 * n + ((c.toNat : Int) - 48)) r else none
/-- As the model reads: digit by digit. -/
def digFrom : Int → List UInt8 → Option Int
  | n, [] => some n
  | n, c :: r => if dg c = true then digFrom (10 * n + ((c.toNat : Int) - 48)) r else none
def lead0 (l : List UInt8) : Prop := 1 < l.length ∧ l.head? = some 48
instance (l : List UInt8) : Decidable (lead0 l) := by unfold lead0; infer_instance
def readNumR (l : List UInt8) : Option Int := if l = [] ∨ lead0 l then none else readFrom 0 l
def digitsR (l : List UInt8) : Option Int := if ¬ (1 ≤ l.length ∧ l.length ≤ 3) ∨ lead0 l then none else digFrom 0 l

theorem dg_bd {c : UInt8} (h : dg c = true) : 48 ≤ (c.toNat : Int) ∧ (c.toNat : Int) ≤ 57 := by simpa [dg] using h
theorem readFrom_dig {n m : Int} {l : List UInt8} (h : readFrom n l = some m) : digFrom n l = some m := by
  induction l generalizing n with
  | nil => exact h
  | cons c r ih =>
    rw [readFrom] at h
    split at h
    · rename_i h1; rw [digFrom, if_pos h1.1]; exact ih h
    · cases h
theorem readFrom_le {n m : Int} {l : List UInt8} (h0 : 0 ≤ n ∧ n ≤ 999) (h : readFrom n l = some m) : 0 ≤ m ∧ m ≤ 999 := by
  induction l generalizing n with
  | nil => rw [readFrom] at h; cases h; exact h0
  | cons c r ih =>
    rw [readFrom] at h
    split at h
    · rename_i h1; have := dg_bd h1.1; exact ih ⟨by omega, h1.2⟩ h
    · cases h
theorem readFrom_ge {n m : Int} {l : List UInt8} (h0 : 0 ≤ n) (h : readFrom n l = some m) : n * 10 ^ l.length ≤ m := by
  induction l generalizing n with
  | nil => rw [readFrom] at h; cases h; simp
  | cons c r ih =>
    rw [readFrom] at h
    split at h
    · rename_i h1
      have hb := dg_bd h1.1
      have := ih (by omega) h
      rw [List.length_cons, Int.pow_succ]
      have hp : (0 : Int) ≤ 10 ^ r.length := Int.le_of_lt (Int.pow_pos (by omega))
      have h3 : 10 * n * 10 ^ r.length ≤ (10 * n + ((c.toNat : Int) - 48)) * 10 ^ r.length := Int.mul_le_mul_of_nonneg_right (by omega) hp
      have h4 : n * (10 ^ r.length * 10) = 10 * n * 10 ^ r.length := by rw [Int.mul_comm 10 n, Int.mul_assoc, Int.mul_comm 10 (10 ^ r.length)]
      omega
    · cases h
theorem digFrom_read {n m : Int} {l : List UInt8} (h0 : 0 ≤ n) (hk : (n + 1) * 10 ^ l.length ≤ 1000) (h : digFrom n l = some m) : readFrom n l = some m := by
  induction l generalizing n with
  | nil => exact h
  | cons c r ih =>
    rw [digFrom] at h
    split at h
    · rename_i h1
      have hb := dg_bd h1
      have hp : (1 : Int) ≤ 10 ^ r.length := Int.pow_pos (by omega)
      rw [List.length_cons, Int.pow_succ, Int.mul_comm (10 ^ r.length) 10, ← Int.mul_assoc] at hk
      have h3 : (10 * n + ((c.toNat : Int) - 48) + 1) * 10 ^ r.length ≤ (n + 1) * 10 * 10 ^ r.length := Int.mul_le_mul_of_nonneg_right (by omega) (by omega)
      have h4 : (10 * n + ((c.toNat : Int) - 48) + 1) * 1 ≤ (10 * n + ((c.toNat : Int) - 48) + 1) * 10 ^ r.length := Int.mul_le_mul_of_nonneg_left hp (by omega)
      rw [readFrom, if_pos ⟨h1, by omega⟩]
      exact ih (by omega) (by omega) h
    · cases h
theorem readNum_digits (l : List UInt8) : readNumR l = digitsR l := by
  unfold readNumR digitsR
  by_cases hl : lead0 l
  · rw [if_pos (.inr hl), if_pos (.inr hl)]
  · by_cases he : l = []
    · subst he; simp
    · have hlen : 1 ≤ l.length := List.length_pos_iff.2 he
      rw [if_neg (by simp [he, hl])]
      by_cases h3 : l.length ≤ 3
      · rw [if_neg (by simp [hl]; omega)]
        rcases hr : readFrom 0 l with _ | m
        · rcases hd : digFrom 0 l with _ | m
          · rfl
          · have := digFrom_read (by omega) (by
              rw [Int.zero_add, Int.one_mul]
              have : (10 : Int) ^ l.length ≤ 10 ^ 3 := by
                have := Nat.pow_le_pow_right (n := 10) (by omega) h3
                exact_mod_cast this
              omega) hd
            rw [hr] at this; cases this
        · rw [readFrom_dig hr]
      · rw [if_pos (.inl (by omega))]
        rcases hr : readFrom 0 l with _ | m
        · rfl
        · exfalso
          obtain ⟨c, r, rfl⟩ := List.exists_cons_of_ne_nil he
          rw [readFrom] at hr
          split at hr
          · rename_i h1
            have hb := dg_bd h1.1
            have hc : c.toNat ≠ 48 := by
              intro e
              exact hl ⟨by simp at h3 ⊢; omega, by simp; exact UInt8.toNat_inj.1 e⟩
            have hm := readFrom_le ⟨by omega, h1.2⟩ hr
            have hg := readFrom_ge (by omega) hr
            have hp : (10 : Int) ^ 3 ≤ 10 ^ r.length := by
              have := Nat.pow_le_pow_right (n := 10) (by omega) (show 3 ≤ r.length by simp at h3; omega)
              exact_mod_cast this
            have h5 : (1 : Int) * 10 ^ r.length ≤ (10 * 0 + ((c.toNat : Int) - 48)) * 10 ^ r.length := Int.mul_le_mul_of_nonneg_right (by omega) (by omega)
            omega
          · cases hr
end Go.Proofs.YtdabbjlefpgkmaaDoor
