/- Chapter 8, pure: the registers of a program. -/
import Derived.Test.YtpdhdiidkjgjmaaGreatCo
import Derived.Test.YtpdhdiidkjgjmaaGreatOd
namespace Go.Proofs.YtpdhdiidkjgjmaaGreat
set_option maxRecDepth 100000

def opAt (ms : List (Int × Int × Int)) (op : Int × Int × Int) : Nat := ms.idxOf op
def opPut (ms : List (Int × Int × Int)) (op : Int × Int × Int) : List (Int × Int × Int) := if opAt ms op = ms.length then ms ++ [op] else ms
def regStep (z : Int) (st : List (Int × Int × Int) × List Int) : List (Int × Int × Int) × List Int :=
  if z ≤ 999 then (st.1, st.2 ++ [z])
  else if z = 1001 then (st.1, st.2 ++ [st.2.getD (st.2.length - 1) 0])
  else if z = 1002 then (st.1, st.2.take (st.2.length - 1))
  else if z = 1003 then (st.1, st.2.take (st.2.length - 2) ++ [st.2.getD (st.2.length - 1) 0, st.2.getD (st.2.length - 2) 0])
  else (opPut st.1 (z, st.2.getD (st.2.length - 2) 0, st.2.getD (st.2.length - 1) 0), st.2.take (st.2.length - 2) ++ [3000 + (opAt st.1 (z, st.2.getD (st.2.length - 2) 0, st.2.getD (st.2.length - 1) 0) : Int)])
def regRun : List (Int × Int × Int) × List Int → List Int → List (Int × Int × Int) × List Int
  | st, [] => st
  | st, z :: zs => regRun (regStep z st) zs
def startR (t : Nat) : List Int := (List.range t).map fun k : Nat => (2000 + (k : Int))
def regsOfR (p : List Int) : Int × List (Int × Int × Int) × List Int × Bool :=
  if (countR p).1 < 0 then (0, [], [], false) else ((countR p).1, (regRun ([], startR (countR p).1.toNat) p).1, (regRun ([], startR (countR p).1.toNat) p).2, true)
theorem opAt_le (ms : List (Int × Int × Int)) (op : Int × Int × Int) : opAt ms op ≤ ms.length := List.idxOf_le_length
theorem opPut_len (ms : List (Int × Int × Int)) (op : Int × Int × Int) : (opPut ms op).length ≤ ms.length + 1 := by
  unfold opPut; split <;> simp
theorem regRun_drop {st : List (Int × Int × Int) × List Int} {p : List Int} {k : Nat} (h : k < p.length) : regRun st (p.drop k) = regRun (regStep (p.getD k 0) st) (p.drop (k + 1)) := by
  rw [List.drop_eq_getElem_cons h, regRun]; simp [List.getD, List.getElem?_eq_getElem h]
theorem startR_succ (k : Nat) : startR (k + 1) = startR k ++ [2000 + (k : Int)] := by
  unfold startR; rw [List.range_succ, List.map_append]; rfl
theorem startR_len (k : Nat) : (startR k).length = k := by simp [startR]
theorem countL_mono : ∀ (p : List Int) (c : Nat × Nat), c.1 ≤ (countL c p).1 := by
  intro p
  induction p with
  | nil => intro c; exact Nat.le_refl _
  | cons z p ih => intro c; exact Nat.le_trans (by unfold stepC; simp only []; omega) (ih (stepC z c))
theorem countL_le : ∀ (p : List Int) (c : Nat × Nat), (countL c p).1 ≤ c.1 + 2 * p.length := by
  intro p
  induction p with
  | nil => intro c; exact Nat.le_refl _
  | cons z p ih =>
    intro c
    have h := ih (stepC z c)
    have h2 := tp_bd z
    rw [countL, List.length_cons]
    unfold stepC at h ⊢
    simp only [] at h ⊢
    omega
theorem regStep_len {z : Int} (h : straightB z = true) {st : List (Int × Int × Int) × List Int} (hl : (tpR z).1 ≤ st.2.length) : (regStep z st).2.length = st.2.length - (tpR z).1 + (tpR z).2 := by
  rcases straight_cases h with h | rfl | rfl | rfl | h
  · rw [regStep, if_pos h.2, tpR, if_pos h.2]; simp
  · simp [regStep, tpR] at hl ⊢ <;> omega
  · simp [regStep, tpR] at hl ⊢ <;> omega
  · simp [regStep, tpR] at hl ⊢ <;> omega
  · rw [tpR, if_neg (by omega), if_neg (by omega), if_neg (by omega), if_neg (by omega)] at hl ⊢
    rw [regStep, if_neg (by omega), if_neg (by omega), if_neg (by omega), if_neg (by omega)]
    simp at hl ⊢ <;> omega
/-- What the row must have: at every word as many as it takes. -/
theorem row_takes {z : Int} {n m : Nat} {p : List Int} {T : Nat} (hT : (countL (stepC z (n, m)) p).1 = T) {st : List (Int × Int × Int) × List Int} (hl : st.2.length + n = m + T) : (tpR z).1 ≤ st.2.length := by
  have h := countL_mono p (stepC z (n, m))
  rw [hT] at h
  unfold stepC at h
  simp only [] at h
  omega
theorem row_next {z : Int} (hz : straightB z = true) {n m : Nat} {p : List Int} {T : Nat} (hT : (countL (stepC z (n, m)) p).1 = T) {st : List (Int × Int × Int) × List Int} (hl : st.2.length + n = m + T) : (regStep z st).2.length + (stepC z (n, m)).1 = (stepC z (n, m)).2 + T := by
  have h1 := row_takes hT hl
  rw [regStep_len hz h1]
  unfold stepC
  simp only []
  omega
end Go.Proofs.YtpdhdiidkjgjmaaGreat
