/- Chapter 8, pure: the program of registers is a row of words whose brackets fit; how long it is. -/
import Derived.Test.YtklndkhnpbjhoaaOd
import Derived.Test.YtklndkhnpbjhoaaJf
namespace Go.Proofs.Ytklndkhnpbjhoaa
set_option maxRecDepth 100000

def goodP (p : List Int) : Prop := fitsFrom 0 p = true ∧ p.all isWordB = true
theorem goodP.append {p q : List Int} (hp : goodP p) (hq : goodP q) : goodP (p ++ q) := ⟨(fitsFrom_append q hp.1).trans hq.1, by rw [List.all_append, hp.2, hq.2]; rfl⟩
theorem goodP_nil : goodP [] := ⟨rfl, rfl⟩
theorem goodP_one {z : Int} (h : (0 ≤ z ∧ z ≤ 999) ∨ (1006 ≤ z ∧ z ≤ 1009)) : goodP [z] := by
  have hb : brk z = 0 := by unfold brk; rw [if_neg (by omega), if_neg (by omega)]
  refine ⟨?_, ?_⟩
  · rw [fitsFrom, hb, if_neg (by omega)]; rfl
  · simp [isWordB, isNumB]; omega
theorem goodP_under (n : Nat) (w : Int) (hw : w = 1001 ∨ w = 1002 ∨ w = 1003) : goodP (underR n w) := ⟨(underR_fits n w hw).1, (underR_fits n w hw).2.2⟩
theorem goodP_down : ∀ n, goodP (downR n) := by
  intro n
  induction n with
  | zero => exact goodP_nil
  | succ n ih => exact (goodP_under n 1003 (by simp)).append ih
theorem goodP_lift (n : Nat) : goodP (liftR n) := (goodP_under n 1001 (by simp)).append (goodP_down n)
theorem goodP_put {t n a : Int} (h : knownB t n a = true) (many : Nat) : goodP (putG t a many) := by
  unfold knownB at h
  rw [decide_eq_true_eq] at h
  unfold putG
  split
  · exact goodP_one (.inl (by omega))
  · exact goodP_lift _
theorem goodP_op {t : Int} {k many : Nat} {m : Int × Int × Int} (h : opOkB t k m = true) : goodP (opWords t many m) := by
  rw [opOkB, Bool.and_eq_true, Bool.and_eq_true, decide_eq_true_eq] at h
  exact (goodP_put h.2.1 _).append ((goodP_put h.2.2 _).append (goodP_one (.inr h.1)))
theorem goodP_ops (t : Int) : ∀ (ms : List (Int × Int × Int)) (k many : Nat), opsFromB t k ms = true → goodP (opsWords t many ms) := by
  intro ms
  induction ms with
  | nil => intro k many _; exact goodP_nil
  | cons m ms ih =>
    intro k many h
    rw [opsFromB, Bool.and_eq_true] at h
    exact (goodP_op h.1).append (ih _ _ h.2)
theorem goodP_outs (t n : Int) : ∀ (os : List Int) (many : Nat), os.all (knownB t n) = true → goodP (outsWords t many os) := by
  intro os
  induction os with
  | nil => intro many _; exact goodP_nil
  | cons a os ih =>
    intro many h
    rw [List.all_cons, Bool.and_eq_true] at h
    exact (goodP_put h.1 _).append (ih _ h.2)
theorem goodP_drops (n k : Nat) : goodP (dropsR n k) := by
  induction k with
  | zero => exact goodP_nil
  | succ k ih => rw [dropsR_succ]; exact ih.append (goodP_under n 1002 (by simp))
theorem goodP_from {t : Int} {ms : List (Int × Int × Int)} {os : List Int} (h : regsB t ms os = true) : goodP (fromR t ms os) := by
  obtain ⟨_, h1, h2⟩ := regsB_ok h
  exact (goodP_ops t ms 0 _ h1).append ((goodP_outs t _ os _ h2).append (goodP_drops _ _))
theorem fromR_valid {t : Int} {ms : List (Int × Int × Int)} {os : List Int} (h : regsB t ms os = true) : validB (fromR t ms os) = decide ((fromR t ms os).length ≤ 60) := by
  have hg := goodP_from h
  rw [validB, hg.1, hg.2]; simp
theorem downR_len : ∀ n, n ≤ 100 → (downR n).length ≤ 301 * n := by
  intro n
  induction n with
  | zero => intro _; simp [downR]
  | succ n ih =>
    intro h
    rw [downR, List.length_append, underR_len]
    have := ih (by omega)
    omega
theorem liftR_len {n : Nat} (h : n ≤ 100) : (liftR n).length ≤ 31000 := by
  rw [liftR, List.length_append, underR_len]
  have := downR_len n h
  omega
theorem putG_len {t a : Int} {many : Nat} (h : many ≤ 101) : (putG t a many).length ≤ 31000 := by
  unfold putG
  split
  · simp
  · exact liftR_len (by omega)
theorem opsWords_len (t : Int) : ∀ (ms : List (Int × Int × Int)) (many : Nat), many + ms.length ≤ 100 → (opsWords t many ms).length ≤ 62001 * ms.length := by
  intro ms
  induction ms with
  | nil => intro many _; simp [opsWords]
  | cons m ms ih =>
    intro many h
    rw [List.length_cons] at h
    have h1 := ih (many + 1) (by omega)
    have h2 : (putG t m.2.1 many).length ≤ 31000 := putG_len (by omega)
    have h3 : (putG t m.2.2 (many + 1)).length ≤ 31000 := putG_len (by omega)
    rw [opsWords, opWords]
    simp only [List.length_append, List.length_cons, List.length_nil]
    omega
theorem outsWords_len (t : Int) : ∀ (os : List Int) (many : Nat), many + os.length ≤ 101 → (outsWords t many os).length ≤ 31000 * os.length := by
  intro os
  induction os with
  | nil => intro many _; simp [outsWords]
  | cons a os ih =>
    intro many h
    rw [List.length_cons] at h
    have h1 := ih (many + 1) (by omega)
    have h2 : (putG t a many).length ≤ 31000 := putG_len (by omega)
    rw [outsWords, List.length_append, List.length_cons]
    omega
theorem dropsR_len (n k : Nat) : (dropsR n k).length = (3 * n + 1) * k := by
  induction k with
  | zero => rfl
  | succ k ih => rw [dropsR_succ, List.length_append, ih, underR_len, Nat.mul_succ]
theorem progFromR_no {t : Int} {ms : List (Int × Int × Int)} {os : List Int} (h : ¬ (regsB t ms os = true ∧ (fromR t ms os).length ≤ 60)) : progFromR t ms os = ([], false) := by
  unfold progFromR; rw [if_neg h]
theorem progFromR_yes {t : Int} {ms : List (Int × Int × Int)} {os : List Int} (h : regsB t ms os = true) (h2 : (fromR t ms os).length ≤ 60) : progFromR t ms os = (fromR t ms os, true) := by
  unfold progFromR; rw [if_pos ⟨h, h2⟩]
end Go.Proofs.Ytklndkhnpbjhoaa
