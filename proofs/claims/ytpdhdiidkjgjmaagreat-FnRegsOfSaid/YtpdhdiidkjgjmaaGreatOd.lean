/- Chapter 8, pure: registers, what they leave, and the program that is made of them. -/
import Derived.Test.YtpdhdiidkjgjmaaGreatB4
import Derived.Test.YtpdhdiidkjgjmaaGreatJa
namespace Go.Proofs.YtpdhdiidkjgjmaaGreat
set_option maxRecDepth 100000

def knownB (t n a : Int) : Bool := decide ((0 ≤ a ∧ a ≤ 999) ∨ (2000 ≤ a ∧ a < 2000 + t) ∨ (3000 ≤ a ∧ a < 3000 + n))
def opOkB (t : Int) (k : Nat) (m : Int × Int × Int) : Bool := decide (1006 ≤ m.1 ∧ m.1 ≤ 1009) && (knownB t k m.2.1 && knownB t k m.2.2)
def opsFromB (t : Int) : Nat → List (Int × Int × Int) → Bool
  | _, [] => true
  | k, m :: ms => opOkB t k m && opsFromB t (k + 1) ms
def regsB (t : Int) (ms : List (Int × Int × Int)) (os : List Int) : Bool :=
  decide (0 ≤ t ∧ t ≤ 20 ∧ ms.length ≤ 60 ∧ os.length ≤ 20) && (opsFromB t 0 ms && os.all (knownB t ms.length))
theorem opsFromB_drop {t : Int} {j k : Nat} {ms : List (Int × Int × Int)} {m : Int × Int × Int} (h : ms[k]? = some m) : opsFromB t j (ms.drop k) = (opOkB t j m && opsFromB t (j + 1) (ms.drop (k + 1))) := by
  have hk : k < ms.length := by
    rcases Nat.lt_or_ge k ms.length with h1 | h1
    · exact h1
    · rw [List.getElem?_eq_none h1] at h; cases h
  rw [List.drop_eq_getElem_cons hk, opsFromB]
  rw [List.getElem?_eq_getElem hk] at h
  injection h with h
  rw [h]
theorem regsB_big {t : Int} {ms : List (Int × Int × Int)} {os : List Int} (h : ¬ (0 ≤ t ∧ t ≤ 20 ∧ ms.length ≤ 60 ∧ os.length ≤ 20)) : regsB t ms os = false := by
  unfold regsB; rw [decide_eq_false h]; rfl
theorem regsB_ok {t : Int} {ms : List (Int × Int × Int)} {os : List Int} (h : regsB t ms os = true) : (0 ≤ t ∧ t ≤ 20 ∧ ms.length ≤ 60 ∧ os.length ≤ 20) ∧ opsFromB t 0 ms = true ∧ os.all (knownB t ms.length) = true := by
  unfold regsB at h
  rw [Bool.and_eq_true, Bool.and_eq_true, decide_eq_true_eq] at h
  exact ⟨h.1, h.2.1, h.2.2⟩
theorem opsFromB_at {t : Int} : ∀ {ms : List (Int × Int × Int)} {j k : Nat} {m : Int × Int × Int}, opsFromB t j ms = true → ms[k]? = some m → opOkB t (j + k) m = true := by
  intro ms
  induction ms with
  | nil => intro j k m _ h; simp at h
  | cons a ms ih =>
    intro j k m h hk
    rw [opsFromB, Bool.and_eq_true] at h
    rcases k with _ | k
    · simp at hk; subst hk; exact h.1
    · simp at hk
      have := ih h.2 hk
      rw [show j + (k + 1) = j + 1 + k from by omega]; exact this

def valR (t : Int) (row : List Int) (a : Int) : Int := if a ≤ 999 then a else if 3000 ≤ a then row.getD (t + a - 3000).toNat 0 else row.getD (a - 2000).toNat 0
def opR8 (t : Int) (row : List Int) (m : Int × Int × Int) : List Int := row ++ [reck m.1 (valR t row m.2.1) (valR t row m.2.2)]
def runOps (t : Int) : List Int → List (Int × Int × Int) → List Int
  | row, [] => row
  | row, m :: ms => runOps t (opR8 t row m) ms
theorem runOps_drop {t : Int} {row : List Int} {k : Nat} {ms : List (Int × Int × Int)} {m : Int × Int × Int} (h : ms[k]? = some m) : runOps t row (ms.drop k) = runOps t (opR8 t row m) (ms.drop (k + 1)) := by
  have hk : k < ms.length := by
    rcases Nat.lt_or_ge k ms.length with h1 | h1
    · exact h1
    · rw [List.getElem?_eq_none h1] at h; cases h
  rw [List.drop_eq_getElem_cons hk, runOps]
  rw [List.getElem?_eq_getElem hk] at h
  injection h with h
  rw [h]
def numsB (zs : List Int) : Bool := zs.all fun z => decide (0 ≤ z) && decide (z < 1000)
theorem numsB_getD {zs : List Int} (h : numsB zs = true) (k : Nat) : 0 ≤ zs.getD k 0 ∧ zs.getD k 0 ≤ 999 := by
  rcases Nat.lt_or_ge k zs.length with hk | hk
  · have := List.all_eq_true.1 h zs[k] (List.getElem_mem hk)
    rw [Bool.and_eq_true, decide_eq_true_eq, decide_eq_true_eq] at this
    simp [List.getD, List.getElem?_eq_getElem hk]; omega
  · simp [List.getD, List.getElem?_eq_none hk]
theorem numsB_val {t n : Int} {row : List Int} {a : Int} (h : numsB row = true) (hk : knownB t n a = true) : 0 ≤ valR t row a ∧ valR t row a ≤ 999 := by
  unfold knownB at hk
  rw [decide_eq_true_eq] at hk
  unfold valR
  split
  · omega
  · split <;> exact numsB_getD h _
theorem numsB_step {t : Int} {row : List Int} {m : Int × Int × Int} (h : numsB row = true) : numsB (opR8 t row m) = true := by
  unfold opR8 numsB
  rw [List.all_append]
  have := @reck_num m.1 (valR t row m.2.1) (valR t row m.2.2)
  rw [show (row.all fun z => decide (0 ≤ z) && decide (z < 1000)) = true from h]
  simp; omega
theorem opR8_len (t : Int) (row : List Int) (m : Int × Int × Int) : (opR8 t row m).length = row.length + 1 := by simp [opR8]
theorem runOps_len (t : Int) : ∀ (ms : List (Int × Int × Int)) (row : List Int), (runOps t row ms).length = row.length + ms.length := by
  intro ms
  induction ms with
  | nil => intro row; rfl
  | cons m ms ih => intro row; rw [runOps, ih, opR8_len, List.length_cons]; omega
theorem runOps_nums (t : Int) : ∀ (ms : List (Int × Int × Int)) (row : List Int), numsB row = true → numsB (runOps t row ms) = true := by
  intro ms
  induction ms with
  | nil => intro row h; exact h
  | cons m ms ih => intro row h; exact ih _ (numsB_step h)
def regsRunR (t : Int) (ms : List (Int × Int × Int)) (os zs : List Int) : List Int × Bool :=
  if regsB t ms os = true ∧ (zs.length : Int) = t ∧ numsB zs = true then (os.map (valR t (runOps t zs ms)), true) else ([], false)
theorem regsRunR_no {t : Int} {ms : List (Int × Int × Int)} {os zs : List Int} (h : ¬ (regsB t ms os = true ∧ (zs.length : Int) = t ∧ numsB zs = true)) : regsRunR t ms os zs = ([], false) := by
  unfold regsRunR; rw [if_neg h]

theorem regsRunR_len (t : Int) (ms : List (Int × Int × Int)) (os zs : List Int) : (regsRunR t ms os zs).1.length ≤ 1000 := by
  unfold regsRunR
  split
  · rename_i h
    obtain ⟨⟨_, _, _, h4⟩, _⟩ := regsB_ok h.1
    simp; omega
  · simp
def placeOfR (t a : Int) : Nat := if 3000 ≤ a then (t + a - 3000).toNat else (a - 2000).toNat
def downR : Nat → List Int
  | 0 => []
  | n + 1 => underR n 1003 ++ downR n
def liftR (n : Nat) : List Int := underR n 1001 ++ downR n
def putG (t : Int) (a : Int) (many : Nat) : List Int := if a ≤ 999 then [a] else liftR (many - 1 - placeOfR t a)
def opWords (t : Int) (many : Nat) (m : Int × Int × Int) : List Int := putG t m.2.1 many ++ (putG t m.2.2 (many + 1) ++ [m.1])
def opsWords (t : Int) : Nat → List (Int × Int × Int) → List Int
  | _, [] => []
  | many, m :: ms => opWords t many m ++ opsWords t (many + 1) ms
def outsWords (t : Int) : Nat → List Int → List Int
  | _, [] => []
  | many, a :: os => putG t a many ++ outsWords t (many + 1) os
def dropsR (n k : Nat) : List Int := (List.replicate k (underR n 1002)).flatten
def fromR (t : Int) (ms : List (Int × Int × Int)) (os : List Int) : List Int :=
  opsWords t t.toNat ms ++ (outsWords t (t.toNat + ms.length) os ++ dropsR os.length (t.toNat + ms.length))
def progFromR (t : Int) (ms : List (Int × Int × Int)) (os : List Int) : List Int × Bool :=
  if regsB t ms os = true ∧ (fromR t ms os).length ≤ 60 then (fromR t ms os, true) else ([], false)
theorem progFromR_len (t : Int) (ms : List (Int × Int × Int)) (os : List Int) : (progFromR t ms os).1.length ≤ 1000 := by
  unfold progFromR
  split
  · rename_i h; have := h.2; simp only []; omega
  · simp
theorem dropsR_succ (n k : Nat) : dropsR n (k + 1) = dropsR n k ++ underR n 1002 := by
  unfold dropsR
  rw [List.replicate_succ', List.flatten_append]; simp
theorem opsWords_snoc (t : Int) : ∀ (ms : List (Int × Int × Int)) (many : Nat) (m : Int × Int × Int), opsWords t many (ms ++ [m]) = opsWords t many ms ++ opWords t (many + ms.length) m := by
  intro ms
  induction ms with
  | nil => intro many m; simp [opsWords]
  | cons a ms ih =>
    intro many m
    rw [List.cons_append, opsWords, opsWords, ih, List.append_assoc, List.length_cons, show many + 1 + ms.length = many + (ms.length + 1) from by omega]
theorem outsWords_snoc (t : Int) : ∀ (os : List Int) (many : Nat) (a : Int), outsWords t many (os ++ [a]) = outsWords t many os ++ putG t a (many + os.length) := by
  intro os
  induction os with
  | nil => intro many a; simp [outsWords]
  | cons b os ih =>
    intro many a
    rw [List.cons_append, outsWords, outsWords, ih, List.append_assoc, List.length_cons, show many + 1 + os.length = many + (os.length + 1) from by omega]
end Go.Proofs.YtpdhdiidkjgjmaaGreat
