/- Rows and types as terms: what the numbers say, and their text. -/
import Derived.Test.YtceekfoacgoalaaTz
import Derived.Test.YtceekfoacgoalaaBp
namespace Go.Proofs.Ytceekfoacgoalaa
set_option maxRecDepth 100000
open Go.RowKit Go.WideShapes
open Lib (decDigits)

inductive Ty
  | num
  | any (n : Int)
  | prog (a b : Ty)
  | rest (n : Int)
  | put (a b : Ty)
def Ty.nums : Ty → List Int
  | .num => [0]
  | .any n => [1, n]
  | .prog a b => 2 :: (a.nums ++ b.nums)
  | .rest n => [3, n]
  | .put a b => 4 :: (a.nums ++ b.nums)
def Ty.ok : Bool → Ty → Prop
  | false, .num => True
  | false, .any n => 0 ≤ n ∧ n ≤ 999
  | false, .prog a b => a.ok true ∧ b.ok true
  | true, .rest n => 0 ≤ n ∧ n ≤ 999
  | true, .put a b => a.ok true ∧ b.ok false
  | _, _ => False
def Ty.lets : Ty → List (Int × Int) → List (Int × Int)
  | .num, ls => ls
  | .any n, ls => addL ls (1, n)
  | .prog a b, ls => b.lets (a.lets ls)
  | .rest n, ls => addL ls (3, n)
  | .put a b, ls => b.lets (a.lets ls)
theorem lets_fc (n : Nat) (z : Int) (xs : List Int) (ls : List (Int × Int)) : lets (n + 1) false (z :: xs) ls = if z = 0 then ls else if z = 1 then addL ls (1, xs.headD (-1)) else lets n true ((eat n true xs).getD []) (lets n true xs ls) := rfl
theorem lets_tc (n : Nat) (z : Int) (xs : List Int) (ls : List (Int × Int)) : lets (n + 1) true (z :: xs) ls = if z = 3 then addL ls (3, xs.headD (-1)) else lets n false ((eat n true xs).getD []) (lets n true xs ls) := rfl
theorem eat_ty {n : Nat} {b : Bool} {zs r : List Int} (h : eat n b zs = some r) : ∃ T : Ty, T.ok b ∧ zs = T.nums ++ r ∧ ∀ ls, lets n b zs ls = T.lets ls := by
  induction n generalizing b zs r with
  | zero => cases h
  | succ n ih =>
    rcases zs with _ | ⟨z, zs⟩
    · rcases b with _ | _ <;> simp [eat] at h
    have letter : ∀ {zs r : List Int}, (if 0 ≤ zs.headD (-1) ∧ zs.headD (-1) ≤ 999 then some zs.tail else none) = some r → ∃ x, zs = x :: r ∧ 0 ≤ x ∧ x ≤ 999 := fun {zs r} h => by
      split at h
      · rename_i hc
        rcases zs with _ | ⟨x, zs⟩
        · simp at hc
        · simp at h hc; subst h; exact ⟨x, rfl, hc⟩
      · cases h
    have two : ∀ b2, (eat n true zs).bind (eat n b2) = some r → ∃ A B : Ty, A.ok true ∧ B.ok b2 ∧ zs = A.nums ++ (B.nums ++ r) ∧ ∀ ls, lets n b2 ((eat n true zs).getD []) (lets n true zs ls) = B.lets (A.lets ls) := fun b2 hr => by
      rcases h3 : eat n true zs with _ | r1
      · rw [h3] at hr; cases hr
      · rw [h3] at hr
        obtain ⟨A, a1, a2, a3⟩ := ih h3
        obtain ⟨B, b1, b2', b3⟩ := ih (show eat n b2 r1 = some r from hr)
        exact ⟨A, B, a1, b1, by rw [a2, b2'], fun ls => by rw [Option.getD_some, a3, b3]⟩
    rcases b with _ | _
    · rw [eat_f] at h
      simp only [lets_fc]
      by_cases e0 : z = 0
      · subst e0; rw [if_pos rfl] at h; cases h; exact ⟨.num, trivial, rfl, fun ls => by simp [Ty.lets]⟩
      rw [if_neg e0] at h
      by_cases e1 : z = 1
      · subst e1; rw [if_pos rfl] at h
        obtain ⟨x, rfl, hx⟩ := letter h
        exact ⟨.any x, hx, rfl, fun ls => by simp [Ty.lets]⟩
      rw [if_neg e1] at h
      by_cases e2 : z = 2
      · subst e2; rw [if_pos rfl] at h
        obtain ⟨A, B, h1, h2, h3, h4⟩ := two _ h
        exact ⟨.prog A B, ⟨h1, h2⟩, by rw [h3]; simp [Ty.nums], fun ls => by rw [if_neg e0, if_neg e1, h4]; rfl⟩
      · rw [if_neg e2] at h; cases h
    · rw [eat_t] at h
      simp only [lets_tc]
      by_cases e0 : z = 3
      · subst e0; rw [if_pos rfl] at h
        obtain ⟨x, rfl, hx⟩ := letter h
        exact ⟨.rest x, hx, rfl, fun ls => by simp [Ty.lets]⟩
      rw [if_neg e0] at h
      by_cases e1 : z = 4
      · subst e1; rw [if_pos rfl] at h
        obtain ⟨A, B, h1, h2, h3, h4⟩ := two _ h
        exact ⟨.put A B, ⟨h1, h2⟩, by rw [h3]; simp [Ty.nums], fun ls => by rw [if_neg e0, h4]; rfl⟩
      · rw [if_neg e1] at h; cases h
theorem nums_pos (T : Ty) : 0 < T.nums.length := by cases T <;> simp [Ty.nums]
theorem ty_eat {T : Ty} {b : Bool} (h : T.ok b) (r : List Int) {n : Nat} (hn : T.nums.length ≤ n) : eat n b (T.nums ++ r) = some r := by
  induction T generalizing b r n with
  | num =>
    rcases b with _ | _
    · obtain ⟨n, rfl⟩ : ∃ q, n = q + 1 := ⟨n - 1, by simp [Ty.nums] at hn; omega⟩
      simp [eat, Ty.nums]
    · cases h
  | any x =>
    rcases b with _ | _
    · obtain ⟨n, rfl⟩ : ∃ q, n = q + 1 := ⟨n - 1, by simp [Ty.nums] at hn; omega⟩
      have : 0 ≤ x ∧ x ≤ 999 := h
      simp [eat, Ty.nums, this]
    · cases h
  | rest x =>
    rcases b with _ | _
    · cases h
    · obtain ⟨n, rfl⟩ : ∃ q, n = q + 1 := ⟨n - 1, by simp [Ty.nums] at hn; omega⟩
      have : 0 ≤ x ∧ x ≤ 999 := h
      simp [eat, Ty.nums, this]
  | prog A B iha ihb =>
    rcases b with _ | _
    · obtain ⟨n, rfl⟩ : ∃ q, n = q + 1 := ⟨n - 1, by simp [Ty.nums] at hn; omega⟩
      obtain ⟨h1, h2⟩ : A.ok true ∧ B.ok true := h
      have hl : A.nums.length + B.nums.length ≤ n := by simp [Ty.nums] at hn; omega
      have e1 := iha h1 (B.nums ++ r) (n := n) (by omega)
      have e2 := ihb h2 r (n := n) (by omega)
      simp [eat, Ty.nums, e1, e2]
    · cases h
  | put A B iha ihb =>
    rcases b with _ | _
    · cases h
    · obtain ⟨n, rfl⟩ : ∃ q, n = q + 1 := ⟨n - 1, by simp [Ty.nums] at hn; omega⟩
      obtain ⟨h1, h2⟩ : A.ok true ∧ B.ok false := h
      have hl : A.nums.length + B.nums.length ≤ n := by simp [Ty.nums] at hn; omega
      have e1 := iha h1 (B.nums ++ r) (n := n) (by omega)
      have e2 := ihb h2 r (n := n) (by omega)
      simp [eat, Ty.nums, e1, e2]
/-- The text. -/
def Ty.txt : Ty → List UInt8
  | .num => [110]
  | .any n => 116 :: decDigits n.toNat
  | .prog a b => 40 :: (a.txt ++ ([32, 45, 62, 32] ++ (b.txt ++ [41])))
  | .rest n => 114 :: decDigits n.toNat
  | .put a b => a.txt ++ (32 :: b.txt)

end Go.Proofs.Ytceekfoacgoalaa
