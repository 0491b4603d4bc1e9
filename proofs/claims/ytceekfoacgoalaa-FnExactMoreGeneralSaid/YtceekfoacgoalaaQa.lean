/- A row or type that covers another: which letters stand for what. -/
import Derived.Test.YtceekfoacgoalaaIl
namespace Go.Proofs.Ytceekfoacgoalaa
set_option maxRecDepth 100000
open Go.RowKit Go.WideShapes

theorem nums_apart {S T : Ty} {b : Bool} {r s : List Int} (hs : S.ok b) (ht : T.ok b) (h : S.nums ++ r = T.nums ++ s) : S = T ∧ r = s := by
  induction S generalizing b T r s with
  | num =>
    cases b with
    | true => cases hs
    | false => cases T with
      | num => simp [Ty.nums] at h; exact ⟨rfl, h⟩
      | any n => simp [Ty.nums] at h
      | prog a c => simp [Ty.nums] at h
      | rest n => cases ht
      | put a c => cases ht
  | any n =>
    cases b with
    | true => cases hs
    | false => cases T with
      | num => simp [Ty.nums] at h
      | any m => simp [Ty.nums] at h; exact ⟨by rw [h.1], h.2⟩
      | prog a c => simp [Ty.nums] at h
      | rest n => cases ht
      | put a c => cases ht
  | rest n =>
    cases b with
    | false => cases hs
    | true => cases T with
      | num => cases ht
      | any m => cases ht
      | prog a c => cases ht
      | rest m => simp [Ty.nums] at h; exact ⟨by rw [h.1], h.2⟩
      | put a c => simp [Ty.nums] at h
  | prog A B iha ihb =>
    cases b with
    | true => cases hs
    | false => cases T with
      | num => simp [Ty.nums] at h
      | any m => simp [Ty.nums] at h
      | prog C D =>
        simp only [Ty.nums, List.cons_append, List.append_assoc] at h
        injection h with _ h
        obtain ⟨rfl, h2⟩ := iha hs.1 ht.1 h
        obtain ⟨rfl, h3⟩ := ihb hs.2 ht.2 h2
        exact ⟨rfl, h3⟩
      | rest n => cases ht
      | put a c => cases ht
  | put A B iha ihb =>
    cases b with
    | false => cases hs
    | true => cases T with
      | num => cases ht
      | any m => cases ht
      | prog C D => cases ht
      | rest n => simp [Ty.nums] at h
      | put C D =>
        simp only [Ty.nums, List.cons_append, List.append_assoc] at h
        injection h with _ h
        obtain ⟨rfl, h2⟩ := iha hs.1 ht.1 h
        obtain ⟨rfl, h3⟩ := ihb hs.2 ht.2 h2
        exact ⟨rfl, h3⟩
theorem nums_inj {S T : Ty} {b : Bool} (hs : S.ok b) (ht : T.ok b) (h : S.nums = T.nums) : S = T :=
  (nums_apart (r := []) (s := []) hs ht (by rw [h])).1
/-- Equal, part by part. -/
def eqTy : Ty → Ty → Bool
  | .num, .num => true
  | .any n, .any m => n == m
  | .rest n, .rest m => n == m
  | .prog a b, .prog c d => eqTy a c && eqTy b d
  | .put a b, .put c d => eqTy a c && eqTy b d
  | _, _ => false
theorem eqTy_iff (S T : Ty) : eqTy S T = true ↔ S = T := by
  induction S generalizing T with
  | num => cases T <;> simp [eqTy]
  | any n => cases T <;> simp [eqTy]
  | rest n => cases T <;> simp [eqTy]
  | prog a b iha ihb => cases T <;> simp [eqTy, iha, ihb]
  | put a b iha ihb => cases T <;> simp [eqTy, iha, ihb]
theorem eqTy_nums {S T : Ty} {b : Bool} (hs : S.ok b) (ht : T.ok b) : eqTy S T = decide (S.nums = T.nums) := by
  rw [Bool.eq_iff_iff, eqTy_iff, decide_eq_true_iff]
  exact ⟨fun h => by rw [h], nums_inj hs ht⟩
/-- What the letters stand for. -/
abbrev Sbt := Int × Int → Option Ty
def Sbt.set (σ : Sbt) (k : Int × Int) (T : Ty) : Sbt := fun x => if x = k then some T else σ x
def covT : Ty → Ty → Sbt → Option Sbt
  | .any n, u, σ => match σ (1, n) with | none => some (σ.set (1, n) u) | some v => if eqTy v u = true then some σ else none
  | .rest n, u, σ => match σ (3, n) with | none => some (σ.set (3, n) u) | some v => if eqTy v u = true then some σ else none
  | .num, .num, σ => some σ
  | .prog a b, .prog c d, σ => (covT a c σ).bind (covT b d)
  | .put a b, .put c d, σ => (covT a c σ).bind (covT b d)
  | _, _, _ => none
def moreB (A B C D : Ty) : Bool := ((covT A C (fun _ => none)).bind (covT B D)).isSome
/-- Each letter stands for a row or a type, as it is one itself. -/
def Sbt.ok (σ : Sbt) : Prop := ∀ n T, (σ (1, n) = some T → T.ok false ∧ T.nums.length ≤ 150) ∧ (σ (3, n) = some T → T.ok true ∧ T.nums.length ≤ 150)
theorem Sbt.ok_none : Sbt.ok (fun _ => none) := by
  intro n T
  constructor <;> (intro h; cases h)
theorem Sbt.set_ok {σ : Sbt} (h : σ.ok) {k n : Int} {T : Ty} {b : Bool} (hk : b = false ∧ k = 1 ∨ b = true ∧ k = 3) (hT : T.ok b) (hl : T.nums.length ≤ 150) : (σ.set (k, n) T).ok := by
  intro m U
  unfold Sbt.set
  constructor
  · intro e
    by_cases h1 : ((1 : Int), m) = (k, n)
    · rw [if_pos h1] at e; cases e
      injection h1 with h1 _
      rcases hk with ⟨rfl, _⟩ | ⟨rfl, h2⟩
      · exact ⟨hT, hl⟩
      · omega
    · rw [if_neg h1] at e; exact (h m U).1 e
  · intro e
    by_cases h1 : ((3 : Int), m) = (k, n)
    · rw [if_pos h1] at e; cases e
      injection h1 with h1 _
      rcases hk with ⟨rfl, h2⟩ | ⟨rfl, _⟩
      · omega
      · exact ⟨hT, hl⟩
    · rw [if_neg h1] at e; exact (h m U).2 e
theorem covT_ok {S T : Ty} {b : Bool} {σ τ : Sbt} (hs : S.ok b) (ht : T.ok b) (hl : T.nums.length ≤ 150) (hσ : σ.ok) (h : covT S T σ = some τ) : τ.ok := by
  induction S generalizing b T σ τ with
  | num => cases T <;> simp [covT] at h <;> subst h <;> exact hσ
  | any n =>
    have hb : b = false := by cases b with | false => rfl | true => cases hs
    subst hb
    unfold covT at h
    split at h
    · cases h; exact Sbt.set_ok hσ (.inl ⟨rfl, rfl⟩) ht hl
    · split at h
      · cases h; exact hσ
      · cases h
  | rest n =>
    have hb : b = true := by cases b with | true => rfl | false => cases hs
    subst hb
    unfold covT at h
    split at h
    · cases h; exact Sbt.set_ok hσ (.inr ⟨rfl, rfl⟩) ht hl
    · split at h
      · cases h; exact hσ
      · cases h
  | prog A B iha ihb =>
    have hb : b = false := by cases b with | false => rfl | true => cases hs
    subst hb
    cases T with
    | prog C D =>
      rw [covT] at h
      rcases h1 : covT A C σ with _ | ρ
      · rw [h1] at h; cases h
      · rw [h1] at h
        have hn : C.nums.length + D.nums.length ≤ 150 := by simp [Ty.nums] at hl; omega
        exact ihb hs.2 ht.2 (by omega) (iha hs.1 ht.1 (by omega) hσ h1) h
    | num => simp [covT] at h
    | any n => simp [covT] at h
    | rest n => simp [covT] at h
    | put a c => simp [covT] at h
  | put A B iha ihb =>
    have hb : b = true := by cases b with | true => rfl | false => cases hs
    subst hb
    cases T with
    | put C D =>
      rw [covT] at h
      rcases h1 : covT A C σ with _ | ρ
      · rw [h1] at h; cases h
      · rw [h1] at h
        have hn : C.nums.length + D.nums.length ≤ 150 := by simp [Ty.nums] at hl; omega
        exact ihb hs.2 ht.2 (by omega) (iha hs.1 ht.1 (by omega) hσ h1) h
    | num => simp [covT] at h
    | any n => simp [covT] at h
    | rest n => simp [covT] at h
    | prog a c => simp [covT] at h
end Go.Proofs.Ytceekfoacgoalaa
