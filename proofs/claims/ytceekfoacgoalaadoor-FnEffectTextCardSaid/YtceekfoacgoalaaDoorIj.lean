/- What FnEffectOk and FnNeedsOf ask: an effect with a number on both rows' tops, and an effect from a row to itself. -/
import Derived.Test.YtceekfoacgoalaaDoorTz
import Derived.Test.YtceekfoacgoalaaDoorNe
import Derived.Test.YtceekfoacgoalaaDoorB2
namespace Go.Proofs.YtceekfoacgoalaaDoor
set_option maxRecDepth 100000
open Go.RowKit Go.WideShapes

theorem lets_mono {n m : Nat} {b : Bool} {xs r : List Int} (h : eat n b xs = some r) (hm : n ≤ m) (ls : List (Int × Int)) : lets m b xs ls = lets n b xs ls := by
  induction n generalizing m b xs r ls with
  | zero => cases h
  | succ n ih =>
    obtain ⟨m, rfl⟩ : ∃ q, m = q + 1 := ⟨m - 1, by omega⟩
    have h2 : ∀ b2, (eat n true xs.tail).bind (eat n b2) = some r → ∀ ls, lets m b2 ((eat m true xs.tail).getD []) (lets m true xs.tail ls) = lets n b2 ((eat n true xs.tail).getD []) (lets n true xs.tail ls) := fun b2 hr ls => by
      rcases h3 : eat n true xs.tail with _ | r1
      · rw [h3] at hr; cases hr
      · rw [h3] at hr
        rw [eat_mono h3 (by omega : n ≤ m), ih h3 (by omega)]
        exact ih (show eat n b2 r1 = some r from hr) (by omega) _
    rcases b with _ | _
    · rw [eat] at h
      rw [lets, lets]
      split at h
      · rename_i e; rw [if_pos e, if_pos e]
      rename_i e0
      rw [if_neg e0, if_neg e0]
      split at h
      · rename_i e; rw [if_pos e, if_pos e]
      rename_i e1
      rw [if_neg e1, if_neg e1]
      split at h
      · exact h2 _ h _
      · cases h
    · rw [eat] at h
      rw [lets, lets]
      split at h
      · rename_i e; rw [if_pos e, if_pos e]
      rename_i e0
      rw [if_neg e0, if_neg e0]
      split at h
      · exact h2 _ h _
      · cases h
theorem lets_more {t : List Int} (h : eat t.length true t = some []) (ls : List (Int × Int)) : lets ([4] ++ t ++ [0]).length true ([4] ++ t ++ [0]) ls = lets t.length true t ls := by
  obtain ⟨p, hp, _, hs, hl⟩ := eat_pre (eat_mono h (Nat.le_succ _))
  rw [List.append_nil] at hp
  subst hp
  have hlen : ([4] ++ t ++ [0]).length = t.length + 1 + 1 := by simp
  rw [hlen]
  show lets (t.length + 1 + 1) true (4 :: (t ++ [0])) ls = _
  rw [lets]
  rw [if_neg (by simp)]
  simp only [List.tail_cons]
  rw [hs [0], hl [0], lets_mono h (Nat.le_succ _)]
  rfl
theorem lead_more (t : List Int) : leadR ([4] ++ t ++ [0]) = leadR t + 1 := by
  show leadR (4 :: (t ++ [0])) = _
  rw [leadR, if_pos rfl]
  congr 1
  induction t with
  | nil => rfl
  | cons z t ih => rw [List.cons_append, leadR, leadR, ih]
theorem effB_more {a b : List Int} (h : effB a b = true) (ha : rowB ([4] ++ a ++ [0]) = true) (hb : rowB ([4] ++ b ++ [0]) = true) : effB ([4] ++ a ++ [0]) ([4] ++ b ++ [0]) = true := by
  obtain ⟨ra, rb⟩ := effB_rows h
  obtain ⟨la, lb, h1, h2, h3⟩ := effB_yes ra rb
  obtain ⟨ma, mb, k1, k2, k3⟩ := effB_yes ha hb
  obtain ⟨_, e1, rfl⟩ := wholeR_some h1
  obtain ⟨_, e2, rfl⟩ := wholeR_some h2
  obtain ⟨_, _, rfl⟩ := wholeR_some k1
  obtain ⟨_, _, rfl⟩ := wholeR_some k2
  rw [k3, lets_more e1, lets_more e2, ← h3]; exact h
theorem needs_more {a b : List Int} (h : effB a b = true) (ha : rowB ([4] ++ a ++ [0]) = true) (hb : rowB ([4] ++ b ++ [0]) = true) : needsR ([4] ++ a ++ [0]) ([4] ++ b ++ [0]) = ((leadR a : Int) + 1, (leadR b : Int) + 1) := by
  rw [needsR, if_pos (effB_more h ha hb), lead_more, lead_more]; rfl
theorem lets_ext (n : Nat) (b : Bool) (xs : List Int) (ls : List (Int × Int)) : ∃ e, lets n b xs ls = ls ++ e := by
  have add : ∀ (ls : List (Int × Int)) (kn : Int × Int), ∃ e, addL ls kn = ls ++ e := fun ls kn => by
    unfold addL; split
    · exact ⟨[], by simp⟩
    · exact ⟨[kn], rfl⟩
  induction n generalizing b xs ls with
  | zero => exact ⟨[], by simp [lets]⟩
  | succ n ih =>
    have two : ∀ b2, ∃ e, lets n b2 ((eat n true xs.tail).getD []) (lets n true xs.tail ls) = ls ++ e := fun b2 => by
      obtain ⟨e1, h1⟩ := ih true xs.tail ls
      obtain ⟨e2, h2⟩ := ih b2 ((eat n true xs.tail).getD []) (lets n true xs.tail ls)
      exact ⟨e1 ++ e2, by rw [h2, h1, List.append_assoc]⟩
    rcases b with _ | _
    · rw [lets]; split
      · exact ⟨[], by simp⟩
      · split
        · exact add _ _
        · exact two _
    · rw [lets]; split
      · exact add _ _
      · exact two _
theorem nameB_pre (l e : List (Int × Int)) (a b : Int) (h : nameB a b (l ++ e) = true) : nameB a b l = true := by
  induction l generalizing a b with
  | nil => rfl
  | cons x l ih =>
    obtain ⟨k, n⟩ := x
    simp only [List.cons_append, nameB] at h ⊢
    split at h
    · rename_i hk; rw [if_pos hk]
      rw [Bool.and_eq_true] at h ⊢
      exact ⟨h.1, ih _ _ h.2⟩
    · rename_i hk; rw [if_neg hk]
      rw [Bool.and_eq_true] at h ⊢
      exact ⟨h.1, ih _ _ h.2⟩
theorem lets_again {a : List Int} (h : eat a.length true a = some []) : lets a.length true a (lets a.length true a []) = lets a.length true a [] := by
  obtain ⟨e, he⟩ := lets_ext a.length true a (lets a.length true a [])
  have hn : (lets a.length true a (lets a.length true a [])).Nodup := lets_nodup _ _ _ _ (lets_nodup _ _ _ _ (by simp))
  rcases e with _ | ⟨x, e⟩
  · rw [he, List.append_nil]
  · exfalso
    have hx : x ∈ lets a.length true a (lets a.length true a []) := by rw [he]; simp
    have hx2 : x ∈ lets a.length true a [] := by
      rcases (lets_mem h).1 hx with h1 | h1
      · exact h1
      · exact (lets_mem h).2 (.inr h1)
    rw [he] at hn
    exact (List.nodup_append.1 hn).2.2 x hx2 x (by simp) rfl
theorem effB_self {a b : List Int} (h : effB a b = true) : effB a a = true := by
  obtain ⟨ra, rb⟩ := effB_rows h
  obtain ⟨la, lb, h1, h2, h3⟩ := effB_yes ra rb
  obtain ⟨ma, mb, k1, k2, k3⟩ := effB_yes ra ra
  obtain ⟨_, e1, rfl⟩ := wholeR_some h1
  obtain ⟨_, e2, rfl⟩ := wholeR_some h2
  obtain ⟨_, _, rfl⟩ := wholeR_some k1
  obtain ⟨_, _, rfl⟩ := wholeR_some k2
  rw [k3, lets_again e1]
  obtain ⟨e, he⟩ := lets_ext b.length true b (lets a.length true a [])
  rw [h3, he] at h
  exact nameB_pre _ _ _ _ h
def OwnV (w : World) (lo hi : Nat) (_ : Value) (zs : List Value) : Prop := Blk w lo zs.toArray 27 ∧ lo < hi
theorem OwnV.belowB {w w' : World} {lo hi B : Nat} {v : Value} {zs : List Value} (h : OwnV w lo hi v zs) (hb : Below B w w') (hB : hi ≤ B) : OwnV w' lo hi v zs := ⟨h.1.below hb (by have := h.2; omega), h.2⟩
theorem OwnV.ef {w : World} {lo hi : Nat} {v u0 u1 : Value} (h : OwnV w lo hi v [u0, u1]) : w.cell? ⟨lo, 0, none⟩ = some u0 ∧ w.cell? ⟨lo, 1, none⟩ = some u1 := ⟨h.1.cell 0, h.1.cell 1⟩
theorem OwnV.new (w : World) (v u0 u1 : Value) : OwnV (w.alloc (.cells #[u0, u1] 27)) w.heap.size (w.heap.size + 1) v [u0, u1] := ⟨Blk.new w _ _, Nat.lt_succ_self _⟩
theorem EffectOk_Iy (v0 v1 : Value) (a b : List Int) (w : World) (h0 : RdI w v0 a) (h1 : RdI w v1 b) (y : Bool) (hy : effB a b = y) :
    Calls Tryd.prog 11 #[.agg #[v0, v1]] w fun e w' => e = .returned (.bool y) ∧ Below w.heap.size w w' := by
  subst hy; exact EffectOk_I v0 v1 a b w h0 h1
end Go.Proofs.YtceekfoacgoalaaDoor
