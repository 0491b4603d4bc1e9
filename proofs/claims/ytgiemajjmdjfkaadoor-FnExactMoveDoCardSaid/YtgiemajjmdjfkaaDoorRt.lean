/- Rows of rows: one of the inner ones laid anew; the exact laws' helpers that copy and weigh them. -/
import Derived.Test.YtgiemajjmdjfkaaDoorPb
namespace Go.Proofs.YtgiemajjmdjfkaaDoor
set_option maxRecDepth 100000
open Go.RowKit Go.WideShapes

section
variable {w w1 w2 : World}
/-- A world that differs from w1 at most in block g. -/
theorem OwnVs.set {lo g cap : Nat} {vs : List Value} {zss : List (List Int)} {u : Value} {zs : List Int} {k : Nat} (h : OwnVs w lo w.heap.size (.slice (some ⟨g, 0, none⟩) zss.length cap) vs zss) (hb : Below w.heap.size w w1) (hu : OwnI w1 w.heap.size w1.heap.size u zs) (hlo : lo ≤ w.heap.size) (hk : k < zss.length) :
    OwnVs (w1.setCell ⟨g, k, none⟩ u) lo (w1.setCell ⟨g, k, none⟩ u).heap.size (.slice (some ⟨g, 0, none⟩) (zss.set k zs).length cap) (vs.set k u) (zss.set k zs) := by
  have hg := (h.row.lt g rfl).2
  have hrow1 : w1.ownsRow lo 23 1 (.slice (some ⟨g, 0, none⟩) zss.length cap) zss.length vs := h.row.kept (row := none) (only_of_below hb none) (.inr (by simp [Value.ownBlock]))
  obtain ⟨hst, hgr⟩ := hrow1.stored k u
  have hsz : (w1.setCell ⟨g, k, none⟩ u).heap.size = w1.heap.size := by simp [World.setCell]
  have hwb := hb.size
  have hkeep : ∀ q lo' hi' ys, OwnI w1 lo' hi' q ys → (q.ownBlock = none ∨ q.ownBlock ≠ some g) → OwnI (w1.setCell ⟨g, k, none⟩ u) lo' hi' q ys := fun q lo' hi' ys hq hne => ⟨hq.own.only hgr hne, hq.lt⟩
  have hget : ∀ (i : Nat) q ys, (vs.set k u)[i]? = some q → (zss.set k zs)[i]? = some ys → (i ≠ k ∧ vs[i]? = some q ∧ zss[i]? = some ys) ∨ (i = k ∧ q = u ∧ ys = zs) := by
    intro i q ys hq hy
    rw [List.getElem?_set] at hq hy
    by_cases hi : k = i
    · subst hi
      rw [if_pos rfl, if_pos (by rw [h.len]; exact hk)] at hq
      rw [if_pos rfl, if_pos hk] at hy
      cases hq; cases hy
      exact .inr ⟨rfl, rfl, rfl⟩
    · rw [if_neg hi] at hq hy
      exact .inl ⟨fun e => hi e.symm, hq, hy⟩
  have hlast : ∀ (i : Nat) q, (vs.set k u)[i]? = some q → (i ≠ k ∧ vs[i]? = some q ∧ ∃ ys, zss[i]? = some ys) ∨ (i = k ∧ q = u) := by
    intro i q hq
    have hi : i < zss.length := by
      have : i < (vs.set k u).length := by
        rcases Nat.lt_or_ge i (vs.set k u).length with h' | h'
        · exact h'
        · rw [List.getElem?_eq_none h'] at hq; cases hq
      rw [List.length_set, h.len] at this; exact this
    have hy : (zss.set k zs)[i]? = some ((zss.set k zs)[i]'(by rw [List.length_set]; exact hi)) := List.getElem?_eq_getElem _
    rcases hget i q _ hq hy with ⟨h1, h2, h3⟩ | ⟨h1, h2, _⟩
    · exact .inl ⟨h1, h2, _, h3⟩
    · exact .inr ⟨h1, h2⟩
  refine ⟨by rw [List.length_set, List.length_set, h.len], by rw [List.length_set]; exact hst, fun g' hg' => by rw [hsz]; have hg2 : g = g' := (by simpa [Value.ownBlock] using hg'); omega, ?_, ?_⟩
  · intro j q ys hq hy
    rcases hget j q ys hq hy with ⟨_, h1, h2⟩ | ⟨_, rfl, rfl⟩
    · have h3 := h.inner j q ys h1 h2
      have h4 := hkeep q _ _ ys (h3.below hb) (by
        rcases e : q.ownBlock with _ | g'
        · exact .inl rfl
        · right
          rcases h.inner_ne h1 h2 with h5 | h5
          · simp [Value.ownBlock] at h5
          · rw [← e]; exact fun e' => h5 (by rw [e']; rfl))
      exact ⟨h4.own, fun g' hg' => by have := h4.lt g' hg'; rw [hsz]; omega⟩
    · have h4 := hkeep q _ _ ys hu (by
        rcases e : q.ownBlock with _ | g'
        · exact .inl rfl
        · right
          intro e'
          have h6 := (hu.own.ge g' e).1
          cases e'; omega)
      exact ⟨h4.own.mono hlo, fun g' hg' => by have := h4.lt g' hg'; rw [hsz]; omega⟩
  · intro i j q q' g' hij hq hq' e e'
    rcases hlast i q hq with ⟨_, h1, ys, h2⟩ | ⟨hi, rfl⟩ <;> rcases hlast j q' hq' with ⟨_, h3, ys', h4⟩ | ⟨hj, rfl⟩
    · exact h.apart i j q q' g' hij h1 h3 e e'
    · have h5 := (h.inner i q ys h1 h2).lt g' e
      have h6 := (hu.own.ge g' e').1
      omega
    · have h5 := (h.inner j q' ys' h3 h4).lt g' e'
      have h6 := (hu.own.ge g' e).1
      omega
    · omega
end

theorem OwnS.mono {w : World} {lo lo' hi : Nat} {v : Value} {zss : List (List Int)} (h : OwnS w lo' hi v zss) (hl : lo ≤ lo') : OwnS w lo hi v zss := by
  obtain ⟨vs, h⟩ := h
  refine ⟨vs, h.len, ⟨h.row.1, ?_⟩, h.lt, fun j u zs hu hz => ⟨(h.inner j u zs hu hz).own.mono hl, (h.inner j u zs hu hz).lt⟩, h.apart⟩
  rcases h.row.2 with h0 | ⟨g, cap, cur, rfl, hb, hr⟩
  · exact .inl h0
  · exact .inr ⟨g, cap, cur, rfl, by omega, hr⟩
theorem OwnS.widen {w : World} {lo hi hi' : Nat} {v : Value} {zss : List (List Int)} (h : OwnS w lo hi v zss) (hl : hi ≤ hi') : OwnS w lo hi' v zss := by
  obtain ⟨vs, h⟩ := h
  exact ⟨vs, h.len, h.row, fun g hg => Nat.lt_of_lt_of_le (h.lt g hg) hl, fun j u zs hu hz => ⟨(h.inner j u zs hu hz).own, fun g hg => Nat.lt_of_lt_of_le ((h.inner j u zs hu hz).lt g hg) hl⟩, h.apart⟩

theorem fillS_set (zss : List (List Int)) (k : Nat) (h : k < zss.length) : ((zss.take k ++ List.replicate (zss.length - k) []).set k zss[k]) = (zss.take (k + 1) ++ List.replicate (zss.length - (k + 1)) []) := by
  have hl : (zss.take k).length = k := by rw [List.length_take]; omega
  have hrep : List.replicate (zss.length - k) ([] : List Int) = [] :: List.replicate (zss.length - (k + 1)) [] := by
    rw [show zss.length - k = (zss.length - (k + 1)) + 1 from by omega, List.replicate_succ]
  rw [hrep, List.set_append_right _ _ (by omega), hl, Nat.sub_self, List.set_cons_zero, List.take_add_one, List.getElem?_eq_getElem h]
  simp only [Option.toList_some, List.append_assoc, List.cons_append, List.nil_append]
theorem fillS_len (zss : List (List Int)) (k : Nat) (h : k ≤ zss.length) : (zss.take k ++ List.replicate (zss.length - k) ([] : List Int)).length = zss.length := by
  simp; omega

/-- A row of nil slices: rows of no numbers. -/
theorem OwnVs.nils {w : World} {lo g n cap : Nat} (h : w.ownsRow lo 23 1 (.slice (some ⟨g, 0, none⟩) n cap) n (List.replicate n (.slice none 0 0))) : OwnVs w lo w.heap.size (.slice (some ⟨g, 0, none⟩) (List.replicate n ([] : List Int)).length cap) (List.replicate n (.slice none 0 0)) (List.replicate n []) := by
  have hin : ∀ (i : Nat) (q : Value), (List.replicate n (Value.slice none 0 0))[i]? = some q → q = .slice none 0 0 := by
    intro i q hq
    rw [List.getElem?_replicate] at hq
    split at hq
    · cases hq; rfl
    · cases hq
  have hin2 : ∀ (i : Nat) (q : List Int), (List.replicate n ([] : List Int))[i]? = some q → q = [] := by
    intro i q hq
    rw [List.getElem?_replicate] at hq
    split at hq
    · cases hq; rfl
    · cases hq
  refine ⟨by simp, by simpa using h, fun g' hg' => (h.lt g' hg').2, ?_, ?_⟩
  · intro j u zs hu hz
    rw [hin j u hu, hin2 j zs hz]
    exact ⟨⟨World.ownsRow_nil _ _ _ _, by simp⟩, by simp [Value.ownBlock]⟩
  · intro i j u u' g' _ hu _ e
    rw [hin i u hu] at e
    simp [Value.ownBlock] at e

/-- What is left of n behind rows: -1 where it does not last. -/
def leftS (n : Int) (zss : List (List Int)) : Int := if n - (zss.length : Int) < 0 then -1 else if n - (zss.length : Int) - (szS zss : Int) < 0 then -1 else n - (zss.length : Int) - (szS zss : Int)
theorem leftS_ok {n : Int} {zss : List (List Int)} (h : ¬ leftS n zss < 0) : (zss.length : Int) ≤ n ∧ (szS zss : Int) ≤ n := by
  unfold leftS at h
  split at h
  · omega
  · split at h
    · omega
    · omega
theorem szS_mem {zss : List (List Int)} {zs : List Int} (h : zs ∈ zss) : zs.length ≤ szS zss := by
  induction zss with
  | nil => cases h
  | cons a r ih =>
    rw [szS]
    rcases List.mem_cons.1 h with rfl | h
    · omega
    · have := ih h; omega

end Go.Proofs.YtgiemajjmdjfkaaDoor
