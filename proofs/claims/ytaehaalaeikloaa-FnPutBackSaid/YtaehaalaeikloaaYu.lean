/- Two results in memory, a row of rows and a row: where they lie; marked and held apart. -/
import Derived.Test.YtaehaalaeikloaaB2
import Derived.Test.YtaehaalaeikloaaB1
namespace Go.Proofs.Ytaehaalaeikloaa
set_option maxRecDepth 100000
open Go.RowKit Go.WideShapes

def FreeOf (m n : Nat) (v : Value) : Prop := ∀ g, v.ownBlock = some g → g < m ∨ n ≤ g
/-- Rows of rows of the call's own in the blocks from lo on and below hi, but none from m on and below n. -/
def OwnSH (w : World) (lo hi m n : Nat) (v : Value) (zss : List (List Int)) : Prop :=
  ∃ vs, OwnVs w lo hi v vs zss ∧ FreeOf m n v ∧ ∀ (j : Nat) u, vs[j]? = some u → FreeOf m n u
def Own2 (w : World) (lo hi : Nat) (v : Value) (zss : List (List Int)) (u : Value) (zs : List Int) : Prop :=
  ∃ m n, lo ≤ m ∧ m ≤ n ∧ n ≤ hi ∧ OwnSH w lo hi m n v zss ∧ OwnI w m n u zs
section
variable {w w' : World} {lo hi m n lo' hi' : Nat} {v u : Value} {zss : List (List Int)} {zs : List Int}
theorem OwnSH.own (h : OwnSH w lo hi m n v zss) : OwnS w lo hi v zss := by obtain ⟨vs, h, _⟩ := h; exact ⟨vs, h⟩
theorem OwnSH.rd (h : OwnSH w lo hi m n v zss) : RdS w v zss := h.own.rd
theorem OwnSH.below (h : OwnSH w lo hi m n v zss) (hb : Below w.heap.size w w') : OwnSH w' lo hi m n v zss := by
  obtain ⟨vs, h, h1, h2⟩ := h
  refine ⟨vs, ⟨h.len, h.row.kept (row := none) (only_of_below hb none) ?_, h.lt, fun j u zs hu hz => (h.inner j u zs hu hz).below hb, h.apart⟩, h1, h2⟩
  rcases e : v.ownBlock with _ | g
  · exact .inl rfl
  · exact .inr (by simp)
theorem OwnSH.apart (h : OwnSH w lo hi m n v zss) (hw : Within lo' hi' w w') (hd : hi ≤ lo' ∨ hi' ≤ lo) : OwnSH w' lo hi m n v zss := by
  obtain ⟨vs, h, h1, h2⟩ := h
  refine ⟨vs, ⟨h.len, ⟨h.row.1, ?_⟩, h.lt, fun j u zs hu hz => (h.inner j u zs hu hz).apart hw hd, h.apart⟩, h1, h2⟩
  rcases h.row.2 with h0 | ⟨g, cap, cur, rfl, hb, hh, h3⟩
  · exact .inl h0
  · have hg := h.lt g rfl
    exact .inr ⟨g, cap, cur, rfl, hb, (hw.block g (h.row.lt g rfl).2 (by omega)).trans hh, h3⟩
/-- A store into the hole leaves them alone. -/
theorem OwnSH.hole (h : OwnSH w lo hi m n v zss) (hw : Within m n w w') : OwnSH w' lo hi m n v zss := by
  obtain ⟨vs, h, h1, h2⟩ := h
  refine ⟨vs, ⟨h.len, ⟨h.row.1, ?_⟩, h.lt, fun j u zs hu hz => ?_, h.apart⟩, h1, h2⟩
  · rcases h.row.2 with h0 | ⟨g, cap, cur, rfl, hb, hh, h3⟩
    · exact .inl h0
    · have hg := h1 g rfl
      exact .inr ⟨g, cap, cur, rfl, hb, (hw.block g (h.row.lt g rfl).2 (by omega)).trans hh, h3⟩
  · have hi := h.inner j u zs hu hz
    refine ⟨⟨?_, hi.own.wf⟩, hi.lt⟩
    rcases hi.own.own.2 with h0 | ⟨g, cap, cur, rfl, hb, hh, h3⟩
    · exact ⟨hi.own.own.1, .inl h0⟩
    · have hg := h2 j _ hu g rfl
      exact ⟨hi.own.own.1, .inr ⟨g, cap, cur, rfl, hb, (hw.block g (hi.own.own.lt g rfl).2 (by omega)).trans hh, h3⟩⟩
theorem OwnSH.widen (h : OwnSH w lo hi m n v zss) (hh : hi ≤ hi') : OwnSH w lo hi' m n v zss := by
  obtain ⟨vs, h, h1, h2⟩ := h
  exact ⟨vs, ⟨h.len, h.row, fun g hg => Nat.lt_of_lt_of_le (h.lt g hg) hh, fun j u zs hu hz => ⟨(h.inner j u zs hu hz).own, fun g hg => Nat.lt_of_lt_of_le ((h.inner j u zs hu hz).lt g hg) hh⟩, h.apart⟩, h1, h2⟩
theorem Own2.below (h : Own2 w lo hi v zss u zs) (hb : Below w.heap.size w w') : Own2 w' lo hi v zss u zs := by
  obtain ⟨m, n, h1, h2, h3, h4, h5⟩ := h; exact ⟨m, n, h1, h2, h3, h4.below hb, h5.below hb⟩
theorem Own2.apart (h : Own2 w lo hi v zss u zs) (hw : Within lo' hi' w w') (hd : hi ≤ lo' ∨ hi' ≤ lo) : Own2 w' lo hi v zss u zs := by
  obtain ⟨m, n, h1, h2, h3, h4, h5⟩ := h; exact ⟨m, n, h1, h2, h3, h4.apart hw hd, h5.apart hw (by omega)⟩
theorem Own2.rdS (h : Own2 w lo hi v zss u zs) : RdS w v zss := by obtain ⟨m, n, h1, h2, h3, h4, h5⟩ := h; exact h4.rd
theorem Own2.rdI (h : Own2 w lo hi v zss u zs) : RdI w u zs := by obtain ⟨m, n, h1, h2, h3, h4, h5⟩ := h; exact h5.rd
theorem OwnI.keep9 (h : OwnI w m n u zs) (hk : ∀ k, k < w.heap.size → m ≤ k → k < n → w'.heap[k]? = w.heap[k]?) : OwnI w' m n u zs := by
  refine ⟨⟨?_, h.own.wf⟩, h.lt⟩
  rcases h.own.own.2 with h0 | ⟨g, cap, cur, rfl, hb, hh, h3⟩
  · exact ⟨h.own.own.1, .inl h0⟩
  · exact ⟨h.own.own.1, .inr ⟨g, cap, cur, rfl, hb, (hk g (h.own.own.lt g rfl).2 hb (h.lt g rfl)).trans hh, h3⟩⟩
/-- Rows that all lie behind the hole. -/
theorem OwnS.behind (h : OwnS w lo' hi v zss) (hl : lo ≤ lo') (hn : n ≤ lo') : OwnSH w lo hi m n v zss := by
  obtain ⟨vs, h⟩ := h
  refine ⟨vs, ⟨h.len, ?_, h.lt, fun j u zs hu hz => ⟨(h.inner j u zs hu hz).own.mono hl, (h.inner j u zs hu hz).lt⟩, h.apart⟩, fun g hg => .inr (Nat.le_trans hn (h.row.lt g hg).1), fun j u hu g hg => ?_⟩
  · refine ⟨h.row.1, ?_⟩
    rcases h.row.2 with h0 | ⟨g, cap, cur, e, hb, hh⟩
    · exact .inl h0
    · exact .inr ⟨g, cap, cur, e, Nat.le_trans hl hb, hh⟩
  · have hj : j < zss.length := by
      rw [← h.len]
      rcases Nat.lt_or_ge j vs.length with h' | h'
      · exact h'
      · rw [List.getElem?_eq_none h'] at hu; cases hu
    exact .inr (Nat.le_trans hn ((h.inner j u _ hu (List.getElem?_eq_getElem hj)).own.ge g hg).1)
def CapV : Value → Prop
  | .slice _ n c => n ≤ c
  | _ => True
theorem OwnS.capV (h : OwnS w lo hi v zss) : CapV v := by
  obtain ⟨vs, h⟩ := h
  rcases h.row.2 with ⟨rfl, h1⟩ | ⟨g, cap, cur, rfl, hb, hh, h1, h2, _⟩
  · exact Nat.le_refl _
  · exact h1
theorem Own2.capV (h : Own2 w lo hi v zss u zs) : CapV v := by obtain ⟨m, n, h1, h2, h3, h4, h5⟩ := h; exact h4.own.capV
theorem own2_nil (w : World) (lo hi : Nat) (h : lo ≤ hi) : Own2 w lo hi (.slice none 0 0) [] (.slice none 0 0) [] := by
  refine ⟨lo, lo, Nat.le_refl _, Nat.le_refl _, h, ⟨[], ⟨rfl, World.ownsRow_nil _ _ _ _, fun g hg => by simp [Value.ownBlock] at hg, fun j u zs hu => by simp at hu, fun i j u u' g _ hu => by simp at hu⟩, fun g hg => by simp [Value.ownBlock] at hg, fun j u hu => by simp at hu⟩, ⟨Own.nil w lo, fun g hg => by simp [Value.ownBlock] at hg⟩⟩
end
end Go.Proofs.Ytaehaalaeikloaa
