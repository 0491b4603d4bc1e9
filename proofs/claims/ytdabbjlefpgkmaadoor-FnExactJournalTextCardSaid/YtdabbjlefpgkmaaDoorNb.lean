/- Rows of strings: read, or the call's own; append of one. -/
import Derived.Test.YtdabbjlefpgkmaaDoorTab
import Derived.Test.YtdabbjlefpgkmaaDoorB1
namespace Go.Proofs.YtdabbjlefpgkmaaDoor
set_option maxRecDepth 100000
open Go.RowKit Go.WideShapes

theorem strInfo : (Tryd.prog.info? 9).map (fun i => (i.zero, i.size, i.bytes)) = some (some (.string ⟨#[]⟩), 1, 16) := by kernel_rfl

/-- A slice value that reads as the strings ss, all of it below block B. -/
def RdBT (w : World) (B : Nat) (v : Value) (ss : List (List UInt8)) : Prop := ∃ A c, v = .slice A ss.length c ∧ ss.length ≤ c ∧ ss.length ≤ 9223372036854775807 ∧
  (0 < ss.length → ∃ b off, A = some ⟨b, off, none⟩ ∧ b < B ∧ ∀ j s, ss[j]? = some s → w.cell? ⟨b, off + j, none⟩ = some (.string ⟨s.toArray⟩))
abbrev RdT (w : World) (v : Value) (ss : List (List UInt8)) : Prop := RdBT w w.heap.size v ss
theorem RdBT.keep {w w' : World} {B : Nat} {v : Value} {ss : List (List UInt8)} (h : RdBT w B v ss) (hk : ∀ p : Addr, p.block < B → w'.cell? p = w.cell? p) : RdBT w' B v ss := by
  obtain ⟨A, c, rfl, hc, hl, hr⟩ := h
  refine ⟨A, c, rfl, hc, hl, fun h0 => ?_⟩
  obtain ⟨b, off, e, hb, hx⟩ := hr h0
  exact ⟨b, off, e, hb, fun j s hj => (hk _ hb).trans (hx j s hj)⟩
theorem RdBT.below {w w' : World} {B : Nat} {v : Value} {ss : List (List UInt8)} (h : RdBT w B v ss) (hb : Below B w w') : RdBT w' B v ss := h.keep fun _ hp => hb.cell hp
theorem RdBT.mono {w : World} {B B' : Nat} {v : Value} {ss : List (List UInt8)} (h : RdBT w B v ss) (hB : B ≤ B') : RdBT w B' v ss := by
  obtain ⟨A, c, rfl, hc, hl, hr⟩ := h
  refine ⟨A, c, rfl, hc, hl, fun h0 => ?_⟩
  obtain ⟨b, off, e, hb, hx⟩ := hr h0
  exact ⟨b, off, e, by omega, hx⟩
theorem RdT.step {w w' : World} {v : Value} {ss : List (List UInt8)} (h : RdT w v ss) (hb : Below w.heap.size w w') : RdT w' v ss := (RdBT.below h hb).mono hb.size

/-- A row of strings of the call's own, in the blocks from lo on and below hi. -/
structure OwnT (w : World) (lo hi : Nat) (v : Value) (ss : List (List UInt8)) : Prop where
  own : w.ownsRow lo 9 1 v ss.length (strVals ss)
  lt : ∀ g, v.ownBlock = some g → g < hi
theorem strVals_get {ss : List (List UInt8)} {j : Nat} {s : List UInt8} (h : ss[j]? = some s) : (strVals ss)[j]? = some (.string ⟨s.toArray⟩) := by simp [strVals, h]
section
variable {w w' : World} {lo hi : Nat} {v : Value} {ss : List (List UInt8)}
theorem OwnT.rd (h : OwnT w lo hi v ss) : RdT w v ss := by
  rcases hx : h.own.2 with ⟨rfl, h0⟩ | ⟨g, cap, cur, rfl, hb, hh, h1, h2, _⟩
  · have hz : ss = [] := List.eq_nil_of_length_eq_zero h0
    subst hz
    exact ⟨none, 0, rfl, by simp, by simp, fun h => by simp at h⟩
  · refine ⟨_, _, rfl, h1, by unfold maxLen at h2; omega, fun _ => ⟨g, 0, rfl, (h.own.lt g rfl).2, fun j s hj => ?_⟩⟩
    have hjl : j < ss.length := by
      rcases Nat.lt_or_ge j ss.length with h' | h'
      · exact h'
      · rw [List.getElem?_eq_none h'] at hj; cases hj
    rw [Nat.zero_add, h.own.cellAt j (by omega), strVals_get hj]
theorem OwnT.lenV (h : OwnT w lo hi v ss) : ∃ A c, v = .slice A ss.length c := by
  obtain ⟨A, c, rfl, _⟩ := h.rd
  exact ⟨A, c, rfl⟩
theorem OwnT.apart {lo' hi' : Nat} (h : OwnT w lo hi v ss) (hw : Within lo' hi' w w') (hd : hi ≤ lo' ∨ hi' ≤ lo) : OwnT w' lo hi v ss := by
  refine ⟨?_, h.lt⟩
  rcases h.own.2 with h0 | ⟨g, cap, cur, rfl, hb, hh, h1⟩
  · exact ⟨h.own.1, .inl h0⟩
  · have hg := h.lt g rfl
    exact ⟨h.own.1, .inr ⟨g, cap, cur, rfl, hb, (hw.block g (h.own.lt g rfl).2 (by omega)).trans hh, h1⟩⟩
theorem OwnT.below (h : OwnT w lo hi v ss) (hb : Below w.heap.size w w') : OwnT w' lo hi v ss := by
  refine ⟨?_, h.lt⟩
  rcases h.own.2 with h0 | ⟨g, cap, cur, rfl, hb', hh, h1⟩
  · exact ⟨h.own.1, .inl h0⟩
  · exact ⟨h.own.1, .inr ⟨g, cap, cur, rfl, hb', (hb.block g (h.own.lt g rfl).2).trans hh, h1⟩⟩
theorem OwnT.belowB {B : Nat} (h : OwnT w lo hi v ss) (hb : Below B w w') (hB : hi ≤ B) : OwnT w' lo hi v ss := by
  refine ⟨?_, h.lt⟩
  rcases h.own.2 with h0 | ⟨g, cap, cur, rfl, hb', hh, h1⟩
  · exact ⟨h.own.1, .inl h0⟩
  · have := h.lt g rfl
    exact ⟨h.own.1, .inr ⟨g, cap, cur, rfl, hb', (hb.block g (by omega)).trans hh, h1⟩⟩
theorem OwnT.widen {hi' : Nat} (h : OwnT w lo hi v ss) (hh : hi ≤ hi') : OwnT w lo hi' v ss := ⟨h.own, fun g hg => by have := h.lt g hg; omega⟩
theorem OwnT.lower {lo' : Nat} (h : OwnT w lo hi v ss) (hh : lo' ≤ lo) : OwnT w lo' hi v ss := by
  refine ⟨⟨h.own.1, ?_⟩, h.lt⟩
  rcases h.own.2 with h0 | ⟨g, cap, cur, rfl, hb, h1⟩
  · exact .inl h0
  · exact .inr ⟨g, cap, cur, rfl, by omega, h1⟩
theorem OwnT.nil (w : World) (lo hi : Nat) : OwnT w lo hi (.slice none 0 0) [] := ⟨World.ownsRow_nil _ _ _ _, by simp [Value.ownBlock]⟩
end

/-- append(s, x) of a string, laid in a block of its own ahead. -/
theorem wpList_append_str {P : Program} {w : World} {ops : Array Oper} {rest : List Oper} {o : Oper} {a : Act} {Q : Exit → Act → World → Prop} (hgd : o.guard = none) (s x : Operand) (t : TypeId)
    (ho : o.op = .call { callee := .builtin .append, args := #[s, x], argTypes := #[t, t] })
    (ht : P.underlying t = some (.slice 9)) (hinfo : (P.info? 9).map (fun i => (i.zero, i.size, i.bytes)) = some (some (.string ⟨#[]⟩), 1, 16))
    (lo hi : Nat) (v : Value) (ss : List (List UInt8)) (hs : a.eval s = v) (hown : OwnT w lo hi v ss) (hlo : lo ≤ w.heap.size)
    (b : Nat) (u : Value) (z : List UInt8) (hx : a.eval x = .slice (some ⟨b, 0, none⟩) 1 1) (h0 : w.cell? ⟨b, 0, none⟩ = some u) (hu : u = .string ⟨z.toArray⟩) (hlen : ss.length ≤ 1000000000)
    (h : ∀ v' w', OwnT w' lo w'.heap.size v' (ss ++ [z]) → Below lo w w' → w.grownBy w' v.ownBlock → (v'.ownBlock = v.ownBlock ∨ v'.ownBlock = some w.heap.size) → wpList P ops Q rest (a.put o.dst v') w') : wpList P ops Q (o :: rest) a w := by
  obtain ⟨i, hi1, hz, hsz, hby⟩ := info_parts hinfo
  refine wpList_append_own_at w hgd s x t ho lo 9 i (.string ⟨#[]⟩) 1 16 ht hi1 hz hsz hby rfl (by omega) v ss.length _ hs hown.own ⟨b, 0, none⟩ 1 1 [.string ⟨z.toArray⟩] hx rfl ?_ ?_ (by unfold maxLen; omega) (by omega) hlo ?_
  · intro j y hy
    rcases j with _ | j
    · simp at hy; subst hy; rw [← hu]; simpa [Addr.add] using h0
    · simp at hy
  · intro y hy
    simp at hy
    subst hy
    rfl
  · intro v' w' h2 h3 _ h5
    have hlen' : (ss ++ [z]).length = ss.length + 1 := by simp
    refine h v' w' ⟨?_, fun g hg => (h2.lt g hg).2⟩ (below_of_only h3 hlo fun k hk => (hown.own.lt k hk).1) h3 h5
    rw [hlen', strVals, List.map_append]
    exact h2
/-- Literals of strings. -/
theorem OwnT.lits (w : World) (ss : List (List UInt8)) (hn : ss.length ≤ 1000) : OwnT (w.alloc (.cells (strVals ss).toArray 9)) w.heap.size (w.heap.size + 1) (.slice (some ⟨w.heap.size, 0, none⟩) ss.length ss.length) ss := by
  have h := World.ownsRow_lit (base := w.heap.size) (e := 9) (size := 1) w (strVals ss).toArray ss.length (Nat.le_refl _) (by unfold maxLen; omega) (by simp [strVals])
  exact ⟨by simpa using h, by simp [Value.ownBlock]⟩
end Go.Proofs.YtdabbjlefpgkmaaDoor
