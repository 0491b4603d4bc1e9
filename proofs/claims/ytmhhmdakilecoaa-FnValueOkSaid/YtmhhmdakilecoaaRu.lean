/- The program's runner: a rest and values behind a pointer. What of it is kept; push and pop. -/
import Derived.Test.YtmhhmdakilecoaaSt
import Derived.RangeFuncOwn
namespace Go.Proofs.Ytmhhmdakilecoaa
set_option maxRecDepth 100000
open Go.RowKit Go.WideShapes

theorem RdI.own_lt {w : World} {u : Value} {zs : List Int} (h : RdI w u zs) : zs = [] ∨ ∃ k, u.ownBlock = some k ∧ k < w.heap.size := by
  obtain ⟨A, c, rfl, hi, _⟩ := h
  by_cases h0 : 0 < zs.length
  · obtain ⟨b, off, rfl, hb, _⟩ := hi.at_ h0
    exact .inr ⟨b, rfl, hb⟩
  · exact .inl (List.eq_nil_of_length_eq_zero (by omega))
/-- A slice reads as it did where its block is as it was. -/
theorem RdI.kept {w w' : World} {u : Value} {zs : List Int} (h : RdI w u zs) (hs : w.heap.size ≤ w'.heap.size) (hk : zs = [] ∨ ∃ k, u.ownBlock = some k ∧ w'.heap[k]? = w.heap[k]?) : RdI w' u zs := by
  obtain ⟨A, c, rfl, hi, hc⟩ := h
  refine ⟨A, c, rfl, ⟨hi.len, hi.wf, fun h0 => ?_⟩, hc⟩
  have hne : zs ≠ [] := by rintro rfl; simp at h0
  obtain ⟨q, off, rfl, hq, hcc⟩ := hi.at_ h0
  obtain ⟨k, hk1, hk2⟩ := hk.resolve_left hne
  obtain rfl : q = k := by simpa [Value.ownBlock] using hk1
  exact ⟨q, off, rfl, Nat.lt_of_lt_of_le hq hs, fun j hj => (World.cell?_of_block (w := w) (a := ⟨q, off + j, Option.none⟩) hk2).trans (hcc j hj)⟩

theorem ownsRow_ne {w : World} {lo : Nat} {e : TypeId} {v : Value} {n : Nat} {xs : List Value} {g : Nat} {cs : Array Value} {T : TypeId} (h : w.ownsRow lo e 1 v n xs) (hb : Blk w g cs T) (hne : T ≠ e) : v.ownBlock ≠ some g := by
  rcases h.2 with ⟨rfl, _⟩ | ⟨g', cap, cur, rfl, _, hh, _⟩
  · simp [Value.ownBlock]
  · intro e'
    simp only [Value.ownBlock, Option.some.injEq] at e'
    subst e'
    unfold Blk at hb
    rw [hb] at hh
    injection hh with hh
    injection hh with _ h2
    exact hne h2
theorem ownsRow_ne2 {w : World} {lo lo' : Nat} {e e' : TypeId} {v v' : Value} {n n' : Nat} {xs xs' : List Value} (h : w.ownsRow lo e 1 v n xs) (h' : w.ownsRow lo' e' 1 v' n' xs') (hne : e ≠ e') : v.ownBlock = none ∨ v.ownBlock ≠ v'.ownBlock := by
  rcases h.2 with ⟨rfl, _⟩ | ⟨g, cap, cur, rfl, _, hh, _⟩
  · exact .inl rfl
  · right
    have := ownsRow_ne h' (show Blk w g cur e from hh) hne
    intro e2
    exact this (by rw [← e2]; rfl)
/-- What is owned is kept where its block is. -/
theorem ownsRow_keep {w w' : World} {lo : Nat} {e : TypeId} {v : Value} {n : Nat} {xs : List Value} (h : w.ownsRow lo e 1 v n xs) (hk : ∀ k, v.ownBlock = some k → w'.heap[k]? = w.heap[k]?) : w'.ownsRow lo e 1 v n xs := by
  refine ⟨h.1, ?_⟩
  rcases h.2 with h0 | ⟨g, cap, cur, rfl, hb, hh, h1⟩
  · exact .inl h0
  · exact .inr ⟨g, cap, cur, rfl, hb, (hk g rfl).trans hh, h1⟩
theorem ownsRow_take {w : World} {lo : Nat} {e : TypeId} {n cap g : Nat} {xs : List Value} (h : w.ownsRow lo e 1 (.slice (some ⟨g, 0, none⟩) n cap) n xs) (k : Nat) (hk : k ≤ n) : w.ownsRow lo e 1 (.slice (some ⟨g, 0, none⟩) k cap) k (xs.take k) := by
  obtain ⟨h1, h2 | ⟨g', cap', cur, he, hb, hh, hn, hm, hs, hx⟩⟩ := h
  · simp at h2
  · cases he
    refine ⟨by rw [List.length_take]; omega, .inr ⟨_, _, cur, rfl, hb, hh, by omega, hm, hs, ?_⟩⟩
    rw [← hx, List.take_take]; congr 1; omega

/-- A block apart from the runner's own memory. -/
def IsC (w : World) (k : Nat) : Prop := ∃ cs T f, w.heap[k]? = some (.cells cs T f)
theorem IsC.lt {w : World} {k : Nat} (h : IsC w k) : k < w.heap.size := by
  obtain ⟨cs, T, f, h⟩ := h
  rcases Nat.lt_or_ge k w.heap.size with h1 | h1
  · exact h1
  · rw [Array.getElem?_eq_none h1] at h; cases h
theorem IsC.of_eq {w w' : World} {k : Nat} (h : IsC w k) (e : w'.heap[k]? = w.heap[k]?) : IsC w' k := by
  obtain ⟨cs, T, f, h⟩ := h; exact ⟨cs, T, f, e.trans h⟩
theorem isC_of_cell {w : World} {b o : Nat} {u : Value} (h : w.cell? ⟨b, o, none⟩ = some u) : IsC w b := by
  simp only [World.cell?] at h
  rcases hh : w.heap[b]? with _ | ob
  · rw [hh] at h; simp at h
  · rw [hh] at h
    cases ob <;> first | exact ⟨_, _, _, hh⟩ | (simp at h)
theorem RdI.own_c {w : World} {u : Value} {zs : List Int} (h : RdI w u zs) : zs = [] ∨ ∃ k, u.ownBlock = some k ∧ IsC w k := by
  obtain ⟨A, c, rfl, hi, _⟩ := h
  by_cases h0 : 0 < zs.length
  · obtain ⟨b, off, rfl, hb, hc⟩ := hi.at_ h0
    exact .inr ⟨b, rfl, isC_of_cell (hc 0 h0)⟩
  · exact .inl (List.eq_nil_of_length_eq_zero (by omega))
def Apt (w : World) (g k : Nat) : Prop := IsC w k ∧ k ≠ g ∧ ∀ vr vs, Blk w g #[vr, vs] 80 → vr.ownBlock ≠ some k ∧ vs.ownBlock ≠ some k
/-- A slice of integers apart from the runner's own memory. -/
def Val (w : World) (g : Nat) (u : Value) (zs : List Int) : Prop := RdI w u zs ∧ (zs = [] ∨ ∃ k, u.ownBlock = some k ∧ Apt w g k)
structure RunAt (w : World) (lo g : Nat) (vr vs : Value) (us : List Value) (rest : List Int) (st : List (List Int)) : Prop where
  blk : Blk w g #[vr, vs] 80
  ge : lo ≤ g
  words : w.ownsRow lo 3 1 vr rest.length (rest.reverse.map (Value.int .i64))
  wf : ∀ z ∈ rest, InK .i64 z
  len : us.length = st.length
  vals : w.ownsRow lo 23 1 vs st.length us
  inner : ∀ (j : Nat) u zs, us[j]? = some u → st.reverse[j]? = some zs → Val w g u zs
/-- The runner behind g: the words that are still to be done, and the stack, its upper value first. -/
def Run (w : World) (lo g : Nat) (rest : List Int) (st : List (List Int)) : Prop := ∃ vr vs us, RunAt w lo g vr vs us rest st
/-- What a step of the runner's does not touch. -/
structure Keeps (lo g : Nat) (w w' : World) : Prop where
  below : Below lo w w'
  apt : ∀ k, Apt w g k → Apt w' g k ∧ w'.heap[k]? = w.heap[k]?
theorem Keeps.refl (lo g : Nat) (w : World) : Keeps lo g w w := ⟨Below.refl _ _, fun _ h => ⟨h, rfl⟩⟩
theorem Keeps.trans {lo g : Nat} {a b c : World} (h : Keeps lo g a b) (k : Keeps lo g b c) : Keeps lo g a c := ⟨h.below.trans k.below, fun q hq => ⟨(k.apt q (h.apt q hq).1).1, (k.apt q (h.apt q hq).1).2.trans (h.apt q hq).2⟩⟩
theorem Keeps.val {lo g : Nat} {w w' : World} (h : Keeps lo g w w') {u : Value} {zs : List Int} (hv : Val w g u zs) : Val w' g u zs := by
  rcases hv.2 with h0 | ⟨k, hk, ha⟩
  · exact ⟨hv.1.kept h.below.size (.inl h0), .inl h0⟩
  · exact ⟨hv.1.kept h.below.size (.inr ⟨k, hk, (h.apt k ha).2⟩), .inr ⟨k, hk, (h.apt k ha).1⟩⟩
theorem Keeps.gen {w w' : World} {lo g : Nat} {vr vs vr' vs' : Value} {b : Option Nat} (hB : Below lo w w') (h : Blk w g #[vr, vs] 80) (h' : Blk w' g #[vr', vs'] 80) (hk : ∀ k, k < w.heap.size → k ≠ g → some k ≠ b → w'.heap[k]? = w.heap[k]?) (hb : b = none ∨ b = vr.ownBlock ∨ b = vs.ownBlock)
    (e1 : vr'.ownBlock = vr.ownBlock ∨ ∃ n, vr'.ownBlock = some n ∧ w.heap.size ≤ n) (e2 : vs'.ownBlock = vs.ownBlock ∨ ∃ n, vs'.ownBlock = some n ∧ w.heap.size ≤ n) : Keeps lo g w w' := by
  refine ⟨hB, fun k ⟨hk1, hk2, hk3⟩ => ?_⟩
  obtain ⟨k4, k5⟩ := hk3 vr vs h
  have hkb : some k ≠ b := by
    rcases hb with rfl | rfl | rfl
    · simp
    · exact fun e => k4 e.symm
    · exact fun e => k5 e.symm
  have hkl := hk1.lt
  refine ⟨⟨hk1.of_eq (hk k hkl hk2 hkb), hk2, fun vr2 vs2 hblk => ?_⟩, hk k hkl hk2 hkb⟩
  · unfold Blk at h' hblk
    rw [h'] at hblk
    simp at hblk
    obtain ⟨rfl, rfl⟩ := hblk
    constructor
    · rcases e1 with e | ⟨n, e, hn⟩
      · rw [e]; exact k4
      · rw [e]; intro e'; cases e'; omega
    · rcases e2 with e | ⟨n, e, hn⟩
      · rw [e]; exact k5
      · rw [e]; intro e'; cases e'; omega
theorem Run.lt {w : World} {lo g : Nat} {rest : List Int} {st : List (List Int)} (h : Run w lo g rest st) : g < w.heap.size := by
  obtain ⟨vr, vs, us, h⟩ := h; exact h.blk.lt
theorem Run.ge {w : World} {lo g : Nat} {rest : List Int} {st : List (List Int)} (h : Run w lo g rest st) : lo ≤ g := by
  obtain ⟨vr, vs, us, h⟩ := h; exact h.ge
theorem Run.lo {w : World} {lo g : Nat} {rest : List Int} {st : List (List Int)} (h : Run w lo g rest st) : lo ≤ w.heap.size := Nat.le_of_lt (Nat.lt_of_le_of_lt h.ge h.lt)
/-- Whatever happens from the heap's end on. -/
theorem keeps_step {w w' : World} {lo g : Nat} (hlt : g < w.heap.size) (hlo : lo ≤ w.heap.size) (hb : Below w.heap.size w w') : Keeps lo g w w' :=
  ⟨hb.mono hlo, fun k ⟨hk1, hk2, hk3⟩ => ⟨⟨hk1.of_eq (hb.block k hk1.lt), hk2, fun vr vs hblk => hk3 vr vs ((hb.block g hlt).symm.trans hblk)⟩, hb.block k hk1.lt⟩⟩
theorem Run.step {w w' : World} {lo g : Nat} {rest : List Int} {st : List (List Int)} (h : Run w lo g rest st) (hb : Below w.heap.size w w') : Run w' lo g rest st ∧ Keeps lo g w w' := by
  have hK := keeps_step h.lt h.lo hb
  have hlt := h.lt
  obtain ⟨vr, vs, us, h⟩ := h
  exact ⟨⟨vr, vs, us, h.blk.below hb hlt, h.ge, ownsRow_keep h.words fun k hk => hb.block k (h.words.lt k hk).2, h.wf, h.len, ownsRow_keep h.vals fun k hk => hb.block k (h.vals.lt k hk).2, fun j u zs hu hz => hK.val (h.inner j u zs hu hz)⟩, hK⟩
/-- A block below lo, and one that is made now, are apart. -/
theorem RunAt.apt {w : World} {lo g : Nat} {vr vs : Value} {us : List Value} {rest : List Int} {st : List (List Int)} (h : RunAt w lo g vr vs us rest st) {k : Nat} (hk : IsC w k) (h1 : k ≠ g) (h2 : vr.ownBlock ≠ some k) (h3 : vs.ownBlock ≠ some k) : Apt w g k := by
  refine ⟨hk, h1, fun vr2 vs2 hblk => ?_⟩
  have he := h.blk
  unfold Blk at he hblk
  rw [he] at hblk
  simp at hblk
  obtain ⟨rfl, rfl⟩ := hblk
  exact ⟨h2, h3⟩
theorem Run.apt_below {w : World} {lo g : Nat} {rest : List Int} {st : List (List Int)} (h : Run w lo g rest st) {k : Nat} (hk : k < lo) (hc : IsC w k) : Apt w g k := by
  have hlo := h.lo
  have hge := h.ge
  obtain ⟨vr, vs, us, h⟩ := h
  exact h.apt hc (by omega) (fun e => by have := (h.words.lt k e).1; omega) (fun e => by have := (h.vals.lt k e).1; omega)
theorem Run.apt_new {w w' : World} {lo g : Nat} {rest : List Int} {st : List (List Int)} (h : Run w lo g rest st) (hb : Below w.heap.size w w') {k : Nat} (hk : w.heap.size ≤ k) (hk' : IsC w' k) : Apt w' g k := by
  have hlt := h.lt
  obtain ⟨vr, vs, us, h⟩ := h
  refine ⟨hk', by omega, fun vr2 vs2 hblk => ?_⟩
  have he := h.blk.below hb hlt
  unfold Blk at he hblk
  rw [he] at hblk
  simp at hblk
  obtain ⟨rfl, rfl⟩ := hblk
  exact ⟨fun e => by have := (h.words.lt k e).2; omega, fun e => by have := (h.vals.lt k e).2; omega⟩
theorem Run.below_val {w : World} {lo g : Nat} {rest : List Int} {st : List (List Int)} (h : Run w lo g rest st) {u : Value} {zs : List Int} (hu : RdBI w lo u zs) : Val w g u zs := by
  refine ⟨hu.rd h.lo, ?_⟩
  obtain ⟨A, c, rfl, hi, _⟩ := hu
  by_cases h0 : 0 < zs.length
  · obtain ⟨q, off, rfl, hq, hc⟩ := hi.at_ h0
    exact .inr ⟨q, rfl, h.apt_below hq (isC_of_cell (hc 0 h0))⟩
  · exact .inl (List.eq_nil_of_length_eq_zero (by omega))
theorem Run.new_val {w w' : World} {lo g : Nat} {rest : List Int} {st : List (List Int)} (h : Run w lo g rest st) (hb : Below w.heap.size w w') {u : Value} {zs : List Int} {hi : Nat} (hu : OwnI w' w.heap.size hi u zs) : Val w' g u zs := by
  refine ⟨hu.rd, ?_⟩
  rcases hu.rd.own_c with h0 | ⟨k, hk, hl⟩
  · exact .inl h0
  · exact .inr ⟨k, hk, h.apt_new hb (hu.own.ge k hk).1 hl⟩
/-- A part of a value is as far apart as the whole. -/
theorem Val.part {w : World} {g : Nat} {u v : Value} {zs ys : List Int} (h : Val w g u zs) (hv : RdI w v ys) (he : v.ownBlock = u.ownBlock) (hne : zs ≠ []) : Val w g v ys := by
  obtain ⟨k, hk, ha⟩ := h.2.resolve_left hne
  exact ⟨hv, .inr ⟨k, by rw [he]; exact hk, ha⟩⟩
/-- A block that is no cells is turned: the runner and what is apart from it stay. -/
theorem Run.turn {w w' : World} {lo g : Nat} {rest : List Int} {st : List (List Int)} {row : Option Nat} (h : Run w lo g rest st) (hg : w.grownBy w' row) (hr : ∀ r, row = some r → lo ≤ r ∧ ∃ o : Obj, w.heap[r]? = some o ∧ o.isCells = false) : Run w' lo g rest st ∧ Keeps lo g w w' := by
  have hlo := h.lo
  obtain ⟨vr, vs, us, h⟩ := h
  have hsame : ∀ k, IsC w k → w'.heap[k]? = w.heap[k]? := fun k hk => hg.block k hk.lt (fun e => by
    obtain ⟨_, o, ho, hc⟩ := hr k e.symm
    obtain ⟨cs, T, f, hk⟩ := hk
    rw [hk] at ho; cases ho
    simp [Obj.isCells] at hc)
  have hgC : IsC w g := ⟨_, _, _, h.blk⟩
  have hown : ∀ {e : TypeId} {v : Value} {n : Nat} {xs : List Value}, w.ownsRow lo e 1 v n xs → w'.ownsRow lo e 1 v n xs := fun ho => ownsRow_keep ho fun k hk => by
    rcases ho.2 with ⟨rfl, _⟩ | ⟨g', cap, cur, rfl, _, hh, _⟩
    · simp [Value.ownBlock] at hk
    · have : g' = k := by simpa [Value.ownBlock] using hk
      subst this
      exact hsame _ ⟨_, _, _, hh⟩
  have hK : Keeps lo g w w' := ⟨(Below.refl lo w).grown hg hlo (fun k e => (hr k e).1), fun k ⟨hk1, hk2, hk3⟩ => ⟨⟨hk1.of_eq (hsame k hk1), hk2, fun vr' vs' hblk => hk3 vr' vs' ((hsame g hgC).symm.trans hblk)⟩, hsame k hk1⟩⟩
  exact ⟨⟨vr, vs, us, (hsame g hgC).trans h.blk, h.ge, hown h.words, h.wf, h.len, hown h.vals, fun j u zs hu hz => hK.val (h.inner j u zs hu hz)⟩, hK⟩
end Go.Proofs.Ytmhhmdakilecoaa
