/- The program's runner: a rest and values behind a pointer. What of it is kept; push and pop. The program's runner: contracts of push and pop, for numbers and for values. The program's runner: contracts of push and pop for the words of the rest. -/
import Derived.Test.YtenaeiedoiepdaaB5
import Derived.RangeFuncOwn
import Derived.RangeFuncBox
namespace Go.Proofs.Ytenaeiedoiepdaa
set_option maxRecDepth 100000
open Go.RowKit Go.WideShapes

theorem RdI.own_lt {w : World} {u : Value} {zs : List Int} (h : RdI w u zs) : zs = [] ∨ ∃ k, u.ownBlock = some k ∧ k < w.heap.size := by
  obtain ⟨A, c, rfl, hi, _⟩ := h
  by_cases h0 : 0 < zs.length
  · obtain ⟨b, off, rfl, hb, _⟩ := hi.at_ h0
    exact .inr ⟨b, rfl, hb⟩
  · exact .inl (List.eq_nil_of_length_eq_zero (by omega))
/-- A slice reads as it did where its block is as it was. -/
theorem RdI.kept {w w' : World} {u : Value} {zs : List Int} (h : RdI w u zs) (hs : w.heap.size ≤ w'.heap.size) (hk : zs = [] ∨ ∃ k, u.ownBlock = some k ∧ w'.heap[k]? = w.heap[k]?) : RdI w' u zs := by
  obtain ⟨A, c, rfl, hi, hc⟩ := h
  refine ⟨A, c, rfl, ⟨hi.len, hi.wf, fun h0 => ?_⟩, hc⟩
  have hne : zs ≠ [] := by rintro rfl; simp at h0
  obtain ⟨q, off, rfl, hq, hcc⟩ := hi.at_ h0
  obtain ⟨k, hk1, hk2⟩ := hk.resolve_left hne
  obtain rfl : q = k := by simpa [Value.ownBlock] using hk1
  exact ⟨q, off, rfl, Nat.lt_of_lt_of_le hq hs, fun j hj => (World.cell?_of_block (w := w) (a := ⟨q, off + j, Option.none⟩) hk2).trans (hcc j hj)⟩

theorem ownsRow_ne {w : World} {lo : Nat} {e : TypeId} {v : Value} {n : Nat} {xs : List Value} {g : Nat} {cs : Array Value} {T : TypeId} (h : w.ownsRow lo e 1 v n xs) (hb : Blk w g cs T) (hne : T ≠ e) : v.ownBlock ≠ some g := by
  rcases h.2 with ⟨rfl, _⟩ | ⟨g', cap, cur, rfl, _, hh, _⟩
  · simp [Value.ownBlock]
  · intro e'
    simp only [Value.ownBlock, Option.some.injEq] at e'
    subst e'
    unfold Blk at hb
    rw [hb] at hh
    injection hh with hh
    injection hh with _ h2
    exact hne h2
theorem ownsRow_ne2 {w : World} {lo lo' : Nat} {e e' : TypeId} {v v' : Value} {n n' : Nat} {xs xs' : List Value} (h : w.ownsRow lo e 1 v n xs) (h' : w.ownsRow lo' e' 1 v' n' xs') (hne : e ≠ e') : v.ownBlock = none ∨ v.ownBlock ≠ v'.ownBlock := by
  rcases h.2 with ⟨rfl, _⟩ | ⟨g, cap, cur, rfl, _, hh, _⟩
  · exact .inl rfl
  · right
    have := ownsRow_ne h' (show Blk w g cur e from hh) hne
    intro e2
    exact this (by rw [← e2]; rfl)
/-- What is owned is kept where its block is. -/
theorem ownsRow_keep {w w' : World} {lo : Nat} {e : TypeId} {v : Value} {n : Nat} {xs : List Value} (h : w.ownsRow lo e 1 v n xs) (hk : ∀ k, v.ownBlock = some k → w'.heap[k]? = w.heap[k]?) : w'.ownsRow lo e 1 v n xs := by
  refine ⟨h.1, ?_⟩
  rcases h.2 with h0 | ⟨g, cap, cur, rfl, hb, hh, h1⟩
  · exact .inl h0
  · exact .inr ⟨g, cap, cur, rfl, hb, (hk g rfl).trans hh, h1⟩
theorem ownsRow_take {w : World} {lo : Nat} {e : TypeId} {n cap g : Nat} {xs : List Value} (h : w.ownsRow lo e 1 (.slice (some ⟨g, 0, none⟩) n cap) n xs) (k : Nat) (hk : k ≤ n) : w.ownsRow lo e 1 (.slice (some ⟨g, 0, none⟩) k cap) k (xs.take k) := by
  obtain ⟨h1, h2 | ⟨g', cap', cur, he, hb, hh, hn, hm, hs, hx⟩⟩ := h
  · simp at h2
  · cases he
    refine ⟨by rw [List.length_take]; omega, .inr ⟨_, _, cur, rfl, hb, hh, by omega, hm, hs, ?_⟩⟩
    rw [← hx, List.take_take]; congr 1; omega

/-- A block apart from the runner's own memory. -/
def IsC (w : World) (k : Nat) : Prop := ∃ cs T f, w.heap[k]? = some (.cells cs T f)
theorem IsC.lt {w : World} {k : Nat} (h : IsC w k) : k < w.heap.size := by
  obtain ⟨cs, T, f, h⟩ := h
  rcases Nat.lt_or_ge k w.heap.size with h1 | h1
  · exact h1
  · rw [Array.getElem?_eq_none h1] at h; cases h
theorem IsC.of_eq {w w' : World} {k : Nat} (h : IsC w k) (e : w'.heap[k]? = w.heap[k]?) : IsC w' k := by
  obtain ⟨cs, T, f, h⟩ := h; exact ⟨cs, T, f, e.trans h⟩
theorem isC_of_cell {w : World} {b o : Nat} {u : Value} (h : w.cell? ⟨b, o, none⟩ = some u) : IsC w b := by
  simp only [World.cell?] at h
  rcases hh : w.heap[b]? with _ | ob
  · rw [hh] at h; simp at h
  · rw [hh] at h
    cases ob <;> first | exact ⟨_, _, _, hh⟩ | (simp at h)
theorem RdI.own_c {w : World} {u : Value} {zs : List Int} (h : RdI w u zs) : zs = [] ∨ ∃ k, u.ownBlock = some k ∧ IsC w k := by
  obtain ⟨A, c, rfl, hi, _⟩ := h
  by_cases h0 : 0 < zs.length
  · obtain ⟨b, off, rfl, hb, hc⟩ := hi.at_ h0
    exact .inr ⟨b, rfl, isC_of_cell (hc 0 h0)⟩
  · exact .inl (List.eq_nil_of_length_eq_zero (by omega))
def Apt (w : World) (g k : Nat) : Prop := IsC w k ∧ k ≠ g ∧ ∀ vr vs fl, Blk w g #[vr, vs, fl] 56 → vr.ownBlock ≠ some k ∧ vs.ownBlock ≠ some k
/-- A slice of integers apart from the runner's own memory. -/
def Val (w : World) (g : Nat) (u : Value) (zs : List Int) : Prop := RdI w u zs ∧ (zs = [] ∨ ∃ k, u.ownBlock = some k ∧ Apt w g k)
structure RunAt (w : World) (lo g : Nat) (vr vs : Value) (us : List Value) (rest : List Int) (st : List (List Int)) : Prop where
  blk : Blk w g #[vr, vs, .bool false] 56
  ge : lo ≤ g
  words : w.ownsRow lo 3 1 vr rest.length (rest.reverse.map (Value.int .i64))
  wf : ∀ z ∈ rest, InK .i64 z
  len : us.length = st.length
  vals : w.ownsRow lo 23 1 vs st.length us
  inner : ∀ (j : Nat) u zs, us[j]? = some u → st.reverse[j]? = some zs → Val w g u zs
/-- The runner behind g: the words that are still to be done, and the stack, its upper value first. -/
def Run (w : World) (lo g : Nat) (rest : List Int) (st : List (List Int)) : Prop := ∃ vr vs us, RunAt w lo g vr vs us rest st
/-- What a step of the runner's does not touch. -/
structure Keeps (lo g : Nat) (w w' : World) : Prop where
  below : Below lo w w'
  apt : ∀ k, Apt w g k → Apt w' g k ∧ w'.heap[k]? = w.heap[k]?
theorem Keeps.refl (lo g : Nat) (w : World) : Keeps lo g w w := ⟨Below.refl _ _, fun _ h => ⟨h, rfl⟩⟩
theorem Keeps.trans {lo g : Nat} {a b c : World} (h : Keeps lo g a b) (k : Keeps lo g b c) : Keeps lo g a c := ⟨h.below.trans k.below, fun q hq => ⟨(k.apt q (h.apt q hq).1).1, (k.apt q (h.apt q hq).1).2.trans (h.apt q hq).2⟩⟩
theorem Keeps.val {lo g : Nat} {w w' : World} (h : Keeps lo g w w') {u : Value} {zs : List Int} (hv : Val w g u zs) : Val w' g u zs := by
  rcases hv.2 with h0 | ⟨k, hk, ha⟩
  · exact ⟨hv.1.kept h.below.size (.inl h0), .inl h0⟩
  · exact ⟨hv.1.kept h.below.size (.inr ⟨k, hk, (h.apt k ha).2⟩), .inr ⟨k, hk, (h.apt k ha).1⟩⟩
theorem Keeps.gen {w w' : World} {lo g : Nat} {vr vs vr' vs' fl fl' : Value} {b : Option Nat} (hB : Below lo w w') (h : Blk w g #[vr, vs, fl] 56) (h' : Blk w' g #[vr', vs', fl'] 56) (hk : ∀ k, k < w.heap.size → k ≠ g → some k ≠ b → w'.heap[k]? = w.heap[k]?) (hb : b = none ∨ b = vr.ownBlock ∨ b = vs.ownBlock)
    (e1 : vr'.ownBlock = vr.ownBlock ∨ ∃ n, vr'.ownBlock = some n ∧ w.heap.size ≤ n) (e2 : vs'.ownBlock = vs.ownBlock ∨ ∃ n, vs'.ownBlock = some n ∧ w.heap.size ≤ n) : Keeps lo g w w' := by
  refine ⟨hB, fun k ⟨hk1, hk2, hk3⟩ => ?_⟩
  obtain ⟨k4, k5⟩ := hk3 vr vs fl h
  have hkb : some k ≠ b := by
    rcases hb with rfl | rfl | rfl
    · simp
    · exact fun e => k4 e.symm
    · exact fun e => k5 e.symm
  have hkl := hk1.lt
  refine ⟨⟨hk1.of_eq (hk k hkl hk2 hkb), hk2, fun vr2 vs2 fl2 hblk => ?_⟩, hk k hkl hk2 hkb⟩
  · unfold Blk at h' hblk
    rw [h'] at hblk
    simp at hblk
    obtain ⟨rfl, rfl, rfl⟩ := hblk
    constructor
    · rcases e1 with e | ⟨n, e, hn⟩
      · rw [e]; exact k4
      · rw [e]; intro e'; cases e'; omega
    · rcases e2 with e | ⟨n, e, hn⟩
      · rw [e]; exact k5
      · rw [e]; intro e'; cases e'; omega
theorem Run.lt {w : World} {lo g : Nat} {rest : List Int} {st : List (List Int)} (h : Run w lo g rest st) : g < w.heap.size := by
  obtain ⟨vr, vs, us, h⟩ := h; exact h.blk.lt
theorem Run.ge {w : World} {lo g : Nat} {rest : List Int} {st : List (List Int)} (h : Run w lo g rest st) : lo ≤ g := by
  obtain ⟨vr, vs, us, h⟩ := h; exact h.ge
theorem Run.lo {w : World} {lo g : Nat} {rest : List Int} {st : List (List Int)} (h : Run w lo g rest st) : lo ≤ w.heap.size := Nat.le_of_lt (Nat.lt_of_le_of_lt h.ge h.lt)
theorem Run.flag {w : World} {lo g : Nat} {rest : List Int} {st : List (List Int)} (h : Run w lo g rest st) : w.cell? ⟨g, 2, none⟩ = some (.bool false) ∧ w.frozen? ⟨g, 2, none⟩ = false := by
  obtain ⟨vr, vs, us, h⟩ := h; exact ⟨by simpa using h.blk.cell 2, h.blk.free 2⟩
theorem Run.mark {w : World} {lo g : Nat} {rest : List Int} {st : List (List Int)} (h : Run w lo g rest st) : Keeps lo g w (w.setCell ⟨g, 2, none⟩ (.bool true)) ∧ (w.setCell ⟨g, 2, none⟩ (.bool true)).cell? ⟨g, 2, none⟩ = some (.bool true) := by
  have hge := h.ge
  obtain ⟨vr, vs, us, h⟩ := h
  have hnb : Blk (w.setCell ⟨g, 2, none⟩ (.bool true)) g #[vr, vs, .bool true] 56 := h.blk.set 2 _
  have hB : Below lo w (w.setCell ⟨g, 2, none⟩ (.bool true)) := (Below.refl lo w).setCell (by simpa using hge) _
  exact ⟨Keeps.gen (b := none) hB h.blk hnb (fun k _ hne _ => Below.heap_setCell _ _ _ _ (by simpa using hne)) (.inl rfl) (.inl rfl) (.inl rfl), by simpa using hnb.cell 2⟩
/-- Whatever happens from the heap's end on. -/
theorem keeps_step {w w' : World} {lo g : Nat} (hlt : g < w.heap.size) (hlo : lo ≤ w.heap.size) (hb : Below w.heap.size w w') : Keeps lo g w w' :=
  ⟨hb.mono hlo, fun k ⟨hk1, hk2, hk3⟩ => ⟨⟨hk1.of_eq (hb.block k hk1.lt), hk2, fun vr vs fl hblk => hk3 vr vs fl ((hb.block g hlt).symm.trans hblk)⟩, hb.block k hk1.lt⟩⟩
theorem Run.step {w w' : World} {lo g : Nat} {rest : List Int} {st : List (List Int)} (h : Run w lo g rest st) (hb : Below w.heap.size w w') : Run w' lo g rest st ∧ Keeps lo g w w' := by
  have hK := keeps_step h.lt h.lo hb
  have hlt := h.lt
  obtain ⟨vr, vs, us, h⟩ := h
  exact ⟨⟨vr, vs, us, h.blk.below hb hlt, h.ge, ownsRow_keep h.words fun k hk => hb.block k (h.words.lt k hk).2, h.wf, h.len, ownsRow_keep h.vals fun k hk => hb.block k (h.vals.lt k hk).2, fun j u zs hu hz => hK.val (h.inner j u zs hu hz)⟩, hK⟩
/-- A block below lo, and one that is made now, are apart. -/
theorem RunAt.apt {w : World} {lo g : Nat} {vr vs : Value} {us : List Value} {rest : List Int} {st : List (List Int)} (h : RunAt w lo g vr vs us rest st) {k : Nat} (hk : IsC w k) (h1 : k ≠ g) (h2 : vr.ownBlock ≠ some k) (h3 : vs.ownBlock ≠ some k) : Apt w g k := by
  refine ⟨hk, h1, fun vr2 vs2 fl2 hblk => ?_⟩
  have he := h.blk
  unfold Blk at he hblk
  rw [he] at hblk
  simp at hblk
  obtain ⟨rfl, rfl, rfl⟩ := hblk
  exact ⟨h2, h3⟩
theorem Run.apt_below {w : World} {lo g : Nat} {rest : List Int} {st : List (List Int)} (h : Run w lo g rest st) {k : Nat} (hk : k < lo) (hc : IsC w k) : Apt w g k := by
  have hlo := h.lo
  have hge := h.ge
  obtain ⟨vr, vs, us, h⟩ := h
  exact h.apt hc (by omega) (fun e => by have := (h.words.lt k e).1; omega) (fun e => by have := (h.vals.lt k e).1; omega)
theorem Run.apt_new {w w' : World} {lo g : Nat} {rest : List Int} {st : List (List Int)} (h : Run w lo g rest st) (hb : Below w.heap.size w w') {k : Nat} (hk : w.heap.size ≤ k) (hk' : IsC w' k) : Apt w' g k := by
  have hlt := h.lt
  obtain ⟨vr, vs, us, h⟩ := h
  refine ⟨hk', by omega, fun vr2 vs2 fl2 hblk => ?_⟩
  have he := h.blk.below hb hlt
  unfold Blk at he hblk
  rw [he] at hblk
  simp at hblk
  obtain ⟨rfl, rfl, rfl⟩ := hblk
  exact ⟨fun e => by have := (h.words.lt k e).2; omega, fun e => by have := (h.vals.lt k e).2; omega⟩
theorem Run.below_val {w : World} {lo g : Nat} {rest : List Int} {st : List (List Int)} (h : Run w lo g rest st) {u : Value} {zs : List Int} (hu : RdBI w lo u zs) : Val w g u zs := by
  refine ⟨hu.rd h.lo, ?_⟩
  obtain ⟨A, c, rfl, hi, _⟩ := hu
  by_cases h0 : 0 < zs.length
  · obtain ⟨q, off, rfl, hq, hc⟩ := hi.at_ h0
    exact .inr ⟨q, rfl, h.apt_below hq (isC_of_cell (hc 0 h0))⟩
  · exact .inl (List.eq_nil_of_length_eq_zero (by omega))
theorem Run.new_val {w w' : World} {lo g : Nat} {rest : List Int} {st : List (List Int)} (h : Run w lo g rest st) (hb : Below w.heap.size w w') {u : Value} {zs : List Int} {hi : Nat} (hu : OwnI w' w.heap.size hi u zs) : Val w' g u zs := by
  refine ⟨hu.rd, ?_⟩
  rcases hu.rd.own_c with h0 | ⟨k, hk, hl⟩
  · exact .inl h0
  · exact .inr ⟨k, hk, h.apt_new hb (hu.own.ge k hk).1 hl⟩
/-- A part of a value is as far apart as the whole. -/
theorem Val.part {w : World} {g : Nat} {u v : Value} {zs ys : List Int} (h : Val w g u zs) (hv : RdI w v ys) (he : v.ownBlock = u.ownBlock) (hne : zs ≠ []) : Val w g v ys := by
  obtain ⟨k, hk, ha⟩ := h.2.resolve_left hne
  exact ⟨hv, .inr ⟨k, by rw [he]; exact hk, ha⟩⟩
/-- A block that is no cells is turned: the runner and what is apart from it stay. -/
theorem Run.turn {w w' : World} {lo g : Nat} {rest : List Int} {st : List (List Int)} {row : Option Nat} (h : Run w lo g rest st) (hg : w.grownBy w' row) (hr : ∀ r, row = some r → lo ≤ r ∧ ∃ o : Obj, w.heap[r]? = some o ∧ o.isCells = false) : Run w' lo g rest st ∧ Keeps lo g w w' := by
  have hlo := h.lo
  obtain ⟨vr, vs, us, h⟩ := h
  have hsame : ∀ k, IsC w k → w'.heap[k]? = w.heap[k]? := fun k hk => hg.block k hk.lt (fun e => by
    obtain ⟨_, o, ho, hc⟩ := hr k e.symm
    obtain ⟨cs, T, f, hk⟩ := hk
    rw [hk] at ho; cases ho
    simp [Obj.isCells] at hc)
  have hgC : IsC w g := ⟨_, _, _, h.blk⟩
  have hown : ∀ {e : TypeId} {v : Value} {n : Nat} {xs : List Value}, w.ownsRow lo e 1 v n xs → w'.ownsRow lo e 1 v n xs := fun ho => ownsRow_keep ho fun k hk => by
    rcases ho.2 with ⟨rfl, _⟩ | ⟨g', cap, cur, rfl, _, hh, _⟩
    · simp [Value.ownBlock] at hk
    · have : g' = k := by simpa [Value.ownBlock] using hk
      subst this
      exact hsame _ ⟨_, _, _, hh⟩
  have hK : Keeps lo g w w' := ⟨(Below.refl lo w).grown hg hlo (fun k e => (hr k e).1), fun k ⟨hk1, hk2, hk3⟩ => ⟨⟨hk1.of_eq (hsame k hk1), hk2, fun vr' vs' fl' hblk => hk3 vr' vs' fl' ((hsame g hgC).symm.trans hblk)⟩, hsame k hk1⟩⟩
  exact ⟨⟨vr, vs, us, (hsame g hgC).trans h.blk, h.ge, hown h.words, h.wf, h.len, hown h.vals, fun j u zs hu hz => hK.val (h.inner j u zs hu hz)⟩, hK⟩
end Go.Proofs.Ytenaeiedoiepdaa
namespace Go.Proofs.Ytenaeiedoiepdaa
set_option maxRecDepth 100000
open Go.RowKit Go.WideShapes

theorem ownsRow_cap {w : World} {lo g n c : Nat} {e : TypeId} {xs : List Value} (h : w.ownsRow lo e 1 (.slice (some ⟨g, 0, none⟩) n c) n xs) : n ≤ c ∧ c ≤ 9223372036854775807 := by
  rcases h.2 with ⟨h0, _⟩ | ⟨g', cap, cur, he, _, _, h1, h2, _⟩
  · simp at h0
  · cases he; unfold maxLen at h2; exact ⟨h1, h2⟩
theorem others_gen {w w' : World} {lo g n : Nat} {e T : TypeId} {cs : Array Value} {v : Value} {xs : List Value} (hs : w.heap.size ≤ w'.heap.size) (h : Blk w g cs T) (hrow : w.ownsRow lo e 1 v n xs) (hk : ∀ k, k < w.heap.size → k ≠ g → some k ≠ v.ownBlock → w'.heap[k]? = w.heap[k]?) : KeepsOthers w w' := by
  refine ⟨hs, fun k o ho hc => ?_⟩
  have hlt : k < w.heap.size := by
    rcases Nat.lt_or_ge k w.heap.size with h1 | h1
    · exact h1
    · rw [Array.getElem?_eq_none h1] at ho; cases ho
  refine (hk k hlt ?_ ?_).trans ho
  · rintro rfl
    unfold Blk at h
    rw [h] at ho; cases ho
    simp [Obj.isCells] at hc
  · intro e'
    rcases hrow.2 with ⟨rfl, _⟩ | ⟨g', cap, cur, rfl, _, hh, _⟩
    · simp [Value.ownBlock] at e'
    · have : k = g' := by simpa [Value.ownBlock] using e'
      subst this
      rw [hh] at ho; cases ho
      simp [Obj.isCells] at hc
def PushPost (lo g : Nat) (rest : List Int) (st : List (List Int)) (w : World) (e : Ending) (w' : World) : Prop := e = .returned (.tuple #[]) ∧ Run w' lo g rest st ∧ Keeps lo g w w' ∧ KeepsOthers w w'

theorem pushV (lo g : Nat) (rest : List Int) (st : List (List Int)) (u : Value) (zs : List Int) (w : World) (h : Run w lo g rest st) (hv : Val w g u zs) (hl : st.length ≤ 1000) :
    Calls Try.prog 29 #[.pointer (some ⟨g, 1, none⟩), u] w (PushPost lo g rest (zs :: st) w) := by
  have hlo := h.lo
  obtain ⟨vr, vs, us, h⟩ := h
  have hg := h.blk.lt
  have hge := h.ge
  have Hap := Lib.hid hv
  obtain ⟨Au, cu, rfl, _⟩ := hv.1
  have c1 := h.blk.cell 1
  simp only [List.getElem?_toArray, List.getElem?_cons_zero, List.getElem?_cons_succ] at c1
  have H := Lib.hid h
  have Hn : Hid ((w.alloc (.cells #[.slice Au zs.length cu] 23)).cell? ⟨w.heap.size, 0, none⟩ = some (.slice Au zs.length cu)) := Lib.hid ((Blk.new w _ _).cell 0)
  clear h hv
  go_enter Try.func29, Try.ntmps29
  go_wp2_with (at_builtin; refine wpList_append_one rfl (.tmp 8) (.tmp 10) _ rfl lo 23 _ 24 Try.underlying24 rowInfo (by omega) rfl _ st.length us rfl (H.out.vals.alloc _) w.heap.size 1 (.slice Au zs.length cu) rfl Hn.out rfl (by omega) (by simp; omega) ?_)
  intro v2 w2 hrow2 hg2 hown
  obtain ⟨g2, cap2, rfl⟩ := ownsRow_succ hrow2
  have hvne := ownsRow_ne H.out.vals H.out.blk (by decide)
  have hsz2 : w.heap.size + 1 ≤ w2.heap.size := by have := hg2.size; simpa using this
  have hbk : ∀ k, k < w.heap.size → some k ≠ vs.ownBlock → w2.heap[k]? = w.heap[k]? := fun k hk hne => (hg2.block k (by simp; omega) hne).trans (Below.heap_alloc _ _ _ hk)
  have hblk2 : Blk w2 g #[vr, vs, .bool false] 56 := (hbk g hg (fun e => hvne e.symm)).trans H.out.blk
  have c2 := hblk2.cell 1
  have f2 := hblk2.free 1
  simp only [List.getElem?_toArray, List.getElem?_cons_zero, List.getElem?_cons_succ] at c2
  have X : Hid (PushPost lo g rest (zs :: st) w (.returned (.tuple #[])) (w2.setCell ⟨g, 1, none⟩ (.slice (some ⟨g2, 0, none⟩) (st.length + 1) cap2))) := Lib.hid (by
    have hnb : Blk (w2.setCell ⟨g, 1, none⟩ (.slice (some ⟨g2, 0, none⟩) (st.length + 1) cap2)) g #[vr, .slice (some ⟨g2, 0, none⟩) (st.length + 1) cap2, .bool false] 56 := hblk2.set 1 _
    have hk3 : ∀ k, k < w.heap.size → k ≠ g → some k ≠ vs.ownBlock → (w2.setCell ⟨g, 1, none⟩ (.slice (some ⟨g2, 0, none⟩) (st.length + 1) cap2)).heap[k]? = w.heap[k]? := fun k hk hne hne2 => (Below.heap_setCell _ _ _ _ (by simpa using hne)).trans (hbk k hk hne2)
    have hs3 : (w2.setCell ⟨g, 1, none⟩ (.slice (some ⟨g2, 0, none⟩) (st.length + 1) cap2)).heap.size = w2.heap.size := by simp [World.setCell]
    have e2 : (Value.slice (some ⟨g2, 0, none⟩) (st.length + 1) cap2).ownBlock = vs.ownBlock ∨ ∃ n, (Value.slice (some ⟨g2, 0, none⟩) (st.length + 1) cap2).ownBlock = some n ∧ w.heap.size ≤ n := by
      rcases hown with h1 | h1
      · exact .inl h1
      · exact .inr ⟨_, h1, by simp⟩
    have hB : Below lo w (w2.setCell ⟨g, 1, none⟩ (.slice (some ⟨g2, 0, none⟩) (st.length + 1) cap2)) := (((Below.refl lo w).alloc hlo _).grown hg2 (by simp; omega) (fun k hk => (H.out.vals.lt k hk).1)).setCell (by simpa using hge) _
    have hK : Keeps lo g w _ := Keeps.gen (b := vs.ownBlock) hB H.out.blk hnb hk3 (.inr (.inr rfl)) (.inl rfl) e2
    refine ⟨rfl, ⟨vr, _, us ++ [.slice Au zs.length cu], hnb, hge, ?_, H.out.wf, by simp [H.out.len], ?_, ?_⟩, hK, others_gen (by rw [hs3]; omega) H.out.blk H.out.vals hk3⟩
    · refine ownsRow_keep H.out.words fun k hk => ?_
      have h1 := (H.out.words.lt k hk).2
      have h2 := ownsRow_ne H.out.words H.out.blk (by decide)
      refine hk3 k h1 (fun e => h2 (by rw [hk, e])) (fun e => ?_)
      rcases ownsRow_ne2 H.out.words H.out.vals (by decide) with h3 | h3
      · rw [hk] at h3; cases h3
      · exact h3 (by rw [hk, e])
    · refine ownsRow_keep (by simpa using hrow2) fun k hk => Below.heap_setCell _ _ _ _ ?_
      have h2 := ownsRow_ne hrow2 hblk2 (by decide)
      simp only
      exact fun e => h2 (by rw [hk, e])
    · intro j u' zs' hu hz
      have hz' : (st.reverse ++ [zs])[j]? = some zs' := by simpa using hz
      by_cases hj : j < us.length
      · rw [List.getElem?_append_left hj] at hu
        rw [List.getElem?_append_left (by rw [List.length_reverse, ← H.out.len]; exact hj)] at hz'
        exact hK.val (H.out.inner j _ _ hu hz')
      · have hjl : j = us.length := by
          rcases Nat.lt_or_ge j (us.length + 1) with h' | h'
          · omega
          · rw [List.getElem?_eq_none (by simp; omega)] at hu; cases hu
        subst hjl
        rw [List.getElem?_append_right (by omega)] at hu
        rw [List.getElem?_append_right (by rw [List.length_reverse, H.out.len]; omega)] at hz'
        simp at hu
        simp [H.out.len] at hz'
        subst hu; subst hz'
        exact hK.val Hap.out)
  clear hrow2 hg2 hown hbk hblk2 hvne
  go_wp2
  go_end0
  exact X.out

def PopV (lo g : Nat) (rest : List Int) (zs : List Int) (st : List (List Int)) (w : World) (e : Ending) (w' : World) : Prop := ∃ u, e = .returned (.tuple #[u, .bool true]) ∧ Val w' g u zs ∧ Run w' lo g rest st ∧ Keeps lo g w w'
theorem popV (lo g : Nat) (rest zs : List Int) (st : List (List Int)) (w : World) (h : Run w lo g rest (zs :: st)) (hl : st.length ≤ 1000) :
    Calls Try.prog 35 #[.pointer (some ⟨g, 1, none⟩)] w (PopV lo g rest zs st w) := by
  obtain ⟨vr, vs, us, h⟩ := h
  have hg := h.blk.lt
  have hge := h.ge
  obtain ⟨g2, cap2, rfl⟩ := ownsRow_succ h.vals
  have hul : us.length = st.length + 1 := h.len
  have hu : us[st.length]? = some (us[st.length]'(by omega)) := List.getElem?_eq_getElem _
  have hcell := h.vals.cellAt st.length (by omega)
  have hcap := ownsRow_cap h.vals
  rw [hu] at hcell
  generalize us[st.length]'(by omega) = u at hu hcell
  have hap : Val w g u zs := h.inner st.length _ _ hu (by simp)
  have hrd := hap.1
  obtain ⟨Au, cu, rfl, _⟩ := hrd
  have c1 := h.blk.cell 1
  have f1 := h.blk.free 1
  simp only [List.getElem?_toArray, List.getElem?_cons_zero, List.getElem?_cons_succ] at c1
  have X : Hid (Val (w.setCell ⟨g, 1, none⟩ (.slice (some ⟨g2, 0, none⟩) st.length cap2)) g (.slice Au zs.length cu) zs ∧ Run (w.setCell ⟨g, 1, none⟩ (.slice (some ⟨g2, 0, none⟩) st.length cap2)) lo g rest st ∧ Keeps lo g w (w.setCell ⟨g, 1, none⟩ (.slice (some ⟨g2, 0, none⟩) st.length cap2))) := Lib.hid (by
    have hnb : Blk (w.setCell ⟨g, 1, none⟩ (.slice (some ⟨g2, 0, none⟩) st.length cap2)) g #[vr, .slice (some ⟨g2, 0, none⟩) st.length cap2, .bool false] 56 := h.blk.set 1 _
    have hk3 : ∀ k, k < w.heap.size → k ≠ g → some k ≠ (none : Option Nat) → (w.setCell ⟨g, 1, none⟩ (.slice (some ⟨g2, 0, none⟩) st.length cap2)).heap[k]? = w.heap[k]? := fun k hk hne _ => Below.heap_setCell _ _ _ _ (by simpa using hne)
    have hs3 : (w.setCell ⟨g, 1, none⟩ (.slice (some ⟨g2, 0, none⟩) st.length cap2)).heap.size = w.heap.size := by simp [World.setCell]
    have hB : Below lo w (w.setCell ⟨g, 1, none⟩ (.slice (some ⟨g2, 0, none⟩) st.length cap2)) := (Below.refl lo w).setCell (by simpa using hge) _
    have hK : Keeps lo g w (w.setCell ⟨g, 1, none⟩ (.slice (some ⟨g2, 0, none⟩) st.length cap2)) := Keeps.gen (b := none) hB h.blk hnb hk3 (.inl rfl) (.inl rfl) (.inl rfl)
    refine ⟨hK.val hap, ⟨vr, _, us.take st.length, hnb, hge, ?_, h.wf, by rw [List.length_take]; omega, ?_, ?_⟩, hK⟩
    · refine ownsRow_keep h.words fun k hk => hk3 k (h.words.lt k hk).2 (fun e => ?_) (by simp)
      exact ownsRow_ne h.words h.blk (by decide) (by rw [hk, e])
    · refine ownsRow_keep (ownsRow_take h.vals st.length (by simp)) fun k hk => hk3 k ?_ (fun e => ?_) (by simp)
      · exact (h.vals.lt k hk).2
      · exact ownsRow_ne h.vals h.blk (by decide) (by rw [← e]; exact hk)
    · intro j u' zs' hu' hz'
      have hj : j < st.length := by
        rcases Nat.lt_or_ge j st.length with h' | h'
        · exact h'
        · rw [List.getElem?_eq_none (by simpa using h')] at hz'; cases hz'
      rw [List.getElem?_take_of_lt hj] at hu'
      refine hK.val (h.inner j _ _ hu' ?_)
      rw [List.reverse_cons, List.getElem?_append_left (by simpa using hj)]; exact hz')
  have hn1 : ((st.length + 1 : Nat) : Int) - 1 = st.length := by omega
  clear h hap hu hul
  go_enter Try.func35, Try.ntmps35
  go_wp2
  go_ret2
  exact ⟨_, rfl, X.out⟩
theorem popV_none (lo g : Nat) (rest : List Int) (w : World) (h : Run w lo g rest []) :
    Calls Try.prog 35 #[.pointer (some ⟨g, 1, none⟩)] w fun e w' => e = .returned (.tuple #[.slice none 0 0, .bool false]) ∧ w = w' := by
  obtain ⟨vr, vs, us, h⟩ := h
  have hg := h.blk.lt
  have c1 := h.blk.cell 1
  simp only [List.getElem?_toArray, List.getElem?_cons_zero, List.getElem?_cons_succ] at c1
  obtain ⟨A, c, rfl⟩ : ∃ A c, vs = .slice A 0 c := by
    rcases h.vals.2 with ⟨rfl, _⟩ | ⟨g', cap, cur, rfl, _⟩
    · exact ⟨_, _, rfl⟩
    · exact ⟨_, _, rfl⟩
  clear h
  go_enter Try.func35, Try.ntmps35
  go_wp2
  go_ret2
  exact ⟨rfl, rfl⟩
end Go.Proofs.Ytenaeiedoiepdaa
namespace Go.Proofs.Ytenaeiedoiepdaa
set_option maxRecDepth 100000
open Go.RowKit Go.WideShapes

theorem pushN (lo g : Nat) (rest : List Int) (st : List (List Int)) (z : Int) (w : World) (h : Run w lo g rest st) (hz : InK .i64 z) (hl : rest.length ≤ 900000000) :
    Calls Try.prog 62 #[.pointer (some ⟨g, 0, none⟩), .int .i64 z] w (PushPost lo g (z :: rest) st w) := by
  have hlo := h.lo
  obtain ⟨vr, vs, us, h⟩ := h
  have hg := h.blk.lt
  have hge := h.ge
  have c1 := h.blk.cell 0
  simp only [List.getElem?_toArray, List.getElem?_cons_zero] at c1
  have H := Lib.hid h
  have HZ := Lib.hid hz
  have Hn : Hid ((w.alloc (.cells #[.int .i64 z] 3)).cell? ⟨w.heap.size, 0, none⟩ = some (.int .i64 z)) := Lib.hid ((Blk.new w _ _).cell 0)
  clear h hz
  go_enter Try.func62, Try.ntmps62
  go_wp2_with (at_builtin; refine wpList_append_one rfl (.tmp 8) (.tmp 10) _ rfl lo 3 _ 8 Try.underlying23 intInfo (by omega) rfl _ rest.length (rest.reverse.map (Value.int .i64)) rfl (H.out.words.alloc _) w.heap.size 1 (.int .i64 z) rfl Hn.out rfl (by omega) (by simp; omega) ?_)
  intro v2 w2 hrow2 hg2 hown
  obtain ⟨g2, cap2, rfl⟩ := ownsRow_succ hrow2
  have hvne := ownsRow_ne H.out.words H.out.blk (by decide)
  have hsz2 : w.heap.size + 1 ≤ w2.heap.size := by have := hg2.size; simpa using this
  have hbk : ∀ k, k < w.heap.size → some k ≠ vr.ownBlock → w2.heap[k]? = w.heap[k]? := fun k hk hne => (hg2.block k (by simp; omega) hne).trans (Below.heap_alloc _ _ _ hk)
  have hblk2 : Blk w2 g #[vr, vs, .bool false] 56 := (hbk g hg (fun e => hvne e.symm)).trans H.out.blk
  have c2 := hblk2.cell 0
  have f2 := hblk2.free 0
  simp only [List.getElem?_toArray, List.getElem?_cons_zero] at c2
  have X : Hid (PushPost lo g (z :: rest) st w (.returned (.tuple #[])) (w2.setCell ⟨g, 0, none⟩ (.slice (some ⟨g2, 0, none⟩) (rest.length + 1) cap2))) := Lib.hid (by
    have hnb : Blk (w2.setCell ⟨g, 0, none⟩ (.slice (some ⟨g2, 0, none⟩) (rest.length + 1) cap2)) g #[.slice (some ⟨g2, 0, none⟩) (rest.length + 1) cap2, vs, .bool false] 56 := hblk2.set 0 _
    have hk3 : ∀ k, k < w.heap.size → k ≠ g → some k ≠ vr.ownBlock → (w2.setCell ⟨g, 0, none⟩ (.slice (some ⟨g2, 0, none⟩) (rest.length + 1) cap2)).heap[k]? = w.heap[k]? := fun k hk hne hne2 => (Below.heap_setCell _ _ _ _ (by simpa using hne)).trans (hbk k hk hne2)
    have hs3 : (w2.setCell ⟨g, 0, none⟩ (.slice (some ⟨g2, 0, none⟩) (rest.length + 1) cap2)).heap.size = w2.heap.size := by simp [World.setCell]
    have e2 : (Value.slice (some ⟨g2, 0, none⟩) (rest.length + 1) cap2).ownBlock = vr.ownBlock ∨ ∃ n, (Value.slice (some ⟨g2, 0, none⟩) (rest.length + 1) cap2).ownBlock = some n ∧ w.heap.size ≤ n := by
      rcases hown with h1 | h1
      · exact .inl h1
      · exact .inr ⟨_, h1, by simp⟩
    have hB : Below lo w (w2.setCell ⟨g, 0, none⟩ (.slice (some ⟨g2, 0, none⟩) (rest.length + 1) cap2)) := (((Below.refl lo w).alloc hlo _).grown hg2 (by simp; omega) (fun k hk => (H.out.words.lt k hk).1)).setCell (by simpa using hge) _
    have hK : Keeps lo g w _ := Keeps.gen (b := vr.ownBlock) hB H.out.blk hnb hk3 (.inr (.inl rfl)) e2 (.inl rfl)
    refine ⟨rfl, ⟨_, vs, us, hnb, hge, ?_, fun y hy => ?_, H.out.len, ?_, ?_⟩, hK, others_gen (by rw [hs3]; omega) H.out.blk H.out.words hk3⟩
    · refine ownsRow_keep (by simpa using hrow2) fun k hk => Below.heap_setCell _ _ _ _ ?_
      have h2 := ownsRow_ne hrow2 hblk2 (by decide)
      simp only
      exact fun e => h2 (by rw [hk, e])
    · rcases List.mem_cons.1 hy with rfl | hy
      · exact HZ.out
      · exact H.out.wf y hy
    · refine ownsRow_keep H.out.vals fun k hk => ?_
      have h1 := (H.out.vals.lt k hk).2
      have h2 := ownsRow_ne H.out.vals H.out.blk (by decide)
      refine hk3 k h1 (fun e => h2 (by rw [hk, e])) (fun e => ?_)
      rcases ownsRow_ne2 H.out.vals H.out.words (by decide) with h3 | h3
      · rw [hk] at h3; cases h3
      · exact h3 (by rw [hk, e])
    · intro j u' zs' hu hz
      exact hK.val (H.out.inner j _ _ hu hz))
  clear hrow2 hg2 hown hbk hblk2 hvne
  go_wp2
  go_end0
  exact X.out

def PopAt (lo g : Nat) (vr vs : Value) (us : List Value) (z : Int) (rest : List Int) (st : List (List Int)) (w : World) (e : Ending) (w' : World) : Prop :=
  e = .returned (.tuple #[.int .i64 z, .bool true]) ∧ InK .i64 z ∧ (∃ vr', RunAt w' lo g vr' vs us rest st ∧ vr'.ownBlock = vr.ownBlock) ∧ Keeps lo g w w' ∧ Within g (g + 1) w w' ∧ w'.heap.size = w.heap.size
theorem popN_at (lo g : Nat) (vr vs : Value) (us : List Value) (z : Int) (rest : List Int) (st : List (List Int)) (w : World) (h : RunAt w lo g vr vs us (z :: rest) st) (hl : rest.length ≤ 900000000) :
    Calls Try.prog 30 #[.pointer (some ⟨g, 0, none⟩)] w (PopAt lo g vr vs us z rest st w) := by
  have hg := h.blk.lt
  have hge := h.ge
  obtain ⟨g2, cap2, rfl⟩ := ownsRow_succ h.words
  have hcell := h.words.cellAt rest.length (by omega)
  have hcap := ownsRow_cap h.words
  have hu : ((z :: rest).reverse.map (Value.int .i64))[rest.length]? = some (.int .i64 z) := by
    rw [List.reverse_cons, List.map_append, List.getElem?_append_right (by simp)]; simp
  rw [hu] at hcell
  have c1 := h.blk.cell 0
  have f1 := h.blk.free 0
  simp only [List.getElem?_toArray, List.getElem?_cons_zero] at c1
  have X : Hid (InK .i64 z ∧ (∃ vr', RunAt (w.setCell ⟨g, 0, none⟩ (.slice (some ⟨g2, 0, none⟩) rest.length cap2)) lo g vr' vs us rest st ∧ vr'.ownBlock = (Value.slice (some ⟨g2, 0, none⟩) (rest.length + 1) cap2).ownBlock) ∧ Keeps lo g w (w.setCell ⟨g, 0, none⟩ (.slice (some ⟨g2, 0, none⟩) rest.length cap2)) ∧ Within g (g + 1) w (w.setCell ⟨g, 0, none⟩ (.slice (some ⟨g2, 0, none⟩) rest.length cap2)) ∧ (w.setCell ⟨g, 0, none⟩ (.slice (some ⟨g2, 0, none⟩) rest.length cap2)).heap.size = w.heap.size) := Lib.hid (by
    have hnb : Blk (w.setCell ⟨g, 0, none⟩ (.slice (some ⟨g2, 0, none⟩) rest.length cap2)) g #[.slice (some ⟨g2, 0, none⟩) rest.length cap2, vs, .bool false] 56 := h.blk.set 0 _
    have hk3 : ∀ k, k < w.heap.size → k ≠ g → some k ≠ (none : Option Nat) → (w.setCell ⟨g, 0, none⟩ (.slice (some ⟨g2, 0, none⟩) rest.length cap2)).heap[k]? = w.heap[k]? := fun k hk hne _ => Below.heap_setCell _ _ _ _ (by simpa using hne)
    have hs3 : (w.setCell ⟨g, 0, none⟩ (.slice (some ⟨g2, 0, none⟩) rest.length cap2)).heap.size = w.heap.size := by simp [World.setCell]
    have hB : Below lo w (w.setCell ⟨g, 0, none⟩ (.slice (some ⟨g2, 0, none⟩) rest.length cap2)) := (Below.refl lo w).setCell (by simpa using hge) _
    have hK : Keeps lo g w (w.setCell ⟨g, 0, none⟩ (.slice (some ⟨g2, 0, none⟩) rest.length cap2)) := Keeps.gen (b := none) hB h.blk hnb hk3 (.inl rfl) (.inl rfl) (.inl rfl)
    refine ⟨h.wf z (by simp), ⟨_, ⟨hnb, hge, ?_, fun y hy => h.wf y (by simp [hy]), h.len, ?_, ?_⟩, rfl⟩, hK, within_setCell _ _ _ _, hs3⟩
    · have htk : ((z :: rest).reverse.map (Value.int .i64)).take rest.length = rest.reverse.map (Value.int .i64) := by
        rw [List.reverse_cons, List.map_append, List.take_append_of_le_length (by simp), List.take_of_length_le (by simp)]
      have h3 := ownsRow_take h.words rest.length (by simp)
      rw [htk] at h3
      refine ownsRow_keep h3 fun k hk => hk3 k ?_ (fun e => ?_) (by simp)
      · exact (h.words.lt k hk).2
      · exact ownsRow_ne h.words h.blk (by decide) (by rw [← e]; exact hk)
    · refine ownsRow_keep h.vals fun k hk => hk3 k (h.vals.lt k hk).2 (fun e => ?_) (by simp)
      exact ownsRow_ne h.vals h.blk (by decide) (by rw [hk, e])
    · intro j u' zs' hu' hz'
      exact hK.val (h.inner j _ _ hu' hz'))
  have hn1 : ((rest.length + 1 : Nat) : Int) - 1 = rest.length := by omega
  clear h hu
  go_enter Try.func30, Try.ntmps30
  go_wp2
  go_ret2
  exact ⟨rfl, X.out⟩
def PopN (lo g : Nat) (z : Int) (rest : List Int) (st : List (List Int)) (w : World) (e : Ending) (w' : World) : Prop := e = .returned (.tuple #[.int .i64 z, .bool true]) ∧ InK .i64 z ∧ Run w' lo g rest st ∧ Keeps lo g w w'
theorem popN (lo g : Nat) (z : Int) (rest : List Int) (st : List (List Int)) (w : World) (h : Run w lo g (z :: rest) st) (hl : rest.length ≤ 900000000) :
    Calls Try.prog 30 #[.pointer (some ⟨g, 0, none⟩)] w (PopN lo g z rest st w) := by
  obtain ⟨vr, vs, us, h⟩ := h
  refine (popN_at lo g vr vs us z rest st w h hl).mono ?_
  rintro e w' ⟨he, hz, ⟨vr', hr, _⟩, hk, _⟩
  exact ⟨he, hz, ⟨vr', vs, us, hr⟩, hk⟩
theorem popN_none (lo g : Nat) (st : List (List Int)) (w : World) (h : Run w lo g [] st) :
    Calls Try.prog 30 #[.pointer (some ⟨g, 0, none⟩)] w fun e w' => e = .returned (.tuple #[.int .i64 0, .bool false]) ∧ w = w' := by
  obtain ⟨vr, vs, us, h⟩ := h
  have hg := h.blk.lt
  have c1 := h.blk.cell 0
  simp only [List.getElem?_toArray, List.getElem?_cons_zero] at c1
  obtain ⟨A, c, rfl⟩ : ∃ A c, vr = .slice A 0 c := by
    rcases h.words.2 with ⟨rfl, _⟩ | ⟨g', cap, cur, rfl, _⟩
    · exact ⟨_, _, rfl⟩
    · exact ⟨_, _, rfl⟩
  clear h
  go_enter Try.func30, Try.ntmps30
  go_wp2
  go_ret2
  exact ⟨rfl, rfl⟩
end Go.Proofs.Ytenaeiedoiepdaa
