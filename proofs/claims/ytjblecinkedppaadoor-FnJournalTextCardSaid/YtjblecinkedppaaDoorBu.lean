/- Several texts in one. -/
import Derived.Test.YtjblecinkedppaaDoorB1
import Derived.Test.YtjblecinkedppaaDoorSa
import Derived.Test.YtjblecinkedppaaDoorJh
import Derived.Lib.SliceRun
import Derived.Test.YtjblecinkedppaaDoorB4
import Derived.Test.YtjblecinkedppaaDoorRr
/- Chapter 9: words for rows of the call's own: stores, prefixes, clones. -/
namespace Go.Proofs.YtjblecinkedppaaDoor
set_option maxRecDepth 100000
open Go.RowKit Go.WideShapes

theorem OwnI.put9 {w : World} {lo hi g cap : Nat} {zs : List Int} (h : OwnI w lo hi (.slice (some ⟨g, 0, none⟩) zs.length cap) zs) (k : Nat) (z : Int) (hz : InK .i64 z) :
    OwnI (w.setCell ⟨g, k, none⟩ (.int .i64 z)) lo hi (.slice (some ⟨g, 0, none⟩) (zs.set k z).length cap) (zs.set k z) ∧ Within lo hi w (w.setCell ⟨g, k, none⟩ (.int .i64 z)) := by
  obtain ⟨hst, hgr⟩ := h.own.own.stored k (.int .i64 z)
  refine ⟨⟨⟨by rw [List.length_set]; simpa [List.map_set] using hst, fun y hy => ?_⟩, fun q hq => h.lt q hq⟩, Within.of_only hgr fun q hq => ?_⟩
  · rcases List.mem_or_eq_of_mem_set hy with h1 | h1
    · exact h.own.wf y h1
    · rw [h1]; exact hz
  · cases hq
    exact ⟨(h.own.own.lt g rfl).1, h.lt g rfl⟩
theorem OwnI.cellAt9 {w : World} {lo hi g cap : Nat} {zs : List Int} (h : OwnI w lo hi (.slice (some ⟨g, 0, none⟩) zs.length cap) zs) (j : Nat) (hj : j < zs.length) : w.cell? ⟨g, j, none⟩ = some (.int .i64 (zs.getD j 0)) ∧ w.frozen? ⟨g, j, none⟩ = false := by
  refine ⟨?_, h.own.own.frozenAt j⟩
  rw [h.own.own.cellAt j (by omega), List.getElem?_map, List.getElem?_eq_getElem hj]
  simp [List.getD, List.getElem?_eq_getElem hj]
theorem OwnI.taken9 {w : World} {lo hi c : Nat} {A : Option Addr} {zs : List Int} {n : Nat} (h : OwnI w lo hi (.slice A zs.length c) zs) (hn : n ≤ zs.length) : RdI w (.slice A n c) (zs.take n) := by
  obtain ⟨A', c', e, hi', hc⟩ := h.rd
  cases e
  refine ⟨A, c, by rw [List.length_take, Nat.min_eq_left hn], ⟨by rw [List.length_take]; have := hi'.len; omega, fun z hz => hi'.wf z (List.mem_of_mem_take hz), fun h0 => ?_⟩, by rw [List.length_take]; omega⟩
  rw [List.length_take] at h0
  obtain ⟨b, off, e, hb, hcc⟩ := hi'.at_ (by omega)
  refine ⟨b, off, e, hb, fun j hj => ?_⟩
  rw [List.length_take] at hj
  rw [hcc j (by omega)]
  simp only [List.getD, List.getElem?_take]
  rw [if_pos (by omega)]
theorem clone9 (v : Value) (zs : List Int) (w : World) (h : RdI w v zs) (hl : zs.length ≤ 2000000) :
    Calls Tryd.prog 84 #[v] w fun e w' => ∃ u, e = .returned u ∧ OwnI w' w.heap.size w'.heap.size u zs ∧ Below w.heap.size w w' := by
  obtain ⟨A, c, rfl, hi, hc⟩ := h
  rcases A with _ | a
  · have h0 : zs = [] := by
      rcases zs with _ | ⟨z, zs⟩
      · rfl
      · obtain ⟨b, off, e, _⟩ := hi.at_ (by simp); cases e
    subst h0
    have hnil := fun (W : World) (n c : Nat) => Lib.run_eql_slice_nil (P := Tryd.prog) W 23 3 none n c 0 0 Tryd.underlying23
    clear hi hc
    go_enter Tryd.func84, Tryd.ntmps84
    go_wp2
    go_ret
    exact ⟨_, rfl, nilOwn _ _ _, Below.refl _ _⟩
  · have hm := hi.len
    have H := Lib.hid hi; clear hi
    have L0 := lit_own w [] (by simp)
    simp only [List.map_nil, List.length_nil] at L0
    have hnil := fun (W : World) (a : Option Addr) (n c : Nat) => Lib.run_eql_slice_nil (P := Tryd.prog) W 23 3 a n c 0 0 Tryd.underlying23
    go_enter Tryd.func84, Tryd.ntmps84
    go_wp2_with (at_builtin; refine wpList_append_ints rfl (.tmp 5) (.tmp 6) _ rfl w.heap.size 3 .i64 8 Tryd.underlying23 intInfo (Nat.le_refl _) _ [] rfl L0 (w.heap.size + 1) _ zs c rfl ((H.out.alloc (Nat.le_refl _) _).mono (by omega)) (by simp; omega) (by simp) ?_)
    intro v1 w1 hown1 hg1 _
    have hb1 : Below w.heap.size w w1 := ((Below.refl w.heap.size w).alloc (Nat.le_refl _) _).grown hg1 (by simp) (by intro k hk; simp [Value.ownBlock] at hk; omega)
    have ho1 : Own w1 w.heap.size v1 zs := ⟨by simpa using hown1, H.out.wf⟩
    have X := Lib.hid (And.intro ho1 hb1)
    clear hown1 hg1 hb1 ho1 L0
    go_wp2
    go_ret
    exact ⟨_, rfl, X.out.1.within, X.out.2⟩
end Go.Proofs.YtjblecinkedppaaDoor

/- Rows of words cloned by the program: cloneRows. -/
namespace Go.Proofs.YtjblecinkedppaaDoor
set_option maxRecDepth 100000
open Go.RowKit Go.WideShapes

end Go.Proofs.YtjblecinkedppaaDoor

/- The program's runner: the contract of step. The program's runner: made out of a rest and values; its values and its words given out. RunOf of the program. -/
namespace Go.Proofs.YtjblecinkedppaaDoor
set_option maxRecDepth 100000
open Go.RowKit Go.WideShapes

theorem word_cases {z : Int} (h : isWordB z = true) : isNumB z = true ∨ z = 1001 ∨ z = 1002 ∨ z = 1003 ∨ z = 1004 ∨ z = 1005 ∨ (z = 1006 ∨ z = 1007 ∨ z = 1008 ∨ z = 1009) ∨ z = 1010 ∨ z = 1011 ∨ z = 1012 ∨ z = 1013 := by
  simp only [isWordB, Bool.or_eq_true, Bool.and_eq_true, decide_eq_true_eq] at h
  rcases h with h | h
  · exact .inl h
  · omega
end Go.Proofs.YtjblecinkedppaaDoor
namespace Go.Proofs.YtjblecinkedppaaDoor
set_option maxRecDepth 100000
open Go.RowKit Go.WideShapes

end Go.Proofs.YtjblecinkedppaaDoor
namespace Go.Proofs.YtjblecinkedppaaDoor
set_option maxRecDepth 100000
open Go.RowKit Go.WideShapes

theorem runR_next {f k : Nat} {z : Int} {r : List Int} {st : List (List Int)} {x : List Int × List (List Int)} {o : Option (List (List Int) × Nat)} (hs : stepR (z :: r) st = some x) (h : o = (runR (f + 1) (z :: r) st).map (fun y => (y.1, y.2 + k))) : o = (runR f x.1 x.2).map (fun y => (y.1, y.2 + (k + 1))) := by
  rw [h, runR, hs]
  dsimp only
  rw [Option.map_map]
  congr 1
  funext y
  simp only [Function.comp]
  congr 1
  omega
theorem runR_stop {f k : Nat} {z : Int} {r : List Int} {st : List (List Int)} {o : Option (List (List Int) × Nat)} (hs : stepR (z :: r) st = none) (h : o = (runR f (z :: r) st).map (fun y => (y.1, y.2 + k))) : o = none := by
  rw [h]
  rcases f with _ | f
  · rfl
  · rw [runR, hs]; rfl
theorem stackB_rev {st : List (List Int)} (h : stackB st = true) : stackB st.reverse = true := by rw [stackB_reverse]; exact h

/-- Why a run of so many steps at most stops (0 done, 1 short, 2 long, 3 full), and how many steps are done before. -/
def whyB (r : List Int) (st : List (List Int)) : Int := if fullB r st = true then 3 else 1
def stopR : Nat → List Int → List (List Int) → Int × Nat
  | _, [], _ => (0, 0)
  | 0, w :: r, st => match stepR (w :: r) st with
    | none => (whyB (w :: r) st, 0)
    | some _ => (2, 0)
  | f + 1, w :: r, st => match stepR (w :: r) st with
    | none => (whyB (w :: r) st, 0)
    | some x => ((stopR f x.1 x.2).1, (stopR f x.1 x.2).2 + 1)
theorem stopR_nil (f : Nat) (st : List (List Int)) : stopR f [] st = (0, 0) := by cases f <;> rfl
theorem whyB_ne (r : List Int) (st : List (List Int)) : whyB r st = 3 ∨ whyB r st = 1 := by unfold whyB; split <;> simp
theorem stopR_run {f : Nat} {r : List Int} {st : List (List Int)} : (∀ x, runR f r st = some x → stopR f r st = (0, x.2)) ∧ (runR f r st = none → (stopR f r st).1 ≠ 0) := by
  induction f generalizing r st with
  | zero =>
    rcases r with _ | ⟨w, r⟩
    · exact ⟨fun x hx => by cases hx; rfl, fun h => by cases h⟩
    · refine ⟨fun x hx => (by cases hx), fun _ => ?_⟩
      rw [stopR]
      rcases stepR (w :: r) st with _ | y
      · rcases whyB_ne (w :: r) st with h | h <;> simp [h]
      · simp
  | succ f ih =>
    rcases r with _ | ⟨w, r⟩
    · exact ⟨fun x hx => by cases hx; rfl, fun h => by cases h⟩
    · rw [stopR, runR]
      rcases stepR (w :: r) st with _ | y
      · refine ⟨fun x hx => (by cases hx), fun _ => ?_⟩
        rcases whyB_ne (w :: r) st with h | h <;> simp [h]
      · obtain ⟨i1, i2⟩ := @ih y.1 y.2
        refine ⟨fun x hx => ?_, fun hx => ?_⟩
        · obtain ⟨z, hz, rfl⟩ := Option.map_eq_some_iff.1 hx
          simp only [i1 z hz]
        · exact i2 (Option.map_eq_none_iff.1 hx)
theorem stopR_next {f k : Nat} {z : Int} {r : List Int} {st : List (List Int)} {x : List Int × List (List Int)} {a : Int} {n : Nat} (hs : stepR (z :: r) st = some x) (h : (a, n) = ((stopR (f + 1) (z :: r) st).1, (stopR (f + 1) (z :: r) st).2 + k)) : (a, n) = ((stopR f x.1 x.2).1, (stopR f x.1 x.2).2 + (k + 1)) := by
  rw [h, stopR, hs]
  simp only [Prod.mk.injEq, true_and]
  omega
theorem stopR_stop {f k : Nat} {z : Int} {r : List Int} {st : List (List Int)} {a : Int} {n : Nat} (hs : stepR (z :: r) st = none) (h : (a, n) = ((stopR f (z :: r) st).1, (stopR f (z :: r) st).2 + k)) : a = whyB (z :: r) st ∧ n = k := by
  cases f <;> rw [stopR, hs] at h <;> simpa using h
theorem stopR_long {z : Int} {r : List Int} {st : List (List Int)} {x : List Int × List (List Int)} {a : Int} {n k : Nat} (hs : stepR (z :: r) st = some x) (h : (a, n) = ((stopR 0 (z :: r) st).1, (stopR 0 (z :: r) st).2 + k)) : a = 2 ∧ n = k := by
  rw [stopR, hs] at h; simpa using h
/-- How a program stops on a stack. -/
def stopOfR (p : List Int) (s : List (List Int)) : Int × Int :=
  if validB p = true ∧ stackB s = true then ((stopR 2000 p s.reverse).1, (((stopR 2000 p s.reverse).2 : Nat) : Int)) else (-1, 0)

end Go.Proofs.YtjblecinkedppaaDoor
