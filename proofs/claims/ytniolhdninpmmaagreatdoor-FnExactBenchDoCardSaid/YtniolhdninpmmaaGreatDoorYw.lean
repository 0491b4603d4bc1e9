/- Chapter 9: words for rows of the call's own: stores, prefixes, clones. -/
import Derived.Test.YtniolhdninpmmaaGreatDoorB1
import Derived.Test.YtniolhdninpmmaaGreatDoorSa
import Derived.Test.YtniolhdninpmmaaGreatDoorJh
import Derived.Lib.SliceRun
namespace Go.Proofs.YtniolhdninpmmaaGreatDoor
set_option maxRecDepth 100000
open Go.RowKit Go.WideShapes

theorem OwnI.put9 {w : World} {lo hi g cap : Nat} {zs : List Int} (h : OwnI w lo hi (.slice (some ⟨g, 0, none⟩) zs.length cap) zs) (k : Nat) (z : Int) (hz : InK .i64 z) :
    OwnI (w.setCell ⟨g, k, none⟩ (.int .i64 z)) lo hi (.slice (some ⟨g, 0, none⟩) (zs.set k z).length cap) (zs.set k z) ∧ Within lo hi w (w.setCell ⟨g, k, none⟩ (.int .i64 z)) := by
  obtain ⟨hst, hgr⟩ := h.own.own.stored k (.int .i64 z)
  refine ⟨⟨⟨by rw [List.length_set]; simpa [List.map_set] using hst, fun y hy => ?_⟩, fun q hq => h.lt q hq⟩, Within.of_only hgr fun q hq => ?_⟩
  · rcases List.mem_or_eq_of_mem_set hy with h1 | h1
    · exact h.own.wf y h1
    · rw [h1]; exact hz
  · cases hq
    exact ⟨(h.own.own.lt g rfl).1, h.lt g rfl⟩
theorem OwnI.cellAt9 {w : World} {lo hi g cap : Nat} {zs : List Int} (h : OwnI w lo hi (.slice (some ⟨g, 0, none⟩) zs.length cap) zs) (j : Nat) (hj : j < zs.length) : w.cell? ⟨g, j, none⟩ = some (.int .i64 (zs.getD j 0)) ∧ w.frozen? ⟨g, j, none⟩ = false := by
  refine ⟨?_, h.own.own.frozenAt j⟩
  rw [h.own.own.cellAt j (by omega), List.getElem?_map, List.getElem?_eq_getElem hj]
  simp [List.getD, List.getElem?_eq_getElem hj]
theorem OwnI.taken9 {w : World} {lo hi c : Nat} {A : Option Addr} {zs : List Int} {n : Nat} (h : OwnI w lo hi (.slice A zs.length c) zs) (hn : n ≤ zs.length) : RdI w (.slice A n c) (zs.take n) := by
  obtain ⟨A', c', e, hi', hc⟩ := h.rd
  cases e
  refine ⟨A, c, by rw [List.length_take, Nat.min_eq_left hn], ⟨by rw [List.length_take]; have := hi'.len; omega, fun z hz => hi'.wf z (List.mem_of_mem_take hz), fun h0 => ?_⟩, by rw [List.length_take]; omega⟩
  rw [List.length_take] at h0
  obtain ⟨b, off, e, hb, hcc⟩ := hi'.at_ (by omega)
  refine ⟨b, off, e, hb, fun j hj => ?_⟩
  rw [List.length_take] at hj
  rw [hcc j (by omega)]
  simp only [List.getD, List.getElem?_take]
  rw [if_pos (by omega)]
theorem clone9 (v : Value) (zs : List Int) (w : World) (h : RdI w v zs) (hl : zs.length ≤ 2000000) :
    Calls Tryz.prog 81 #[v] w fun e w' => ∃ u, e = .returned u ∧ OwnI w' w.heap.size w'.heap.size u zs ∧ Below w.heap.size w w' := by
  obtain ⟨A, c, rfl, hi, hc⟩ := h
  rcases A with _ | a
  · have h0 : zs = [] := by
      rcases zs with _ | ⟨z, zs⟩
      · rfl
      · obtain ⟨b, off, e, _⟩ := hi.at_ (by simp); cases e
    subst h0
    have hnil := fun (W : World) (n c : Nat) => Lib.run_eql_slice_nil (P := Tryz.prog) W 22 3 none n c 0 0 Tryz.underlying22
    clear hi hc
    go_enter Tryz.func81, Tryz.ntmps81
    go_wp2
    go_ret
    exact ⟨_, rfl, nilOwn _ _ _, Below.refl _ _⟩
  · have hm := hi.len
    have H := Lib.hid hi; clear hi
    have L0 := lit_own w [] (by simp)
    simp only [List.map_nil, List.length_nil] at L0
    have hnil := fun (W : World) (a : Option Addr) (n c : Nat) => Lib.run_eql_slice_nil (P := Tryz.prog) W 22 3 a n c 0 0 Tryz.underlying22
    go_enter Tryz.func81, Tryz.ntmps81
    go_wp2_with (at_builtin; refine wpList_append_ints rfl (.tmp 5) (.tmp 6) _ rfl w.heap.size 3 .i64 8 Tryz.underlying22 intInfo (Nat.le_refl _) _ [] rfl L0 (w.heap.size + 1) _ zs c rfl ((H.out.alloc (Nat.le_refl _) _).mono (by omega)) (by simp; omega) (by simp) ?_)
    intro v1 w1 hown1 hg1 _
    have hb1 : Below w.heap.size w w1 := ((Below.refl w.heap.size w).alloc (Nat.le_refl _) _).grown hg1 (by simp) (by intro k hk; simp [Value.ownBlock] at hk; omega)
    have ho1 : Own w1 w.heap.size v1 zs := ⟨by simpa using hown1, H.out.wf⟩
    have X := Lib.hid (And.intro ho1 hb1)
    clear hown1 hg1 hb1 ho1 L0
    go_wp2
    go_ret
    exact ⟨_, rfl, X.out.1.within, X.out.2⟩
end Go.Proofs.YtniolhdninpmmaaGreatDoor
