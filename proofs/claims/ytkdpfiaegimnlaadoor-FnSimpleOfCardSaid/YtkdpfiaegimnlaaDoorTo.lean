/- StepOf, the program's: what is to be done, read out of the runner (slices.Reverse); and StepOf as a whole. -/
import Derived.Test.YtkdpfiaegimnlaaDoorRy
import Derived.Test.YtkdpfiaegimnlaaDoorSb
namespace Go.Proofs.YtkdpfiaegimnlaaDoor
set_option maxRecDepth 100000
open Go.RowKit Go.WideShapes

theorem OwnI.put {w : World} {lo hi g cap : Nat} {zs : List Int} (h : OwnI w lo hi (.slice (some ⟨g, 0, none⟩) zs.length cap) zs) (k : Nat) (z : Int) (hz : InK .i64 z) :
    OwnI (w.setCell ⟨g, k, none⟩ (.int .i64 z)) lo hi (.slice (some ⟨g, 0, none⟩) (zs.set k z).length cap) (zs.set k z) ∧ Within lo hi w (w.setCell ⟨g, k, none⟩ (.int .i64 z)) := by
  obtain ⟨hst, hgr⟩ := h.own.own.stored k (.int .i64 z)
  refine ⟨⟨⟨by rw [List.length_set]; simpa [List.map_set] using hst, fun y hy => ?_⟩, fun q hq => h.lt q hq⟩, Within.of_only hgr fun q hq => ?_⟩
  · rcases List.mem_or_eq_of_mem_set hy with h1 | h1
    · exact h.own.wf y h1
    · rw [h1]; exact hz
  · cases hq
    exact ⟨(h.own.own.lt g rfl).1, h.lt g rfl⟩
theorem OwnI.nil (w : World) (lo hi : Nat) : OwnI w lo hi (.slice none 0 0) [] := ⟨Own.nil _ _, by simp [Value.ownBlock]⟩
theorem within_drew (lo hi : Nat) (w : World) : Within lo hi w w.drew := ⟨rfl, rfl, rfl, Nat.le_refl _, fun _ _ _ => rfl⟩

theorem OwnI.cellAt {w : World} {lo hi g cap : Nat} {zs : List Int} (h : OwnI w lo hi (.slice (some ⟨g, 0, none⟩) zs.length cap) zs) (j : Nat) (hj : j < zs.length) : w.cell? ⟨g, j, none⟩ = some (.int .i64 (zs.getD j 0)) ∧ w.frozen? ⟨g, j, none⟩ = false := by
  refine ⟨?_, h.own.own.frozenAt j⟩
  rw [h.own.own.cellAt j (by omega), List.getElem?_map, List.getElem?_eq_getElem hj]
  simp [List.getD, List.getElem?_eq_getElem hj]
/-- After k exchanges from both ends. -/
def Turned (zs : List Int) (k : Nat) (ys : List Int) : Prop := ys.length = zs.length ∧ ∀ m, m < zs.length → ys.getD m 0 = if m < k ∨ zs.length ≤ m + k then zs.getD (zs.length - 1 - m) 0 else zs.getD m 0
theorem Turned.zero (zs : List Int) : Turned zs 0 zs := ⟨rfl, fun m hm => by rw [if_neg (by omega)]⟩
theorem getD_set (l : List Int) (i m : Nat) (z : Int) (hi : i < l.length) : (l.set i z).getD m 0 = if m = i then z else l.getD m 0 := by
  simp only [List.getD, List.getElem?_set]
  by_cases h : i = m
  · subst h; simp [hi]
  · rw [if_neg h, if_neg (fun e => h e.symm)]
theorem Turned.next {zs ys : List Int} {k j : Nat} (h : Turned zs k ys) (hj : j = zs.length - 1 - k) (hk : k < j) : Turned zs (k + 1) ((ys.set k (ys.getD j 0)).set j (ys.getD k 0)) := by
  obtain ⟨h1, h2⟩ := h
  have ej : ys.getD j 0 = zs.getD j 0 := by rw [h2 j (by omega), if_neg (by omega)]
  have ek : ys.getD k 0 = zs.getD k 0 := by rw [h2 k (by omega), if_neg (by omega)]
  refine ⟨by simp [h1], fun m hm => ?_⟩
  rw [getD_set _ _ _ _ (by rw [List.length_set]; omega), getD_set _ _ _ _ (by omega)]
  by_cases e1 : m = j
  · rw [if_pos e1, if_pos (by omega), ek]; congr 1; omega
  · rw [if_neg e1]
    by_cases e2 : m = k
    · rw [if_pos e2, if_pos (by omega), ej]; congr 1; omega
    · rw [if_neg e2, h2 m hm]
      by_cases e3 : m < k ∨ zs.length ≤ m + k
      · rw [if_pos e3, if_pos (by omega)]
      · rw [if_neg e3, if_neg (by omega)]
theorem Turned.all {zs ys : List Int} {k : Nat} (h : Turned zs k ys) (hk : zs.length ≤ 2 * k + 1) : ys = zs.reverse := by
  obtain ⟨h1, h2⟩ := h
  apply List.ext_getElem?
  intro m
  by_cases hm : m < zs.length
  · have := h2 m hm
    rw [List.getElem?_reverse hm, List.getElem?_eq_getElem (by omega), List.getElem?_eq_getElem (by omega)]
    simp only [List.getD, List.getElem?_eq_getElem (show m < ys.length by omega), List.getElem?_eq_getElem hm, List.getElem?_eq_getElem (show zs.length - 1 - m < zs.length by omega), Option.getD_some] at this
    rw [this]
    by_cases e : m < k ∨ zs.length ≤ m + k
    · rw [if_pos e]
    · rw [if_neg e]; congr 2; omega
  · rw [List.getElem?_eq_none (by omega), List.getElem?_eq_none (by simp; omega)]

def VRel (zs : List Int) (lo hi g cap : Nat) (w : World) (i j : Value) (wr : World) : Prop :=
  ∃ (k : Nat) (jz : Int) (ys : List Int), i = .int .i64 k ∧ j = .int .i64 jz ∧ jz = (zs.length : Int) - 1 - k ∧ k ≤ zs.length ∧ Turned zs k ys ∧ OwnI wr lo hi (.slice (some ⟨g, 0, none⟩) zs.length cap) ys ∧ Within lo hi w wr
set_option maxHeartbeats 1000000 in
theorem Reverse_own (lo hi g cap : Nat) (zs : List Int) (w : World) (h : OwnI w lo hi (.slice (some ⟨g, 0, none⟩) zs.length cap) zs) (hl : zs.length ≤ 1000000000) :
    Calls Tryd.prog 98 #[.slice (some ⟨g, 0, none⟩) zs.length cap] w fun e w' => e = .returned (.tuple #[]) ∧ OwnI w' lo hi (.slice (some ⟨g, 0, none⟩) zs.length cap) zs.reverse ∧ Within lo hi w w' := by
  have hst : VRel zs lo hi g cap w (.int .i64 ((0 : Nat) : Int)) (.int .i64 ((zs.length : Int) - 1 - (0 : Nat))) w := ⟨0, _, zs, rfl, rfl, rfl, Nat.zero_le _, Turned.zero zs, h, Within.of_below (Below.refl _ _)⟩
  have Hst := Lib.hid hst; clear hst h
  go_enter Tryd.func98, Tryd.ntmps98
  go_wp2
  go_loopw [2, 3] (fun i j wr => VRel zs lo hi g cap w i j wr) (fun i _ _ => zs.length - (intOf i).toNat)
  case atStart => simpa using Hst.out
  case round =>
    clear Hst
    obtain ⟨k, jz, ys, rfl, rfl, hj, hk, ht, ho, hw⟩ := hrel
    have hyl := ht.1
    rw [← hyl] at ho
    by_cases hlt : (k : Int) < jz
    · obtain ⟨j, rfl⟩ : ∃ j : Nat, jz = j := ⟨zs.length - 1 - k, by omega⟩
      have hjn : j = zs.length - 1 - k := by omega
      have hkj : k < j := by omega
      obtain ⟨ck, fk⟩ := ho.cellAt k (by omega)
      obtain ⟨cj, fj⟩ := ho.cellAt j (by omega)
      have hwk : InK .i64 (ys.getD k 0) := ho.own.wf _ (by rw [List.getD, List.getElem?_eq_getElem (by omega)]; exact List.getElem_mem _)
      have hwj : InK .i64 (ys.getD j 0) := ho.own.wf _ (by rw [List.getD, List.getElem?_eq_getElem (by omega)]; exact List.getElem_mem _)
      have hn := ht.next hjn hkj
      obtain ⟨o1, w1⟩ := ho.put k (ys.getD j 0) hwj
      obtain ⟨o2, w2⟩ := o1.put j (ys.getD k 0) hwk
      have o3 := o2.below ((Below.refl _ _).drew)
      have hlen : ((ys.set k (ys.getD j 0)).set j (ys.getD k 0)).length = zs.length := by rw [List.length_set, List.length_set]; exact hyl
      have HX := Lib.hid (And.intro hn (And.intro o3 ((hw.trans (w1.trans w2)).trans (within_drew _ _ _)))); clear hn o1 o2 o3 w1 w2 hwk hwj hw ht ho
      rw [hlen] at HX
      clear hlen
      have hkl : (k : Int) < zs.length := by omega
      have hjl : (j : Int) < zs.length := by omega
      generalize hy1 : ys.getD k 0 = y1 at *
      generalize hy2 : ys.getD j 0 = y2 at *
      have hj1 : (j : Int) - 1 = (zs.length : Int) - 1 - ((k + 1 : Nat) : Int) := by omega
      have Hj := Lib.hid hj1; clear hj1 hj hjn hyl
      go_wp2_with fail
      go_region
      go_wp2
      go_roundw
      case rel => exact ⟨k + 1, _, _, by go_num, rfl, Hj.out, by omega, HX.out.1, HX.out.2.1, HX.out.2.2⟩
      case measure => simp [intOf]; omega
    · have he := ht.all (by omega)
      subst he
      rw [List.length_reverse] at ho
      have HX := Lib.hid (And.intro ho hw); clear ho hw ht hyl
      go_wp2
      go_end0
      exact ⟨rfl, HX.out⟩

theorem RunAt.rdI {w : World} {lo g : Nat} {vr vs : Value} {us : List Value} {rest : List Int} {st : List (List Int)} (h : RunAt w lo g vr vs us rest st) : RdI w vr rest.reverse := by
  have ho : Own w lo vr rest.reverse := ⟨by rw [List.length_reverse]; exact h.words, fun z hz => h.wf z (by simpa using hz)⟩
  exact ho.ints

theorem Reverse_nil (w : World) :
    Calls Tryd.prog 98 #[.slice none 0 0] w fun e w' => e = .returned (.tuple #[]) ∧ w = w' := by
  go_enter Tryd.func98, Tryd.ntmps98
  go_wp2
  go_loopw [2, 3] (fun i j wr => i = .int .i64 0 ∧ j = .int .i64 (-1) ∧ wr = w) (fun _ _ _ => 0)
  case atStart => exact ⟨rfl, rfl, rfl⟩
  case round =>
    obtain ⟨rfl, rfl, rfl⟩ := hrel
    go_wp2
    go_end0
    exact ⟨rfl, rfl⟩
theorem Clone_rd (v : Value) (zs : List Int) (w : World) (h : RdI w v zs) (hl : zs.length ≤ 2000000) :
    Calls Tryd.prog 42 #[v] w fun e w' => ∃ u, e = .returned u ∧ OwnI w' w.heap.size w'.heap.size u zs ∧ Below w.heap.size w w' := by
  obtain ⟨A, c, rfl, hi, hc⟩ := h
  rcases A with _ | a
  · have h0 : zs = [] := by
      rcases zs with _ | ⟨z, zs⟩
      · rfl
      · obtain ⟨b, off, e, _⟩ := hi.at_ (by simp); cases e
    subst h0
    have hnil := fun (W : World) (n c : Nat) => Lib.run_eql_slice_nil (P := Tryd.prog) W 23 3 none n c 0 0 Tryd.underlying23
    clear hi hc
    go_enter Tryd.func42, Tryd.ntmps42
    go_wp2
    go_ret
    exact ⟨_, rfl, OwnI.nil _ _ _, Below.refl _ _⟩
  · have hm := hi.len
    have H := Lib.hid hi; clear hi
    have L0 := lit_own w [] (by simp)
    simp only [List.map_nil, List.length_nil] at L0
    have hnil := fun (W : World) (a : Option Addr) (n c : Nat) => Lib.run_eql_slice_nil (P := Tryd.prog) W 23 3 a n c 0 0 Tryd.underlying23
    go_enter Tryd.func42, Tryd.ntmps42
    go_wp2_with (at_builtin; refine wpList_append_ints rfl (.tmp 5) (.tmp 6) _ rfl w.heap.size 3 .i64 8 Tryd.underlying23 intInfo (Nat.le_refl _) _ [] rfl L0 (w.heap.size + 1) _ zs c rfl ((H.out.alloc (Nat.le_refl _) _).mono (by omega)) (by simp; omega) (by simp) ?_)
    intro v1 w1 hown1 hg1 _
    have hb1 : Below w.heap.size w w1 := ((Below.refl w.heap.size w).alloc (Nat.le_refl _) _).grown hg1 (by simp) (by intro k hk; simp [Value.ownBlock] at hk; omega)
    have ho1 : Own w1 w.heap.size v1 zs := ⟨by simpa using hown1, H.out.wf⟩
    have X := Lib.hid (And.intro ho1 hb1)
    clear hown1 hg1 hb1 ho1 L0
    go_wp2
    go_ret
    exact ⟨_, rfl, X.out.1.within, X.out.2⟩
theorem restWords_any (lo g : Nat) (rest : List Int) (st : List (List Int)) (w : World) (h : Run w lo g rest st) (hl : rest.length ≤ 2000000) :
    Calls Tryd.prog 89 #[.pointer (some ⟨g, 0, none⟩)] w fun e w' => ∃ u, e = .returned u ∧ OwnI w' w.heap.size w'.heap.size u rest ∧ Below w.heap.size w w' := by
  obtain ⟨vr, vs, us, h⟩ := h
  have hg := h.blk.lt
  have hrd := h.rdI
  have c1 := h.blk.cell 0
  simp only [List.getElem?_toArray, List.getElem?_cons_zero] at c1
  clear h
  have hlr : rest.reverse.length ≤ 2000000 := by simpa using hl
  have HE : Hid (rest.reverse.reverse = rest) := Lib.hid (List.reverse_reverse rest)
  generalize rest.reverse = zs at *
  have HR := Lib.hid hrd
  obtain ⟨A, c, rfl, _⟩ := hrd
  go_enter Tryd.func89, Tryd.ntmps89
  go_wp2_with fail
  refine (Clone_rd _ zs _ HR.out hlr).mono ?_
  rintro e w1 ⟨u, rfl, ho, hb⟩
  have hz1 := hb.size
  have X := Lib.hid (And.intro ho hb); clear ho hb HR
  rcases X.out.1.own.own.2 with ⟨rfl, h0⟩ | ⟨g2, cap2, cur2, rfl, -⟩
  · have hr : rest = [] := by rw [← HE.out, List.eq_nil_of_length_eq_zero h0]; rfl
    subst hr
    go_wp2_with fail
    refine (Reverse_nil _).mono ?_
    rintro e w' ⟨rfl, rfl⟩
    go_wp2
    go_ret
    exact ⟨_, rfl, OwnI.nil _ _ _, X.out.2⟩
  · go_wp2_with fail
    refine (Reverse_own w.heap.size w1.heap.size g2 cap2 zs _ X.out.1 (by omega)).mono ?_
    rintro e w2 ⟨rfl, ho, hw⟩
    rw [HE.out] at ho
    have hz2 := hw.size
    have Y := Lib.hid (And.intro (OwnI.mk ho.own (fun k hk => Nat.lt_of_lt_of_le (ho.lt k hk) hz2)) (X.out.2.trans (hw.below (Nat.le_refl _) hz1))); clear ho hw X
    go_wp2
    go_ret
    exact ⟨_, rfl, Y.out⟩

/-- One step of a state, its stack the lowest value first. -/
def stepOfR (r : List Int) (s : List (List Int)) : List Int × List (List Int) × Bool :=
  if stateB r s = true then match stepR r s.reverse with
    | some x => (x.1, x.2.reverse, true)
    | none => ([], [], false)
  else ([], [], false)
def StPost (w : World) (r : List Int) (s : List (List Int)) (b : Bool) (e : Ending) (w' : World) : Prop := ∃ u0 u1 m, e = .returned (.tuple #[.agg #[u0, u1], .bool b]) ∧ w.heap.size ≤ m ∧ m ≤ w'.heap.size ∧ OwnI w' w.heap.size m u0 r ∧ OwnS w' m w'.heap.size u1 s ∧ Below w.heap.size w w'
end Go.Proofs.YtkdpfiaegimnlaaDoor
