/- StepOf, the program's: what is to be done, read out of the runner (slices.Reverse); and StepOf as a whole. -/
import Derived.Test.YtenaeiedoiepdaaBu
import Derived.Test.YtenaeiedoiepdaaSb
namespace Go.Proofs.Ytenaeiedoiepdaa
set_option maxRecDepth 100000
open Go.RowKit Go.WideShapes

theorem OwnI.put {w : World} {lo hi g cap : Nat} {zs : List Int} (h : OwnI w lo hi (.slice (some ⟨g, 0, none⟩) zs.length cap) zs) (k : Nat) (z : Int) (hz : InK .i64 z) :
    OwnI (w.setCell ⟨g, k, none⟩ (.int .i64 z)) lo hi (.slice (some ⟨g, 0, none⟩) (zs.set k z).length cap) (zs.set k z) ∧ Within lo hi w (w.setCell ⟨g, k, none⟩ (.int .i64 z)) := by
  obtain ⟨hst, hgr⟩ := h.own.own.stored k (.int .i64 z)
  refine ⟨⟨⟨by rw [List.length_set]; simpa [List.map_set] using hst, fun y hy => ?_⟩, fun q hq => h.lt q hq⟩, Within.of_only hgr fun q hq => ?_⟩
  · rcases List.mem_or_eq_of_mem_set hy with h1 | h1
    · exact h.own.wf y h1
    · rw [h1]; exact hz
  · cases hq
    exact ⟨(h.own.own.lt g rfl).1, h.lt g rfl⟩
theorem OwnI.nil (w : World) (lo hi : Nat) : OwnI w lo hi (.slice none 0 0) [] := ⟨Own.nil _ _, by simp [Value.ownBlock]⟩
theorem within_drew (lo hi : Nat) (w : World) : Within lo hi w w.drew := ⟨rfl, rfl, rfl, Nat.le_refl _, fun _ _ _ => rfl⟩

theorem OwnI.cellAt {w : World} {lo hi g cap : Nat} {zs : List Int} (h : OwnI w lo hi (.slice (some ⟨g, 0, none⟩) zs.length cap) zs) (j : Nat) (hj : j < zs.length) : w.cell? ⟨g, j, none⟩ = some (.int .i64 (zs.getD j 0)) ∧ w.frozen? ⟨g, j, none⟩ = false := by
  refine ⟨?_, h.own.own.frozenAt j⟩
  rw [h.own.own.cellAt j (by omega), List.getElem?_map, List.getElem?_eq_getElem hj]
  simp [List.getD, List.getElem?_eq_getElem hj]
/-- After k exchanges from both ends. -/
def Turned (zs : List Int) (k : Nat) (ys : List Int) : Prop := ys.length = zs.length ∧ ∀ m, m < zs.length → ys.getD m 0 = if m < k ∨ zs.length ≤ m + k then zs.getD (zs.length - 1 - m) 0 else zs.getD m 0
theorem Turned.zero (zs : List Int) : Turned zs 0 zs := ⟨rfl, fun m hm => by rw [if_neg (by omega)]⟩
theorem getD_set (l : List Int) (i m : Nat) (z : Int) (hi : i < l.length) : (l.set i z).getD m 0 = if m = i then z else l.getD m 0 := by
  simp only [List.getD, List.getElem?_set]
  by_cases h : i = m
  · subst h; simp [hi]
  · rw [if_neg h, if_neg (fun e => h e.symm)]
theorem Turned.next {zs ys : List Int} {k j : Nat} (h : Turned zs k ys) (hj : j = zs.length - 1 - k) (hk : k < j) : Turned zs (k + 1) ((ys.set k (ys.getD j 0)).set j (ys.getD k 0)) := by
  obtain ⟨h1, h2⟩ := h
  have ej : ys.getD j 0 = zs.getD j 0 := by rw [h2 j (by omega), if_neg (by omega)]
  have ek : ys.getD k 0 = zs.getD k 0 := by rw [h2 k (by omega), if_neg (by omega)]
  refine ⟨by simp [h1], fun m hm => ?_⟩
  rw [getD_set _ _ _ _ (by rw [List.length_set]; omega), getD_set _ _ _ _ (by omega)]
  by_cases e1 : m = j
  · rw [if_pos e1, if_pos (by omega), ek]; congr 1; omega
  · rw [if_neg e1]
    by_cases e2 : m = k
    · rw [if_pos e2, if_pos (by omega), ej]; congr 1; omega
    · rw [if_neg e2, h2 m hm]
      by_cases e3 : m < k ∨ zs.length ≤ m + k
      · rw [if_pos e3, if_pos (by omega)]
      · rw [if_neg e3, if_neg (by omega)]
theorem Turned.all {zs ys : List Int} {k : Nat} (h : Turned zs k ys) (hk : zs.length ≤ 2 * k + 1) : ys = zs.reverse := by
  obtain ⟨h1, h2⟩ := h
  apply List.ext_getElem?
  intro m
  by_cases hm : m < zs.length
  · have := h2 m hm
    rw [List.getElem?_reverse hm, List.getElem?_eq_getElem (by omega), List.getElem?_eq_getElem (by omega)]
    simp only [List.getD, List.getElem?_eq_getElem (show m < ys.length by omega), List.getElem?_eq_getElem hm, List.getElem?_eq_getElem (show zs.length - 1 - m < zs.length by omega), Option.getD_some] at this
    rw [this]
    by_cases e : m < k ∨ zs.length ≤ m + k
    · rw [if_pos e]
    · rw [if_neg e]; congr 2; omega
  · rw [List.getElem?_eq_none (by omega), List.getElem?_eq_none (by simp; omega)]

def VRel (zs : List Int) (lo hi g cap : Nat) (w : World) (i j : Value) (wr : World) : Prop :=
  ∃ (k : Nat) (jz : Int) (ys : List Int), i = .int .i64 k ∧ j = .int .i64 jz ∧ jz = (zs.length : Int) - 1 - k ∧ k ≤ zs.length ∧ Turned zs k ys ∧ OwnI wr lo hi (.slice (some ⟨g, 0, none⟩) zs.length cap) ys ∧ Within lo hi w wr
set_option maxHeartbeats 1000000 in
theorem Reverse_own (lo hi g cap : Nat) (zs : List Int) (w : World) (h : OwnI w lo hi (.slice (some ⟨g, 0, none⟩) zs.length cap) zs) (hl : zs.length ≤ 1000000000) :
    Calls Try.prog 43 #[.slice (some ⟨g, 0, none⟩) zs.length cap] w fun e w' => e = .returned (.tuple #[]) ∧ OwnI w' lo hi (.slice (some ⟨g, 0, none⟩) zs.length cap) zs.reverse ∧ Within lo hi w w' := by
  have hst : VRel zs lo hi g cap w (.int .i64 ((0 : Nat) : Int)) (.int .i64 ((zs.length : Int) - 1 - (0 : Nat))) w := ⟨0, _, zs, rfl, rfl, rfl, Nat.zero_le _, Turned.zero zs, h, Within.of_below (Below.refl _ _)⟩
  have Hst := Lib.hid hst; clear hst h
  go_enter Try.func43, Try.ntmps43
  go_wp2
  go_loopw [2, 3] (fun i j wr => VRel zs lo hi g cap w i j wr) (fun i _ _ => zs.length - (intOf i).toNat)
  case atStart => simpa using Hst.out
  case round =>
    clear Hst
    obtain ⟨k, jz, ys, rfl, rfl, hj, hk, ht, ho, hw⟩ := hrel
    have hyl := ht.1
    rw [← hyl] at ho
    by_cases hlt : (k : Int) < jz
    · obtain ⟨j, rfl⟩ : ∃ j : Nat, jz = j := ⟨zs.length - 1 - k, by omega⟩
      have hjn : j = zs.length - 1 - k := by omega
      have hkj : k < j := by omega
      obtain ⟨ck, fk⟩ := ho.cellAt k (by omega)
      obtain ⟨cj, fj⟩ := ho.cellAt j (by omega)
      have hwk : InK .i64 (ys.getD k 0) := ho.own.wf _ (by rw [List.getD, List.getElem?_eq_getElem (by omega)]; exact List.getElem_mem _)
      have hwj : InK .i64 (ys.getD j 0) := ho.own.wf _ (by rw [List.getD, List.getElem?_eq_getElem (by omega)]; exact List.getElem_mem _)
      have hn := ht.next hjn hkj
      obtain ⟨o1, w1⟩ := ho.put k (ys.getD j 0) hwj
      obtain ⟨o2, w2⟩ := o1.put j (ys.getD k 0) hwk
      have o3 := o2.below ((Below.refl _ _).drew)
      have hlen : ((ys.set k (ys.getD j 0)).set j (ys.getD k 0)).length = zs.length := by rw [List.length_set, List.length_set]; exact hyl
      have HX := Lib.hid (And.intro hn (And.intro o3 ((hw.trans (w1.trans w2)).trans (within_drew _ _ _)))); clear hn o1 o2 o3 w1 w2 hwk hwj hw ht ho
      rw [hlen] at HX
      clear hlen
      have hkl : (k : Int) < zs.length := by omega
      have hjl : (j : Int) < zs.length := by omega
      generalize hy1 : ys.getD k 0 = y1 at *
      generalize hy2 : ys.getD j 0 = y2 at *
      have hj1 : (j : Int) - 1 = (zs.length : Int) - 1 - ((k + 1 : Nat) : Int) := by omega
      have Hj := Lib.hid hj1; clear hj1 hj hjn hyl
      go_wp2_with fail
      go_region
      go_wp2
      go_roundw
      case rel => exact ⟨k + 1, _, _, by go_num, rfl, Hj.out, by omega, HX.out.1, HX.out.2.1, HX.out.2.2⟩
      case measure => simp [intOf]; omega
    · have he := ht.all (by omega)
      subst he
      rw [List.length_reverse] at ho
      have HX := Lib.hid (And.intro ho hw); clear ho hw ht hyl
      go_wp2
      go_end0
      exact ⟨rfl, HX.out⟩

theorem RunAt.rdI {w : World} {lo g : Nat} {vr vs : Value} {us : List Value} {rest : List Int} {st : List (List Int)} (h : RunAt w lo g vr vs us rest st) : RdI w vr rest.reverse := by
  have ho : Own w lo vr rest.reverse := ⟨by rw [List.length_reverse]; exact h.words, fun z hz => h.wf z (by simpa using hz)⟩
  exact ho.ints

theorem Reverse_nil (w : World) :
    Calls Try.prog 43 #[.slice none 0 0] w fun e w' => e = .returned (.tuple #[]) ∧ w = w' := by
  go_enter Try.func43, Try.ntmps43
  go_wp2
  go_loopw [2, 3] (fun i j wr => i = .int .i64 0 ∧ j = .int .i64 (-1) ∧ wr = w) (fun _ _ _ => 0)
  case atStart => exact ⟨rfl, rfl, rfl⟩
  case round =>
    obtain ⟨rfl, rfl, rfl⟩ := hrel
    go_wp2
    go_end0
    exact ⟨rfl, rfl⟩
theorem Clone_rd (v : Value) (zs : List Int) (w : World) (h : RdI w v zs) (hl : zs.length ≤ 2000000) :
    Calls Try.prog 42 #[v] w fun e w' => ∃ u, e = .returned u ∧ OwnI w' w.heap.size w'.heap.size u zs ∧ Below w.heap.size w w' := by
  obtain ⟨A, c, rfl, hi, hc⟩ := h
  rcases A with _ | a
  · have h0 : zs = [] := by
      rcases zs with _ | ⟨z, zs⟩
      · rfl
      · obtain ⟨b, off, e, _⟩ := hi.at_ (by simp); cases e
    subst h0
    have hnil := fun (W : World) (n c : Nat) => Lib.run_eql_slice_nil (P := Try.prog) W 23 3 none n c 0 0 Try.underlying23
    clear hi hc
    go_enter Try.func42, Try.ntmps42
    go_wp2
    go_ret
    exact ⟨_, rfl, OwnI.nil _ _ _, Below.refl _ _⟩
  · have hm := hi.len
    have H := Lib.hid hi; clear hi
    have L0 := lit_own w [] (by simp)
    simp only [List.map_nil, List.length_nil] at L0
    have hnil := fun (W : World) (a : Option Addr) (n c : Nat) => Lib.run_eql_slice_nil (P := Try.prog) W 23 3 a n c 0 0 Try.underlying23
    go_enter Try.func42, Try.ntmps42
    go_wp2_with (at_builtin; refine wpList_append_ints rfl (.tmp 5) (.tmp 6) _ rfl w.heap.size 3 .i64 8 Try.underlying23 intInfo (Nat.le_refl _) _ [] rfl L0 (w.heap.size + 1) _ zs c rfl ((H.out.alloc (Nat.le_refl _) _).mono (by omega)) (by simp; omega) (by simp) ?_)
    intro v1 w1 hown1 hg1 _
    have hb1 : Below w.heap.size w w1 := ((Below.refl w.heap.size w).alloc (Nat.le_refl _) _).grown hg1 (by simp) (by intro k hk; simp [Value.ownBlock] at hk; omega)
    have ho1 : Own w1 w.heap.size v1 zs := ⟨by simpa using hown1, H.out.wf⟩
    have X := Lib.hid (And.intro ho1 hb1)
    clear hown1 hg1 hb1 ho1 L0
    go_wp2
    go_ret
    exact ⟨_, rfl, X.out.1.within, X.out.2⟩
theorem restWords_any (lo g : Nat) (rest : List Int) (st : List (List Int)) (w : World) (h : Run w lo g rest st) (hl : rest.length ≤ 2000000) :
    Calls Try.prog 15 #[.pointer (some ⟨g, 0, none⟩)] w fun e w' => ∃ u, e = .returned u ∧ OwnI w' w.heap.size w'.heap.size u rest ∧ Below w.heap.size w w' := by
  obtain ⟨vr, vs, us, h⟩ := h
  have hg := h.blk.lt
  have hrd := h.rdI
  have c1 := h.blk.cell 0
  simp only [List.getElem?_toArray, List.getElem?_cons_zero] at c1
  clear h
  have hlr : rest.reverse.length ≤ 2000000 := by simpa using hl
  have HE : Hid (rest.reverse.reverse = rest) := Lib.hid (List.reverse_reverse rest)
  generalize rest.reverse = zs at *
  have HR := Lib.hid hrd
  obtain ⟨A, c, rfl, _⟩ := hrd
  go_enter Try.func15, Try.ntmps15
  go_wp2_with fail
  refine (Clone_rd _ zs _ HR.out hlr).mono ?_
  rintro e w1 ⟨u, rfl, ho, hb⟩
  have hz1 := hb.size
  have X := Lib.hid (And.intro ho hb); clear ho hb HR
  rcases X.out.1.own.own.2 with ⟨rfl, h0⟩ | ⟨g2, cap2, cur2, rfl, -⟩
  · have hr : rest = [] := by rw [← HE.out, List.eq_nil_of_length_eq_zero h0]; rfl
    subst hr
    go_wp2_with fail
    refine (Reverse_nil _).mono ?_
    rintro e w' ⟨rfl, rfl⟩
    go_wp2
    go_ret
    exact ⟨_, rfl, OwnI.nil _ _ _, X.out.2⟩
  · go_wp2_with fail
    refine (Reverse_own w.heap.size w1.heap.size g2 cap2 zs _ X.out.1 (by omega)).mono ?_
    rintro e w2 ⟨rfl, ho, hw⟩
    rw [HE.out] at ho
    have hz2 := hw.size
    have Y := Lib.hid (And.intro (OwnI.mk ho.own (fun k hk => Nat.lt_of_lt_of_le (ho.lt k hk) hz2)) (X.out.2.trans (hw.below (Nat.le_refl _) hz1))); clear ho hw X
    go_wp2
    go_ret
    exact ⟨_, rfl, Y.out⟩

/-- One step of a state, its stack the lowest value first. -/
def stepOfR (r : List Int) (s : List (List Int)) : List Int × List (List Int) × Bool :=
  if stateB r s = true then match stepR r s.reverse with
    | some x => (x.1, x.2.reverse, true)
    | none => ([], [], false)
  else ([], [], false)
def StPost (w : World) (r : List Int) (s : List (List Int)) (b : Bool) (e : Ending) (w' : World) : Prop := ∃ u0 u1 m, e = .returned (.tuple #[.agg #[u0, u1], .bool b]) ∧ w.heap.size ≤ m ∧ m ≤ w'.heap.size ∧ OwnI w' w.heap.size m u0 r ∧ OwnS w' m w'.heap.size u1 s ∧ Below w.heap.size w w'
set_option maxHeartbeats 1000000 in
theorem StepOf_I (v0 v1 : Value) (x0 : List Int) (x1 : List (List Int)) (w : World) (h0 : RdI w v0 x0) (hl0 : x0.length ≤ 1048576) (h1 : RdS w v1 x1) (y0 : List Int) (y1 : List (List Int)) (y2 : Bool) (hR : stepOfR x0 x1 = (y0, y1, y2)) :
    Calls Try.prog 5 #[.agg #[v0, v1]] w (StPost w y0 y1 y2) := by
  have hb0 : Below w.heap.size w ((w.alloc (.cells #[v0, v1] 26)).alloc (.cells #[.slice none 0 0, .slice none 0 0] 26)) := ((Below.refl _ _).alloc (Nat.le_refl _) _).alloc (by simp) _
  have k1 := Blk.new w #[v0, v1] 26
  have k2 := Blk.new (w.alloc (.cells #[v0, v1] 26)) #[.slice none 0 0, .slice none 0 0] 26
  replace k1 := k1.below ((Below.refl (w.heap.size + 1) _).alloc (by simp) (.cells #[.slice none 0 0, .slice none 0 0] 26)) (by omega)
  rw [World.size_alloc] at k2
  have S0 := Lib.hid (And.intro (h0.step hb0) (And.intro (h1.step hb0) (And.intro hb0 (And.intro k1 k2)))); clear hb0 k1 k2
  obtain ⟨A0, c0, rfl, _⟩ := h0
  obtain ⟨A1, c1, rfl, _⟩ := h1
  have HR := Lib.hid hR; clear hR
  rcases hs : stateB x0 x1 with _ | _ <;> have Hs := Lib.hid hs <;> clear hs
  · have he : ([], [], false) = (y0, y1, y2) := by have := HR.out; rw [stepOfR, Hs.out] at this; exact this
    cases he
    go_enter Try.func5, Try.ntmps5
    go_wp2_with fail
    refine (StateOk_any _ _ x0 x1 _ S0.out.1 S0.out.2.1).mono ?_
    rw [Hs.out]
    rintro e w1 ⟨rfl, hb⟩
    have hB := S0.out.2.2.2.2.below hb (by simp)
    obtain ⟨cc0, cc1, ff0, ff1⟩ := hB.two
    obtain ⟨e0, e1⟩ := hB.two_out (x := .slice none 0 0) (y := .slice none 0 0)
    have hbw : Below w.heap.size w w1 := S0.out.2.2.1.trans (hb.mono (by simp; omega))
    have X := Lib.hid ((hbw.setCell (p := ⟨w.heap.size + 1, 0, none⟩) (by simp) (.slice none 0 0)).setCell (p := ⟨w.heap.size + 1, 1, none⟩) (by simp) (.slice none 0 0)); clear hb hB hbw
    have hX := X.out.size
    go_wp2
    refine bodyPost_ret (v := .tuple #[.agg #[.slice none 0 0, .slice none 0 0], .bool false]) (by simp [results, Try.results5, go_sem, e0, e1]) rfl ?_
    exact ⟨_, _, _, rfl, Nat.le_refl _, hX, OwnI.nil _ _ _, OwnS.nil _ _ _, X.out⟩
  · have hst : okS x0 x1.reverse ∧ stackB x1 = true := by
      have := Hs.out
      simp only [stateB, Bool.and_eq_true] at this
      exact ⟨⟨this.1, by rw [stackB_reverse]; exact this.2⟩, this.2⟩
    obtain ⟨hok, hsk⟩ := hst
    obtain ⟨hls, _⟩ := stackB_all hsk
    have Hok := Lib.hid hok; clear hok hsk
    go_enter Try.func5, Try.ntmps5
    go_wp2_with fail
    refine (StateOk_any _ _ x0 x1 _ S0.out.1 S0.out.2.1).mono ?_
    rw [Hs.out]
    rintro e w1 ⟨rfl, hb⟩
    have hz1 : w.heap.size + 1 + 1 ≤ w1.heap.size := by have := hb.size; simpa using this
    have hA := S0.out.2.2.2.1.below hb (by simp; omega)
    have hB := S0.out.2.2.2.2.below hb (by simp)
    have X := Lib.hid (And.intro (S0.out.1.step hb) (And.intro (S0.out.2.1.step hb) (And.intro (S0.out.2.2.1.trans (hb.mono (by simp; omega))) hB))); clear hb S0 hB
    obtain ⟨a0, a1, _, _⟩ := hA.two
    go_wp2_with fail
    refine (newRunner_any _ _ x0 x1 _ X.out.1 X.out.2.1 (by omega) (by omega)).mono ?_
    rintro e w2 ⟨g, rfl, q1, q2⟩
    have hz2 := q2.size
    have hge : w1.heap.size ≤ g := q1.ge
    have hltr := q1.lt
    have Y := Lib.hid (And.intro q1 (And.intro (X.out.2.2.1.trans (q2.mono (by omega))) (X.out.2.2.2.below q2 (by omega)))); clear q1 q2 X hA a0 a1
    go_wp2_with fail
    refine (step_any w1.heap.size g x0 x1.reverse _ Y.out.1 Hok.out (by omega)).mono ?_
    rintro e w3 ⟨b, rfl, d1, d2, d3⟩
    have hz3 := d1.below.size
    have hB := Y.out.2.2.below d1.below (by omega)
    have hbw : Below w.heap.size w w3 := Y.out.2.1.trans (d1.below.mono (by omega))
    rcases hq : stepR x0 x1.reverse with _ | x
    · have he : ([], [], false) = (y0, y1, y2) := by have := HR.out; rw [stepOfR, if_pos Hs.out, hq] at this; exact this
      cases he
      obtain ⟨rfl, _⟩ := d2 hq
      obtain ⟨cc0, cc1, ff0, ff1⟩ := hB.two
      obtain ⟨e0, e1⟩ := hB.two_out (x := .slice none 0 0) (y := .slice none 0 0)
      have Z := Lib.hid ((hbw.setCell (p := ⟨w.heap.size + 1, 0, none⟩) (by simp) (.slice none 0 0)).setCell (p := ⟨w.heap.size + 1, 1, none⟩) (by simp) (.slice none 0 0)); clear hB hbw d1 d2 d3 Y hq
      have hX := Z.out.size
      go_wp2
      refine bodyPost_ret (v := .tuple #[.agg #[.slice none 0 0, .slice none 0 0], .bool false]) (by simp [results, Try.results5, go_sem, e0, e1]) rfl ?_
      exact ⟨_, _, _, rfl, Nat.le_refl _, hX, OwnI.nil _ _ _, OwnS.nil _ _ _, Z.out⟩
    · have he : (x.1, x.2.reverse, true) = (y0, y1, y2) := by have := HR.out; rw [stepOfR, if_pos Hs.out, hq] at this; exact this
      cases he
      obtain ⟨rfl, d4⟩ := d3 x hq
      obtain ⟨ok2, ol2⟩ := stepR_ok Hok.out hq
      obtain ⟨hl2, hv2⟩ := stackB_all ok2.2
      have hlt3 := d4.lt
      have Z := Lib.hid (And.intro d4 (And.intro hbw (And.intro hB hv2))); clear d1 d2 d3 d4 hbw hB hv2 Y hq ok2 Hs HR
      go_wp2_with fail
      refine (restWords_any w1.heap.size g x.1 x.2 _ Z.out.1 (by omega)).mono ?_
      rintro e w4 ⟨u0, rfl, o0, hb4⟩
      have hz4 := hb4.size
      have hr4 := (Z.out.1.step hb4).1
      have V := Lib.hid (And.intro hr4 (And.intro (Z.out.2.1.trans (hb4.mono (by omega))) (And.intro (Z.out.2.2.1.below hb4 (by omega)) (And.intro Z.out.2.2.2 o0)))); clear hr4 hb4 o0 Z
      go_wp2_with fail
      refine (stackValues_any w1.heap.size g x.1 x.2 _ V.out.1 hl2 V.out.2.2.2.1).mono ?_
      rintro e w5 ⟨u1, rfl, o1, hb5⟩
      generalize x.2.reverse = rv at *
      have hz5 := hb5.size
      obtain ⟨B0, k0, rfl, _⟩ := V.out.2.2.2.2.rd
      obtain ⟨B1, k1, rfl, _⟩ := o1.rd
      have hB := V.out.2.2.1.below hb5 (by omega)
      obtain ⟨cc0, cc1, ff0, ff1⟩ := hB.two
      obtain ⟨e0, e1⟩ := hB.two_out (x := .slice B0 x.1.length k0) (y := .slice B1 rv.length k1)
      have hbw : Below w.heap.size w w5 := V.out.2.1.trans (hb5.mono (by omega))
      have o0' := ((V.out.2.2.2.2.below hb5).apart (within_setCell _ (w.heap.size + 1) 0 (.slice B0 x.1.length k0)) (.inr (by omega))).apart (within_setCell _ (w.heap.size + 1) 1 (.slice B1 rv.length k1)) (.inr (by omega))
      have o1' := (o1.apart (within_setCell _ (w.heap.size + 1) 0 (.slice B0 x.1.length k0)) (.inr (by omega))).apart (within_setCell _ (w.heap.size + 1) 1 (.slice B1 rv.length k1)) (.inr (by omega))
      have hbo := (hbw.setCell (p := ⟨w.heap.size + 1, 0, none⟩) (by simp) (.slice B0 x.1.length k0)).setCell (p := ⟨w.heap.size + 1, 1, none⟩) (by simp) (.slice B1 rv.length k1)
      have hm : w4.heap.size ≤ ((w5.setCell ⟨w.heap.size + 1, 0, none⟩ (.slice B0 x.1.length k0)).setCell ⟨w.heap.size + 1, 1, none⟩ (.slice B1 rv.length k1)).heap.size := by simp [World.setCell]; omega
      have hsz : w5.heap.size = ((w5.setCell ⟨w.heap.size + 1, 0, none⟩ (.slice B0 x.1.length k0)).setCell ⟨w.heap.size + 1, 1, none⟩ (.slice B1 rv.length k1)).heap.size := by simp [World.setCell]
      have o1s := o1'.widen (Nat.le_of_eq hsz)
      have T := Lib.hid (And.intro hm (And.intro (o0'.low (show w.heap.size ≤ w3.heap.size by omega)) (And.intro o1s hbo))); clear hm o0' o1' o1s hbo hbw hB o1 hb5 V hsz
      go_wp2
      refine bodyPost_ret (v := .tuple #[.agg #[.slice B0 x.1.length k0, .slice B1 rv.length k1], .bool true]) (by simp [results, Try.results5, go_sem, e0, e1]) rfl ?_
      exact ⟨_, _, w4.heap.size, rfl, by omega, T.out⟩
end Go.Proofs.Ytenaeiedoiepdaa
