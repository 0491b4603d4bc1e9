/- Chapter 5: a package-level array of integers; the program's valuesFirst, ruleFor, doneAhead. -/
import Derived.Test.YtkdpfiaegimnlaaDoorTab
import Derived.Test.YtkdpfiaegimnlaaDoorSa
import Derived.Test.YtkdpfiaegimnlaaDoorVa
import Derived.Test.YtkdpfiaegimnlaaDoorTo
namespace Go.Proofs.YtkdpfiaegimnlaaDoor
set_option maxRecDepth 100000
open Go.RowKit Go.WideShapes Go.ChangeShapes

def intVals (zs : List Int) : List Value := zs.map (Value.int .i64)
def intData {H : Type} (zs : List Int) : DataW H := .agg (zs.map fun z => .lit (.int .i64 z))

theorem ints_of_tab {H : Type} {enc : TypeId × Value → H} {P : Program} {w : World} {base : Nat} {sp : Nat → Bool} {held : Bool} {fuel : Nat} {t e : TypeId} {n : Nat} {cs : List Value} {zs : List Int} {p : List MemPlace}
    (ht : P.underlying t = some (.array n e)) (he : P.underlying e = some (.int .i64)) (hce : P.cellsOf e = 1) (hct : P.cellsOf t = n)
    (h : DataW.trod enc P w base sp held fuel t cs = some (intData zs, p)) : cs = intVals zs := by
  cases fuel with
  | zero => simp [DataW.trod] at h
  | succ fuel =>
    simp only [DataW.trod, ht, hce, hct, Nat.mul_one] at h
    split at h
    · rename_i hl
      obtain ⟨xs, hm, hx⟩ := Option.map_eq_some_iff.1 h
      have hxs : xs.map (·.1) = zs.map fun z => (DataW.lit (.int .i64 z) : DataW H) := by
        have := congrArg Prod.fst hx
        simpa [intData] using this
      have hxl : xs.length = n := by simpa using Lib.mapM_length hm
      have hsl : zs.length = n := by
        have := congrArg List.length hxs
        simp at this
        omega
      apply List.ext_getElem?
      intro i
      by_cases hi : i < n
      · obtain ⟨b, hb, hf⟩ := Lib.mapM_at hm i i (by simp [hi])
        obtain ⟨z, hc, rfl, _⟩ := DataW.trod_int he hf
        have h1 : cs[i]? = some (.int .i64 z) := by
          have := congrArg (·[0]?) hc
          simpa [List.getElem?_take, List.getElem?_drop] using this
        have h2 : (xs.map (·.1))[i]? = some (DataW.lit (.int .i64 z) : DataW H) := by simp [hb]
        rw [hxs] at h2
        simp only [List.getElem?_map, Option.map_eq_some_iff, DataW.lit.injEq, Lit.int.injEq, true_and] at h2
        obtain ⟨z', hz', rfl⟩ := h2
        rw [h1, intVals, List.getElem?_map, hz']
        rfl
      · rw [List.getElem?_eq_none (by omega), List.getElem?_eq_none (by simp [intVals]; omega)]
    · cases h

/-- Block g holds the table, and is not frozen. -/
def IntTab (W : World) (g : Nat) (zs : List Int) : Prop := ∃ T, W.heap[g]? = some (.cells (intVals zs).toArray T (0, 0))
theorem intTab_of_laid {P : Program} {W : World} {name : String} {zs : List Int} {laid : List (String × DataW Unit)} {g : Nat} {t e : TypeId} {n : Nat}
    (hg : P.globalNamed name = some g) (hty : (P.globals[g]?).map (·.type) = some t) (ht : P.underlying t = some (.array n e)) (he : P.underlying e = some (.int .i64)) (hce : P.cellsOf e = 1) (hct : P.cellsOf t = n)
    (hmem : (name, intData zs) ∈ laid) (h0 : 0 < zs.length) (h : laidMet P laid W) : IntTab W g zs := by
  obtain ⟨ps, hv, _, hfr⟩ := h
  obtain ⟨g', t', cs, fuel, p, hg', ht', hvar, hd, hin⟩ := laidVars_mem hv hmem
  obtain rfl := Option.some.inj (hg.symm.trans hg')
  obtain rfl := Option.some.inj (hty.symm.trans ht')
  have hcs : cs.toList = intVals zs := ints_of_tab ht he hce hct hd
  have hcs' : cs = (intVals zs).toArray := by rw [← hcs]
  have hlen : 0 < cs.size := by
    have := congrArg List.length hcs
    simp [intVals] at this; omega
  obtain ⟨⟨c, T, hh⟩, _⟩ := hfr g 0 (hin _ (MemPlace.mem_row.2 ⟨0, hlen, by simp⟩))
  have : c = cs := by
    simp only [World.var?, hg, Option.bind_some, hh] at hvar
    simpa using hvar
  subst this
  exact ⟨T, by rw [hh, hcs']⟩
theorem IntTab.below {W W' : World} {g B : Nat} {zs : List Int} (h : IntTab W g zs) (hb : Below B W W') (hg : g < B) : IntTab W' g zs := by
  obtain ⟨T, h⟩ := h; exact ⟨T, (hb.block g hg).trans h⟩
theorem IntTab.lt {W : World} {g : Nat} {zs : List Int} (h : IntTab W g zs) : g < W.heap.size := by
  obtain ⟨T, h⟩ := h
  rcases Nat.lt_or_ge g W.heap.size with h1 | h1
  · exact h1
  · rw [Array.getElem?_eq_none h1] at h; cases h
theorem IntTab.step {W W' : World} {g : Nat} {zs : List Int} (h : IntTab W g zs) (hb : Below W.heap.size W W') : IntTab W' g zs := h.below hb h.lt
theorem IntTab.cell {W : World} {g : Nat} {zs : List Int} (h : IntTab W g zs) (k : Nat) (z : Int) (hz : zs[k]? = some z) : W.cell? ⟨g, k, none⟩ = some (.int .i64 z) := by
  obtain ⟨T, h⟩ := h
  unfold World.cell?
  rw [h]
  simp [intVals, hz]

/-- A part of a row of rows. -/
theorem RdBS.part {w : World} {B b off n c n' c' : Nat} {zss : List (List Int)} (h : RdBS w B (.slice (some ⟨b, off, none⟩) n c) zss) (i m : Nat) (hi : i + m ≤ zss.length) (hn : n' = m) : RdBS w B (.slice (some ⟨b, off + i, none⟩) n' c') ((zss.drop i).take m) := by
  obtain ⟨A, c1, he, hl, hr⟩ := h
  cases he
  have hlen : ((zss.drop i).take m).length = m := by simp; omega
  refine ⟨_, c', by rw [hlen, hn], by omega, fun h0 => ?_⟩
  obtain ⟨b', off', e, hb, hc⟩ := hr (by omega)
  cases e
  refine ⟨b, off + i, rfl, hb, fun j zs hj => ?_⟩
  have hj' : zss[i + j]? = some zs := by
    rw [List.getElem?_take] at hj
    split at hj
    · rw [List.getElem?_drop] at hj; exact hj
    · cases hj
  obtain ⟨u, hu, hv⟩ := hc _ _ hj'
  exact ⟨u, by rw [Nat.add_assoc]; exact hu, hv⟩

open Go.RowKit Go.WideShapes

theorem valuesFirst_any (v : Value) (zss : List (List Int)) (w : World) (h : RdS w v zss) :
    Calls Tryd.prog 62 #[v] w fun e w' => e = .returned (.int .i64 ((manyR zss : Nat) : Int)) ∧ w = w' := by
  obtain ⟨A, c, rfl, hm, hr⟩ := h
  have Hr := Lib.hid hr; clear hr
  go_enter Tryd.func62, Tryd.ntmps62
  go_wp2
  go_loop [7] (fun i => ∃ k : Nat, k ≤ zss.length ∧ i = .int .i64 k ∧ (zss.take k).all valueB = true) (fun i => zss.length - (intOf i).toNat)
  case atStart => exact ⟨0, Nat.zero_le _, rfl, by simp⟩
  case round =>
    obtain ⟨k, hk, rfl, hall⟩ := hrel
    have Hall := Lib.hid hall; clear hall
    by_cases hlt : k < zss.length
    · obtain ⟨b, off, rfl, hb, hc⟩ := Hr.out (by omega)
      have hz : zss[k]? = some zss[k] := List.getElem?_eq_getElem hlt
      have Hz := Lib.hid hz
      generalize zss[k] = zs at *
      obtain ⟨u, hcell, hu⟩ := hc k zs hz
      have Hs := Lib.hid (all_take_snoc zss k zs hz Hall.out)
      have HU := Lib.hid (hu.rd (Nat.le_refl _))
      clear hc hz hu
      have hltI : (k : Int) < zss.length := by omega
      rcases hb : valueB zs with _ | _ <;> have Hb := Lib.hid hb <;> clear hb
      all_goals
        go_wp2_with (go_at_call 67; refine (ValueOk_any _ zs _ HU.out).mono ?_; rw [Hb.out]; rintro e w' ⟨rfl, rfl⟩)
      · go_ret
        exact ⟨by rw [manyR_at Hall.out Hz.out Hb.out]; rfl, rfl⟩
      · go_round
        case rel => exact ⟨k + 1, by omega, by go_num, by rw [Hs.out]; exact Hb.out⟩
        case measure => simp [intOf]; omega
    · have Ha : Hid (zss.all valueB = true) := Lib.hid (by rw [← Hall.out, List.take_of_length_le (by omega)])
      go_wp2
      go_ret
      exact ⟨by rw [manyR_all Ha.out]; rfl, rfl⟩

theorem ruleFor_any (op : Int) (v : Value) (zs : List Int) (w : World) (h : RdI w v zs) (hl : 1 ≤ zs.length) (k : Nat) (hk : ruleR op (zs.getD 0 0) = k) :
    Calls Tryd.prog 63 #[.int .i64 op, v] w fun e w' => e = .returned (.int .i64 (k : Int)) ∧ w = w' := by
  obtain ⟨A, c, rfl, hi, _⟩ := h
  obtain ⟨b, off, rfl, hb, hc⟩ := hi.at_ (by omega)
  have h0 := hc 0 (by omega)
  rw [Nat.add_zero] at h0
  generalize zs.getD 0 0 = low at *
  clear hc hi
  unfold ruleR at hk
  have HK := Lib.hid hk; clear hk
  go_enter Tryd.func63, Tryd.ntmps63
  by_cases h1 : op = 1002
  · subst h1
    obtain rfl : 0 = k := by simpa using HK.out
    go_wp2
    go_ret
    exact ⟨rfl, rfl⟩
  by_cases h2 : op = 1001
  · subst h2
    obtain rfl : 1 = k := by simpa using HK.out
    go_wp2
    go_ret
    exact ⟨rfl, rfl⟩
  by_cases h3 : op = 1003
  · subst h3
    obtain rfl : 2 = k := by simpa using HK.out
    go_wp2
    go_ret
    exact ⟨rfl, rfl⟩
  by_cases h4 : op = 1005
  · subst h4
    obtain rfl : 3 = k := by simpa using HK.out
    go_wp2
    go_ret
    exact ⟨rfl, rfl⟩
  by_cases h5 : op = 1004
  · subst h5
    obtain rfl : 4 = k := by simpa using HK.out
    go_wp2
    go_ret
    exact ⟨rfl, rfl⟩
  by_cases h6 : op = 1006
  · subst h6
    obtain rfl : 5 = k := by simpa using HK.out
    go_wp2
    go_ret
    exact ⟨rfl, rfl⟩
  by_cases h7 : op = 1007
  · subst h7
    obtain rfl : 5 = k := by simpa using HK.out
    go_wp2
    go_ret
    exact ⟨rfl, rfl⟩
  by_cases h8 : op = 1008
  · subst h8
    obtain rfl : 5 = k := by simpa using HK.out
    go_wp2
    go_ret
    exact ⟨rfl, rfl⟩
  by_cases h9 : op = 1009
  · subst h9
    obtain rfl : 5 = k := by simpa using HK.out
    go_wp2
    go_ret
    exact ⟨rfl, rfl⟩
  by_cases h10 : op = 1010
  · subst h10
    obtain rfl : 6 = k := by simpa using HK.out
    go_wp2
    go_ret
    exact ⟨rfl, rfl⟩
  have H56 : Hid (¬ (1006 ≤ op ∧ op ≤ 1009)) := Lib.hid (by omega)
  by_cases hz : low = 0
  · subst hz
    obtain rfl : 7 = k := by have := HK.out; rw [if_neg h1, if_neg h2, if_neg h3, if_neg h4, if_neg h5, if_neg H56.out, if_neg h10, if_pos rfl] at this; exact this
    go_wp2
    go_ret
    exact ⟨rfl, rfl⟩
  · obtain rfl : 8 = k := by have := HK.out; rw [if_neg h1, if_neg h2, if_neg h3, if_neg h4, if_neg h5, if_neg H56.out, if_neg h10, if_neg hz] at this; exact this
    go_wp2
    go_ret
    exact ⟨rfl, rfl⟩

def ahead2 (vs : List (List Int)) (op : Int) : List Int × Bool :=
  match aheadR vs op with
  | none => ([], false)
  | some x => (x, true)
def AhPost (w : World) (y : List Int) (b : Bool) (e : Ending) (w' : World) : Prop := ∃ u, e = .returned (.tuple #[u, .bool b]) ∧ OwnI w' w.heap.size w'.heap.size u y ∧ Below w.heap.size w w'
set_option maxHeartbeats 2000000 in
theorem doneAhead_any (v : Value) (zss : List (List Int)) (op : Int) (w : World) (h : RdS w v zss) (hs : stackB zss = true) (h1 : 1001 ≤ op) (h2 : op ≤ 1011) (y : List Int) (b : Bool) (hR : ahead2 zss op = (y, b)) :
    Calls Tryd.prog 64 #[v, .int .i64 op] w (AhPost w y b) := by
  have HR := Lib.hid hR; clear hR
  have hls := (stackB_all hs).1
  have hok : okS [op] zss.reverse := ⟨restB_one (by simp [isWordB]; omega) (by unfold brk; rw [if_neg (by omega), if_neg (by omega)]), by rw [stackB_reverse]; exact hs⟩
  have Hok := Lib.hid hok; clear hok hs
  have hb1 : Below w.heap.size w (w.alloc (.cells #[.int .i64 op] 3)) := (Below.refl _ _).alloc (Nat.le_refl _) _
  have hlit := (lits_own w [op] (by simp) (by intro z hz; simp only [List.mem_cons, List.not_mem_nil, or_false] at hz; subst hz; exact wf_near _ (by omega))).rd
  simp only [List.map_cons, List.map_nil, List.length_cons, List.length_nil, Nat.zero_add] at hlit
  have S0 := Lib.hid (And.intro (h.step hb1) (And.intro hb1 hlit)); clear hb1 hlit
  obtain ⟨A, c, rfl, _⟩ := h
  go_enter Tryd.func64, Tryd.ntmps64
  go_wp2_with fail
  refine (newRunner_any _ _ [op] zss _ S0.out.2.2 S0.out.1 (by simp) (by omega)).mono ?_
  rintro e w2 ⟨g, rfl, q1, q2⟩
  have hz2 : w.heap.size + 1 ≤ w2.heap.size := by have := q2.size; simpa using this
  have hge : w.heap.size + 1 ≤ g := by have := q1.ge; simpa using this
  have hltr := q1.lt
  have Y := Lib.hid (And.intro q1 (S0.out.2.1.trans (q2.mono (by simp)))); clear q1 q2 S0
  simp only [World.size_alloc] at Y
  go_wp2_with fail
  refine (step_any (w.heap.size + 1) g [op] zss.reverse _ Y.out.1 Hok.out (by simp)).mono ?_
  rintro e w3 ⟨b3, rfl, d1, d2, d3⟩
  have hz3 := d1.below.size
  have hbw : Below w.heap.size w w3 := Y.out.2.trans (d1.below.mono (by omega))
  rcases hq : stepR [op] zss.reverse with _ | x
  · have he : ([], false) = (y, b) := by have := HR.out; rw [ahead2, aheadR, hq] at this; exact this
    cases he
    obtain ⟨rfl, _⟩ := d2 hq
    have Z := Lib.hid hbw; clear hbw d1 d2 d3 Y hq
    go_wp2
    go_ret2
    exact ⟨_, rfl, OwnI.nil _ _ _, Z.out⟩
  · have he : (x.2.reverse.flatten ++ x.1, true) = (y, b) := by have := HR.out; rw [ahead2, aheadR, hq] at this; exact this
    cases he
    obtain ⟨rfl, d4⟩ := d3 x hq
    obtain ⟨ok2, ol2⟩ := stepR_ok Hok.out hq
    have hrv : stackB x.2.reverse = true := by rw [stackB_reverse]; exact ok2.2
    have hfl := flatten_len hrv
    have hl20 := (stackB_all hrv).1
    have hx1 : x.1.length ≤ 200 := by simp at ol2; omega
    have hlt3 := d4.lt
    have d5 := d4
    obtain ⟨vr, vs, us, ra⟩ := d5
    have hrd := ra.rdS
    have c1 := ra.blk.cell 1
    simp only [List.getElem?_toArray, List.getElem?_cons_zero, List.getElem?_cons_succ] at c1
    have Z := Lib.hid (And.intro d4 (And.intro hbw hrd)); clear d1 d2 d3 d4 hbw hrd Y hq ok2 hrv HR ra Hok
    generalize x.2.reverse = s2 at *
    obtain ⟨A', c', rfl, _⟩ := Z.out.2.2
    go_wp2_with fail
    refine (concatS _ s2 _ Z.out.2.2 (by omega) (by omega)).mono ?_
    rintro e w4 ⟨q, rfl, ho, hb⟩
    have hz4 := hb.size
    have X := Lib.hid (And.intro (Z.out.1.step hb).1 (And.intro (Z.out.2.1.trans (hb.mono (by omega))) ho.within)); clear ho hb Z c1
    go_wp2_with fail
    refine (restWords_any (w.heap.size + 1) g x.1 x.2 _ X.out.1 (by omega)).mono ?_
    rintro e w5 ⟨u, rfl, ho, hb⟩
    have hz5 := hb.size
    have V := Lib.hid (And.intro (X.out.2.2.below hb) (And.intro (X.out.2.1.trans (hb.mono (by omega))) ho)); clear ho hb X
    generalize s2.flatten = f at *
    generalize x.1 = r at *
    obtain ⟨A1, k1, rfl, _⟩ := V.out.1.rd
    obtain ⟨A2, k2, rfl, _⟩ := V.out.2.2.rd
    have hrd := rdS_lit w5 [.slice A1 f.length k1, .slice A2 r.length k2] [f, r] rfl (by simp) (by
      intro j u' zs hu hz
      rcases j with _ | _ | j
      · simp at hu hz; subst hu; subst hz; exact V.out.1.rd
      · simp at hu hz; subst hu; subst hz; exact V.out.2.2.rd
      · simp at hu)
    have hb6 : Below w5.heap.size w5 (w5.alloc (.cells #[.slice A1 f.length k1, .slice A2 r.length k2] 23)) := (Below.refl _ _).alloc (Nat.le_refl _) _
    simp only [List.length_cons, List.length_nil, Nat.zero_add, Nat.reduceAdd] at hrd
    have T := Lib.hid (And.intro hrd (V.out.2.1.trans (hb6.mono (by omega)))); clear hrd hb6 V
    go_wp2_with fail
    refine (concatS _ [f, r] _ T.out.1 (by simp) (by simp; omega)).mono ?_
    have Hfl : Hid (([f, r] : List (List Int)).flatten = f ++ r) := Lib.hid (by simp)
    rw [Hfl.out]
    rintro e w7 ⟨q7, rfl, ho, hb⟩
    have hz7 : w5.heap.size + 1 ≤ w7.heap.size := by have := hb.size; simpa using this
    have ho2 : OwnI w7 w.heap.size w7.heap.size q7 (f ++ r) := ⟨ho.mono (by simp; omega), fun k hk => (ho.ge k hk).2⟩
    have R := Lib.hid (And.intro ho2 (T.out.2.trans (hb.mono (by simp; omega)))); clear ho ho2 hb T
    go_wp2
    go_ret2
    exact ⟨_, rfl, R.out.1, R.out.2⟩
end Go.Proofs.YtkdpfiaegimnlaaDoor
