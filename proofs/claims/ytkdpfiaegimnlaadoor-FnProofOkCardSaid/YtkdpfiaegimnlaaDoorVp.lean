/- Chapter 5, the model's: l5Use, MoveDo, MovesAt. -/
import Derived.Test.YtkdpfiaegimnlaaDoorUa
import Derived.Test.YtkdpfiaegimnlaaDoorUb
import Derived.Test.YtkdpfiaegimnlaaDoorUc
import Derived.Test.YtkdpfiaegimnlaaDoorVk
namespace Go.Proofs.YtkdpfiaegimnlaaDoor
set_option maxRecDepth 100000
open Go.RowKit Go.WideShapes

theorem l5Use_any (v : Value) (z : Int) (ps : List (List Int)) (a : Nat) (w : World) (h : RdS w v ps) (ha : a < ps.length) (hl : ps.length ≤ 60) (hp : ∀ q ∈ ps, isPart q) (hv60 : ∀ q ∈ ps, q.length ≤ 60) :
    Calls Tryd.prog 58 #[v, .int .i64 z, .int .i64 a] w (UsPost w (mUse z (ps.drop a))) := by
  have hne : ∀ q ∈ ps, 1 ≤ q.length := fun q hq => by
    rcases hp q hq with h1 | ⟨o, h1, _⟩
    · exact (valueB_len h1).1
    · rw [h1]; simp
  rcases (show z = 0 ∨ z = 1 ∨ z = 2 ∨ z = 3 ∨ z = 4 ∨ z = 5 ∨ z = 6 ∨ z = 7 ∨ z = 8 ∨ (z < 0 ∨ 8 < z) by omega) with rfl | rfl | rfl | rfl | rfl | rfl | rfl | rfl | rfl | hz
  · exact use_0 v ps a w h ha hl hp hne hv60
  · exact use_1 v ps a w h ha hl hp hne hv60
  · exact use_2 v ps a w h ha hl hp hne hv60
  · exact use_3 v ps a w h ha hl hp hne hv60
  · exact use_4 v ps a w h ha hl hp hne hv60
  · exact use_5 v ps a w h ha hl hp hne hv60
  · exact use_6 v ps a w h ha hl hp hne hv60
  · exact use_7 v ps a w h ha hl hp hne hv60
  · exact use_8 v ps a w h ha hl hp hne hv60
  · exact use_x v z ps a w h ha hl hp hne hv60 hz

open Go.RowKit Go.WideShapes

theorem mUse_ok {ps : List (List Int)} {z : Int} {y : Nat × List Int} (hp : ∀ q ∈ ps, isPart q) (h : mUse z ps = some y) : 1 ≤ y.1 ∧ y.1 ≤ 4 ∧ y.1 ≤ ps.length ∧ y.2.length ≤ 1400 := by
  rw [rule_same hp] at h
  unfold ruleUse at h
  obtain ⟨x, hx, hy⟩ := Option.bind_eq_some_iff.1 h
  split at hy
  · cases hy
    obtain ⟨_, h2, _, h4, _⟩ := use_ok hp hx
    have := takesR_le x.1
    exact ⟨by dsimp only; omega, by dsimp only; omega, h2, h4⟩
  · cases hy
theorem flat60 {ps : List (List Int)} (hq : ∀ q ∈ ps, q.length ≤ 60) (hl : ps.length ≤ 60) : ps.flatten.length ≤ 3600 := by
  have key : ∀ l : List (List Int), (∀ q ∈ l, q.length ≤ 60) → l.flatten.length ≤ 60 * l.length := by
    intro l
    induction l with
    | nil => simp
    | cons q r ih =>
      intro hq
      have h1 := ih (fun v hv => hq v (by simp [hv]))
      have h2 := hq q (by simp)
      rw [List.flatten_cons, List.length_append, List.length_cons]; omega
  have := key ps hq
  omega
theorem flat_take_next (ps : List (List Int)) (k : Nat) (h : k < ps.length) : (ps.take (k + 1)).flatten = (ps.take k).flatten ++ ps.getD k [] := by
  rw [List.take_add_one, List.flatten_append, List.getD, List.getElem?_eq_getElem h]; simp
theorem flat_part_next (ps : List (List Int)) (s j : Nat) (h : s + j < ps.length) : ((ps.drop s).take (j + 1)).flatten = ((ps.drop s).take j).flatten ++ ps.getD (s + j) [] := by
  rw [List.take_add_one, List.flatten_append, List.getElem?_drop, List.getD, List.getElem?_eq_getElem h]; simp
theorem lit_out {w w1 : World} (h : Below w.heap.size w w1) : OwnI (w1.alloc (.cells #[] 3)) w.heap.size (w1.alloc (.cells #[] 3)).heap.size (.slice (some ⟨w1.heap.size, 0, none⟩) 0 0) [] ∧ Below w.heap.size w (w1.alloc (.cells #[] 3)) := by
  have hz := h.size
  obtain ⟨h1, h2⟩ := lit_nil w1
  exact ⟨⟨h1.own.mono hz, h1.lt⟩, h.trans (h2.mono hz)⟩

set_option maxHeartbeats 4000000 in
theorem MoveDo_S (v0 : Value) (x0 : List Int) (x1 x2 : Int) (w : World) (h0 : RdI w v0 x0) (hl0 : x0.length ≤ 1048576) (y0 : List Int) (y1 : Bool) (hR : moveDoR x0 x1 x2 = (y0, y1)) :
    Calls Tryd.prog 38 #[v0, .agg #[.int .i64 x1, .int .i64 x2]] w (AhPost w y0 y1) := by
  rw [← moveDo_same] at hR
  have HR := Lib.hid hR; clear hR
  have hb0 : Below w.heap.size w (w.alloc (.cells #[.int .i64 x1, .int .i64 x2] 62)) := (Below.refl _ _).alloc (Nat.le_refl _) _
  have H := Lib.hid (And.intro (h0.step hb0) hb0)
  have k1 := Blk.new w #[.int .i64 x1, .int .i64 x2] 62
  have K := Lib.hid k1
  clear hb0 k1
  have hrr : mDoR x0 x1 x2 = if validB x0 = true ∧ 0 ≤ x2 ∧ x2 ≤ ((partsR x0).length : Int) - 1 then
    match mUse x1 ((partsR x0).drop x2.toNat) with
    | none => ([], false)
    | some x => if validB (((partsR x0).take x2.toNat).flatten ++ x.2 ++ ((partsR x0).drop (x2.toNat + x.1)).flatten) = true then (((partsR x0).take x2.toNat).flatten ++ x.2 ++ ((partsR x0).drop (x2.toNat + x.1)).flatten, true) else ([], false)
    else ([], false) := rfl
  rw [hrr] at HR
  clear hrr
  obtain ⟨p1, p2, p3⟩ := parts_facts x0
  obtain ⟨A, c, rfl, _⟩ := h0
  generalize hps : partsR x0 = ps at *
  have HP := Lib.hid hps; clear hps
  go_enter Tryd.func38, Tryd.ntmps38
  go_wp2_with fail
  refine (ProgParts_S _ x0 _ H.out.1 hl0 ps HP.out).mono ?_
  rintro e w1 ⟨u, rfl, ho, hb⟩
  have hz1 : w.heap.size + 1 ≤ w1.heap.size := by have := hb.size; simpa using this
  have kb := K.out.below hb (by simp)
  obtain ⟨c0, c1, f0, f1⟩ := kb.two
  have hbw : Below w.heap.size w w1 := H.out.2.trans (hb.mono (by simp))
  obtain ⟨A', c', hA', hi', _⟩ := H.out.1.step hb
  cases hA'
  have X := Lib.hid (And.intro ho (And.intro hbw hi')); clear ho hb hbw hi' H K kb
  obtain ⟨Ap, cp, rfl, _⟩ := X.out.1.rd
  have PP := Lib.hid (And.intro p1 p3); clear p1 p3
  have hLO := lit_out X.out.2.1
  rcases hv : validB x0 with _ | _ <;> have Hv := Lib.hid hv <;> clear hv
  · obtain ⟨rfl, rfl⟩ : [] = y0 ∧ false = y1 := by have := HR.out; rw [if_neg (by rw [Hv.out]; simp)] at this; cases this; exact ⟨rfl, rfl⟩
    have L := Lib.hid hLO; clear hLO
    go_wp2_with (go_at_call 15; refine (specValid_any A c x0 _ X.out.2.2).mono ?_; rw [Hv.out]; rintro e w' ⟨rfl, rfl⟩)
    go_ret2
    exact ⟨_, rfl, L.out.1, L.out.2⟩
  rcases hin : (decide (0 ≤ x2) && decide (x2 ≤ (ps.length : Int) - 1)) with _ | _ <;> have Hin := Lib.hid hin <;> clear hin
  · obtain ⟨rfl, rfl⟩ : [] = y0 ∧ false = y1 := by
      have := HR.out; rw [if_neg (fun h => by have h2 := Hin.out; rw [decide_eq_true h.2.1, decide_eq_true h.2.2] at h2; cases h2)] at this; cases this; exact ⟨rfl, rfl⟩
    have L := Lib.hid hLO; clear hLO
    have m1 : IntKind.i64.wrap ((ps.length : Int) - 1) = (ps.length : Int) - 1 := IntWalk.i64_in _ (by omega)
    go_wp2_with (first | (go_at_call 15; refine (specValid_any A c x0 _ X.out.2.2).mono ?_; rw [Hv.out]; rintro e w' ⟨rfl, rfl⟩) | (go_at_call 57; refine (l1In_any x2 0 ((ps.length : Int) - 1) _).mono ?_; rw [Hin.out]; rintro e w' ⟨rfl, rfl⟩))
    go_ret2
    exact ⟨_, rfl, L.out.1, L.out.2⟩
  have hx2 : 0 ≤ x2 ∧ x2 ≤ (ps.length : Int) - 1 := by have := Hin.out; simpa using this
  obtain ⟨a, rfl⟩ : ∃ a : Nat, x2 = a := ⟨x2.toNat, by omega⟩
  have ha : a < ps.length := by omega
  have m1 : IntKind.i64.wrap ((ps.length : Int) - 1) = (ps.length : Int) - 1 := IntWalk.i64_in _ (by omega)
  clear hLO hx2
  go_wp2_with (first | (go_at_call 15; refine (specValid_any A c x0 _ X.out.2.2).mono ?_; rw [Hv.out]; rintro e w' ⟨rfl, rfl⟩) | (go_at_call 57; refine (l1In_any (a : Int) 0 ((ps.length : Int) - 1) _).mono ?_; rw [Hin.out]; rintro e w' ⟨rfl, rfl⟩))
  refine (l5Use_any _ x1 ps a _ X.out.1.rd ha p2 PP.out.1 PP.out.2).mono ?_
  rintro e w2 ⟨uw, t, xw, b, rfl, how, hb2, k1, k2⟩
  have hz2 := hb2.size
  have hR2 := HR.out
  rw [if_pos ⟨Hv.out, by omega, by omega⟩, Int.toNat_natCast] at hR2
  obtain ⟨Au, cu, rfl, _⟩ := how.rd
  have Y := Lib.hid (And.intro how.rd (And.intro (X.out.2.1.trans (hb2.mono (by omega))) ((X.out.1.below hb2)))); clear how
  have hLO := lit_out Y.out.2.1
  have c0' := (hb2.cell (p := ⟨w.heap.size, 0, none⟩) (by show w.heap.size < _; omega)).trans c0
  have c1' := (hb2.cell (p := ⟨w.heap.size, 1, none⟩) (by show w.heap.size < _; omega)).trans c1
  rcases hm : mUse x1 (ps.drop a) with _ | y
  · obtain rfl := k1 hm
    rw [hm] at hR2
    obtain ⟨rfl, rfl⟩ : [] = y0 ∧ false = y1 := by cases hR2; exact ⟨rfl, rfl⟩
    have L := Lib.hid hLO; clear hLO k1 k2 hm hR2 HR X Y hb2 c0 c1
    go_wp2
    go_ret2
    exact ⟨_, rfl, L.out.1, L.out.2⟩
  obtain ⟨rfl, ht, rfl⟩ := k2 y hm
  rw [hm] at hR2
  dsimp only at hR2
  obtain ⟨y1a, y1b, y1c, y2l⟩ := mUse_ok (fun q hq => PP.out.1 q (List.mem_of_mem_drop hq)) hm
  rw [List.length_drop] at y1c
  subst ht
  obtain ⟨tk, x⟩ := y
  dsimp only at *
  have HR2 := Lib.hid hR2; clear hR2 k1 k2 hm HR
  have hfl := flat60 PP.out.2 p2
  have hft : ∀ k, (ps.take k).flatten.length ≤ 3600 := fun k => Nat.le_trans (flatten_take_le ps k) hfl
  have hfd : ∀ s j, ((ps.drop s).take j).flatten.length ≤ 3600 := fun s j => by
    have h1 := flatten_take_le (ps.drop s) j
    have h2 : (ps.drop s).flatten.length ≤ ps.flatten.length := by
      conv => rhs; rw [← List.take_append_drop s ps]
      rw [List.flatten_append, List.length_append]; omega
    omega
  have FL := Lib.hid (And.intro hft hfd); clear hft hfd hfl
  have hgs : w.heap.size < w2.heap.size := by omega
  obtain ⟨bb, off, u9, hAp, hbb9, _, _⟩ := RdBS.get Y.out.2.2.rd (List.getElem?_eq_getElem ha)
  cases hAp
  have HS := Lib.hid (And.intro Y.out.2.2.rd.at_ (And.intro Y.out.1 (And.intro c0' c1')))
  have L0 := Lib.hid (lit_nil w2)
  clear hLO c0 c1 c0' c1' X hb2
  go_wp2
  go_loopw [10, 11] (fun q i wr => ∃ k : Nat, k ≤ a ∧ i = .int .i64 k ∧ w2.heap.size ≤ wr.heap.size ∧ Below w2.heap.size w2 wr ∧ OwnI wr w2.heap.size wr.heap.size q (ps.take k).flatten) (fun _ i _ => a - (intOf i).toNat)
  case atStart => exact ⟨0, Nat.zero_le _, rfl, by simp, L0.out.2, by simpa using L0.out.1⟩
  case round =>
    clear L0
    obtain ⟨k, hk, rfl, hsz, hbk, hown⟩ := hrel
    have X := Lib.hid (And.intro hbk hown); clear hbk hown
    have d0 := (X.out.1.cell (p := ⟨w.heap.size, 0, none⟩) hgs).trans HS.out.2.2.1
    have d1 := (X.out.1.cell (p := ⟨w.heap.size, 1, none⟩) hgs).trans HS.out.2.2.2
    by_cases hlt : k < a
    · have hkl : k < ps.length := by omega
      obtain ⟨b', off', u, e, hbb, hcell, hu⟩ := RdBS.get HS.out.1 (getD_at hkl)
      cases e
      have HU := Lib.hid ((hu.below X.out.1).rd hsz)
      replace hcell := (X.out.1.cell (p := ⟨bb, off + k, none⟩) hbb).trans hcell
      have hle := FL.out.1 (k + 1)
      have Hs := Lib.hid (flat_take_next ps k hkl)
      rw [Hs.out, List.length_append] at hle
      have Hle := Lib.hid hle
      clear hu hle
      generalize ps.getD k [] = zs at *
      have hltI : (k : Int) < a := by omega
      have hltP : (k : Int) < ps.length := by omega
      go_wp2_with (at_builtin; refine wpList_append_V rfl _ _ _ rfl Tryd.underlying23 intInfo w2.heap.size wr.heap.size _ (ps.take k).flatten rfl X.out.2 hsz u zs rfl HU.out (by have := Hle.out; omega) ?_)
      intro v3 w3 hown3 hb3
      have hs3 := hb3.size
      rw [← Hs.out] at hown3
      have Z := Lib.hid (And.intro (X.out.1.trans hb3) hown3)
      clear hown3 hb3 X Hs d0 d1
      go_wp2
      go_roundw
      case rel => exact ⟨k + 1, by omega, by go_num, by omega, Z.out⟩
      case measure => simp [intOf]; omega
    · obtain rfl : k = a := by omega
      have hle := FL.out.1 k
      have Hle := Lib.hid hle; clear hle
      go_wp2_with (at_builtin; refine wpList_append_V rfl _ _ _ rfl Tryd.underlying23 intInfo w2.heap.size wr.heap.size _ (ps.take k).flatten rfl X.out.2 hsz _ x rfl ((HS.out.2.1.step X.out.1)) (by have := Hle.out; omega) ?_)
      intro v3 w3 hown3 hb3
      have hs3 := hb3.size
      have Z := Lib.hid (And.intro (X.out.1.trans hb3) hown3)
      have e0 := (hb3.cell (p := ⟨w.heap.size, 0, none⟩) hgs).trans d0
      have e1 := (hb3.cell (p := ⟨w.heap.size, 1, none⟩) hgs).trans d1
      clear hown3 hb3 X Hle d0 d1
      have hsum : Hid (((k : Int) + (tk : Int)) = ((k + tk : Nat) : Int)) := Lib.hid (by omega)
      go_wp2
      go_loopw [10, 12] (fun q i wr => ∃ j : Nat, k + tk + j ≤ ps.length ∧ i = .int .i64 ((k + tk + j : Nat) : Int) ∧ w2.heap.size ≤ wr.heap.size ∧ Below w2.heap.size w2 wr ∧ OwnI wr w2.heap.size wr.heap.size q ((ps.take k).flatten ++ x ++ ((ps.drop (k + tk)).take j).flatten)) (fun _ i _ => ps.length - (intOf i).toNat)
      case atStart => exact ⟨0, by omega, by rw [Nat.add_zero, ← hsum.out], by omega, Z.out.1, by simpa using Z.out.2⟩
      case round =>
        clear Z e0 e1
        obtain ⟨j, hj, rfl, hsz, hbk, hown⟩ := hrel
        have X := Lib.hid (And.intro hbk hown); clear hbk hown
        generalize hkt : k + tk = s at *
        by_cases hlt : s + j < ps.length
        · obtain ⟨b', off', u, e, hbb, hcell, hu⟩ := RdBS.get HS.out.1 (getD_at hlt)
          cases e
          have HU := Lib.hid ((hu.below X.out.1).rd hsz)
          replace hcell := (X.out.1.cell (p := ⟨bb, off + (s + j), none⟩) hbb).trans hcell
          have hle := FL.out.2 s (j + 1)
          have hle1 := FL.out.1 k
          have Hs := Lib.hid (flat_part_next ps s j hlt)
          rw [Hs.out, List.length_append] at hle
          have Hle := Lib.hid (And.intro hle hle1)
          have hz9 : (ps.getD (s + j) []).length ≤ 60 := PP.out.2 _ (List.mem_of_getElem? (getD_at hlt))
          clear hu hle hle1
          generalize ps.getD (s + j) [] = zs at *
          have hltI : ((s + j : Nat) : Int) < ps.length := by omega
          generalize hsj : s + j = n at *
          have Hsj := Lib.hid hsj
          clear hsj
          go_wp2_with (at_builtin; refine wpList_append_V rfl _ _ _ rfl Tryd.underlying23 intInfo w2.heap.size wr.heap.size _ ((ps.take k).flatten ++ x ++ ((ps.drop s).take j).flatten) rfl X.out.2 hsz u zs rfl HU.out (by have := Hle.out; rw [List.length_append, List.length_append]; omega) ?_)
          intro v3 w3 hown3 hb3
          have hs3 := hb3.size
          have hown4 : OwnI w3 w2.heap.size w3.heap.size v3 ((ps.take k).flatten ++ x ++ ((ps.drop s).take (j + 1)).flatten) := by rw [Hs.out]; simpa [List.append_assoc] using hown3
          have Z := Lib.hid (And.intro (X.out.1.trans hb3) hown4)
          clear hown3 hown4 hb3 X Hs
          go_wp2
          go_roundw
          case rel => exact ⟨j + 1, by have := Hsj.out; omega, by have := Hsj.out; go_num, by omega, Z.out⟩
          case measure => have := Hsj.out; simp [intOf]; omega
        · have hjl : s + j = ps.length := by omega
          have hall : (ps.drop s).take j = ps.drop s := List.take_of_length_le (by rw [List.length_drop]; omega)
          rw [hall] at X
          have hle := FL.out.2 s ps.length
          rw [List.take_of_length_le (by rw [List.length_drop]; omega)] at hle
          have hle1 := FL.out.1 k
          have hf : ((ps.take k).flatten ++ x ++ (ps.drop s).flatten).length ≤ 10000 := by rw [List.length_append, List.length_append]; omega
          generalize (ps.take k).flatten ++ x ++ (ps.drop s).flatten = fo at *
          obtain ⟨Ao, co, hq, hio, hco⟩ := X.out.2.rd
          subst hq
          have Z := Lib.hid (And.intro (X.out.2) (And.intro (Y.out.2.1.trans (X.out.1.mono (by omega))) hio)); clear X hio hall hle hle1
          have hltI : ¬ (((s + j : Nat) : Int) < ps.length) := by omega
          have hLO := lit_out Z.out.2.1
          clear hjl
          rcases hv2 : validB fo with _ | _ <;> have Hv2 := Lib.hid hv2 <;> clear hv2
          · obtain ⟨rfl, rfl⟩ : [] = y0 ∧ false = y1 := by have := HR2.out; rw [if_neg (by rw [Hv2.out]; simp)] at this; cases this; exact ⟨rfl, rfl⟩
            have L := Lib.hid hLO; clear hLO
            go_wp2_with (go_at_call 15; refine (specValid_any _ _ fo _ Z.out.2.2).mono ?_; rw [Hv2.out]; rintro e w' ⟨rfl, rfl⟩)
            go_ret2
            exact ⟨_, rfl, L.out.1, L.out.2⟩
          · obtain ⟨rfl, rfl⟩ : fo = y0 ∧ true = y1 := by have := HR2.out; rw [if_pos Hv2.out] at this; cases this; exact ⟨rfl, rfl⟩
            have L := Lib.hid (And.intro (Z.out.1.low (lo := w.heap.size) (by omega)) Z.out.2.1); clear hLO
            go_wp2_with (go_at_call 15; refine (specValid_any _ _ fo _ Z.out.2.2).mono ?_; rw [Hv2.out]; rintro e w' ⟨rfl, rfl⟩)
            go_ret2
            exact ⟨_, rfl, L.out.1, L.out.2⟩

open Go.RowKit Go.WideShapes

theorem moveDoR_2 (p : List Int) (k : Nat) (at_ : Int) : (moveDoR p k at_).2 = decide (movesAtR p at_ = [(k : Int)]) := by
  unfold moveDoR movesAtR
  rcases moveR (partsR p) at_ with _ | x
  · simp
  · by_cases h : (k : Int) = (x.2 : Int)
    · have h2 : k = x.2 := by omega
      subst h2; simp
    · dsimp only
      rw [if_neg h]
      have h' : ¬ (x.2 : Int) = (k : Int) := fun e => h e.symm
      simp [h']
/-- Of the numbers below k those that movesAtR tells. -/
def toldBy (L : List Int) (k : Nat) : List Int := L.filter fun z => decide (z < (k : Int))
theorem movesAt_form (p : List Int) (at_ : Int) : movesAtR p at_ = [] ∨ ∃ z, movesAtR p at_ = [z] ∧ 0 ≤ z ∧ z ≤ 8 := by
  have := move3R_num p at_
  rw [movesAtR_3]
  split
  · exact .inr ⟨_, rfl, this⟩
  · exact .inl rfl

end Go.Proofs.YtkdpfiaegimnlaaDoor
