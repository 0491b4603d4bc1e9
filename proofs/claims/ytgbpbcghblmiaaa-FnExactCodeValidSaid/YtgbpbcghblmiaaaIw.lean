/- Rows of instructions: the laws' helpers on them. -/
import Derived.Test.YtgbpbcghblmiaaaMo
import Derived.Test.YtgbpbcghblmiaaaB5
import Derived.Deep.RegionWith
namespace Go.Proofs.Ytgbpbcghblmiaaa
set_option maxRecDepth 100000
open Go.RowKit Go.WideShapes Go.ChangeShapes Go.Deep

theorem blkTwo {w : World} {g : Nat} {a b : Value} {T : TypeId} (h : Blk w g #[a, b] T) : w.cell? ⟨g, 0, none⟩ = some a ∧ w.cell? ⟨g, 1, none⟩ = some b ∧ w.frozen? ⟨g, 0, none⟩ = false ∧ w.frozen? ⟨g, 1, none⟩ = false :=
  ⟨h.cell 0, h.cell 1, h.free 0, h.free 1⟩
theorem blkTwo_out {w : World} {g : Nat} {a b x y : Value} {T : TypeId} (h : Blk w g #[a, b] T) : ((w.setCell ⟨g, 0, none⟩ x).setCell ⟨g, 1, none⟩ y).cell? ⟨g, 0, none⟩ = some x ∧ ((w.setCell ⟨g, 0, none⟩ x).setCell ⟨g, 1, none⟩ y).cell? ⟨g, 1, none⟩ = some y :=
  ⟨((h.set 0 x).set 1 y).cell 0, ((h.set 0 x).set 1 y).cell 1⟩
theorem szInsS_any (A : Option Addr) (c n : Nat) (left : Int) (w : World) (hn : n ≤ 9223372036854775807) (hl : 0 ≤ left ∧ left ≤ 1048576) :
    Calls Try.prog 24 #[.slice A n c, .int .i64 left] w fun e w' => e = .returned (.int .i64 (if left < (n : Int) then -1 else left - n)) ∧ w = w' := by
  have m1 : IntKind.i64.wrap (left - (n : Int)) = left - (n : Int) := IntWalk.i64_in _ (by omega)
  by_cases h : left < (n : Int)
  · have hI : left - (n : Int) < 0 := by omega
    rw [if_pos h]
    go_enter Try.func24, Try.ntmps24
    go_wp2
    go_ret
    exact ⟨rfl, rfl⟩
  · have hI : ¬ (left - (n : Int) < 0) := by omega
    rw [if_neg h]
    go_enter Try.func24, Try.ntmps24
    go_wp2
    go_ret
    exact ⟨rfl, rfl⟩
theorem eqIns_any (a b c d : Int) (w : World) :
    Calls Try.prog 50 #[.agg #[.int .i64 a, .int .i64 b], .agg #[.int .i64 c, .int .i64 d]] w fun e w' => e = .returned (.bool (decide ((a, b) = (c, d)))) ∧ Below w.heap.size w w' := by
  have hb : Below w.heap.size w ((w.alloc (.cells #[.int .i64 a, .int .i64 b] 51)).alloc (.cells #[.int .i64 c, .int .i64 d] 51)) := ((Below.refl _ _).alloc (Nat.le_refl _) _).alloc (by simp) _
  have H := Lib.hid hb; clear hb
  by_cases h1 : a = c
  · have hI : (a != c) = false := by simp [h1]
    have E := Lib.hid h1; clear h1
    by_cases h2 : b = d
    · have hJ : (b != d) = false := by simp [h2]
      have F := Lib.hid h2; clear h2
      go_enter Try.func50, Try.ntmps50
      go_wp2
      go_ret
      exact ⟨ret_bool (by simp [E.out, F.out]), H.out⟩
    · have hJ : (b != d) = true := by simp [h2]
      have F := Lib.hid h2; clear h2
      go_enter Try.func50, Try.ntmps50
      go_wp2
      go_ret
      exact ⟨ret_bool (by simp [F.out]), H.out⟩
  · have hI : (a != c) = true := by simp [h1]
    have E := Lib.hid h1; clear h1
    go_enter Try.func50, Try.ntmps50
    go_wp2
    go_ret
    exact ⟨ret_bool (by simp [E.out]), H.out⟩
set_option maxHeartbeats 1000000 in
theorem eqN (v u : Value) (xs ys : List (Int × Int)) (w : World) (hx : RdM w v xs) (hy : RdM w u ys) (b : Bool) (hb : decide (xs = ys) = b) :
    Calls Try.prog 35 #[v, u] w fun e w' => e = .returned (.bool b) ∧ Below w.heap.size w w' := by
  have H := Lib.hid (And.intro hx hy)
  have HB := Lib.hid hb; clear hb
  obtain ⟨A, c, rfl, hm, _⟩ := hx
  obtain ⟨A', c', rfl, hm', _⟩ := hy
  by_cases hl : xs.length = ys.length
  case neg =>
    have hI : ((xs.length : Int) != ys.length) = true := by simp; omega
    obtain rfl : false = b := by rw [← HB.out]; symm; rw [decide_eq_false_iff_not]; intro e; exact hl (by rw [e])
    go_enter Try.func35, Try.ntmps35
    go_wp2
    go_ret
    exact ⟨rfl, Below.refl _ _⟩
  have hI : ((xs.length : Int) != ys.length) = false := by simp; omega
  have HL := Lib.hid hl; clear hl
  go_enter Try.func35, Try.ntmps35
  go_wp2
  go_loopw [5] (fun i wr => ∃ k : Nat, k ≤ xs.length ∧ i = .int .i64 k ∧ w.heap.size ≤ wr.heap.size ∧ Below w.heap.size w wr ∧ xs.take k = ys.take k) (fun i _ => xs.length - (intOf i).toNat)
  case atStart => exact ⟨0, Nat.zero_le _, rfl, Nat.le_refl _, Below.refl _ _, by simp⟩
  case round =>
    obtain ⟨k, hk, rfl, hsz, hbk, htk⟩ := hrel
    have X := Lib.hid (And.intro hbk htk); clear hbk htk
    by_cases hlt : k < xs.length
    · obtain ⟨A2, c2, e2, _, hr⟩ := H.out.1
      cases e2
      obtain ⟨p, po, rfl, hp, hpc⟩ := hr (by omega)
      obtain ⟨A3, c3, e3, _, hr'⟩ := H.out.2
      cases e3
      obtain ⟨q, qo, rfl, hq, hqc⟩ := hr' (by have := HL.out; omega)
      have hk2 : k < ys.length := by have := HL.out; omega
      have hz : xs[k]? = some xs[k] := List.getElem?_eq_getElem hlt
      have hz2 : ys[k]? = some ys[k] := List.getElem?_eq_getElem hk2
      obtain ⟨d0, d1⟩ := hpc k _ hz
      obtain ⟨f0, f1⟩ := hqc k _ hz2
      have HZ := Lib.hid (And.intro hz hz2)
      clear hz hz2 hpc hqc
      generalize xs[k] = x at *
      generalize ys[k] = y at *
      obtain ⟨x1, x2⟩ := x
      obtain ⟨y1, y2⟩ := y
      have hd : Below wr.heap.size wr wr.drew := (Below.refl _ _).drew
      have HD := Lib.hid hd
      have e0 := (X.out.1.cell (p := ⟨p, po + k * 2, none⟩) hp).trans d0
      have e1 := (X.out.1.cell (p := ⟨p, po + k * 2 + 1, none⟩) hp).trans d1
      have g0 := (X.out.1.cell (p := ⟨q, qo + k * 2, none⟩) hq).trans f0
      have g1 := (X.out.1.cell (p := ⟨q, qo + k * 2 + 1, none⟩) hq).trans f1
      dsimp only at e0 e1 g0 g1
      clear d0 d1 f0 f1
      have hltI : (k : Int) < xs.length := by omega
      have hltJ : (k : Int) < ys.length := by omega
      rcases hxy : decide ((x1, x2) = (y1, y2)) with _ | _ <;> have HXY := Lib.hid hxy <;> clear hxy
      · have hne : ¬ xs = ys := fun e => by
          have h1 := HZ.out.1; rw [e, HZ.out.2] at h1
          have h2 := HXY.out
          rw [decide_eq_false_iff_not] at h2
          exact h2 (Option.some.inj h1).symm
        obtain rfl : false = b := by rw [← HB.out]; symm; rw [decide_eq_false_iff_not]; exact hne
        clear hne
        go_wp2_with fail
        go_region_with (go_at_call 50; refine (eqIns_any x1 x2 y1 y2 _).mono ?_; rw [HXY.out]; rintro e w2 ⟨rfl, hb2⟩)
        all_goals
          have hz2 := hb2.size
          have Z := Lib.hid (X.out.1.trans ((HD.out.trans hb2).mono (by omega))); clear hb2 X hd
          go_wp2
          go_ret
          exact ⟨rfl, Z.out⟩
      · go_wp2_with fail
        go_region_with (go_at_call 50; refine (eqIns_any x1 x2 y1 y2 _).mono ?_; rw [HXY.out]; rintro e w2 ⟨rfl, hb2⟩)
        all_goals
          have hz2 : wr.heap.size ≤ w2.heap.size := hb2.size
          have Z := Lib.hid (And.intro (X.out.1.trans ((HD.out.trans hb2).mono (by omega))) (take_succ_eqM HZ.out.1 HZ.out.2 X.out.2 (of_decide_eq_true HXY.out))); clear hb2 X hd
          go_wp2
          go_roundw
          case rel => exact ⟨k + 1, by omega, by go_num, by omega, Z.out⟩
          case measure => simp [intOf]; omega
    · have hall : xs = ys := by
        have := X.out.2
        rwa [List.take_of_length_le (by omega), List.take_of_length_le (by have := HL.out; omega)] at this
      obtain rfl : true = b := by rw [← HB.out]; symm; exact decide_eq_true hall
      clear hall
      go_wp2
      go_ret
      exact ⟨rfl, X.out.1⟩


abbrev OwnN (w : World) (lo hi : Nat) (v : Value) (ms : List (Int × Int)) : Prop := OwnP 51 w lo hi v ms
theorem insInfo : (Try.prog.info? 51).map (fun i => (i.zero, i.size, i.bytes)) = some (some (.agg #[.int .i64 0, .int .i64 0]), 2, 16) := by kernel_rfl
theorem toIns_any (x1 x2 : Int) (w : World) :
    Calls Try.prog 48 #[.agg #[.int .i64 x1, .int .i64 x2]] w fun e w' => e = .returned (.agg #[.int .i64 x1, .int .i64 x2]) ∧ Below w.heap.size w w' := by
  have hb : Below w.heap.size w (((w.alloc (.cells #[.int .i64 x1, .int .i64 x2] 71)).alloc (.cells #[.int .i64 x1, .int .i64 x2] 51)).alloc (.cells #[.int .i64 x1, .int .i64 x2] 51)) := (((Below.refl _ _).alloc (Nat.le_refl _) _).alloc (by simp) _).alloc (by simp; omega) _
  have hk := (Blk.new (w.alloc (.cells #[.int .i64 x1, .int .i64 x2] 71)) #[.int .i64 x1, .int .i64 x2] 51).below ((Below.refl _ _).alloc (Nat.le_refl _) (.cells #[.int .i64 x1, .int .i64 x2] 51)) (by simp)
  rw [World.size_alloc] at hk
  obtain ⟨c0, c1, _, _⟩ := blkTwo (show Blk _ (w.heap.size + 1) #[.int .i64 x1, .int .i64 x2] 51 from hk)
  have H := Lib.hid (And.intro hb (And.intro c0 c1)); clear hb hk c0 c1
  go_enter Try.func48, Try.ntmps48
  go_wp2
  obtain ⟨hb, c0, c1⟩ := H.out
  refine bodyPost_ret (v := .agg #[.int .i64 x1, .int .i64 x2]) (by simp [results, Try.results48, go_sem, c0, c1]) rfl ?_
  exact ⟨rfl, hb⟩

theorem toN (v : Value) (ms : List (Int × Int)) (w : World) (h : RdM w v ms) (hl : ms.length ≤ 1048576) :
    Calls Try.prog 29 #[v] w fun e w' => ∃ u, e = .returned u ∧ OwnN w' w.heap.size w'.heap.size u ms ∧ Below w.heap.size w w' := by
  obtain ⟨i0, hi0, hz0, hz1, hz2⟩ := info_parts insInfo
  have H := Lib.hid h
  obtain ⟨A, c, rfl, hm, _⟩ := h
  go_enter Try.func29, Try.ntmps29
  go_wp2_with (at_make; refine wpList_make_full _ rfl _ _ _ rfl w.heap.size 51 i0 (.agg #[.int .i64 0, .int .i64 0]) 2 Try.underlying28 hi0 hz0 hz1 _ _ _ _ ms.length rfl rfl rfl rfl ?c1 ?c2 ?c3 ?_)
  case c1 => rw [hz2]; omega
  case c2 => unfold maxLen; omega
  case c3 => simp
  intro w1 hown1 hg1
  rw [zeros_flatP] at hown1
  have hb1 : Below w.heap.size w w1 := below_of_only hg1 (Nat.le_refl _) (by simp)
  have hlt1 : w.heap.size < w1.heap.size := (hown1.lt w.heap.size rfl).2
  have hstart : w1.ownsRow w.heap.size 51 2 (.slice (some ⟨w.heap.size, 0, none⟩) ms.length ms.length) ms.length ((flatP (ms.take 0 ++ List.replicate (ms.length - 0) ((0 : Int), (0 : Int)))).map (Value.int .i64)) := by simpa using hown1
  clear hown1 hg1
  generalize hG : w.heap.size = g at *
  have HG := Lib.hid hG; clear hG
  go_wp2
  go_loopw [4] (fun i wr => ∃ k : Nat, k ≤ ms.length ∧ i = .int .i64 k ∧ g < wr.heap.size ∧ Below g w wr ∧ wr.ownsRow g 51 2 (.slice (some ⟨g, 0, none⟩) ms.length ms.length) ms.length ((flatP (ms.take k ++ List.replicate (ms.length - k) ((0 : Int), (0 : Int)))).map (Value.int .i64))) (fun i _ => ms.length - (intOf i).toNat)
  case atStart => exact ⟨0, Nat.zero_le _, rfl, hlt1, hb1, hstart⟩
  case round =>
    clear hb1 hstart hlt1
    obtain ⟨k, hk, rfl, hsz, hbk, hownk⟩ := hrel
    by_cases hlt : k < ms.length
    · obtain ⟨A2, c2, e2, _, hr⟩ := H.out
      cases e2
      obtain ⟨b, off, rfl, hbb, hcc⟩ := hr (by omega)
      rw [HG.out] at hbb
      have hz : ms[k]? = some ms[k] := List.getElem?_eq_getElem hlt
      obtain ⟨d0, d1⟩ := hcc k _ hz
      have hfn := fill_next hz
      have hfl := fill_len ms k hk
      generalize ms[k] = m at *
      obtain ⟨z1, z2⟩ := m
      have e0 := (hbk.cell (p := ⟨b, off + k * 2, none⟩) hbb).trans d0
      have e1 := (hbk.cell (p := ⟨b, off + k * 2 + 1, none⟩) hbb).trans d1
      dsimp only at e0 e1
      have X := Lib.hid (And.intro hbk (And.intro hownk hfn)); clear hbk hownk hfn d0 d1 hcc hz H
      have hltI : (k : Int) < ms.length := by omega
      go_wp2_with fail
      refine (toIns_any z1 z2 _).mono ?_
      rintro e w2 ⟨rfl, hb2⟩
      have hz2 := hb2.size
      have hown2 := X.out.2.1.kept (row := none) (only_of_below hb2 none) (.inr (by simp [Value.ownBlock]))
      obtain ⟨y0, c0⟩ : ∃ y, w2.cell? ⟨g, k * 2, none⟩ = some y := ⟨_, (hown2.cellAt (k * 2) (by omega)).trans (List.getElem?_eq_getElem (by rw [List.length_map, flatP_length, hfl]; omega))⟩
      obtain ⟨y1, c1⟩ : ∃ y, w2.cell? ⟨g, k * 2 + 1, none⟩ = some y := ⟨_, (hown2.cellAt (k * 2 + 1) (by omega)).trans (List.getElem?_eq_getElem (by rw [List.length_map, flatP_length, hfl]; omega))⟩
      have f0 := hown2.frozenAt (k * 2)
      have f1 := hown2.frozenAt (k * 2 + 1)
      have hst := ((hown2.stored (k * 2) (.int .i64 z1)).1.stored (k * 2 + 1) (.int .i64 z2)).1
      rw [flatP_set (by rw [hfl]; omega), X.out.2.2] at hst
      have Y := Lib.hid (And.intro (show Below g w ((w2.setCell ⟨g, k * 2, none⟩ (.int .i64 z1)).setCell ⟨g, k * 2 + 1, none⟩ (.int .i64 z2)) from ((X.out.1.trans (hb2.mono (by omega))).setCell (Nat.le_refl g) _).setCell (Nat.le_refl g) _) hst)
      clear hst hown2 hb2 X
      go_wp2
      go_roundw
      case rel => exact ⟨k + 1, by omega, by go_num, by simp; omega, Y.out⟩
      case measure => simp [intOf]; omega
    · have hke : k = ms.length := by omega
      go_wp2
      go_ret
      refine ⟨_, rfl, ?_, by rw [HG.out]; exact hbk⟩
      rw [HG.out]
      subst hke
      refine ⟨by simpa using hownk, fun q hq => ?_⟩
      simp [Value.ownBlock] at hq; omega

/-- markInsS writes the marks over a row of the call's own. -/
theorem markInsS_any (base g cap : Nat) (ms : List (Int × Int)) (a : Int) (w : World) (ha : 0 ≤ a ∧ a ≤ 1000000000) (hl : ms.length * 2 ≤ 1000000000)
    (h : w.ownsRow base 51 2 (.slice (some ⟨g, 0, none⟩) ms.length cap) ms.length ((flatP ms).map (Value.int .i64))) :
    Calls Try.prog 42 #[.slice (some ⟨g, 0, none⟩) ms.length cap, .int .i64 a] w fun e w' => e = .returned (.int .i64 (a + (ms.length : Int) * 2)) ∧
      w'.ownsRow base 51 2 (.slice (some ⟨g, 0, none⟩) ms.length cap) ms.length ((marks a (ms.length * 2)).map (Value.int .i64)) ∧ w.grownBy w' (some g) := by
  have hstart : w.ownsRow base 51 2 (.slice (some ⟨g, 0, none⟩) ms.length cap) ms.length ((marks a (0 * 2) ++ (flatP ms).drop (0 * 2)).map (Value.int .i64)) := by simpa [marks] using h
  have hg := (h.lt g rfl).2
  have hfl := flatP_length ms
  clear h
  go_enter Try.func42, Try.ntmps42
  go_wp2
  go_loopw [1, 5] (fun a' i wr => ∃ k : Nat, k ≤ ms.length ∧ i = .int .i64 k ∧ a' = .int .i64 (a + (k : Int) * 2) ∧ w.grownBy wr (some g) ∧ wr.ownsRow base 51 2 (.slice (some ⟨g, 0, none⟩) ms.length cap) ms.length ((marks a (k * 2) ++ (flatP ms).drop (k * 2)).map (Value.int .i64))) (fun _ i _ => ms.length - (intOf i).toNat)
  case atStart => exact ⟨0, Nat.zero_le _, rfl, by simp, World.grownBy.refl _ _, hstart⟩
  case round =>
    clear hstart
    obtain ⟨k, hk, rfl, rfl, hbk, hownk⟩ := hrel
    by_cases hlt : k < ms.length
    · have hlt' : (k : Int) < ms.length := by omega
      have m1 : IntKind.i64.wrap (a + (k : Int) * 2 + 1) = a + (k : Int) * 2 + 1 := IntWalk.i64_in _ (by omega)
      have m2 : IntKind.i64.wrap (a + (k : Int) * 2 + 1 + 1) = a + (k : Int) * 2 + 1 + 1 := IntWalk.i64_in _ (by omega)
      have hst := hownk.stored (k * 2) (.int .i64 (a + (k : Int) * 2))
      rw [marks_setz (flatP ms) a _ (k * 2) (by omega) (by omega)] at hst
      have hst2 := hst.1.stored (k * 2 + 1) (.int .i64 (a + (k : Int) * 2 + 1))
      rw [marks_setz (flatP ms) a _ (k * 2 + 1) (by omega) (by omega)] at hst2
      have hfr := hownk.frozenAt (k * 2)
      have hfr2 := hst.1.frozenAt (k * 2 + 1)
      obtain ⟨u, hold⟩ : ∃ u, wr.cell? ⟨g, k * 2, none⟩ = some u := by
        rw [hownk.cellAt (k * 2) (by omega)]
        exact ⟨_, List.getElem?_eq_getElem (by simp [marks_length]; omega)⟩
      obtain ⟨u2, hold2⟩ : ∃ u, (wr.setCell ⟨g, k * 2, none⟩ (.int .i64 (a + (k : Int) * 2))).cell? ⟨g, k * 2 + 1, none⟩ = some u := by
        rw [hst.1.cellAt (k * 2 + 1) (by omega)]
        exact ⟨_, List.getElem?_eq_getElem (by simp [marks_length]; omega)⟩
      have Hst := Lib.hid (And.intro (World.grownBy.trans hbk (World.grownBy.trans hst.2 hst2.2)) hst2.1); clear hownk hst hst2 hbk
      go_wp2
      go_roundw
      case rel => exact ⟨k + 1, by omega, by go_num, by go_num, Hst.out.1, by rw [show (k + 1) * 2 = k * 2 + 1 + 1 from by omega]; exact Hst.out.2⟩
      case measure => simp [intOf]; omega
    · have hke : k = ms.length := by omega
      have hfin := hownk
      rw [hke, List.drop_eq_nil_of_le (by omega), List.append_nil] at hfin
      have Hke := Lib.hid hke; clear hke
      go_wp2
      go_ret
      exact ⟨ret_i64 (by rw [Hke.out]), hfin, hbk⟩
theorem markN (v : Value) (ms : List (Int × Int)) (a : Int) (lo hi : Nat) (w : World) (ha : 0 ≤ a ∧ a ≤ 1000000000) (hl : szM ms ≤ 1000000000) (h : OwnN w lo hi v ms) :
    Calls Try.prog 42 #[v, .int .i64 a] w fun e w' => e = .returned (.int .i64 (a + (szM ms : Int))) ∧ OwnN w' lo hi v (mkM a ms) ∧ Within lo hi w w' := by
  have hlt := h.lt
  rcases h.own.2 with ⟨rfl, h0⟩ | ⟨g, cap, cur, rfl, hb, hh, h1, h2, _⟩
  · have hz : ms = [] := List.eq_nil_of_length_eq_zero h0
    subst hz
    go_enter Try.func42, Try.ntmps42
    go_wp2
    go_loop [1, 5] (fun a' i => i = .int .i64 0 ∧ a' = .int .i64 a) (fun _ _ => 0)
    case atStart => exact ⟨rfl, rfl⟩
    case round =>
      obtain ⟨rfl, rfl⟩ := hrel
      go_wp2
      go_ret
      exact ⟨ret_i64 (by simp [szM]), OwnP.nil _ _ _ _, Within.of_below (Below.refl _ _)⟩
  · have hgb := h.own.lt g rfl
    refine (markInsS_any lo g cap ms a w ha hl h.own).mono ?_
    rintro e w' ⟨rfl, hown, hg⟩
    refine ⟨ret_i64 (by unfold szM; omega), ⟨?_, hlt⟩, Within.of_only hg fun g' e => by cases e; exact ⟨hgb.1, hlt g rfl⟩⟩
    unfold mkM
    rw [pairsFrom_length, flatP_pairsFrom]
    exact hown

end Go.Proofs.Ytgbpbcghblmiaaa
