/- Rows of operations: the laws' helpers on them. -/
import Derived.Test.YtkiedpdhehehfaaOa
import Derived.Deep.RegionWith
namespace Go.Proofs.Ytkiedpdhehehfaa
set_option maxRecDepth 100000
open Go.RowKit Go.WideShapes Go.ChangeShapes Go.Deep

theorem eqOp_any (a b c a' b' c' : Int) (w : World) :
    Calls Try.prog 127 #[.agg #[.int .i64 a, .int .i64 b, .int .i64 c], .agg #[.int .i64 a', .int .i64 b', .int .i64 c']] w fun e w' => e = .returned (.bool (decide ((a, b, c) = (a', b', c')))) ∧ Below w.heap.size w w' := by
  have hb : Below w.heap.size w ((w.alloc (.cells #[.int .i64 a, .int .i64 b, .int .i64 c] 82)).alloc (.cells #[.int .i64 a', .int .i64 b', .int .i64 c'] 82)) := ((Below.refl _ _).alloc (Nat.le_refl _) _).alloc (by simp) _
  have H := Lib.hid hb; clear hb
  by_cases h1 : a = a'
  · have hI : (a != a') = false := by simp [h1]
    have E := Lib.hid h1; clear h1
    by_cases h2 : b = b'
    · have hJ : (b != b') = false := by simp [h2]
      have F := Lib.hid h2; clear h2
      by_cases h3 : c = c'
      · have hK : (c != c') = false := by simp [h3]
        have G := Lib.hid h3; clear h3
        go_enter Try.func127, Try.ntmps127
        go_wp2
        go_ret
        exact ⟨ret_bool (by simp [E.out, F.out, G.out]), H.out⟩
      · have hK : (c != c') = true := by simp [h3]
        have G := Lib.hid h3; clear h3
        go_enter Try.func127, Try.ntmps127
        go_wp2
        go_ret
        exact ⟨ret_bool (by simp [G.out]), H.out⟩
    · have hJ : (b != b') = true := by simp [h2]
      have F := Lib.hid h2; clear h2
      go_enter Try.func127, Try.ntmps127
      go_wp2
      go_ret
      exact ⟨ret_bool (by simp [F.out]), H.out⟩
  · have hI : (a != a') = true := by simp [h1]
    have E := Lib.hid h1; clear h1
    go_enter Try.func127, Try.ntmps127
    go_wp2
    go_ret
    exact ⟨ret_bool (by simp [E.out]), H.out⟩
set_option maxHeartbeats 1000000 in
theorem eqO (v u : Value) (xs ys : List (Int × Int × Int)) (w : World) (hx : Rd3 w v xs) (hy : Rd3 w u ys) (b : Bool) (hb : decide (xs = ys) = b) :
    Calls Try.prog 65 #[v, u] w fun e w' => e = .returned (.bool b) ∧ Below w.heap.size w w' := by
  have H := Lib.hid (And.intro hx hy)
  have HB := Lib.hid hb; clear hb
  obtain ⟨A, c, rfl, hm, _⟩ := hx
  obtain ⟨A', c', rfl, hm', _⟩ := hy
  by_cases hl : xs.length = ys.length
  case neg =>
    have hI : ((xs.length : Int) != ys.length) = true := by simp; omega
    obtain rfl : false = b := by rw [← HB.out]; symm; rw [decide_eq_false_iff_not]; intro e; exact hl (by rw [e])
    go_enter Try.func65, Try.ntmps65
    go_wp2
    go_ret
    exact ⟨rfl, Below.refl _ _⟩
  have hI : ((xs.length : Int) != ys.length) = false := by simp; omega
  have HL := Lib.hid hl; clear hl
  go_enter Try.func65, Try.ntmps65
  go_wp2
  go_loopw [5] (fun i wr => ∃ k : Nat, k ≤ xs.length ∧ i = .int .i64 k ∧ w.heap.size ≤ wr.heap.size ∧ Below w.heap.size w wr ∧ xs.take k = ys.take k) (fun i _ => xs.length - (intOf i).toNat)
  case atStart => exact ⟨0, Nat.zero_le _, rfl, Nat.le_refl _, Below.refl _ _, by simp⟩
  case round =>
    obtain ⟨k, hk, rfl, hsz, hbk, htk⟩ := hrel
    have X := Lib.hid (And.intro hbk htk); clear hbk htk
    by_cases hlt : k < xs.length
    · obtain ⟨A2, c2, e2, _, hr⟩ := H.out.1
      cases e2
      obtain ⟨p, po, rfl, hp, hpc⟩ := hr (by omega)
      obtain ⟨A3, c3, e3, _, hr'⟩ := H.out.2
      cases e3
      obtain ⟨q, qo, rfl, hq, hqc⟩ := hr' (by have := HL.out; omega)
      have hk2 : k < ys.length := by have := HL.out; omega
      have hz : xs[k]? = some xs[k] := List.getElem?_eq_getElem hlt
      have hz2 : ys[k]? = some ys[k] := List.getElem?_eq_getElem hk2
      obtain ⟨d0, d1, d2⟩ := hpc k _ hz
      obtain ⟨f0, f1, f2⟩ := hqc k _ hz2
      have HZ := Lib.hid (And.intro hz hz2)
      clear hz hz2 hpc hqc
      generalize xs[k] = x at *
      generalize ys[k] = y at *
      obtain ⟨x1, x2, x3⟩ := x
      obtain ⟨y1, y2, y3⟩ := y
      have hd : Below wr.heap.size wr wr.drew := (Below.refl _ _).drew
      have HD := Lib.hid hd
      have e0 := (X.out.1.cell (p := ⟨p, po + k * 3, none⟩) hp).trans d0
      have e1 := (X.out.1.cell (p := ⟨p, po + k * 3 + 1, none⟩) hp).trans d1
      have e2 := (X.out.1.cell (p := ⟨p, po + k * 3 + 2, none⟩) hp).trans d2
      have g0 := (X.out.1.cell (p := ⟨q, qo + k * 3, none⟩) hq).trans f0
      have g1 := (X.out.1.cell (p := ⟨q, qo + k * 3 + 1, none⟩) hq).trans f1
      have g2 := (X.out.1.cell (p := ⟨q, qo + k * 3 + 2, none⟩) hq).trans f2
      dsimp only at e0 e1 e2 g0 g1 g2
      clear d0 d1 d2 f0 f1 f2
      have hltI : (k : Int) < xs.length := by omega
      have hltJ : (k : Int) < ys.length := by omega
      rcases hxy : decide ((x1, x2, x3) = (y1, y2, y3)) with _ | _ <;> have HXY := Lib.hid hxy <;> clear hxy
      · have hne : ¬ xs = ys := fun e => by
          have h1 := HZ.out.1; rw [e, HZ.out.2] at h1
          have h2 := HXY.out
          rw [decide_eq_false_iff_not] at h2
          exact h2 (Option.some.inj h1).symm
        obtain rfl : false = b := by rw [← HB.out]; symm; rw [decide_eq_false_iff_not]; exact hne
        clear hne
        go_wp2_with fail
        go_region_with (go_at_call 127; refine (eqOp_any x1 x2 x3 y1 y2 y3 _).mono ?_; rw [HXY.out]; rintro e w2 ⟨rfl, hb2⟩)
        all_goals
          have hz2 := hb2.size
          have Z := Lib.hid (X.out.1.trans ((HD.out.trans hb2).mono (by omega))); clear hb2 X hd
          go_wp2
          go_ret
          exact ⟨rfl, Z.out⟩
      · go_wp2_with fail
        go_region_with (go_at_call 127; refine (eqOp_any x1 x2 x3 y1 y2 y3 _).mono ?_; rw [HXY.out]; rintro e w2 ⟨rfl, hb2⟩)
        all_goals
          have hz2 : wr.heap.size ≤ w2.heap.size := hb2.size
          have Z := Lib.hid (And.intro (X.out.1.trans ((HD.out.trans hb2).mono (by omega))) (take_succ_eq3 HZ.out.1 HZ.out.2 X.out.2 (of_decide_eq_true HXY.out))); clear hb2 X hd
          go_wp2
          go_roundw
          case rel => exact ⟨k + 1, by omega, by go_num, by omega, Z.out⟩
          case measure => simp [intOf]; omega
    · have hall : xs = ys := by
        have := X.out.2
        rwa [List.take_of_length_le (by omega), List.take_of_length_le (by have := HL.out; omega)] at this
      obtain rfl : true = b := by rw [← HB.out]; symm; exact decide_eq_true hall
      clear hall
      go_wp2
      go_ret
      exact ⟨rfl, X.out.1⟩


abbrev OwnO (w : World) (lo hi : Nat) (v : Value) (ms : List (Int × Int × Int)) : Prop := Own3 82 w lo hi v ms
theorem opInfo : (Try.prog.info? 82).map (fun i => (i.zero, i.size, i.bytes)) = some (some (.agg #[.int .i64 0, .int .i64 0, .int .i64 0]), 3, 24) := by kernel_rfl
theorem markOpS_any (base g cap : Nat) (ms : List (Int × Int × Int)) (a : Int) (w : World) (ha : 0 ≤ a ∧ a ≤ 1000000000) (hl : ms.length * 3 ≤ 1000000000)
    (h : w.ownsRow base 82 3 (.slice (some ⟨g, 0, none⟩) ms.length cap) ms.length ((flat3 ms).map (Value.int .i64))) :
    Calls Try.prog 66 #[.slice (some ⟨g, 0, none⟩) ms.length cap, .int .i64 a] w fun e w' => e = .returned (.int .i64 (a + (ms.length : Int) * 3)) ∧
      w'.ownsRow base 82 3 (.slice (some ⟨g, 0, none⟩) ms.length cap) ms.length ((marks a (ms.length * 3)).map (Value.int .i64)) ∧ w.grownBy w' (some g) := by
  have hstart : w.ownsRow base 82 3 (.slice (some ⟨g, 0, none⟩) ms.length cap) ms.length ((marks a (0 * 3) ++ (flat3 ms).drop (0 * 3)).map (Value.int .i64)) := by simpa [marks] using h
  have hg := (h.lt g rfl).2
  have hfl := flat3_length ms
  clear h
  go_enter Try.func66, Try.ntmps66
  go_wp2
  go_loopw [1, 5] (fun a' i wr => ∃ k : Nat, k ≤ ms.length ∧ i = .int .i64 k ∧ a' = .int .i64 (a + (k : Int) * 3) ∧ w.grownBy wr (some g) ∧ wr.ownsRow base 82 3 (.slice (some ⟨g, 0, none⟩) ms.length cap) ms.length ((marks a (k * 3) ++ (flat3 ms).drop (k * 3)).map (Value.int .i64))) (fun _ i _ => ms.length - (intOf i).toNat)
  case atStart => exact ⟨0, Nat.zero_le _, rfl, by simp, World.grownBy.refl _ _, hstart⟩
  case round =>
    clear hstart
    obtain ⟨k, hk, rfl, rfl, hbk, hownk⟩ := hrel
    by_cases hlt : k < ms.length
    · have hlt' : (k : Int) < ms.length := by omega
      have m1 : IntKind.i64.wrap (a + (k : Int) * 3 + 1) = a + (k : Int) * 3 + 1 := IntWalk.i64_in _ (by omega)
      have m2 : IntKind.i64.wrap (a + (k : Int) * 3 + 1 + 1) = a + (k : Int) * 3 + 1 + 1 := IntWalk.i64_in _ (by omega)
      have m3 : IntKind.i64.wrap (a + (k : Int) * 3 + 1 + 1 + 1) = a + (k : Int) * 3 + 1 + 1 + 1 := IntWalk.i64_in _ (by omega)
      have hst := hownk.stored (k * 3) (.int .i64 (a + (k : Int) * 3))
      rw [marks_set3 (flat3 ms) a _ (k * 3) (by omega) (by omega)] at hst
      have hst2 := hst.1.stored (k * 3 + 1) (.int .i64 (a + (k : Int) * 3 + 1))
      rw [marks_set3 (flat3 ms) a _ (k * 3 + 1) (by omega) (by omega)] at hst2
      have hst3 := hst2.1.stored (k * 3 + 2) (.int .i64 (a + (k : Int) * 3 + 1 + 1))
      rw [marks_set3 (flat3 ms) a _ (k * 3 + 2) (by omega) (by omega)] at hst3
      have hfr := hownk.frozenAt (k * 3)
      have hfr2 := hst.1.frozenAt (k * 3 + 1)
      have hfr3 := hst2.1.frozenAt (k * 3 + 2)
      obtain ⟨u, hold⟩ : ∃ u, wr.cell? ⟨g, k * 3, none⟩ = some u := by
        rw [hownk.cellAt (k * 3) (by omega)]
        exact ⟨_, List.getElem?_eq_getElem (by simp [marks_length]; omega)⟩
      obtain ⟨u2, hold2⟩ : ∃ u, (wr.setCell ⟨g, k * 3, none⟩ (.int .i64 (a + (k : Int) * 3))).cell? ⟨g, k * 3 + 1, none⟩ = some u := by
        rw [hst.1.cellAt (k * 3 + 1) (by omega)]
        exact ⟨_, List.getElem?_eq_getElem (by simp [marks_length]; omega)⟩
      obtain ⟨u3, hold3⟩ : ∃ u, ((wr.setCell ⟨g, k * 3, none⟩ (.int .i64 (a + (k : Int) * 3))).setCell ⟨g, k * 3 + 1, none⟩ (.int .i64 (a + (k : Int) * 3 + 1))).cell? ⟨g, k * 3 + 2, none⟩ = some u := by
        rw [hst2.1.cellAt (k * 3 + 2) (by omega)]
        exact ⟨_, List.getElem?_eq_getElem (by simp [marks_length]; omega)⟩
      have Hst := Lib.hid (And.intro (World.grownBy.trans hbk (World.grownBy.trans hst.2 (World.grownBy.trans hst2.2 hst3.2))) hst3.1); clear hownk hst hst2 hst3 hbk
      go_wp2
      go_roundw
      case rel => exact ⟨k + 1, by omega, by go_num, by go_num, Hst.out.1, by rw [show (k + 1) * 3 = k * 3 + 2 + 1 from by omega]; exact Hst.out.2⟩
      case measure => simp [intOf]; omega
    · have hke : k = ms.length := by omega
      have hfin := hownk
      rw [hke, List.drop_eq_nil_of_le (by omega), List.append_nil] at hfin
      have Hke := Lib.hid hke; clear hke
      go_wp2
      go_ret
      exact ⟨ret_i64 (by rw [Hke.out]), hfin, hbk⟩
theorem markO (v : Value) (ms : List (Int × Int × Int)) (a : Int) (lo hi : Nat) (w : World) (ha : 0 ≤ a ∧ a ≤ 1000000000) (hl : sz3 ms ≤ 1000000000) (h : OwnO w lo hi v ms) :
    Calls Try.prog 66 #[v, .int .i64 a] w fun e w' => e = .returned (.int .i64 (a + (sz3 ms : Int))) ∧ OwnO w' lo hi v (mk3 a ms) ∧ Within lo hi w w' := by
  have hlt := h.lt
  rcases h.own.2 with ⟨rfl, h0⟩ | ⟨g, cap, cur, rfl, hb, hh, h1, h2, _⟩
  · have hz : ms = [] := List.eq_nil_of_length_eq_zero h0
    subst hz
    go_enter Try.func66, Try.ntmps66
    go_wp2
    go_loop [1, 5] (fun a' i => i = .int .i64 0 ∧ a' = .int .i64 a) (fun _ _ => 0)
    case atStart => exact ⟨rfl, rfl⟩
    case round =>
      obtain ⟨rfl, rfl⟩ := hrel
      go_wp2
      go_ret
      exact ⟨ret_i64 (by simp [sz3]), Own3.nil _ _ _ _, Within.of_below (Below.refl _ _)⟩
  · have hgb := h.own.lt g rfl
    refine (markOpS_any lo g cap ms a w ha hl h.own).mono ?_
    rintro e w' ⟨rfl, hown, hg⟩
    refine ⟨ret_i64 (by unfold sz3; omega), ⟨?_, hlt⟩, Within.of_only hg fun g' e => by cases e; exact ⟨hgb.1, hlt g rfl⟩⟩
    unfold mk3
    rw [tripsFrom_length, flat3_tripsFrom]
    exact hown

theorem heldO (v : Value) (ms : List (Int × Int × Int)) (a : Int) (w : World) (ha : 0 ≤ a ∧ a ≤ 1000000000) (hl : sz3 ms ≤ 1000000000) (h : Rd3 w v (mk3 a ms)) :
    Calls Try.prog 67 #[v, .int .i64 a] w fun e w' => e = .returned (.int .i64 (a + (sz3 ms : Int))) ∧ Below w.heap.size w w' := by
  unfold sz3 at hl
  unfold mk3 at h
  obtain ⟨A, c, rfl, _, hr⟩ := h
  rw [tripsFrom_length] at hr ⊢
  generalize hn : ms.length = n at *
  have Hr := Lib.hid hr; clear hr
  go_enter Try.func67, Try.ntmps67
  go_wp2
  go_loop [1, 5] (fun a' i => ∃ k : Nat, k ≤ n ∧ i = .int .i64 k ∧ a' = .int .i64 (a + (k : Int) * 3)) (fun _ i => n - (intOf i).toNat)
  case atStart => exact ⟨0, Nat.zero_le _, rfl, by simp⟩
  case round =>
    obtain ⟨k, hk, rfl, rfl⟩ := hrel
    by_cases hlt : k < n
    · obtain ⟨b, off, rfl, hb, hc⟩ := Hr.out (by omega)
      obtain ⟨d0, d1, d2⟩ := hc k _ (tripsFrom_get a n k hlt)
      have m1 : IntKind.i64.wrap (a + (k : Int) * 3 + 1) = a + (k : Int) * 3 + 1 := IntWalk.i64_in _ (by omega)
      have m2 : IntKind.i64.wrap (a + (k : Int) * 3 + 1 + 1) = a + (k : Int) * 3 + 1 + 1 := IntWalk.i64_in _ (by omega)
      have m3 : IntKind.i64.wrap (a + (k : Int) * 3 + 1 + 1 + 1) = a + (k : Int) * 3 + 1 + 1 + 1 := IntWalk.i64_in _ (by omega)
      dsimp only at d0 d1 d2
      rw [show a + 3 * (k : Int) + 2 = a + (k : Int) * 3 + 1 + 1 from by omega] at d2
      rw [show a + 3 * (k : Int) = a + (k : Int) * 3 from by omega] at d0 d1
      clear hc
      have hne : ((a + (k : Int) * 3) != (a + (k : Int) * 3)) = false := by simp
      have hne2 : ((a + (k : Int) * 3 + 1) != (a + (k : Int) * 3 + 1)) = false := by simp
      have hne3 : ((a + (k : Int) * 3 + 1 + 1) != (a + (k : Int) * 3 + 1 + 1)) = false := by simp
      go_wp2
      go_round
      case rel => exact ⟨k + 1, by omega, by go_num, by go_num⟩
      case measure => simp [intOf]; omega
    · have hke : k = n := by omega
      have Hke := Lib.hid (And.intro hke hn); clear hke
      go_wp2
      go_ret
      exact ⟨ret_i64 (by unfold sz3; rw [Hke.out.1, Hke.out.2]; omega), Below.refl _ _⟩
end Go.Proofs.Ytkiedpdhehehfaa
