/- slices.Sort of a short row of the call's own; slices.Collect and slices.Sorted of a short row that is read. -/
import Derived.Test.YtjbfpbajbjnifaaJq
import Derived.Deep.QuietTactic
import Derived.BigQuiet
namespace Go.Proofs.Ytjbfpbajbjnifaa
set_option maxRecDepth 100000
open Go.RowKit Go.WideShapes Go.Deep

theorem isNaN_any (x : Int) (w : World) : Calls Try.prog 185 #[.int .i64 x] w fun e w' => e = .returned (.bool false) ∧ w = w' := by
  go_enter Try.func185, Try.ntmps185
  go_wp2
  go_ret
  exact ⟨ret_bool (by simp), rfl⟩
theorem less_any (x y : Int) (b : Bool) (hb : decide (x < y) = b) (w : World) : Calls Try.prog 175 #[.int .i64 x, .int .i64 y] w fun e w' => e = .returned (.bool b) ∧ w = w' := by
  have HB := Lib.hid hb; clear hb
  go_enter Try.func175, Try.ntmps175
  go_wp2_with (go_at_call 185; refine (isNaN_any _ _).mono ?_; rintro e w' ⟨rfl, rfl⟩)
  go_ret
  exact ⟨ret_bool (by rw [← HB.out]), rfl⟩
theorem lessQ (x y : Int) (b : Bool) (hb : decide (x < y) = b) (w : World) : Calls Try.prog 175 #[.int .i64 x, .int .i64 y] w fun e w' => e = .returned (.bool b) ∧ w' = w :=
  (less_any x y b hb w).mono fun _ _ h => ⟨h.1, h.2.symm⟩
theorem bitsLen_any (n : Nat) (hn : n ≤ 12) (w : World) : Calls Try.prog 166 #[.int .u64 n] w fun e w' => (∃ k : Int, e = .returned (.int .i64 k)) ∧ w = w' := by
  have h : n = 0 ∨ n = 1 ∨ n = 2 ∨ n = 3 ∨ n = 4 ∨ n = 5 ∨ n = 6 ∨ n = 7 ∨ n = 8 ∨ n = 9 ∨ n = 10 ∨ n = 11 ∨ n = 12 := by omega
  rcases h with rfl | rfl | rfl | rfl | rfl | rfl | rfl | rfl | rfl | rfl | rfl | rfl | rfl
  all_goals
    go_enter Try.func166, Try.ntmps166
    go_wp2
    go_ret
    exact ⟨⟨_, rfl⟩, rfl⟩

/-- Where the inner loop stands: what is before the place, the value there, what has been passed, and the rest. -/
structure Ins (i j : Nat) (ys P S R : List Int) (x : Int) : Prop where
  eq : ys = P ++ x :: (S ++ R)
  lp : P.length = j
  ls : S.length + j = i
  sp : P.Pairwise (· ≤ ·)
  ss : S.Pairwise (· ≤ ·)
  ps : ∀ p ∈ P, ∀ s ∈ S, p ≤ s
  xs : ∀ s ∈ S, x ≤ s
theorem Ins.start {i : Nat} {ys : List Int} (hi : i < ys.length) (hs : (ys.take i).Pairwise (· ≤ ·)) : Ins i i ys (ys.take i) [] (ys.drop (i + 1)) (ys.getD i 0) := by
  refine ⟨?_, by simp; omega, by simp, hs, List.Pairwise.nil, by simp, by simp⟩
  have h1 : ys.drop i = ys.getD i 0 :: ys.drop (i + 1) := by
    rw [List.drop_eq_getElem_cons hi]; simp [List.getD, List.getElem?_eq_getElem hi]
  rw [List.nil_append, ← h1, List.take_append_drop]
theorem Ins.swap {i m : Nat} {ys P S R : List Int} {x : Int} (h : Ins i (m + 1) ys P S R x) : ∃ P' y, P = P' ++ [y] ∧ ys[m]? = some y ∧ ys[m + 1]? = some x ∧
    (x < y → Ins i m ((ys.set (m + 1) y).set m x) P' (y :: S) R x ∧ ((ys.set (m + 1) y).set m x).Perm ys) ∧ (¬ x < y → (ys.take (i + 1)).Pairwise (· ≤ ·)) := by
  obtain ⟨heq, hlp, hls, hsp, hss, hps, hxs⟩ := h
  rcases List.eq_nil_or_concat P with rfl | ⟨P', y, rfl⟩
  · simp at hlp
  · rw [List.concat_eq_append] at *
    have hl' : P'.length = m := by simpa using hlp
    have e0 : ys = P' ++ (y :: x :: (S ++ R)) := by rw [heq]; simp
    refine ⟨P', y, rfl, ?_, ?_, fun hxy => ?_, fun hxy => ?_⟩
    · rw [e0, List.getElem?_append_right (by omega)]; simp [hl']
    · rw [e0, List.getElem?_append_right (by omega), hl', show m + 1 - m = 1 from by omega]; rfl
    · have e1 : ys.set (m + 1) y = P' ++ (y :: y :: (S ++ R)) := by
        rw [e0, List.set_append_right _ _ (by omega), hl', show m + 1 - m = 1 from by omega]; rfl
      have e2 : (ys.set (m + 1) y).set m x = P' ++ (x :: y :: (S ++ R)) := by
        rw [e1, List.set_append_right _ _ (by omega), hl', Nat.sub_self]; rfl
      rw [List.pairwise_append] at hsp
      refine ⟨⟨by rw [e2]; simp, hl', by simp; omega, hsp.1, ?_, ?_, ?_⟩, ?_⟩
      · rw [List.pairwise_cons]; exact ⟨fun s hs => hps y (by simp) s hs, hss⟩
      · intro p hp s hs
        rcases List.mem_cons.1 hs with rfl | hs
        · exact hsp.2.2 p hp _ (by simp)
        · exact hps p (by simp [hp]) s hs
      · intro s hs
        rcases List.mem_cons.1 hs with rfl | hs
        · omega
        · exact hxs s hs
      · rw [e2, e0]
        exact List.Perm.append_left P' (List.Perm.swap y x (S ++ R))
    · have e3 : ys.take (i + 1) = (P' ++ [y]) ++ (x :: S) := by
        rw [heq, show i + 1 = ((P' ++ [y]) ++ (x :: S)).length from by simp; omega, show (P' ++ [y]) ++ x :: (S ++ R) = ((P' ++ [y]) ++ (x :: S)) ++ R from by simp, List.take_left]
      rw [e3, List.pairwise_append, List.pairwise_cons]
      rw [List.pairwise_append] at hsp
      refine ⟨by rw [List.pairwise_append]; exact hsp, ⟨hxs, hss⟩, fun a ha b hb => ?_⟩
      rcases List.mem_cons.1 hb with rfl | hb
      · rcases List.mem_append.1 ha with ha | ha
        · have := hsp.2.2 a ha y (by simp); omega
        · have : a = y := by simpa using ha
          omega
      · exact hps a ha b hb
theorem Ins.first {i : Nat} {ys P S R : List Int} {x : Int} (h : Ins i 0 ys P S R x) : (ys.take (i + 1)).Pairwise (· ≤ ·) := by
  obtain ⟨heq, hlp, hls, hsp, hss, hps, hxs⟩ := h
  obtain rfl := List.eq_nil_of_length_eq_zero hlp
  have e3 : ys.take (i + 1) = x :: S := by
    rw [heq, List.nil_append, show i + 1 = (x :: S).length from by simp; omega, show x :: (S ++ R) = (x :: S) ++ R from rfl, List.take_left]
  rw [e3, List.pairwise_cons]; exact ⟨hxs, hss⟩
theorem set2_map (ys : List Int) (a b : Nat) (x y : Int) : ((ys.map (Value.int .i64)).set a (.int .i64 y)).set b (.int .i64 x) = ((ys.set a y).set b x).map (Value.int .i64) := by
  rw [List.map_set, List.map_set]

theorem grown_drewN {a w : World} {r : Option Nat} (h : a.grownBy w r) (n : Nat) : a.grownBy (w.drewN n) r := ⟨h.os, h.tape, h.output, h.size, h.block⟩
set_option maxHeartbeats 4000000 in
theorem insSort_any (g cap n lo : Nat) (xs : List Int) (w : World) (h : w.ownsRow lo 3 1 (.slice (some ⟨g, 0, none⟩) n cap) n (xs.map (Value.int .i64))) (hn : n ≤ 12) :
    Calls Try.prog 169 #[.slice (some ⟨g, 0, none⟩) n cap, .int .i64 0, .int .i64 n] w fun e w' => e = .returned (.tuple #[]) ∧ ∃ ys : List Int, ys.Perm xs ∧ ys.Pairwise (· ≤ ·) ∧ w'.ownsRow lo 3 1 (.slice (some ⟨g, 0, none⟩) n cap) n (ys.map (Value.int .i64)) ∧ w.grownBy w' (some g) := by
  have hlx : xs.length = n := by have := h.1; simpa using this
  have hgl := (h.lt g rfl).2
  have H := Lib.hid (And.intro h hlx); clear h hlx
  go_enter Try.func169, Try.ntmps169
  go_wp2
  go_loopw [6] (fun iv wr => ∃ (i : Nat) (ys : List Int), iv = .int .i64 i ∧ 1 ≤ i ∧ i ≤ n + 1 ∧ g < wr.heap.size ∧ ys.length = n ∧ ys.Perm xs ∧ (ys.take i).Pairwise (· ≤ ·) ∧ wr.ownsRow lo 3 1 (.slice (some ⟨g, 0, none⟩) n cap) n (ys.map (Value.int .i64)) ∧ w.grownBy wr (some g)) (fun iv _ => n + 1 - (intOf iv).toNat)
  case atStart => exact ⟨1, xs, rfl, by omega, by omega, hgl, H.out.2, List.Perm.refl _, by
    rcases xs with _ | ⟨a, xs⟩
    · simp
    · simp, H.out.1, World.grownBy.refl _ _⟩
  case round =>
    clear H
    obtain ⟨i, ys, rfl, hi1, hi2, hgs, hly, hpm, hsort, hown, hgb⟩ := hrel
    by_cases hlt : i < n
    · have hltI : (i : Int) < n := by omega
      have hst := Ins.start (ys := ys) (i := i) (by omega) hsort
      have X := Lib.hid (And.intro hst (And.intro hpm (And.intro hown (And.intro hgb hly)))); clear hst hpm hown hgb hly hsort
      go_wp2
      go_loopw [7] (fun jv wq => ∃ (j : Nat) (zs P S R : List Int) (x : Int), jv = .int .i64 j ∧ j ≤ i ∧ g < wq.heap.size ∧ zs.length = n ∧ zs.Perm xs ∧ Ins i j zs P S R x ∧ wq.ownsRow lo 3 1 (.slice (some ⟨g, 0, none⟩) n cap) n (zs.map (Value.int .i64)) ∧ w.grownBy wq (some g)) (fun jv _ => (intOf jv).toNat)
      case atStart => exact ⟨i, ys, _, _, _, _, rfl, Nat.le_refl _, hgs, X.out.2.2.2.2, X.out.2.1, X.out.1, X.out.2.2.1, X.out.2.2.2.1⟩
      case round =>
        clear X hgs
        obtain ⟨j, zs, P, S, R, x, rfl, hji, hgs, hlz, hpz, hins, hown, hgb⟩ := hrel
        rcases j with _ | m
        · have hfin := hins.first
          have Y := Lib.hid (And.intro hlz (And.intro hpz (And.intro hfin (And.intro hown hgb)))); clear hlz hpz hfin hown hgb hins
          have hj0 : decide ((0 : Int) < ((0 : Nat) : Int)) = false := by decide
          go_wp2
          go_quiet (fail)
          have Z := Lib.hid (And.intro Y.out.1 (And.intro Y.out.2.1 (And.intro Y.out.2.2.1 (And.intro (ownsRow_keep (w' := wr.drewN nq) Y.out.2.2.2.1 fun _ _ => rfl) (grown_drewN Y.out.2.2.2.2 nq))))); clear Y
          have hgs2 : g < (wr.drewN nq).heap.size := hgs
          go_wp2
          go_roundw
          case rel => exact ⟨i + 1, zs, by go_num, by omega, by omega, hgs2, Z.out⟩
          case measure => simp [intOf]; omega
        · obtain ⟨P', y, rfl, g0, g1, hyes, hno⟩ := hins.swap
          have e1 : wr.cell? ⟨g, m + 1, none⟩ = some (.int .i64 x) := (hown.cellAt (m + 1) (by omega)).trans (by rw [List.getElem?_map, g1]; rfl)
          have e2 : wr.cell? ⟨g, m, none⟩ = some (.int .i64 y) := (hown.cellAt m (by omega)).trans (by rw [List.getElem?_map, g0]; rfl)
          have f1 := hown.frozenAt (m + 1)
          have f2 := hown.frozenAt m
          have h1 := (hown.stored (m + 1) (.int .i64 y)).1
          have s1 := (hown.stored (m + 1) (.int .i64 y)).2
          have e3 := h1.cellAt m (by omega)
          have f3 := h1.frozenAt m
          rw [List.getElem?_set_ne (by omega), List.getElem?_map, g0] at e3
          have h2 := (h1.stored m (.int .i64 x)).1
          have s2 := (h1.stored m (.int .i64 x)).2
          have hgb2 := (hgb.trans s1).trans s2
          rw [set2_map] at h2
          have hmI : (m : Int) + 1 < n := by omega
          have hmN : m + 1 < n := by omega
          have hm2 : (0 : Int) ≤ (m : Int) + 1 := by omega
          have hmI2 : (m : Int) < n := by omega
          have hmN2 : m < n := by omega
          have hm3 : (0 : Int) ≤ (m : Int) := by omega
          have hwm2 : IntKind.i64.wrap (m : Int) = (m : Int) := by rw [IntKind.wrap_i64]; omega
          have hwm : IntKind.i64.wrap ((m : Int) + 1 - 1) = (m : Int) := by rw [IntKind.wrap_i64]; omega
          have hm0 : decide ((0 : Int) < (m : Int) + 1) = true := decide_eq_true (by omega)
          have Y := Lib.hid (And.intro hlz (And.intro hpz (And.intro hown (And.intro hgb (And.intro hyes (And.intro hno (And.intro h2 hgb2))))))); clear hlz hpz hown hgb hins hyes hno h1 h2 s1 s2 hgb2
          rcases hb : decide (x < y) with _ | _ <;> have HB := Lib.hid hb <;> clear hb
          · have hnx : ¬ x < y := by simpa using HB.out
            have hfin := Y.out.2.2.2.2.2.1 hnx
            go_wp2
            go_quiet ((go_at_call 175; exact Calls.quiet_of_same (lessQ x y false HB.out _)))
            have Z := Lib.hid (And.intro Y.out.1 (And.intro Y.out.2.1 (And.intro hfin (And.intro (ownsRow_keep (w' := wr.drewN nq) Y.out.2.2.1 fun _ _ => rfl) (grown_drewN Y.out.2.2.2.1 nq))))); clear Y hfin
            have hgs2 : g < (wr.drewN nq).heap.size := hgs
            go_wp2
            go_roundw
            case rel => exact ⟨i + 1, zs, by go_num, by omega, by omega, hgs2, Z.out⟩
            case measure => simp [intOf]; omega
          · have hxy : x < y := by simpa using HB.out
            obtain ⟨hin2, hpm2⟩ := Y.out.2.2.2.2.1 hxy
            go_wp2
            go_quiet ((go_at_call 175; exact Calls.quiet_of_same (lessQ x y true HB.out _)))
            have d1 : (wr.drewN nq).drew.cell? ⟨g, m + 1, none⟩ = some (.int .i64 x) := e1
            have d2 : (wr.drewN nq).drew.cell? ⟨g, m, none⟩ = some (.int .i64 y) := e2
            have d3 : (wr.drewN nq).drew.frozen? ⟨g, m + 1, none⟩ = false := f1
            have d4 : ((wr.drewN nq).drew.setCell ⟨g, m + 1, none⟩ (.int .i64 y)).cell? ⟨g, m, none⟩ = some (.int .i64 y) := e3
            have d5 : ((wr.drewN nq).drew.setCell ⟨g, m + 1, none⟩ (.int .i64 y)).frozen? ⟨g, m, none⟩ = false := f3
            go_wp2
            go_region
            all_goals
              have hl2 : ((zs.set (m + 1) y).set m x).length = n := by rw [List.length_set, List.length_set]; exact Y.out.1
              have h2 := Y.out.2.2.2.2.2.2.1
              have g2 := Y.out.2.2.2.2.2.2.2
              have Z : Hid (((wr.drewN (nq + 1)).setCell ⟨g, m + 1, none⟩ (.int .i64 y)).setCell ⟨g, m, none⟩ (.int .i64 x) |>.ownsRow lo 3 1 (.slice (some ⟨g, 0, none⟩) n cap) n (((zs.set (m + 1) y).set m x).map (Value.int .i64))) := Lib.hid (ownsRow_keep h2 fun _ _ => rfl)
              have G : Hid (w.grownBy (((wr.drewN (nq + 1)).setCell ⟨g, m + 1, none⟩ (.int .i64 y)).setCell ⟨g, m, none⟩ (.int .i64 x)) (some g)) := Lib.hid ⟨g2.os, g2.tape, g2.output, g2.size, g2.block⟩
              have hgs3 : g < (((wr.drewN (nq + 1)).setCell ⟨g, m + 1, none⟩ (.int .i64 y)).setCell ⟨g, m, none⟩ (.int .i64 x)).heap.size := by simpa [World.setCell] using hgs
              have P2 := Lib.hid (And.intro hin2 (And.intro (hpm2.trans Y.out.2.1) hl2))
              clear hin2 hpm2 hl2 h2 g2
              go_wp2
              go_roundw
              case rel => exact ⟨m, _, P', y :: S, R, x, by go_num, by omega, hgs3, P2.out.2.2, P2.out.2.1, P2.out.1, Z.out, G.out⟩
              case measure => simp [intOf]
    · have hltI : ¬ (i : Int) < n := by omega
      have X := Lib.hid (And.intro hpm (And.intro (show ys.Pairwise (· ≤ ·) by rw [List.take_of_length_le (by omega)] at hsort; exact hsort) (And.intro hown hgb))); clear hpm hown hgb hsort
      go_wp2
      go_end0
      exact ⟨rfl, ys, X.out⟩

def Sorts (lo g cap n : Nat) (xs : List Int) (w : World) (e : Ending) (w' : World) : Prop := e = .returned (.tuple #[]) ∧ ∃ ys : List Int, ys.Perm xs ∧ ys.Pairwise (· ≤ ·) ∧ w'.ownsRow lo 3 1 (.slice (some ⟨g, 0, none⟩) n cap) n (ys.map (Value.int .i64)) ∧ w.grownBy w' (some g)
set_option maxHeartbeats 1000000 in
theorem pdq_any (g cap n lo : Nat) (k : Int) (xs : List Int) (w : World) (h : w.ownsRow lo 3 1 (.slice (some ⟨g, 0, none⟩) n cap) n (xs.map (Value.int .i64))) (hn : n ≤ 12) :
    Calls Try.prog 165 #[.slice (some ⟨g, 0, none⟩) n cap, .int .i64 0, .int .i64 n, .int .i64 k] w (Sorts lo g cap n xs w) := by
  have H := Lib.hid h; clear h
  have hnI : (n : Int) ≤ 12 := by omega
  go_enter Try.func165, Try.ntmps165
  go_wp2
  go_loopw [1, 2, 3] (fun av bv _ wr => av = .int .i64 0 ∧ bv = .int .i64 n ∧ wr = w) (fun _ _ _ _ => 0)
  case atStart => exact ⟨rfl, rfl, rfl⟩
  case round =>
    obtain ⟨rfl, rfl, rfl⟩ := hrel
    go_wp2_with fail
    refine (insSort_any g cap n lo xs _ H.out hn).mono ?_
    rintro e w1 ⟨rfl, h1⟩
    have X := Lib.hid h1; clear h1
    go_wp2
    go_end0
    exact ⟨rfl, X.out⟩
set_option maxHeartbeats 1000000 in
theorem sort_any (g cap n lo : Nat) (xs : List Int) (w : World) (h : w.ownsRow lo 3 1 (.slice (some ⟨g, 0, none⟩) n cap) n (xs.map (Value.int .i64))) (hn : n ≤ 12) :
    Calls Try.prog 153 #[.slice (some ⟨g, 0, none⟩) n cap] w (Sorts lo g cap n xs w) := by
  have H := Lib.hid h; clear h
  have hnI : (n : Int) ≤ 12 := by omega
  go_enter Try.func153, Try.ntmps153
  go_wp2_with fail
  refine (bitsLen_any n hn _).mono ?_
  rintro e w' ⟨⟨k, rfl⟩, rfl⟩
  go_wp2_with fail
  refine (pdq_any g cap n lo k xs _ H.out hn).mono ?_
  rintro e w1 ⟨rfl, h1⟩
  have X := Lib.hid h1; clear h1
  go_wp2
  go_end0
  exact ⟨rfl, X.out⟩
theorem insSort_nil (w : World) : Calls Try.prog 169 #[.slice none 0 0, .int .i64 0, .int .i64 0] w fun e w' => e = .returned (.tuple #[]) ∧ w = w' := by
  go_enter Try.func169, Try.ntmps169
  go_wp2
  go_loop [6] (fun iv => iv = .int .i64 1) (fun _ => 0)
  case atStart => rfl
  case round =>
    subst hrel
    go_wp2
    go_end0
    exact ⟨rfl, rfl⟩
theorem pdq_nil (k : Int) (w : World) : Calls Try.prog 165 #[.slice none 0 0, .int .i64 0, .int .i64 0, .int .i64 k] w fun e w' => e = .returned (.tuple #[]) ∧ w = w' := by
  go_enter Try.func165, Try.ntmps165
  go_wp2
  go_loopw [1, 2, 3] (fun av bv _ wr => av = .int .i64 0 ∧ bv = .int .i64 0 ∧ wr = w) (fun _ _ _ _ => 0)
  case atStart => exact ⟨rfl, rfl, rfl⟩
  case round =>
    obtain ⟨rfl, rfl, rfl⟩ := hrel
    go_wp2_with fail
    refine (insSort_nil _).mono ?_
    rintro e w1 ⟨rfl, rfl⟩
    go_wp2
    refine bodyPost_ret (results_none rfl _ _ _) rfl ?_
    exact ⟨rfl, rfl⟩
theorem sort_nil (w : World) : Calls Try.prog 153 #[.slice none 0 0] w fun e w' => e = .returned (.tuple #[]) ∧ w = w' := by
  have hb := bitsLen_any 0 (by omega)
  go_enter Try.func153, Try.ntmps153
  go_wp2_with fail
  refine (hb _).mono ?_
  rintro e w' ⟨⟨k, rfl⟩, rfl⟩
  go_wp2_with fail
  refine (pdq_nil k _).mono ?_
  rintro e w1 ⟨rfl, rfl⟩
  go_wp2
  go_end0
  exact ⟨rfl, rfl⟩

/-- slices.Values, and its closure's reading. -/
theorem Values_any (A : Option Addr) (cap : Nat) (zs : List I64) (w : World) (h : Ints w A (zs.map (·.1))) :
    Calls Try.prog 118 #[.slice A zs.length cap] w fun e w' => e = .returned (.func (.func 154) #[] #[.pointer (some ⟨w.heap.size, 0, none⟩)]) ∧ RdV (w.heap.size + 1) w.heap.size A cap zs w' ∧ w'.heap.size = w.heap.size + 1 ∧ Below w.heap.size w w' := by
  refine ((callsIn_wide (n := 10)).1 (vals_in Fence.wide 10 trivial rfl A zs.length cap w)).mono ?_
  rintro e w' ⟨rfl, rfl⟩
  have hb : Below w.heap.size w (w.alloc (.cells #[.slice A zs.length cap] 23)) := (Below.refl _ _).alloc (Nat.le_refl _) _
  refine ⟨rfl, ⟨by simp, by omega, (Blk.new w _ _).cell 0, fun hp => ?_⟩, by simp, hb⟩
  obtain ⟨b, off, rfl, hbb, hc⟩ := h.at_ (by simpa using hp)
  refine ⟨b, off, rfl, by omega, fun j hj => (hb.cell (p := ⟨b, off + j, none⟩) hbb).trans ?_⟩
  rw [hc j (by simpa using hj)]
  simp [List.getD, List.getElem?_eq_getElem hj]

set_option maxHeartbeats 1000000 in
/-- slices.Sorted at slices.Values of a short row. -/
theorem Sorted_any (A : Option Addr) (cap : Nat) (zs : List I64) (hlen : zs.length ≤ 12) (Bv : Nat) (w : World) (h : RdV w.heap.size Bv A cap zs w) :
    Calls Try.prog 117 #[.func (.func 154) #[] #[.pointer (some ⟨Bv, 0, none⟩)]] w fun e w' => ∃ v ys, e = .returned v ∧ ys.Perm (zs.map (·.1)) ∧ ys.Pairwise (· ≤ ·) ∧ Own w' w.heap.size v ys ∧ Below w.heap.size w w' := by
  have H := Lib.hid h; clear h
  have hcol : Calls Try.prog 152 #[.func (.func 154) #[] #[.pointer (some ⟨Bv, 0, none⟩)]] w fun e w' => ∃ v, e = .returned v ∧ w'.ownsRow w.heap.size 3 1 v zs.length (zs.map fun x => Value.int .i64 x.1) ∧ Below w.heap.size w w' := by
    go_enter Try.func152, Try.ntmps152
    go_wp2_with fail
    refine (appendSeq_in Bv A cap zs (by omega) _ H.out).mono ?_
    rintro e w1 ⟨v, rfl, h1⟩
    have X := Lib.hid h1; clear h1
    go_wp2
    go_ret
    exact ⟨_, rfl, X.out⟩
  have HC := Lib.hid hcol; clear hcol
  have hwf : ∀ z ∈ zs.map (·.1), InK .i64 z := by
    intro z hz
    obtain ⟨x, _, rfl⟩ := List.mem_map.1 hz
    exact x.2
  have HW := Lib.hid hwf; clear hwf
  go_enter Try.func117, Try.ntmps117
  go_wp2_with fail
  refine HC.out.mono ?_
  rintro e w1 ⟨v, rfl, ho, hb⟩
  rcases hz : zs with _ | ⟨x0, zs0⟩
  · subst hz
    have hv : v = .slice none 0 0 ∨ ∃ g cap, v = .slice (some ⟨g, 0, none⟩) 0 cap := by
      rcases ho.2 with ⟨h1, _⟩ | ⟨g', cap', cur, h1, _⟩
      · exact .inl h1
      · exact .inr ⟨_, _, h1⟩
    rcases hv with rfl | ⟨g, cap', rfl⟩
    · have X := Lib.hid (And.intro ho hb); clear ho hb
      go_wp2_with fail
      refine (sort_nil _).mono ?_
      rintro e w2 ⟨rfl, rfl⟩
      go_wp2
      go_ret
      exact ⟨_, [], rfl, List.Perm.refl _, List.Pairwise.nil, Own.nil _ _, X.out.2⟩
    · have X := Lib.hid (And.intro ho hb); clear ho hb
      go_wp2_with fail
      refine (sort_any g cap' 0 w.heap.size [] _ X.out.1 (by omega)).mono ?_
      rintro e w2 ⟨rfl, ys, h1, h2, h3, h4⟩
      obtain rfl := List.perm_nil.1 h1
      have Z := Lib.hid (And.intro h3 (X.out.2.grown h4 X.out.2.size (fun k e => by cases e; exact (X.out.1.lt _ rfl).1))); clear h3 h4
      go_wp2
      go_ret
      exact ⟨_, [], rfl, List.Perm.refl _, List.Pairwise.nil, ⟨Z.out.1, by simp⟩, Z.out.2⟩
  · have hl : zs.length = zs0.length + 1 := by rw [hz]; simp
    obtain ⟨g, cap', rfl⟩ : ∃ g cap, v = .slice (some ⟨g, 0, none⟩) zs.length cap := by
      have := ho
      rw [hl] at this ⊢
      exact ownsRow_succ this
    have e0 : (zs.map fun x => Value.int .i64 x.1) = (zs.map (·.1)).map (Value.int .i64) := by simp
    rw [e0] at ho
    have hge := (ho.lt g rfl).1
    have X := Lib.hid (And.intro ho hb); clear ho hb e0 hz hl
    go_wp2_with fail
    refine (sort_any g cap' zs.length w.heap.size (zs.map (·.1)) _ X.out.1 hlen).mono ?_
    rintro e w2 ⟨rfl, ys, h1, h2, h3, h4⟩
    have hyl : ys.length = zs.length := by have := h1.length_eq; simpa using this
    have Z := Lib.hid (And.intro (⟨by rw [hyl]; exact h3, fun z hz => HW.out z (h1.mem_iff.1 hz)⟩ : Own w2 w.heap.size (.slice (some ⟨g, 0, none⟩) zs.length cap') ys) (And.intro (X.out.2.grown h4 X.out.2.size (fun k e => by cases e; exact hge)) (And.intro h1 h2))); clear h1 h2 h3 h4 hyl
    go_wp2
    go_ret
    exact ⟨_, ys, rfl, Z.out.2.2.1, Z.out.2.2.2, Z.out.1, Z.out.2.1⟩
end Go.Proofs.Ytjbfpbajbjnifaa
