/- The mover does words; a new one; PlacesOf of the program. -/
import Derived.Test.YtkdpfiaegimnlaaJm
import Derived.Test.YtkdpfiaegimnlaaJb
import Derived.Test.YtkdpfiaegimnlaaJh
import Derived.Deep.RegionWith
namespace Go.Proofs.Ytkdpfiaegimnlaa
set_option maxRecDepth 100000
open Go.RowKit Go.WideShapes Go.Deep

set_option maxHeartbeats 2000000 in
theorem doM (lo g : Nat) (z : Int) (t a : List Int) (w : World) (h : Mov w lo g t a) (hl : t.length + a.length ≤ 800000000) (r : Option (List Int × List Int)) (hr : mvStep z t a = r) :
    Calls Try.prog 79 #[.pointer (some ⟨g, 0, none⟩), .int .i64 z] w fun e w' => e = .returned (.bool r.isSome) ∧ (∀ x, r = some x → Mov w' lo g x.1 x.2) ∧ Below lo w w' := by
  have hg := h.lt
  have hlo := h.lo
  have HR := Lib.hid hr; clear hr
  have H := Lib.hid h; clear h
  by_cases z1 : z = 1001
  · subst z1
    go_enter Try.func79, Try.ntmps79
    go_wp2_with fail
    refine (dupM lo g t a w H.out (by omega) r HR.out).mono ?_
    rintro e w1 ⟨rfl, h1⟩
    have H1 := Lib.hid h1; clear h1
    go_wp2
    go_ret
    exact ⟨rfl, H1.out⟩
  have b1 : (z == 1001) = false := by simpa using z1
  by_cases z2 : z = 1002
  · subst z2
    clear z1 b1
    cases t with
    | nil =>
      obtain ⟨v, u, h⟩ := H.out
      have HM := Lib.hid h; clear h
      obtain rfl : none = r := by rw [← HR.out]; rfl
      go_enter Try.func79, Try.ntmps79
      go_wp2_with fail
      refine (popM_none lo g 0 v u a w HM.out (.inl rfl)).mono ?_
      rintro e w' ⟨rfl, rfl⟩
      have HB := Lib.hid (Below.refl lo w)
      go_wp2
      go_ret
      exact ⟨rfl, fun x hx => (by cases hx), HB.out⟩
    | cons y t =>
      obtain ⟨v, u, h⟩ := H.out
      have HM := Lib.hid h; clear h
      obtain rfl : some (t, a) = r := by rw [← HR.out]; rfl
      go_enter Try.func79, Try.ntmps79
      go_wp2_with fail
      refine (popM lo g 0 v u y t a w HM.out (.inl rfl) (by simp at hl; omega)).mono ?_
      rintro e w1 ⟨rfl, h1, hb1⟩
      have H1 := Lib.hid (And.intro h1 hb1); clear h1 hb1
      go_wp2
      go_ret
      exact ⟨rfl, fun x hx => by cases hx; exact H1.out.1, H1.out.2⟩
  have b2 : (z == 1002) = false := by simpa using z2
  by_cases z3 : z = 1003
  · subst z3
    clear z1 b1 z2 b2
    go_enter Try.func79, Try.ntmps79
    go_wp2_with fail
    refine (swapM lo g t a w H.out (by omega) r HR.out).mono ?_
    rintro e w1 ⟨rfl, h1⟩
    have H1 := Lib.hid h1; clear h1
    go_wp2
    go_ret
    exact ⟨rfl, H1.out⟩
  have b3 : (z == 1003) = false := by simpa using z3
  by_cases z4 : z = 1012
  · subst z4
    clear z1 b1 z2 b2 z3 b3
    obtain ⟨v, u, h⟩ := H.out
    have HM := Lib.hid (h.step (Below.refl _ _).drew); clear h
    have hrs : r.isSome = decide (0 < t.length) := by rw [← HR.out]; cases t <;> rfl
    have HS := Lib.hid hrs; clear hrs
    go_enter Try.func79, Try.ntmps79
    go_wp2_with fail
    go_region_with (go_at_call 117; refine (carryM lo g 0 v u t a _ HM.out (.inl rfl) hl).mono ?_; rintro e w1 ⟨rfl, h1, hb1⟩)
    all_goals
      have H1 := Lib.hid (And.intro h1 ((Below.refl lo w).drew.trans hb1)); clear h1 hb1
      go_wp2
      go_ret
      refine ⟨ret_bool HS.out.symm, fun x hx => ?_, H1.out.2⟩
      cases t with
      | nil => rw [← HR.out] at hx; cases hx
      | cons y t => rw [← HR.out] at hx; cases hx; exact H1.out.1 y t rfl
  have b4 : (z == 1012) = false := by simpa using z4
  by_cases z5 : z = 1004
  · subst z5
    clear z1 b1 z2 b2 z3 b3 z4 b4
    obtain ⟨v, u, h⟩ := H.out
    have HM := Lib.hid ((h.step (Below.refl _ _).drew).turn (.inl rfl)); clear h
    have hrs : r.isSome = decide (0 < a.length) := by rw [← HR.out]; cases a <;> rfl
    have HS := Lib.hid hrs; clear hrs
    go_enter Try.func79, Try.ntmps79
    go_wp2_with fail
    go_region_with (go_at_call 117; refine (carryM lo g 1 u v a t _ HM.out (.inr rfl) (by omega)).mono ?_; rintro e w1 ⟨rfl, h1, hb1⟩)
    all_goals
      have H1 := Lib.hid (And.intro h1 ((Below.refl lo w).drew.trans hb1)); clear h1 hb1
      go_wp2
      go_ret
      refine ⟨ret_bool HS.out.symm, fun x hx => ?_, H1.out.2⟩
      cases a with
      | nil => rw [← HR.out] at hx; cases hx
      | cons y a =>
        rw [← HR.out] at hx; cases hx
        obtain ⟨v', u', h'⟩ := H1.out.1 y a rfl
        exact ⟨u', v', h'.turn (.inr rfl)⟩
  have b5 : (z == 1004) = false := by simpa using z5
  have hrs : some (t, a) = r := by rw [← HR.out]; unfold mvStep; rw [if_neg z1, if_neg z2, if_neg z3, if_neg z4, if_neg z5]
  subst hrs
  have HB := Lib.hid (Below.refl lo w)
  go_enter Try.func79, Try.ntmps79
  go_wp2
  go_ret
  exact ⟨rfl, fun x hx => by cases hx; exact H.out, HB.out⟩

/-- A new mover, with so many places. -/
def NewM (n : Nat) (w : World) (e : Ending) (w' : World) : Prop := ∃ g, e = .returned (.pointer (some ⟨g, 0, none⟩)) ∧ Mov w' w.heap.size g (topRow n) [] ∧ Below w.heap.size w w'
set_option maxHeartbeats 1000000 in
theorem newMover_any (n : Nat) (w : World) (hn : n ≤ 5) : Calls Try.prog 78 #[.int .i64 n] w (NewM n w) := by
  have hb0 := Blk.new w #[.slice none 0 0, .slice none 0 0] 90
  have hB0 : Below w.heap.size w (w.alloc (.cells #[.slice none 0 0, .slice none 0 0] 90)) := (Below.refl _ _).alloc (Nat.le_refl _) _
  have h0 : Mov (w.alloc (.cells #[.slice none 0 0, .slice none 0 0] 90)) w.heap.size w.heap.size (topRow 0) [] :=
    ⟨_, _, hb0, Nat.le_refl _, World.ownsRow_nil _ _ _ _, World.ownsRow_nil _ _ _ _, by simp [topRow], by simp, fun k hk => by simp [Value.ownBlock] at hk⟩
  have H0 := Lib.hid (And.intro h0 hB0); clear hb0 h0 hB0
  have hnI : (n : Int) ≤ 5 := by omega
  go_enter Try.func78, Try.ntmps78
  go_wp2
  go_loopw [8] (fun i wr => ∃ k : Nat, k ≤ n ∧ i = .int .i64 k ∧ w.heap.size < wr.heap.size ∧ Mov wr w.heap.size w.heap.size (topRow k) [] ∧ Below w.heap.size w wr) (fun i _ => n - (intOf i).toNat)
  case atStart => exact ⟨0, Nat.zero_le _, rfl, by simp, H0.out⟩
  case round =>
    clear H0
    obtain ⟨k, hk, rfl, hsz, hm, hbk⟩ := hrel
    obtain ⟨v, u, hm⟩ := hm
    have X := Lib.hid (And.intro hm hbk); clear hm hbk
    by_cases hlt : k < n
    · have hltI : (k : Int) < n := by omega
      go_wp2_with fail
      refine (pushM w.heap.size w.heap.size 0 v u (topRow k) [] k _ X.out.1 (.inl rfl) (wf_small _ (by omega)) (by rw [topRow_len]; omega)).mono ?_
      rintro e w1 ⟨rfl, h1, hb1⟩
      rw [← topRow_succ] at h1
      have hz1 := hb1.size
      have Y := Lib.hid (And.intro h1 (X.out.2.trans hb1)); clear h1 X
      have hsz1 : w.heap.size < w1.heap.size := by omega
      clear hb1
      go_wp2
      go_roundw
      case rel => exact ⟨k + 1, by omega, by go_num, hsz1, Y.out⟩
      case measure => simp [intOf]; omega
    · obtain rfl : k = n := by omega
      go_wp2
      go_ret
      exact ⟨_, rfl, ⟨v, u, X.out.1⟩, X.out.2⟩

def PairI (w : World) (y0 : List Int) (y1 : Bool) (e : Ending) (w' : World) : Prop := ∃ u, e = .returned (.tuple #[u, .bool y1]) ∧ OwnI w' w.heap.size w'.heap.size u y0 ∧ Below w.heap.size w w'
theorem placesR_none {p : List Int} {many : Int} {y0 : List Int} {y1 : Bool} (h : placesR p many = (y0, y1)) (hn : ¬ (shufB p = true ∧ 0 ≤ many ∧ many ≤ 5)) : [] = y0 ∧ false = y1 := by
  rw [placesR, if_neg hn] at h; cases h; exact ⟨rfl, rfl⟩
theorem Mov.cell {w : World} {lo g : Nat} {t a : List Int} (h : Mov w lo g t a) : ∃ v, w.cell? ⟨g, 0, none⟩ = some v ∧ OwnI w lo w.heap.size v t.reverse := by
  obtain ⟨v, u, h⟩ := h
  refine ⟨v, h.blk.cell 0, ⟨⟨?_, fun z hz => h.wt z (by simpa using hz)⟩, fun k hk => (h.here.lt k hk).2⟩⟩
  have := h.here
  rw [List.length_reverse]
  exact this
set_option maxHeartbeats 2000000 in
theorem PlacesOf_I (v0 : Value) (x0 : List Int) (x1 : Int) (w : World) (h0 : RdI w v0 x0) (_ : x0.length ≤ 1048576) (_ : InK .i64 x1) (y0 : List Int) (y1 : Bool) (hR : placesR x0 x1 = (y0, y1)) :
    Calls Try.prog 30 #[v0, .int .i64 x1] w (PairI w y0 y1) := by
  obtain ⟨A, c, rfl, hi, hc⟩ := h0
  have hl0 := hi.len
  have HI := Lib.hid hi; clear hi
  have HR := Lib.hid hR; clear hR
  have HB := Lib.hid (nilOwn w w.heap.size w.heap.size)
  rcases hs : shufB x0 with _ | _ <;> have HS := Lib.hid hs <;> clear hs
  · obtain ⟨rfl, rfl⟩ := placesR_none HR.out (by rw [HS.out]; simp)
    go_enter Try.func30, Try.ntmps30
    go_wp2_with (go_at_call 77; refine (IsShuffle_any A c x0 _ HI.out).mono ?_; rw [HS.out]; rintro e w' ⟨rfl, rfl⟩)
    go_ret2
    exact ⟨_, rfl, HB.out, Below.refl _ _⟩
  by_cases q0 : x1 < 0
  · obtain ⟨rfl, rfl⟩ := placesR_none HR.out (by omega)
    go_enter Try.func30, Try.ntmps30
    go_wp2_with (go_at_call 77; refine (IsShuffle_any A c x0 _ HI.out).mono ?_; rw [HS.out]; rintro e w' ⟨rfl, rfl⟩)
    go_ret2
    exact ⟨_, rfl, HB.out, Below.refl _ _⟩
  by_cases q1 : 5 < x1
  · obtain ⟨rfl, rfl⟩ := placesR_none HR.out (by omega)
    go_enter Try.func30, Try.ntmps30
    go_wp2_with (go_at_call 77; refine (IsShuffle_any A c x0 _ HI.out).mono ?_; rw [HS.out]; rintro e w' ⟨rfl, rfl⟩)
    go_ret2
    exact ⟨_, rfl, HB.out, Below.refl _ _⟩
  obtain ⟨n, rfl⟩ : ∃ n : Nat, x1 = n := ⟨x1.toNat, by omega⟩
  have hn5 : n ≤ 5 := by omega
  clear HB
  have hl60 : x0.length ≤ 60 := by
    have := HS.out
    rw [shufB, Bool.and_eq_true] at this
    exact validB_len this.1
  have hrun : (match (mvRun x0 (topRow n) []).map (·.1) with
    | some t => if t.length ≤ 20 then (t.reverse, true) else ([], false)
    | none => ([], false)) = (y0, y1) := by
    have := HR.out
    rw [placesR, if_pos ⟨HS.out, by omega, by omega⟩, Int.toNat_natCast] at this
    exact this
  have HU := Lib.hid hrun; clear hrun HR
  go_enter Try.func30, Try.ntmps30
  go_wp2_with (first
    | (go_at_call 77; refine (IsShuffle_any A c x0 _ HI.out).mono ?_; rw [HS.out]; rintro e w' ⟨rfl, rfl⟩)
    | (go_at_call 78; refine (newMover_any n _ hn5).mono ?_; rintro e w1 ⟨g, rfl, hm, hb⟩))
  have hz1 := hb.size
  have X := Lib.hid (And.intro hm hb); clear hm hb
  go_loopw [24] (fun i wr => ∃ (k : Nat) (t a : List Int), k ≤ x0.length ∧ i = .int .i64 k ∧ w.heap.size ≤ wr.heap.size ∧ t.length + a.length ≤ 5 + k ∧ Mov wr w.heap.size g t a ∧ Below w.heap.size w wr ∧ mvRun (x0.drop k) t a = mvRun x0 (topRow n) []) (fun i _ => x0.length - (intOf i).toNat)
  case atStart => exact ⟨0, topRow n, [], Nat.zero_le _, rfl, hz1, by rw [topRow_len]; simpa using hn5, X.out.1, X.out.2, by simp⟩
  case round =>
    clear X hz1
    obtain ⟨k, t, a, hk, rfl, hsz, hta, hm, hbk, hrun⟩ := hrel
    by_cases hlt : k < x0.length
    · obtain ⟨bb, off, rfl, hb, hcc⟩ := HI.out.at_ (by omega)
      have hcell := (hbk.cell (p := ⟨bb, off + k, none⟩) hb).trans (hcc k hlt)
      clear hcc
      rw [mvRun_drop x0 k hlt] at hrun
      have Y := Lib.hid (And.intro hm (And.intro hbk hrun)); clear hm hbk hrun
      generalize x0.getD k 0 = z at *
      rcases hq : mvStep z t a with _ | ⟨t1, a1⟩ <;> have HQ := Lib.hid hq
      · have hno := Y.out.2.2
        rw [hq] at hno
        obtain ⟨rfl, rfl⟩ : [] = y0 ∧ false = y1 := by have := HU.out; rw [← hno] at this; cases this; exact ⟨rfl, rfl⟩
        clear hno hq
        go_wp2_with fail
        refine (doM w.heap.size g z t a _ Y.out.1 (by omega) none HQ.out).mono ?_
        rintro e w2 ⟨rfl, _, hb2⟩
        have hz2 := hb2.size
        have Z := Lib.hid (And.intro (Y.out.2.1.trans hb2) (nilOwn w2 w.heap.size w2.heap.size)); clear hb2
        go_wp2
        go_ret2
        exact ⟨_, rfl, Z.out.2, Z.out.1⟩
      · have hln := mvStep_len hq
        clear hq
        go_wp2_with fail
        refine (doM w.heap.size g z t a _ Y.out.1 (by omega) (some (t1, a1)) HQ.out).mono ?_
        rintro e w2 ⟨rfl, hm2, hb2⟩
        have hz2 := hb2.size
        have hr2 : mvRun (x0.drop (k + 1)) t1 a1 = mvRun x0 (topRow n) [] := by rw [← Y.out.2.2, HQ.out]
        have Z := Lib.hid (And.intro (hm2 _ rfl) (And.intro (Y.out.2.1.trans hb2) hr2)); clear hm2 hb2 hr2 Y
        have hz3 : w.heap.size ≤ w2.heap.size := by omega
        go_wp2
        go_roundw
        case rel => exact ⟨k + 1, t1, a1, by omega, by go_num, hz3, by omega, Z.out⟩
        case measure => simp [intOf]; omega
    · obtain rfl : k = x0.length := by omega
      rw [List.drop_length, mvRun] at hrun
      have hu2 := HU.out
      rw [← hrun] at hu2
      obtain ⟨v, c0, ho⟩ := hm.cell
      obtain ⟨Av, cv, rfl, _⟩ := ho.rd
      rw [List.length_reverse] at c0 ho
      have hgl := hm.lt
      have Y := Lib.hid (And.intro ho (And.intro hbk (nilOwn wr w.heap.size wr.heap.size))); clear ho hbk hm hrun
      by_cases hl20 : t.length ≤ 20
      · have hlI : ¬ (20 : Int) < t.length := by omega
        obtain ⟨rfl, rfl⟩ : t.reverse = y0 ∧ true = y1 := by
          simp only [Option.map_some] at hu2
          rw [if_pos hl20] at hu2; cases hu2; exact ⟨rfl, rfl⟩
        clear hu2
        go_wp2
        go_ret2
        exact ⟨_, rfl, Y.out.1, Y.out.2.1⟩
      · have hlI : (20 : Int) < t.length := by omega
        obtain ⟨rfl, rfl⟩ : [] = y0 ∧ false = y1 := by
          simp only [Option.map_some] at hu2
          rw [if_neg hl20] at hu2; cases hu2; exact ⟨rfl, rfl⟩
        clear hu2
        go_wp2
        go_ret2
        exact ⟨_, rfl, Y.out.2.2, Y.out.2.1⟩
end Go.Proofs.Ytkdpfiaegimnlaa
