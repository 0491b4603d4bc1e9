/- RunOf of the program. -/
import Derived.Test.YtmhhmdakilecoaaRx
namespace Go.Proofs.Ytmhhmdakilecoaa
set_option maxRecDepth 100000
open Go.RowKit Go.WideShapes

def RRel (p : List Int) (s : List (List Int)) (lo g : Nat) (w : World) (c : Value) (wr : World) : Prop := ∃ (k : Nat) (rest : List Int) (st : List (List Int)), c = .int .i64 k ∧ k ≤ 2000 ∧ Run wr lo g rest st ∧ okS rest st ∧ rest.length ≤ 60 + 125 * k ∧
  runR 2000 p s.reverse = (runR (2000 - k) rest st).map (fun y => (y.1, y.2 + k)) ∧ Below w.heap.size w wr
theorem runR_next {f k : Nat} {z : Int} {r : List Int} {st : List (List Int)} {x : List Int × List (List Int)} {o : Option (List (List Int) × Nat)} (hs : stepR (z :: r) st = some x) (h : o = (runR (f + 1) (z :: r) st).map (fun y => (y.1, y.2 + k))) : o = (runR f x.1 x.2).map (fun y => (y.1, y.2 + (k + 1))) := by
  rw [h, runR, hs]
  dsimp only
  rw [Option.map_map]
  congr 1
  funext y
  simp only [Function.comp]
  congr 1
  omega
theorem runR_stop {f k : Nat} {z : Int} {r : List Int} {st : List (List Int)} {o : Option (List (List Int) × Nat)} (hs : stepR (z :: r) st = none) (h : o = (runR f (z :: r) st).map (fun y => (y.1, y.2 + k))) : o = none := by
  rw [h]
  rcases f with _ | f
  · rfl
  · rw [runR, hs]; rfl
theorem stackB_rev {st : List (List Int)} (h : stackB st = true) : stackB st.reverse = true := by rw [stackB_reverse]; exact h

set_option maxHeartbeats 1000000 in
theorem RunOf_I (v0 : Value) (x0 : List Int) (v1 : Value) (x1 : List (List Int)) (w : World) (h0 : RdI w v0 x0) (hl0 : x0.length ≤ 1048576) (h1 : RdS w v1 x1) (y0 : List (List Int)) (y1 : Int) (y2 : Bool) (hR : runOfR x0 x1 = (y0, y1, y2)) :
    Calls Try.prog 24 #[v0, v1] w fun e w' => ∃ u, e = .returned (.tuple #[u, .int .i64 y1, .bool y2]) ∧ OwnS w' w.heap.size w'.heap.size u y0 ∧ Below w.heap.size w w' := by
  have H := Lib.hid (And.intro h0 h1); clear h0 h1
  have HR := Lib.hid hR; clear hR
  have hno : ∀ b c, (b, c) = (validB x0, stackB x1) → ¬ (b = true ∧ c = true) → y0 = [] ∧ y1 = 0 ∧ y2 = false := by
    intro b c he hn
    cases he
    have := HR.out
    rw [runOfR, if_neg hn] at this
    cases this
    exact ⟨rfl, rfl, rfl⟩
  have Hno := Lib.hid hno; clear hno
  rcases hv : validB x0 with _ | _ <;> have Hv := Lib.hid hv <;> clear hv
  · obtain ⟨rfl, rfl, rfl⟩ := Hno.out _ _ rfl (by rw [Hv.out]; simp)
    clear Hno
    go_enter Try.func24, Try.ntmps24
    go_wp2_with fail
    refine (ProgValid_I _ x0 _ H.out.1 hl0 false Hv.out).mono ?_
    rintro e w1 ⟨rfl, hb⟩
    have X := Lib.hid hb; clear hb
    go_wp2
    go_ret3
    exact ⟨_, rfl, OwnS.nil _ _ _, X.out⟩
  · rcases hs : stackB x1 with _ | _ <;> have Hs := Lib.hid hs <;> clear hs
    · obtain ⟨rfl, rfl, rfl⟩ := Hno.out _ _ rfl (by rw [Hs.out]; simp)
      clear Hno
      go_enter Try.func24, Try.ntmps24
      go_wp2_with fail
      refine (ProgValid_I _ x0 _ H.out.1 hl0 true Hv.out).mono ?_
      rintro e w1 ⟨rfl, hb⟩
      have X := Lib.hid hb; clear hb
      go_wp2_with fail
      refine (StackOk_any _ x1 _ (H.out.2.step X.out)).mono ?_
      rw [Hs.out]
      rintro e w' ⟨rfl, rfl⟩
      go_wp2
      go_ret3
      exact ⟨_, rfl, OwnS.nil _ _ _, X.out⟩
    · clear Hno
      have hlp := validB_len Hv.out
      have hls := (stackB_all Hs.out).1
      have hR2 : (match runR 2000 x0 x1.reverse with | some x => (x.1.reverse, ((x.2 : Nat) : Int), true) | none => ([], 0, false)) = (y0, y1, y2) := by
        have := HR.out; rw [runOfR, if_pos ⟨Hv.out, Hs.out⟩] at this; exact this
      have HR2 := Lib.hid hR2; clear hR2 HR
      go_enter Try.func24, Try.ntmps24
      go_wp2_with fail
      refine (ProgValid_I _ x0 _ H.out.1 hl0 true Hv.out).mono ?_
      rintro e w1 ⟨rfl, hb⟩
      have X := Lib.hid hb; clear hb
      have hz1 := X.out.size
      go_wp2_with fail
      refine (StackOk_any _ x1 _ (H.out.2.step X.out)).mono ?_
      rw [Hs.out]
      rintro e w' ⟨rfl, rfl⟩
      go_wp2_with fail
      refine (newRunner_any _ _ x0 x1 _ (H.out.1.step X.out) (H.out.2.step X.out) (by omega) (by omega)).mono ?_
      rintro e w2 ⟨g, rfl, q1, q2⟩
      have hz2 := q2.size
      have hge : w1.heap.size ≤ g := q1.ge
      have hst : RRel x0 x1 w1.heap.size g w (.int .i64 ((0 : Nat) : Int)) w2 := ⟨0, x0, x1.reverse, rfl, by omega, q1, ⟨validB_rest Hv.out, by rw [stackB_reverse]; exact Hs.out⟩, by omega, by simp, X.out.trans (q2.mono hz1)⟩
      have Hst := Lib.hid hst; clear hst q1 q2 H X
      go_wp2
      go_loopw [8] (fun c wr => RRel x0 x1 w1.heap.size g w c wr) (fun c _ => 2000 - (intOf c).toNat)
      case atStart => exact Hst.out
      case round =>
        clear Hst
        obtain ⟨k, rest, st, rfl, hk, q1, q2, q3, q4, q5⟩ := hrel
        obtain ⟨A, c, A', c', hc0, _⟩ := q1.cells
        have hltr := q1.lt
        have hsw := q5.size
        have X := Lib.hid (And.intro q1 (And.intro q2 (And.intro q4 q5))); clear q1 q2 q4 q5
        rcases rest with _ | ⟨z, r⟩
        · obtain ⟨hl, hv⟩ := stackB_all X.out.2.1.2
          have he : (st.reverse, ((k : Nat) : Int), true) = (y0, y1, y2) := by
            have := HR2.out
            rw [X.out.2.2.1, runR_nil] at this
            simpa using this
          have hv' := Lib.hid hv; clear hv
          have He := Lib.hid he; clear he
          rw [List.length_nil] at hc0
          go_wp2_with fail
          refine (stackValues_any _ g [] st _ X.out.1 hl hv'.out).mono ?_
          rintro e w3 ⟨u, rfl, q6, q7⟩
          have Y := Lib.hid (And.intro q6 (X.out.2.2.2.trans (q7.mono hsw))); clear q6 q7
          have e3 := He.out
          cases e3
          go_wp2
          go_ret3
          exact ⟨_, rfl, Y.out.1.mono hsw, Y.out.2⟩
        · have hpos : (0 : Int) < ((z :: r).length : Int) := by rw [List.length_cons]; omega
          by_cases hk2 : k = 2000
          · have he : ([], 0, false) = (y0, y1, y2) := by
              have := HR2.out
              rw [X.out.2.2.1, hk2] at this
              simpa [runR] using this
            cases he
            subst hk2
            go_wp2
            go_ret3
            exact ⟨_, rfl, OwnS.nil _ _ _, X.out.2.2.2⟩
          · have hkb : ((k : Int) == 2000) = false := by simp; omega
            have hk3 : k < 2000 := by omega
            have hrl : (z :: r).length ≤ 600000000 := by omega
            have hk4 : ∃ f, 2000 - k = f + 1 ∧ f = 2000 - (k + 1) := ⟨2000 - (k + 1), by omega, rfl⟩
            have Hk4 := Lib.hid hk4
            clear hk2 hk4
            have Hq3 := Lib.hid q3; clear q3
            have Hrl := Lib.hid hrl; clear hrl
            go_wp2_with fail
            refine (step_any _ g (z :: r) st _ X.out.1 X.out.2.1 Hrl.out).mono ?_
            rintro e w3 ⟨b, rfl, d1, d2, d3⟩
            have hbw : Below w.heap.size w w3 := X.out.2.2.2.trans (d1.below.mono hz1)
            rcases hs2 : stepR (z :: r) st with _ | x
            · obtain rfl := d2 hs2
              have he : ([], 0, false) = (y0, y1, y2) := by
                have := HR2.out
                rw [runR_stop hs2 X.out.2.2.1] at this
                exact this
              have Y := Lib.hid hbw
              clear d1 d2 d3 hbw hs2
              cases he
              go_wp2
              go_ret3
              exact ⟨_, rfl, OwnS.nil _ _ _, Y.out⟩
            · obtain ⟨rfl, d4⟩ := d3 x hs2
              obtain ⟨ok2, ol2⟩ := stepR_ok X.out.2.1 hs2
              obtain ⟨f, hf1, hf2⟩ := Hk4.out
              have hq := X.out.2.2.1
              rw [hf1] at hq
              have hn := runR_next hs2 hq
              rw [hf2] at hn
              have hlen : x.1.length ≤ 60 + 125 * (k + 1) := by have := Hq3.out; omega
              have Y := Lib.hid (And.intro d4 (And.intro ok2 (And.intro hlen (And.intro hn hbw))))
              clear d1 d2 d3 d4 hbw hs2 ok2 ol2 hq hn hlen hf1 hf2
              go_wp2
              go_roundw
              case rel => exact ⟨k + 1, x.1, x.2, by first | rfl | go_num, by omega, Y.out⟩
              case measure => simp [intOf]; omega
end Go.Proofs.Ytmhhmdakilecoaa
