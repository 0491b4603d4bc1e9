/- The model's RunOf. -/
import Derived.Test.YtjblecinkedppaaGreatDoorSx
import Derived.Test.YtjblecinkedppaaGreatDoorBu
import Derived.Test.YtjblecinkedppaaGreatDoorB2
namespace Go.Proofs.YtjblecinkedppaaGreatDoor
set_option maxRecDepth 100000
open Go.RowKit Go.WideShapes

theorem rdS_nil (w : World) (A : Option Addr) (c : Nat) : RdS w (.slice A 0 c) [] := ⟨A, c, rfl, by simp, fun h => by simp at h⟩
def MRel (p : List Int) (s : List (List Int)) (lo g : Nat) (w : World) (c : Value) (wr : World) : Prop := ∃ (k : Nat) (rest : List Int) (st : List (List Int)) (A0 A1 : Option Addr) (n0 c0 n1 c1 : Nat), c = .int .i64 k ∧ k ≤ 2001 ∧ lo ≤ g ∧ Blk wr g #[.slice A0 n0 c0, .slice A1 n1 c1] 87 ∧ RdI wr (.slice A0 n0 c0) rest ∧ RdS wr (.slice A1 n1 c1) st.reverse ∧ okS rest st ∧ rest.length ≤ 60 + 125 * k ∧
  (k ≤ 2000 → runR 2000 p s.reverse = (runR (2000 - k) rest st).map (fun y => (y.1, y.2 + k))) ∧ (k = 2001 → runR 2000 p s.reverse = none) ∧ Below w.heap.size w wr

set_option maxHeartbeats 1000000 in
theorem RunOf_S (v0 : Value) (x0 : List Int) (v1 : Value) (x1 : List (List Int)) (w : World) (h0 : RdI w v0 x0) (hl0 : x0.length ≤ 1048576) (h1 : RdS w v1 x1) (hn1 : x1.length ≤ 1048576) (_ : szS x1 ≤ 1048576) (y0 : List (List Int)) (y1 : Int) (y2 : Bool) (hR : runOfR x0 x1 = (y0, y1, y2)) :
    Calls Tryz.prog 28 #[v0, v1] w fun e w' => ∃ u, e = .returned (.tuple #[u, .int .i64 y1, .bool y2]) ∧ RdS w' u y0 ∧ Below w.heap.size w w' := by
  have H := Lib.hid (And.intro h0 h1); clear h0 h1
  have HR := Lib.hid hR; clear hR
  have hno : ∀ b c, (b, c) = (validB x0, stackB x1) → ¬ (b = true ∧ c = true) → y0 = [] ∧ y1 = 0 ∧ y2 = false := by
    intro b c he hn
    cases he
    have := HR.out
    rw [runOfR, if_neg hn] at this
    cases this
    exact ⟨rfl, rfl, rfl⟩
  have Hno := Lib.hid hno; clear hno
  rcases hv : validB x0 with _ | _ <;> have Hv := Lib.hid hv <;> clear hv
  · obtain ⟨rfl, rfl, rfl⟩ := Hno.out _ _ rfl (by rw [Hv.out]; simp)
    clear Hno
    go_enter Tryz.func28, Tryz.ntmps28
    go_wp2_with fail
    refine (ProgValid_S _ x0 _ H.out.1 hl0 false Hv.out).mono ?_
    rintro e w1 ⟨rfl, hb⟩
    have hz1 := hb.size
    have X := Lib.hid hb; clear hb
    go_wp2
    go_ret3
    exact ⟨_, rfl, rdS_nil _ _ _, X.out.alloc hz1 _⟩
  · rcases hs : stackB x1 with _ | _ <;> have Hs := Lib.hid hs <;> clear hs
    · obtain ⟨rfl, rfl, rfl⟩ := Hno.out _ _ rfl (by rw [Hs.out]; simp)
      clear Hno
      go_enter Tryz.func28, Tryz.ntmps28
      go_wp2_with fail
      refine (ProgValid_S _ x0 _ H.out.1 hl0 true Hv.out).mono ?_
      rintro e w1 ⟨rfl, hb⟩
      have hz1 := hb.size
      have X := Lib.hid hb; clear hb
      go_wp2_with fail
      refine (specStackOk_any _ x1 _ (H.out.2.step X.out)).mono ?_
      rw [Hs.out]
      rintro e w' ⟨rfl, rfl⟩
      go_wp2
      go_ret3
      exact ⟨_, rfl, rdS_nil _ _ _, X.out.alloc hz1 _⟩
    · clear Hno
      have hlp := validB_len Hv.out
      obtain ⟨hls, hvs⟩ := stackB_all Hs.out
      have hvl := Lib.hid (fun v (hv : v ∈ x1) => Nat.le_trans (valueB_len (hvs v hv)).2 (show 60 ≤ 1000000 by omega))
      clear hvs
      have hR2 : (match runR 2000 x0 x1.reverse with | some x => (x.1.reverse, ((x.2 : Nat) : Int), true) | none => ([], 0, false)) = (y0, y1, y2) := by
        have := HR.out; rw [runOfR, if_pos ⟨Hv.out, Hs.out⟩] at this; exact this
      have HR2 := Lib.hid hR2; clear hR2 HR
      go_enter Tryz.func28, Tryz.ntmps28
      go_wp2_with fail
      refine (ProgValid_S _ x0 _ H.out.1 hl0 true Hv.out).mono ?_
      rintro e w1 ⟨rfl, hb⟩
      have X := Lib.hid hb; clear hb
      have hz1 := X.out.size
      have hbl : Below w1.heap.size w1 (w1.alloc (.cells #[] 3)) := (Below.refl _ _).alloc (Nat.le_refl _) _
      have L0 : OwnI (w1.alloc (.cells #[] 3)) w1.heap.size (w1.heap.size + 1) (.slice (some ⟨w1.heap.size, 0, none⟩) 0 0) [] := by simpa using lits_own w1 [] (by simp) (by simp)
      have Y := Lib.hid (And.intro L0 (And.intro (RdI.step (H.out.1.step X.out) hbl) hbl))
      clear hbl L0
      go_wp2_with fail
      refine (specStackOk_any _ x1 _ (H.out.2.step X.out)).mono ?_
      rw [Hs.out]
      rintro e w' ⟨rfl, rfl⟩
      go_wp2_with (at_builtin; refine wpList_append_V rfl _ _ _ rfl Tryz.underlying23 intInfo w1.heap.size (w1.heap.size + 1) _ [] rfl Y.out.1 (by simp) _ x0 rfl Y.out.2.1 (by simp; omega) ?_)
      intro v2 w2 ho2 hb2
      have hz2 : w1.heap.size + 1 ≤ w2.heap.size := by have := hb2.size; simpa using this
      have Z := Lib.hid (And.intro ho2 (Y.out.2.2.trans hb2)); clear ho2 hb2 Y
      go_wp2_with fail
      refine (l2Copy_any _ x1 _ ((H.out.2.step X.out).step Z.out.2) (by omega) hvl.out).mono ?_
      rintro e w3 ⟨u3, rfl, ho3, hb3⟩
      have hz3 := hb3.size
      have T := Lib.hid (And.intro (Z.out.1.below hb3).rd (And.intro ho3.rd (X.out.trans ((Z.out.2.trans (hb3.mono (by omega))).mono hz1)))); clear ho3 hb3 Z X H
      obtain ⟨A0, n0, c0, rfl⟩ := rd_form T.out.1
      obtain ⟨A1, n1, c1, rfl⟩ := rdS_form T.out.2.1
      have hal : Below w3.heap.size w3 (w3.alloc (.cells #[.slice A0 n0 c0, .slice A1 n1 c1] 87)) := (Below.refl _ _).alloc (Nat.le_refl _) _
      have hst : MRel x0 x1 w.heap.size w3.heap.size w (.int .i64 ((0 : Nat) : Int)) (w3.alloc (.cells #[.slice A0 n0 c0, .slice A1 n1 c1] 87)) := ⟨0, x0, x1.reverse, A0, A1, n0, c0, n1, c1, rfl, by omega, by omega, Blk.new _ _ _, T.out.1.step hal, by rw [List.reverse_reverse]; exact T.out.2.1.step hal, ⟨validB_rest Hv.out, by rw [stackB_reverse]; exact Hs.out⟩, by omega, fun _ => by simp, fun h => by omega, T.out.2.2.trans (hal.mono (by omega))⟩
      have Hst := Lib.hid hst; clear hst T hal
      have hgz : w.heap.size ≤ w3.heap.size := by omega
      go_wp2
      go_loopw [8] (fun c wr => MRel x0 x1 w.heap.size w3.heap.size w c wr) (fun c _ => 2001 - (intOf c).toNat)
      case atStart => exact Hst.out
      case round =>
        clear Hst
        obtain ⟨k, rest, st, B0, B1, m0, d0, m1, d1, rfl, hk, -, q1, q2, q3, q4, q5, q6, q7, q8⟩ := hrel
        obtain ⟨r1, r2, r3, r4⟩ := q1.two
        have hltg := q1.lt
        have hsw := q8.size
        have X := Lib.hid (And.intro q1 (And.intro q2 (And.intro q3 (And.intro q4 (And.intro q6 (And.intro q7 q8)))))); clear q1 q2 q3 q4 q6 q7 q8
        by_cases hk1 : k = 2001
        · have he : ([], 0, false) = (y0, y1, y2) := by
            have := HR2.out
            rw [X.out.2.2.2.2.2.1 hk1] at this
            exact this
          have hkb : ¬ ((k : Int) ≤ 2000) := by omega
          cases he
          clear hk1
          go_wp2
          go_ret3
          exact ⟨_, rfl, rdS_nil _ _ _, X.out.2.2.2.2.2.2.alloc hsw _⟩
        · have hkb : (k : Int) ≤ 2000 := by omega
          have hk0 : k ≤ 2000 := by omega
          have hn0 : m0 = rest.length := by
            obtain ⟨A, c, e, _⟩ := X.out.2.1; cases e; rfl
          rcases rest with _ | ⟨z, r⟩
          · obtain ⟨hl, hv⟩ := stackB_all X.out.2.2.2.1.2
            have he : (st.reverse, ((k : Nat) : Int), true) = (y0, y1, y2) := by
              have := HR2.out
              rw [X.out.2.2.2.2.1 hk0, runR_nil] at this
              simpa using this
            clear hv hl
            have hn0z : ((m0 : Int) == 0) = true := by rw [hn0]; rfl
            clear hn0 hk1
            cases he
            go_wp2
            go_ret3
            exact ⟨_, rfl, X.out.2.2.1, X.out.2.2.2.2.2.2⟩
          · have hn0z : ((m0 : Int) == 0) = false := by rw [hn0, beq_eq_false_iff_ne, List.length_cons]; omega
            clear hn0
            have hrl : r.length ≤ 1048576 := by rw [List.length_cons] at q5; omega
            have Hq5 := Lib.hid q5; clear q5
            go_wp2_with fail
            refine (l2Step_any _ _ z r st _ X.out.2.1 X.out.2.2.1 hrl X.out.2.2.2.1).mono ?_
            rintro e w4 ⟨E0, m2, d2, E1, m3, d3, hb4, rfl, hx⟩
            have hz4 := hb4.size
            have hstep : stepR (z :: r) st = none → ([], 0, false) = (y0, y1, y2) := fun h => by
              have := HR2.out
              rw [runR_stop h (X.out.2.2.2.2.1 hk0)] at this
              exact this
            have Hstep := Lib.hid hstep; clear hstep
            have hgw4 : w3.heap.size < w4.heap.size := by omega
            have hsw4 : w.heap.size ≤ w4.heap.size := by omega
            have hkr : k = 2000 → runR 2000 x0 x1.reverse = none := fun h => by
              rw [X.out.2.2.2.2.1 hk0, h]; rfl
            have Hkr := Lib.hid hkr; clear hkr
            rcases hx2 : l2R (z :: r) st with _ | y <;> have Hx2 := Lib.hid hx2 <;> clear hx2
            · try rw [Hx2.out] at hx
              have he := Hstep.out (stepR_none Hx2.out)
              clear Hstep hx
              have Y := Lib.hid (And.intro hb4 (X.out.2.2.2.2.2.2.trans (hb4.mono hsw))); clear hb4
              cases he
              go_wp2
              go_ret3
              exact ⟨_, rfl, rdS_nil _ _ _, (Y.out.2.alloc hsw4 _).alloc (by simp; omega) _⟩
            · try rw [Hx2.out] at hx
              obtain ⟨p0, p1⟩ := hx y rfl
              clear hx
              have hBk := X.out.1.below hb4 hltg
              obtain ⟨s1, s2, s3, s4⟩ := hBk.two
              have Y := Lib.hid (And.intro hb4 (And.intro p0 (And.intro p1 (And.intro (X.out.2.2.2.2.2.2.trans (hb4.mono hsw)) hBk)))); clear hb4 p0 p1 hBk
              rcases hs2 : stackB y.2 with _ | _ <;> have Hs2 := Lib.hid hs2 <;> clear hs2
              · have he := Hstep.out (stepR_bad Hx2.out Hs2.out)
                clear Hstep
                go_wp2_with fail
                refine (specStackOk_any _ y.2.reverse _ (RdGS.below Y.out.2.2.1 ((Below.refl _ _).alloc (Nat.le_refl _) _)).rd).mono ?_
                rw [stackB_reverse, Hs2.out]
                rintro e w' ⟨rfl, rfl⟩
                cases he
                go_wp2
                go_ret3
                exact ⟨_, rfl, rdS_nil _ _ _, (Y.out.2.2.2.1.alloc hsw4 _).alloc (by simp; omega) _⟩
              · have hss := stepR_some Hx2.out Hs2.out
                clear Hstep
                go_wp2_with fail
                refine (specStackOk_any _ y.2.reverse _ (RdGS.below Y.out.2.2.1 ((Below.refl _ _).alloc (Nat.le_refl _) _)).rd).mono ?_
                rw [stackB_reverse, Hs2.out]
                rintro e w' ⟨rfl, rfl⟩
                obtain ⟨ok2, ol2⟩ := stepR_ok X.out.2.2.2.1 hss
                have hlen : y.1.length ≤ 60 + 125 * (k + 1) := by have := Hq5.out; omega
                have hrun : k + 1 ≤ 2000 → runR 2000 x0 x1.reverse = (runR (2000 - (k + 1)) y.1 y.2).map (fun q => (q.1, q.2 + (k + 1))) := fun h => by
                  have hq := X.out.2.2.2.2.1 hk0
                  rw [show 2000 - k = (2000 - (k + 1)) + 1 by omega] at hq
                  exact runR_next hss hq
                have hle : w3.heap.size + 1 ≤ wr.heap.size + 1 + 1 := by omega
                have g0 := ((Y.out.2.1.within (within_setCell w4 w3.heap.size 0 (.slice E0 m2 d2)) hle).within (within_setCell _ w3.heap.size 1 (.slice E1 m3 d3)) hle).below ((Below.refl _ _).alloc (Nat.le_refl _) (.cells #[.slice E0 m2 d2, .slice E1 m3 d3] 87))
                have g1 := ((Y.out.2.2.1.within (within_setCell w4 w3.heap.size 0 (.slice E0 m2 d2)) hle).within (within_setCell _ w3.heap.size 1 (.slice E1 m3 d3)) hle).below ((Below.refl _ _).alloc (Nat.le_refl _) (.cells #[.slice E0 m2 d2, .slice E1 m3 d3] 87))
                have g2 := ((Y.out.2.2.2.2.set 0 (.slice E0 m2 d2)).set 1 (.slice E1 m3 d3)).below ((Below.refl _ _).alloc (Nat.le_refl _) (.cells #[.slice E0 m2 d2, .slice E1 m3 d3] 87)) (by simp; exact hgw4)
                have g3 := ((Y.out.2.2.2.1.setCell (p := ⟨w3.heap.size, 0, none⟩) hgz (.slice E0 m2 d2)).setCell (p := ⟨w3.heap.size, 1, none⟩) hgz (.slice E1 m3 d3)).alloc (by simp; exact hsw4) (.cells #[.slice E0 m2 d2, .slice E1 m3 d3] 87)
                have G := Lib.hid (And.intro g2 (And.intro g0.1 (And.intro g1.rd (And.intro ok2 (And.intro hlen (And.intro hrun g3))))))
                clear g0 g1 g2 g3 hle hrun hlen ok2 ol2 hss Y
                go_wp2
                go_roundw
                case rel => exact ⟨k + 1, y.1, y.2, E0, E1, m2, d2, m3, d3, by first | rfl | go_num, by omega, hgz, G.out.1, G.out.2.1, G.out.2.2.1, G.out.2.2.2.1, G.out.2.2.2.2.1, G.out.2.2.2.2.2.1, fun h => Hkr.out (by omega), G.out.2.2.2.2.2.2⟩
                case measure => simp [intOf]; omega
end Go.Proofs.YtjblecinkedppaaGreatDoor
