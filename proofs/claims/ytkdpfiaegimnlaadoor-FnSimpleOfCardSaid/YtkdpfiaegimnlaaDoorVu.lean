/- Chapter 5, the model's: SimpleBy, SimpleOf. -/
import Derived.Test.YtkdpfiaegimnlaaDoorVt
import Derived.Test.YtkdpfiaegimnlaaDoorB9
namespace Go.Proofs.YtkdpfiaegimnlaaDoor
set_option maxRecDepth 100000
open Go.RowKit Go.WideShapes Go.Deep

/-- Where the model's search stands when a move has been found. -/
def SrchOut (x0 : List Int) (w : World) (k : Nat) (o n : Value) (wr : World) : Prop := ∃ ms cur, ms.length = k ∧ OwnM wr w.heap.size wr.heap.size o ms ∧ RdI wr n cur ∧ SmpAt x0 ms cur

set_option maxHeartbeats 8000000 in
theorem SimpleBy_S (v0 : Value) (x0 : List Int) (w : World) (h0 : RdI w v0 x0) (_hl0 : x0.length ≤ 1048576) (y0 : List (Int × Int)) (hR : simpleByR x0 = y0) :
    Calls Tryd.prog 29 #[v0] w fun e w' => ∃ u, e = .returned u ∧ OwnM w' w.heap.size w'.heap.size u y0 ∧ Below w.heap.size w w' := by
  have H := Lib.hid h0
  have HR := Lib.hid hR; clear hR
  obtain ⟨A, c, rfl, hi, hc⟩ := h0
  have HI := Lib.hid hi; clear hi
  have hb0 : Below w.heap.size w (w.alloc (.cells #[] 62)) := (Below.refl _ _).alloc (Nat.le_refl _) _
  have S0 := Lib.hid (And.intro hb0 (And.intro (OwnP.empty 62 w) (H.out.step hb0))); clear hb0
  rcases hv : validB x0 with _ | _ <;> have Hv := Lib.hid hv <;> clear hv
  · obtain rfl : [] = y0 := by have := HR.out; unfold simpleByR at this; rw [Hv.out] at this; exact this
    have HI2 : Hid (Ints (w.alloc (.cells #[] 62)) A x0) := Lib.hid (HI.out.step S0.out.1)
    go_enter Tryd.func29, Tryd.ntmps29
    go_wp2
    go_loopw [3, 4] (fun o n wr => o = .slice (some ⟨w.heap.size, 0, none⟩) 0 0 ∧ n = .slice A x0.length c ∧ wr = w.alloc (.cells #[] 62)) (fun _ _ _ => 0)
    case atStart => exact ⟨rfl, rfl, rfl⟩
    case round =>
      obtain ⟨rfl, rfl, rfl⟩ := hrel
      go_wp2_with (go_at_call 15; refine (specValid_any A c x0 _ HI2.out).mono ?_; rw [Hv.out]; rintro e w' ⟨rfl, rfl⟩)
      go_ret
      exact ⟨_, rfl, OwnP.mono S0.out.2.1 (Nat.le_refl _) (by simp), S0.out.1⟩
  · have hst := SmpAt.start Hv.out
    have ST := Lib.hid hst; clear hst
    have hfin : (simplerR 100 x0).1 = y0 := by have := HR.out; unfold simpleByR at this; rw [if_pos Hv.out] at this; exact this
    have HF := Lib.hid hfin; clear hfin
    go_enter Tryd.func29, Tryd.ntmps29
    go_wp2
    go_loopw [3, 4] (fun o n wr => ∃ ms cur, w.heap.size ≤ wr.heap.size ∧ Below w.heap.size w wr ∧ OwnM wr w.heap.size wr.heap.size o ms ∧ RdI wr n cur ∧ SmpAt x0 ms cur) (fun o _ _ => 100 - sliceLen o)
    case atStart => exact ⟨[], x0, by simp, S0.out.1, OwnP.mono S0.out.2.1 (Nat.le_refl _) (by simp), S0.out.2.2, ST.out⟩
    case round =>
      clear S0 ST
      obtain ⟨ms, cur, hsz, q1, q2, q3, q4⟩ := hrel
      have hml := q4.2.1
      have hcl := validB_len q4.1
      have hvc := Lib.hid q4.1
      obtain ⟨Ao, co, rfl, _⟩ := q2.rd
      obtain ⟨An, cn, rfl, hin, _⟩ := id q3
      have X := Lib.hid (And.intro q1 (And.intro q2 (And.intro q3 (And.intro q4 hin)))); clear q1 q2 q3 q4 hin
      by_cases hfull : ms.length < 100
      case neg =>
        have hfI : ¬ (ms.length : Int) < 100 := by omega
        go_wp2_with (go_at_call 15; refine (specValid_any An cn cur _ X.out.2.2.2.2).mono ?_; rw [hvc.out]; rintro e w' ⟨rfl, rfl⟩)
        go_ret
        refine ⟨_, rfl, ?_, X.out.1⟩
        have := X.out.2.2.2.1.done (.inl (by omega))
        rw [← HF.out, this]
        exact X.out.2.1
      have hfI : (ms.length : Int) < 100 := by omega
      obtain ⟨p1, p2, p3⟩ := parts_facts cur
      go_wp2_with (go_at_call 15; refine (specValid_any An cn cur _ X.out.2.2.2.2).mono ?_; rw [hvc.out]; rintro e w' ⟨rfl, rfl⟩)
      refine (ProgParts_S _ cur _ X.out.2.2.1 (by omega) _ rfl).mono ?_
      rintro e w1 ⟨up, rfl, ho, hb⟩
      obtain ⟨ps, hps⟩ : ∃ ps, partsR cur = ps := ⟨_, rfl⟩
      rw [hps] at p1 p2 p3 ho
      have HPS := Lib.hid hps; clear hps p1 p3
      have hz1 := hb.size
      obtain ⟨Ap, cp, rfl, _⟩ := ho.rd
      have Y := Lib.hid (And.intro (X.out.1.trans (hb.mono hsz)) (And.intro (X.out.2.1.below hb) (X.out.2.2.1.step hb))); clear hb ho
      go_wp2
      go_loopw [3, 4, 6, 7] (fun o n f i w2 => ∃ (j : Nat) (b : Bool), f = .bool b ∧ i = .int .i64 j ∧ j ≤ ps.length ∧ w.heap.size ≤ w2.heap.size ∧ Below w.heap.size w w2 ∧ (b = false → o = .slice Ao ms.length co ∧ n = .slice An cur.length cn ∧ OwnM w2 w.heap.size w2.heap.size (.slice Ao ms.length co) ms ∧ RdI w2 (.slice An cur.length cn) cur ∧ findR ps (ps.length - j) j = findR ps ps.length 0) ∧ (b = true → SrchOut x0 w (ms.length + 1) o n w2)) (fun _ _ _ i _ => ps.length - (intOf i).toNat)
      case atStart => exact ⟨0, false, rfl, rfl, Nat.zero_le _, by omega, Y.out.1, fun _ => ⟨rfl, rfl, OwnP.mono Y.out.2.1 (Nat.le_refl _) (by omega), Y.out.2.2, by simp⟩, fun h => by cases h⟩
      case round =>
        clear Y
        obtain ⟨j, b, rfl, rfl, hj, hsz2, hb2, hno, hyes⟩ := hrel
        rcases b with _ | _
        · obtain ⟨rfl, rfl, r1, r2, r3⟩ := hno rfl
          have Z := Lib.hid (And.intro hb2 (And.intro r1 (And.intro r2 r3))); clear hb2 r1 r2 r3 hno hyes
          by_cases hlt : j < ps.length
          · have hltI : (j : Int) < ps.length := by omega
            go_wp2
            go_loopw [3, 4, 6, 8] (fun o n f i w3 => ∃ (k : Nat) (b : Bool), f = .bool b ∧ i = .int .i64 k ∧ k ≤ 9 ∧ w.heap.size ≤ w3.heap.size ∧ Below w.heap.size w w3 ∧ (b = false → o = .slice Ao ms.length co ∧ n = .slice An cur.length cn ∧ OwnM w3 w.heap.size w3.heap.size (.slice Ao ms.length co) ms ∧ RdI w3 (.slice An cur.length cn) cur ∧ ∀ i : Nat, i < k → ∀ x : List Int × Nat, moveR (partsR cur) (j : Int) = some x → (x.2 : Int) ≠ (i : Int)) ∧ (b = true → SrchOut x0 w (ms.length + 1) o n w3)) (fun _ _ _ i _ => 9 - (intOf i).toNat)
            case atStart => exact ⟨0, false, rfl, rfl, by omega, hsz2, Z.out.1, fun _ => ⟨rfl, rfl, Z.out.2.1, Z.out.2.2.1, fun i hi => by omega⟩, fun h => by cases h⟩
            case round =>
              obtain ⟨k, b, rfl, rfl, hk, hsz3, hb3, hno, hyes⟩ := hrel
              rcases b with _ | _
              · obtain ⟨rfl, rfl, r1, r2, r3⟩ := hno rfl
                have V := Lib.hid (And.intro hb3 (And.intro r1 (And.intro r2 r3))); clear hb3 r1 r2 r3 hno hyes
                by_cases hk9 : k < 9
                · have hkI : (k : Int) < 9 := by omega
                  rcases hm : moveDoR cur (k : Int) (j : Int) with ⟨y, ok⟩
                  have HM := Lib.hid hm; clear hm
                  go_wp2_with fail
                  refine (MoveDo_S _ cur (k : Int) (j : Int) _ V.out.2.2.1 (by omega) y ok HM.out).mono ?_
                  rintro e w4 ⟨un, rfl, ho, hb⟩
                  have hz4 := hb.size
                  have U := Lib.hid (And.intro (V.out.1.trans (hb.mono hsz3)) (And.intro (V.out.2.1.below hb) (And.intro (V.out.2.2.1.step hb) ho))); clear hb ho
                  rcases ok with _ | _
                  · have hall : ∀ i : Nat, i < k + 1 → ∀ x : List Int × Nat, moveR (partsR cur) (j : Int) = some x → (x.2 : Int) ≠ (i : Int) := by
                      intro i hi
                      by_cases e : i = k
                      · subst e; exact moveDoR_no HM.out
                      · exact V.out.2.2.2 i (by omega)
                    have HA := Lib.hid hall; clear hall
                    go_wp2
                    go_roundw
                    case rel => exact ⟨k + 1, false, rfl, by go_num, by omega, by omega, U.out.1, fun _ => ⟨rfl, rfl, OwnP.mono U.out.2.1 (Nat.le_refl _) hz4, U.out.2.2.1, HA.out⟩, fun h => by cases h⟩
                    case measure => simp [intOf]; omega
                  · obtain ⟨kn, hkn, hmr⟩ := moveDoR_form HM.out
                    obtain rfl : kn = k := by omega
                    have hfd : findR (partsR cur) (partsR cur).length 0 = some (j, kn, y) := by
                      rw [HPS.out] at hmr ⊢
                      rw [← Z.out.2.2.2]; exact findR_hit hlt hmr
                    have FD := Lib.hid (X.out.2.2.2.1.next hfull hfd); clear hfd hmr hkn
                    have ha : Below w4.heap.size w4 (w4.alloc (.cells #[.int .i64 (kn : Int), .int .i64 (j : Int)] 62)) := (Below.refl _ _).alloc (Nat.le_refl _) _
                    obtain ⟨bk0, bk1, _, _⟩ := (Blk.new w4 #[.int .i64 (kn : Int), .int .i64 (j : Int)] 62).two
                    have Q := Lib.hid (And.intro (U.out.2.1.below ha) (And.intro bk0 (And.intro bk1 (And.intro (U.out.2.2.2.below ha) (U.out.1.trans (ha.mono (by omega))))))); clear ha bk0 bk1 U
                    go_wp2_with (at_builtin; refine wpList_append_P rfl _ _ _ rfl 62 Tryd.underlying24 moveInfo w.heap.size _ _ ms rfl Q.out.1 (by simp; omega) w4.heap.size (kn : Int) (j : Int) rfl Q.out.2.1 Q.out.2.2.1 (by omega) ?_)
                    intro um w5 hom hb5 hg5 _
                    have hz5 : w4.heap.size + 1 ≤ w5.heap.size := by have := hg5.size; simpa using this
                    have hne : un.ownBlock = none ∨ un.ownBlock ≠ (Value.slice Ao ms.length co).ownBlock := by
                      rcases e : un.ownBlock with _ | g'
                      · exact .inl rfl
                      · refine .inr fun e2 => ?_
                        have h1 := V.out.2.1.lt g' e2.symm
                        have h2 := (Q.out.2.2.2.1.own.ge g' e).1
                        omega
                    have hun : Own w5 w.heap.size un y := (Q.out.2.2.2.1.own.only hg5 hne).mono (by omega)
                    have W5 := Lib.hid (And.intro (Q.out.2.2.2.2.trans hb5) (show SrchOut x0 w (ms.length + 1) um un w5 from ⟨ms ++ [((kn : Int), (j : Int))], y, by simp, hom, hun.ints, FD.out⟩)); clear hun hom hb5 hg5 hne Q
                    go_wp2
                    go_roundw
                    case rel => exact ⟨kn + 1, true, rfl, by go_num, by omega, by omega, W5.out.1, fun h => (by cases h), fun _ => W5.out.2⟩
                    case measure => simp [intOf]; omega
                · obtain rfl : k = 9 := by omega
                  have hnone : moveR ps (j : Int) = none := by
                    rw [← HPS.out]; exact moveR_none_of hvc.out V.out.2.2.2
                  have hnx : findR ps (ps.length - (j + 1)) (j + 1) = findR ps ps.length 0 := by rw [← findR_skip hlt hnone]; exact Z.out.2.2.2
                  have NX := Lib.hid hnx; clear hnx hnone
                  go_wp2
                  go_roundw
                  case rel => exact ⟨j + 1, false, rfl, by go_num, by omega, by omega, V.out.1, fun _ => ⟨rfl, rfl, V.out.2.1, V.out.2.2.1, NX.out⟩, fun h => by cases h⟩
                  case measure => simp [intOf]; omega
              · have V := Lib.hid (And.intro hb3 (hyes rfl)); clear hb3 hno hyes
                by_cases hk9 : k < 9
                · have hkI : (k : Int) < 9 := by omega
                  go_wp2
                  go_roundw
                  case rel => exact ⟨j + 1, true, rfl, by go_num, by omega, by omega, V.out.1, fun h => (by cases h), fun _ => V.out.2⟩
                  case measure => simp [intOf]; omega
                · obtain rfl : k = 9 := by omega
                  go_wp2
                  go_roundw
                  case rel => exact ⟨j + 1, true, rfl, by go_num, by omega, by omega, V.out.1, fun h => (by cases h), fun _ => V.out.2⟩
                  case measure => simp [intOf]; omega
          · obtain rfl : j = ps.length := by omega
            have hdone := X.out.2.2.2.1.done (.inr (by rw [HPS.out, ← Z.out.2.2.2, Nat.sub_self]; rfl))
            have HD : Hid (ms = y0) := Lib.hid (by rw [← HF.out, hdone]); clear hdone
            go_wp2
            go_ret
            exact ⟨_, rfl, by rw [← HD.out]; exact Z.out.2.1, Z.out.1⟩
        · obtain ⟨ms', cur', e1, e2, e3, e4⟩ := hyes rfl
          have Z := Lib.hid (And.intro hb2 (And.intro e2 (And.intro e3 e4))); clear hb2 e2 e3 e4 hno hyes
          obtain ⟨Ao', co', rfl, _⟩ := Z.out.2.1.rd
          by_cases hlt : j < ps.length
          · have hltI : (j : Int) < ps.length := by omega
            go_wp2
            go_roundw
            case rel => exact ⟨ms', cur', hsz2, Z.out⟩
            case measure => simp [sliceLen]; omega
          · obtain rfl : j = ps.length := by omega
            go_wp2
            go_roundw
            case rel => exact ⟨ms', cur', hsz2, Z.out⟩
            case measure => simp [sliceLen]; omega

theorem proofRunR_simple {p : List Int} : proofRunR p (simpleByR p) = (simpleOfR p, validB p) := by
  unfold proofRunR simpleByR simpleOfR
  rcases hv : validB p with _ | _
  · simp
  · have := simplerR_len 100 p
    simp only [if_true, true_and]
    rw [if_pos this, simplerR_moved]
theorem SimpleOf_S (v0 : Value) (x0 : List Int) (w : World) (h0 : RdI w v0 x0) (hl0 : x0.length ≤ 1048576) (y0 : List Int) (hR : simpleOfR x0 = y0) :
    Calls Tryd.prog 14 #[v0] w fun e w' => ∃ u, e = .returned u ∧ OwnI w' w.heap.size w'.heap.size u y0 ∧ Below w.heap.size w w' := by
  have H := Lib.hid h0
  have HR := Lib.hid hR; clear hR
  obtain ⟨A, c, rfl, _⟩ := h0
  have hp := proofRunR_simple (p := x0)
  rw [HR.out] at hp
  obtain ⟨ms, hms⟩ : ∃ ms, simpleByR x0 = ms := ⟨_, rfl⟩
  rw [hms] at hp
  have HB := Lib.hid (And.intro hms hp); clear hms hp
  go_enter Tryd.func14, Tryd.ntmps14
  go_wp2_with fail
  refine (SimpleBy_S _ x0 _ H.out hl0 ms HB.out.1).mono ?_
  rintro e w1 ⟨u, rfl, ho, hb⟩
  have hz1 := hb.size
  have X := Lib.hid (And.intro ho (And.intro hb (H.out.step hb))); clear ho hb
  go_wp2_with fail
  rcases hv : validB x0 with _ | _
  · have HV : Hid (simpleOfR x0 = [] ∧ proofRunR x0 ms = (y0, false)) := Lib.hid ⟨by unfold simpleOfR; rw [hv]; rfl, by rw [← hv]; exact HB.out.2⟩
    clear hv
    obtain rfl : [] = y0 := HV.out.1.symm.trans HR.out
    refine (ProofRun_S _ x0 _ ms _ X.out.2.2 hl0 X.out.1.rd [] false HV.out.2).mono ?_
    rintro e w2 ⟨u2, rfl, ho2, hb2⟩
    have L := Lib.hid (lit_out (X.out.2.1.trans (hb2.mono hz1))); clear ho2 hb2
    go_wp2
    go_ret
    exact ⟨_, rfl, L.out.1, L.out.2⟩
  · have HV : Hid (proofRunR x0 ms = (y0, true)) := Lib.hid (by rw [← hv]; exact HB.out.2)
    clear hv
    refine (ProofRun_S _ x0 _ ms _ X.out.2.2 hl0 X.out.1.rd y0 true HV.out).mono ?_
    rintro e w2 ⟨u2, rfl, ho2, hb2⟩
    have L := Lib.hid (And.intro (show OwnI w2 w.heap.size w2.heap.size u2 y0 from ⟨ho2.own.mono hz1, ho2.lt⟩) (X.out.2.1.trans (hb2.mono hz1))); clear ho2 hb2
    go_wp2
    go_ret
    exact ⟨_, rfl, L.out.1, L.out.2⟩
end Go.Proofs.YtkdpfiaegimnlaaDoor
