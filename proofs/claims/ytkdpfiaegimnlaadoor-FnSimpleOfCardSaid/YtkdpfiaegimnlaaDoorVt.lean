/- Chapter 5, the program's: simpler, SimpleBy, SimpleOf. -/
import Derived.Test.YtkdpfiaegimnlaaDoorBa
import Derived.Test.YtkdpfiaegimnlaaDoorVk
import Derived.Test.YtkdpfiaegimnlaaDoorB9
import Derived.WalkMore
import Derived.ScopeJumps
namespace Go.Proofs.YtkdpfiaegimnlaaDoor
set_option maxRecDepth 100000
open Go.RowKit Go.WideShapes Go.Deep

def SmPost (w : World) (y : List Int) (ms : List (Int × Int)) (e : Ending) (w' : World) : Prop := ∃ u1 u2, e = .returned (.tuple #[u1, u2]) ∧ OwnI w' w.heap.size w'.heap.size u1 y ∧ OwnM w' w.heap.size w'.heap.size u2 ms ∧ Below w.heap.size w w'
def sliceLen : Value → Nat
  | .slice _ n _ => n
  | _ => 0
/-- What holds at the label: a program that the moves have led to. -/
def AtSearch (x0 : List Int) (w : World) (a : Act) (wr : World) : Prop := ∃ (v u : Value) (cur : List Int) (ms : List (Int × Int)) (u1 u5 u6 u7 u8 u9 u10 u11 u12 u13 u14 u15 u16 u17 u18 u19 u20 u21 u22 u23 u24 u25 u26 u27 u28 u29 u30 u31 u32 u33 u34 u35 u36 u37 u38 u39 u40 u41 : Value), a = { tmps := #[v, u1, .slice none 0 0, .slice none 0 0, u, u5, u6, u7, u8, u9, u10, u11, u12, u13, u14, u15, u16, u17, u18, u19, u20, u21, u22, u23, u24, u25, u26, u27, u28, u29, u30, u31, u32, u33, u34, u35, u36, u37, u38, u39, u40, u41], defers := [] } ∧ w.heap.size ≤ wr.heap.size ∧ Below w.heap.size w wr ∧ OwnI wr w.heap.size wr.heap.size v cur ∧ OwnM wr w.heap.size wr.heap.size u ms ∧ SmpAt x0 ms cur
theorem scope_jumps {P : Program} {a : Act} {w : World} {Q : Exit → Act → World → Prop} {c rest : Code} (l : Nat) (J : Act → World → Prop) (μ : Act → World → Nat) (hf : findLabel c l = some (Code.skip.seq rest))
    (pass : ∀ a w, J a w → rest.wp P (Exit.jump l (fun a' w' => J a' w' ∧ μ a' w' < μ a w) Q) a w)
    (first : (∀ a w, J a w → rest.wp P (Exit.jump l J Q) a w) → c.wp P (Exit.jump l J Q) a w) : (Code.scope c).wp P Q a w :=
  wp_scope_jumps l J μ hf (first fun a w hJ => wp_mono (pass a w hJ) fun e a w h => by
    cases e
    case goto l' => exact ⟨h.1, h.2.1⟩
    all_goals exact h) fun a w hJ => wp_seq (wp_skip (pass a w hJ))

set_option maxHeartbeats 4000000 in
theorem simpler_any (v0 : Value) (x0 : List Int) (w : World) (h0 : RdI w v0 x0) (hl0 : x0.length ≤ 1048576) (hv : validB x0 = true) (q0 : List Int) (ms0 : List (Int × Int)) (hR : simplerR 100 x0 = (ms0, q0)) (ht : IntTab w 0 takesL) :
    Calls Tryd.prog 28 #[v0] w (SmPost w q0 ms0) := by
  have hgl := ht.lt
  have HT := Lib.hid ht; clear ht
  have H := Lib.hid h0
  have HV := Lib.hid hv; clear hv
  have HR := Lib.hid hR; clear hR
  obtain ⟨A, c, rfl, _⟩ := h0
  go_enter Tryd.func28, Tryd.ntmps28
  go_wp2
  refine scope_jumps 0 (AtSearch x0 w) (fun a _ => 100 - sliceLen (a.tmps.getD 4 undef)) rfl ?pass ?first
  case first =>
    intro hpass
    go_wp2_with fail
    refine (Clone_rd _ x0 _ H.out (by omega)).mono ?_
    rintro e w1 ⟨v1, rfl, hown, hb1⟩
    have hs1 : w.heap.size ≤ w1.heap.size := hb1.size
    have S1 := Lib.hid (And.intro hb1 hown); clear hown hb1
    go_wp2
    go_step3
    rename_i hK
    refine hK _ _ (hpass _ _ ?_)
    exact ⟨v1, .slice none 0 0, x0, [], _, _, _, _, _, _, _, _, _, _, _, _, _, _, _, _, _, _, _, _, _, _, _, _, _, _, _, _, _, _, _, _, _, _, _, _, _, _, rfl, hs1, S1.out.1, S1.out.2, OwnP.nil _ _ _ _, SmpAt.start HV.out⟩
  case pass =>
    rintro a wr ⟨v, u, cur, ms, u1, u5, u6, u7, u8, u9, u10, u11, u12, u13, u14, u15, u16, u17, u18, u19, u20, u21, u22, u23, u24, u25, u26, u27, u28, u29, u30, u31, u32, u33, u34, u35, u36, u37, u38, u39, u40, u41, rfl, hsz, hbw, hown, hmv, hat⟩
    obtain ⟨Av, cv, rfl, _⟩ := hown.rd
    obtain ⟨Am, cm, rfl, _⟩ := hmv.rd
    have hml := hat.2.1
    obtain ⟨p1, p2, p3⟩ := parts_facts cur
    have hcl := validB_len hat.1
    have S := Lib.hid (And.intro hbw (And.intro hown (And.intro hmv hat))); clear hbw hown hmv hat
    go_wp2_with fail
    refine (ProgParts_I _ cur _ S.out.2.1.rd (by omega) _ rfl).mono ?_
    rintro e w1 ⟨up, rfl, ho, hb⟩
    obtain ⟨ps, hps⟩ : ∃ ps, partsR cur = ps := ⟨_, rfl⟩
    rw [hps] at p1 p2 p3 ho
    have HPS := Lib.hid hps; clear hps
    have hz1 := hb.size
    obtain ⟨Ap, cp, rfl, _⟩ := ho.rd
    have X := Lib.hid (And.intro (S.out.1.trans (hb.mono hsz)) (And.intro (S.out.2.1.below hb) (And.intro (S.out.2.2.1.below hb) ho))); clear hb ho
    have P := Lib.hid (And.intro p1 p3); clear p1 p3
    go_wp2
    go_loopw [0, 4, 16] (fun p m i w3 => ∃ j : Nat, j ≤ ps.length ∧ i = .int .i64 j ∧ p = .slice Av cur.length cv ∧ m = .slice Am ms.length cm ∧ w1.heap.size ≤ w3.heap.size ∧ Below w.heap.size w w3 ∧ OwnI w3 w.heap.size wr.heap.size (.slice Av cur.length cv) cur ∧ OwnM w3 w.heap.size wr.heap.size (.slice Am ms.length cm) ms ∧ OwnS w3 wr.heap.size w1.heap.size (.slice Ap ps.length cp) ps ∧ (100 ≤ ms.length ∨ findR ps (ps.length - j) j = findR ps ps.length 0)) (fun _ _ i _ => ps.length - (intOf i).toNat)
    case atStart => exact ⟨0, Nat.zero_le _, rfl, rfl, rfl, Nat.le_refl _, X.out.1, X.out.2.1, X.out.2.2.1, X.out.2.2.2, .inr (by simp)⟩
    case round =>
      obtain ⟨j, hj, rfl, rfl, rfl, hsz3, q1, q2, q3, q4, hfi⟩ := hrel
      have Y := Lib.hid (And.intro q1 (And.intro q2 (And.intro q3 (And.intro q4 hfi)))); clear q1 q2 q3 q4 hfi
      by_cases hlt : j < ps.length
      · have hltI : (j : Int) < ps.length := by omega
        rcases hm : move3R ps (j : Int) with ⟨y, k, b⟩
        have HM := Lib.hid hm; clear hm
        go_wp2_with fail
        refine (moveAt_any _ ps (j : Int) _ _ _ Y.out.2.2.2.1 P.out.1 p2 P.out.2 (HT.out.below Y.out.1 hgl) y k b HM.out).mono ?_
        rintro e w4 ⟨un, rfl, ho, hb⟩
        have hz4 := hb.size
        have Z := Lib.hid (And.intro (Y.out.1.trans (hb.mono (by omega))) (And.intro (Y.out.2.1.below hb) (And.intro (Y.out.2.2.1.below hb) (And.intro (Y.out.2.2.2.1.below hb) ho)))); clear hb ho
        rcases b with _ | _
        · have hnx : 100 ≤ ms.length ∨ findR ps (ps.length - (j + 1)) (j + 1) = findR ps ps.length 0 := by
            rcases Y.out.2.2.2.2 with h | h
            · exact .inl h
            · exact .inr (by rw [← findR_skip hlt (move3R_none HM.out)]; exact h)
          have NX := Lib.hid hnx; clear hnx
          go_wp2
          go_roundw
          case rel => exact ⟨j + 1, by omega, by go_num, rfl, rfl, by omega, Z.out.1, Z.out.2.1, Z.out.2.2.1, Z.out.2.2.2.1, NX.out⟩
          case measure => simp [intOf]; omega
        · by_cases hfull : ms.length < 100
          · have hfI : (ms.length : Int) < 100 := by omega
            obtain ⟨kn, rfl, hmr⟩ := move3R_some HM.out
            have hfd : findR (partsR cur) (partsR cur).length 0 = some (j, kn, y) := by
              rw [HPS.out]
              rcases Y.out.2.2.2.2 with h | h
              · omega
              · rw [← h]; exact findR_hit hlt hmr
            have FD := Lib.hid (S.out.2.2.2.next hfull hfd); clear hfd hmr
            have ha : Below w4.heap.size w4 (w4.alloc (.cells #[.int .i64 (kn : Int), .int .i64 (j : Int)] 62)) := (Below.refl _ _).alloc (Nat.le_refl _) _
            obtain ⟨bk0, bk1, _, _⟩ := (Blk.new w4 #[.int .i64 (kn : Int), .int .i64 (j : Int)] 62).two
            have V := Lib.hid (And.intro (Z.out.2.2.1.below ha) (And.intro bk0 (And.intro bk1 (And.intro (Z.out.2.2.2.2.below ha) (Z.out.1.trans (ha.mono (by omega))))))); clear ha bk0 bk1 Z
            go_wp2_with (at_builtin; go_loud (refine wpList_append_P rfl _ _ _ rfl 62 Tryd.underlying24 moveInfo w.heap.size _ _ ms rfl V.out.1 (by simp; omega) w4.heap.size (kn : Int) (j : Int) rfl V.out.2.1 V.out.2.2.1 (by omega) ?_))
            intro um w5 hom hb5 hg5 _
            have hz5 : w4.heap.size + 1 ≤ w5.heap.size := by have := hg5.size; simpa using this
            have hne : un.ownBlock = none ∨ un.ownBlock ≠ (Value.slice Am ms.length cm).ownBlock := by
              rcases e : un.ownBlock with _ | g'
              · exact .inl rfl
              · refine .inr fun e2 => ?_
                have h1 := V.out.1.lt g' e2.symm
                have h2 := (V.out.2.2.2.1.own.ge g' e).1
                omega
            have hun : OwnI w5 w.heap.size w5.heap.size un y := ⟨(V.out.2.2.2.1.own.only hg5 hne).mono (by omega), fun g' e => by have := V.out.2.2.2.1.lt g' e; omega⟩
            have W5 := Lib.hid (And.intro (V.out.2.2.2.2.trans hb5) (And.intro hun hom)); clear hun hom hb5 hg5 hne V
            obtain ⟨Am2, cm2, rfl, _⟩ := W5.out.2.2.rd
            go_wp2
            go_step3
            simp +zetaDelta only [Exit.inBlock, Exit.then, Exit.jump]
            refine ⟨trivial, ⟨un, _, y, ms ++ [((kn : Int), (j : Int))], _, _, _, _, _, _, _, _, _, _, _, _, _, _, _, _, _, _, _, _, _, _, _, _, _, _, _, _, _, _, _, _, _, _, _, _, _, _, rfl, by omega, W5.out.1, W5.out.2.1, W5.out.2.2, FD.out⟩, ?_⟩
            simp [sliceLen]
            omega
          · have hfI : ¬ (ms.length : Int) < 100 := by omega
            go_wp2
            go_roundw
            case rel => exact ⟨j + 1, by omega, by go_num, rfl, rfl, by omega, Z.out.1, Z.out.2.1, Z.out.2.2.1, Z.out.2.2.2.1, .inl (by omega)⟩
            case measure => simp [intOf]; omega
      · obtain rfl : j = ps.length := by omega
        have hdone := S.out.2.2.2.done (by
          rcases Y.out.2.2.2.2 with h | h
          · exact .inl h
          · exact .inr (by rw [HPS.out, ← h, Nat.sub_self]; rfl))
        rw [HR.out] at hdone
        obtain ⟨rfl, rfl⟩ : ms0 = ms ∧ q0 = cur := by cases hdone; exact ⟨rfl, rfl⟩
        clear hdone
        go_wp2
        simp only [Exit.jump]
        go_ret2
        exact ⟨_, _, rfl, ⟨Y.out.2.1.own, fun g hg => Nat.lt_of_lt_of_le (Y.out.2.1.lt g hg) (by omega)⟩, OwnP.mono Y.out.2.2.1 (Nat.le_refl _) (by omega), Y.out.1⟩

def simpleByR (p : List Int) : List (Int × Int) := if validB p = true then (simplerR 100 p).1 else []
def simpleOfR (p : List Int) : List Int := if validB p = true then (simplerR 100 p).2 else []
theorem simpleOfR_len (p : List Int) : (simpleOfR p).length ≤ 60 := by
  unfold simpleOfR
  split
  · rename_i h; exact validB_len (movedR_valid h (simplerR_moved 100 p))
  · simp
theorem simpleByR_len (p : List Int) : szM (simpleByR p) ≤ 1000000 := by
  unfold simpleByR szM
  split
  · have := simplerR_len 100 p; omega
  · simp
theorem SimpleOf_I (v0 : Value) (x0 : List Int) (w : World) (h0 : RdI w v0 x0) (hl0 : x0.length ≤ 1048576) (y0 : List Int) (hR : simpleOfR x0 = y0) (ht : IntTab w 0 takesL) :
    Calls Tryd.prog 12 #[v0] w fun e w' => ∃ u, e = .returned u ∧ OwnI w' w.heap.size w'.heap.size u y0 ∧ Below w.heap.size w w' := by
  have HT := Lib.hid ht; clear ht
  have H := Lib.hid h0
  have HR := Lib.hid hR; clear hR
  obtain ⟨A, c, rfl, hi, hc⟩ := h0
  have HI := Lib.hid hi; clear hi
  rcases hv : validB x0 with _ | _ <;> have Hv := Lib.hid hv <;> clear hv
  · obtain rfl : [] = y0 := by have := HR.out; unfold simpleOfR at this; rw [Hv.out] at this; exact this
    go_enter Tryd.func12, Tryd.ntmps12
    go_wp2_with (go_at_call 17; refine (ProgValid_any A c x0 _ HI.out).mono ?_; rw [Hv.out]; rintro e w' ⟨rfl, rfl⟩)
    go_ret
    exact ⟨_, rfl, OwnI.nil _ _ _, Below.refl _ _⟩
  · rcases hS : simplerR 100 x0 with ⟨ms, q⟩
    have HS := Lib.hid hS
    obtain rfl : q = y0 := by have := HR.out; unfold simpleOfR at this; rw [if_pos Hv.out, hS] at this; exact this
    clear hS
    go_enter Tryd.func12, Tryd.ntmps12
    go_wp2_with (go_at_call 17; refine (ProgValid_any A c x0 _ HI.out).mono ?_; rw [Hv.out]; rintro e w' ⟨rfl, rfl⟩)
    refine (simpler_any _ x0 _ H.out hl0 Hv.out q ms HS.out HT.out).mono ?_
    rintro e w1 ⟨u1, u2, rfl, ho, hm, hb⟩
    have X := Lib.hid (And.intro ho hb); clear ho hm hb
    go_wp2
    go_ret
    exact ⟨_, rfl, X.out⟩
end Go.Proofs.YtkdpfiaegimnlaaDoor
