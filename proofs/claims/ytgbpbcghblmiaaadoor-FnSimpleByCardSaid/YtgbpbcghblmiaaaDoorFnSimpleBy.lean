/- FnSimpleBy: of every code: SimpleBy is its model at the drawn program; the moves prove that the program becomes SimpleOf of it; with fewer than MaxMoves no rule can be used any more then. For every input; ruleTakes holds what the program's text lays. -/
import Derived.Test.YtgbpbcghblmiaaaDoorKd
import Derived.Test.YtgbpbcghblmiaaaDoorVt
import Derived.Test.YtgbpbcghblmiaaaDoorVu
import Derived.Test.YtgbpbcghblmiaaaDoorMs
import Derived.Test.YtgbpbcghblmiaaaDoorB9
import Derived.Test.YtgbpbcghblmiaaaDoorB5
import Derived.Test.YtgbpbcghblmiaaaDoorBb
import Derived.Test.YtgbpbcghblmiaaaDoorF1
import Derived.Test.YtgbpbcghblmiaaaDoorF2
import Derived.Test.YtgbpbcghblmiaaaDoorF3
import Derived.Test.YtgbpbcghblmiaaaDoorTie
import Derived.Test.YtgbpbcghblmiaaaDoorCards
import Derived.SevenTiedAt
namespace Go.Proofs.YtgbpbcghblmiaaaDoor
set_option maxRecDepth 100000
open Go.RowKit Go.WideShapes Go.ChangeShapes

set_option maxHeartbeats 4000000 in
theorem fnSimpleBy_any (A0 : Option Addr) (c0 : Nat) (x0 : List Int) (w0 : World) (h0 : RdC w0 (.slice A0 x0.length c0) x0) (htab : IntTab w0 0 takesL) :
    Calls Tryd.prog 5 #[.slice A0 x0.length c0] w0 fun e w' => e = .returned (.bool true) ∧ Below w0.heap.size w0 w' := by
  have hm := h0.len_le
  have hgl := htab.lt
  have HT := Lib.hid htab; clear htab
  have HH := Lib.hid h0; clear h0
  by_cases hl : x0.length ≤ 1048576
  case neg =>
    go_enter Tryd.func5, Tryd.ntmps5
    go_wp2
    go_ret
    exact ⟨rfl, Below.refl _ _⟩
  go_enter Tryd.func5, Tryd.ntmps5
  go_wp2_with fail
  refine (DrawSimpleBy_any _ x0 _ HH.out).mono ?_
  rintro e w1 ⟨p, zp, rfl, hp, hpl, hb⟩
  have hz1 := hb.size
  have S1 : Hid (Below w0.heap.size w0 w1 ∧ RdBI w1 w1.heap.size p zp) := Lib.hid ⟨hb, hp.rd.at_⟩
  clear hp hb HH
  rcases hv : validB zp with _ | _ <;> have Hv := Lib.hid hv <;> clear hv
  · have HR : Hid (simpleByR zp = []) := Lib.hid (by unfold simpleByR; rw [Hv.out]; rfl)
    go_wp2_with fail
    refine (SimpleBy_I _ zp _ ((S1.out.2).rd (by first | omega | (simp <;> omega))) (by omega) _ HR.out (HT.out.below (S1.out.1) hgl)).mono ?_
    rintro e w_2 ⟨x, rfl, ho2, hb2⟩
    have hz2 : w1.heap.size ≤ w_2.heap.size := by have := hb2.size; simpa using this
    replace hb2 : Below (w1.heap.size) w1 w_2 := by simpa using hb2
    have S2 : Hid (Below w0.heap.size w0 w_2 ∧ RdBI w_2 (w1.heap.size) p (zp) ∧ OwnM w_2 (w1.heap.size) (w_2.heap.size) x ([])) := Lib.hid ⟨(S1.out.1).trans (hb2.mono (by omega)), (S1.out.2).below (hb2.mono (by omega)), (by simpa using ho2)⟩
    clear S1
    clear ho2 hb2
    go_wp2_with fail
    refine (SimpleBy_S _ zp _ ((S2.out.2.1).rd (by first | omega | (simp <;> omega))) (by omega) _ HR.out).mono ?_
    rintro e w_3 ⟨y, rfl, ho3, hb3⟩
    have hz3 : w_2.heap.size ≤ w_3.heap.size := by have := hb3.size; simpa using this
    replace hb3 : Below (w_2.heap.size) w_2 w_3 := by simpa using hb3
    have S3 : Hid (Below w0.heap.size w0 w_3 ∧ RdBI w_3 (w1.heap.size) p (zp) ∧ OwnM w_3 (w1.heap.size) (w_2.heap.size) x ([]) ∧ OwnM w_3 (w_2.heap.size) (w_3.heap.size) y ([])) := Lib.hid ⟨(S2.out.1).trans (hb3.mono (by omega)), (S2.out.2.1).below (hb3.mono (by omega)), (S2.out.2.2).belowB hb3 (by omega), (by simpa using ho3)⟩
    clear S2
    clear ho3 hb3
    go_wp2_with fail
    refine (smM _ _ _ _ _ ((S3.out.2.2.1).rd) ((S3.out.2.2.2).rd) true (decide_eq_true rfl)).mono ?_
    rintro e w_4 ⟨rfl, hb4⟩
    have hz4 : w_3.heap.size ≤ w_4.heap.size := by have := hb4.size; simpa using this
    replace hb4 : Below (w_3.heap.size) w_3 w_4 := by simpa using hb4
    have S4 : Hid (Below w0.heap.size w0 w_4 ∧ RdBI w_4 (w1.heap.size) p (zp) ∧ OwnM w_4 (w1.heap.size) (w_2.heap.size) x ([])) := Lib.hid ⟨(S3.out.1).trans (hb4.mono (by omega)), (S3.out.2.1).below (hb4.mono (by omega)), (S3.out.2.2.1).belowB hb4 (by omega)⟩
    clear S3
    clear hb4
    go_wp2_with fail
    refine (ProgValid_S _ zp _ ((S4.out.2.1).rd (by first | omega | (simp <;> omega))) (by omega) false Hv.out).mono ?_
    rintro e w_5 ⟨rfl, hb5⟩
    have hz5 : w_4.heap.size ≤ w_5.heap.size := by have := hb5.size; simpa using this
    replace hb5 : Below (w_4.heap.size) w_4 w_5 := by simpa using hb5
    have S5 : Hid (Below w0.heap.size w0 w_5 ∧ RdBI w_5 (w1.heap.size) p (zp) ∧ OwnM w_5 (w1.heap.size) (w_2.heap.size) x ([])) := Lib.hid ⟨(S4.out.1).trans (hb5.mono (by omega)), (S4.out.2.1).below (hb5.mono (by omega)), (S4.out.2.2).belowB hb5 (by omega)⟩
    clear S4
    clear hb5
    -- at w_5: S5: base p x
    obtain ⟨Ax, cx, rfl, _⟩ := (S5.out.2.2).rd
    go_wp2_with fail
    refine (alive_any _).mono ?_
    rintro e w5 ⟨rfl, hb⟩
    have T := Lib.hid (S5.out.1.trans (hb.mono (by omega))); clear hb
    go_wp2
    go_ret
    exact ⟨rfl, T.out⟩
  · rcases hS : simplerR 100 zp with ⟨ms, q⟩
    have HR : Hid (simpleByR zp = ms ∧ simpleOfR zp = q ∧ proofOkR zp q ms = true ∧ (ms.length < 100 → ∀ a : Int, movesAtR q a = [])) := by
      have h1 : simpleByR zp = ms := by unfold simpleByR; rw [if_pos Hv.out, hS]
      have h2 : simpleOfR zp = q := by unfold simpleOfR; rw [if_pos Hv.out, hS]
      refine Lib.hid ⟨h1, h2, ?_, fun hl a => ?_⟩
      · have h3 := proofRunR_simple (p := zp)
        rw [h1, h2, Hv.out] at h3
        unfold proofOkR; rw [h3]; simp
      · have h4 := simplerR_end (n := 100) (p := zp) (by rw [hS]; exact hl) a
        rw [hS] at h4
        unfold movesAtR
        rw [h4]
    have hml : ms.length ≤ 100 := by have := simplerR_len 100 zp; rw [hS] at this; exact this
    have hql : q.length ≤ 60 := by rw [← HR.out.2.1]; exact simpleOfR_len zp
    clear hS
    obtain ⟨pp1, pp2, pp3⟩ := parts_facts q
    clear pp1 pp3
    obtain ⟨ps, hps⟩ : ∃ ps, partsR q = ps := ⟨_, rfl⟩
    rw [hps] at pp2
    have HPS := Lib.hid hps; clear hps
    go_wp2_with fail
    refine (SimpleBy_I _ zp _ ((S1.out.2).rd (by first | omega | (simp <;> omega))) (by omega) _ HR.out.1 (HT.out.below (S1.out.1) hgl)).mono ?_
    rintro e w_2 ⟨mv, rfl, ho2, hb2⟩
    have hz2 : w1.heap.size ≤ w_2.heap.size := by have := hb2.size; simpa using this
    replace hb2 : Below (w1.heap.size) w1 w_2 := by simpa using hb2
    have S2 : Hid (Below w0.heap.size w0 w_2 ∧ RdBI w_2 (w1.heap.size) p (zp) ∧ OwnM w_2 (w1.heap.size) (w_2.heap.size) mv (ms)) := Lib.hid ⟨(S1.out.1).trans (hb2.mono (by omega)), (S1.out.2).below (hb2.mono (by omega)), (by simpa using ho2)⟩
    clear S1
    clear ho2 hb2
    go_wp2_with fail
    refine (SimpleBy_S _ zp _ ((S2.out.2.1).rd (by first | omega | (simp <;> omega))) (by omega) _ HR.out.1).mono ?_
    rintro e w_3 ⟨y, rfl, ho3, hb3⟩
    have hz3 : w_2.heap.size ≤ w_3.heap.size := by have := hb3.size; simpa using this
    replace hb3 : Below (w_2.heap.size) w_2 w_3 := by simpa using hb3
    have S3 : Hid (Below w0.heap.size w0 w_3 ∧ RdBI w_3 (w1.heap.size) p (zp) ∧ OwnM w_3 (w1.heap.size) (w_2.heap.size) mv (ms) ∧ OwnM w_3 (w_2.heap.size) (w_3.heap.size) y (ms)) := Lib.hid ⟨(S2.out.1).trans (hb3.mono (by omega)), (S2.out.2.1).below (hb3.mono (by omega)), (S2.out.2.2).belowB hb3 (by omega), (by simpa using ho3)⟩
    clear S2
    clear ho3 hb3
    go_wp2_with fail
    refine (smM _ _ _ _ _ ((S3.out.2.2.1).rd) ((S3.out.2.2.2).rd) true (decide_eq_true rfl)).mono ?_
    rintro e w_4 ⟨rfl, hb4⟩
    have hz4 : w_3.heap.size ≤ w_4.heap.size := by have := hb4.size; simpa using this
    replace hb4 : Below (w_3.heap.size) w_3 w_4 := by simpa using hb4
    have S4 : Hid (Below w0.heap.size w0 w_4 ∧ RdBI w_4 (w1.heap.size) p (zp) ∧ OwnM w_4 (w1.heap.size) (w_2.heap.size) mv (ms)) := Lib.hid ⟨(S3.out.1).trans (hb4.mono (by omega)), (S3.out.2.1).below (hb4.mono (by omega)), (S3.out.2.2.1).belowB hb4 (by omega)⟩
    clear S3
    clear hb4
    go_wp2_with fail
    refine (ProgValid_S _ zp _ ((S4.out.2.1).rd (by first | omega | (simp <;> omega))) (by omega) true Hv.out).mono ?_
    rintro e w_5 ⟨rfl, hb5⟩
    have hz5 : w_4.heap.size ≤ w_5.heap.size := by have := hb5.size; simpa using this
    replace hb5 : Below (w_4.heap.size) w_4 w_5 := by simpa using hb5
    have S5 : Hid (Below w0.heap.size w0 w_5 ∧ RdBI w_5 (w1.heap.size) p (zp) ∧ OwnM w_5 (w1.heap.size) (w_2.heap.size) mv (ms)) := Lib.hid ⟨(S4.out.1).trans (hb5.mono (by omega)), (S4.out.2.1).below (hb5.mono (by omega)), (S4.out.2.2).belowB hb5 (by omega)⟩
    clear S4
    clear hb5
    go_wp2_with fail
    refine (SimpleOf_I _ zp _ ((S5.out.2.1).rd (by first | omega | (simp <;> omega))) (by omega) _ HR.out.2.1 (HT.out.below (S5.out.1) hgl)).mono ?_
    rintro e w_6 ⟨x, rfl, ho6, hb6⟩
    have hz6 : w_5.heap.size ≤ w_6.heap.size := by have := hb6.size; simpa using this
    replace hb6 : Below (w_5.heap.size) w_5 w_6 := by simpa using hb6
    have S6 : Hid (Below w0.heap.size w0 w_6 ∧ RdBI w_6 (w1.heap.size) p (zp) ∧ OwnM w_6 (w1.heap.size) (w_2.heap.size) mv (ms) ∧ OwnI w_6 (w_5.heap.size) (w_6.heap.size) x (q)) := Lib.hid ⟨(S5.out.1).trans (hb6.mono (by omega)), (S5.out.2.1).below (hb6.mono (by omega)), (S5.out.2.2).belowB hb6 (by omega), (by simpa using ho6)⟩
    clear S5
    clear ho6 hb6
    go_wp2_with fail
    refine (ProgParts_I _ q _ ((S6.out.2.2.2).rd) (by omega) _ HPS.out).mono ?_
    rintro e w_7 ⟨parts, rfl, ho7, hb7⟩
    have hz7 : w_6.heap.size ≤ w_7.heap.size := by have := hb7.size; simpa using this
    replace hb7 : Below (w_6.heap.size) w_6 w_7 := by simpa using hb7
    have S7 : Hid (Below w0.heap.size w0 w_7 ∧ RdBI w_7 (w1.heap.size) p (zp) ∧ OwnM w_7 (w1.heap.size) (w_2.heap.size) mv (ms) ∧ OwnI w_7 (w_5.heap.size) (w_6.heap.size) x (q) ∧ OwnS w_7 (w_6.heap.size) (w_7.heap.size) parts (ps)) := Lib.hid ⟨(S6.out.1).trans (hb7.mono (by omega)), (S6.out.2.1).below (hb7.mono (by omega)), (S6.out.2.2.1).belowB hb7 (by omega), (S6.out.2.2.2).belowB hb7 (by omega), (by simpa using ho7)⟩
    clear S6
    clear ho7 hb7
    -- at w_7: S7: base p mv x parts
    obtain ⟨Am, cm, hmv, _⟩ := (S7.out.2.2.1).rd
    subst hmv
    obtain ⟨Ap, cp, hpv, _⟩ := (S7.out.2.2.2.2).rd
    subst hpv
    go_wp2
    go_loopw [7] (fun i wr => ∃ j : Nat, j ≤ ps.length ∧ i = .int .i64 j ∧ w_7.heap.size ≤ wr.heap.size ∧ Below w0.heap.size w0 wr ∧ RdBI wr w1.heap.size p zp ∧ OwnM wr w1.heap.size w_2.heap.size (.slice Am ms.length cm) ms ∧ OwnI wr w_5.heap.size w_6.heap.size x q) (fun i _ => ps.length - (intOf i).toNat)
    case atStart => exact ⟨0, Nat.zero_le _, rfl, Nat.le_refl _, S7.out.1, S7.out.2.1, S7.out.2.2.1, S7.out.2.2.2.1⟩
    case round =>
      clear S7
      obtain ⟨j, hj, rfl, hsz, q1, q2, q3, q4⟩ := hrel
      have Q := Lib.hid (And.intro q1 (And.intro q2 (And.intro q3 q4))); clear q1 q2 q3 q4
      by_cases hgo : j < ps.length ∧ ms.length < 100
      · obtain ⟨hlt, hfull⟩ := hgo
        have hltI : (j : Int) < ps.length := by omega
        have hfI : (ms.length : Int) < 100 := by omega
        go_wp2_with fail
        refine (MovesAt_I _ q (j : Int) _ Q.out.2.2.2.rd (by omega) (wf_near _ (by omega)) [] (HR.out.2.2.2 hfull _) (HT.out.below Q.out.1 hgl)).mono ?_
        rintro e w8 ⟨u, rfl, ho, hb8⟩
        have hz8 := hb8.size
        obtain ⟨Au, cu, rfl, _⟩ := ho.rd
        have V := Lib.hid (And.intro (Q.out.1.trans (hb8.mono (by omega))) (And.intro (Q.out.2.1.below (hb8.mono (by omega))) (And.intro (Q.out.2.2.1.below hb8) (Q.out.2.2.2.below hb8)))); clear ho hb8 Q
        go_wp2
        go_roundw
        case rel => exact ⟨j + 1, by omega, by go_num, by omega, V.out⟩
        case measure => simp [intOf]; omega
      · have hml2 : (ms.length : Int) ≤ 100 := by omega
        by_cases hlt : j < ps.length
        · have hltI : (j : Int) < ps.length := by omega
          have hfI : ¬ (ms.length : Int) < 100 := by omega
          go_wp2_with fail
          refine (ProofOk_I _ zp _ q _ ms _ (Q.out.2.1.rd (by omega)) (by omega) Q.out.2.2.2.rd (by omega) Q.out.2.2.1.rd true HR.out.2.2.1 (HT.out.below Q.out.1 hgl)).mono ?_
          rintro e w8 ⟨rfl, hb8⟩
          have V := Lib.hid (Q.out.1.trans (hb8.mono (by omega))); clear hb8 Q
          go_wp2
          go_ret
          exact ⟨rfl, V.out⟩
        · obtain rfl : j = ps.length := by omega
          go_wp2_with fail
          refine (ProofOk_I _ zp _ q _ ms _ (Q.out.2.1.rd (by omega)) (by omega) Q.out.2.2.2.rd (by omega) Q.out.2.2.1.rd true HR.out.2.2.1 (HT.out.below Q.out.1 hgl)).mono ?_
          rintro e w8 ⟨rfl, hb8⟩
          have V := Lib.hid (Q.out.1.trans (hb8.mono (by omega))); clear hb8 Q
          go_wp2
          go_ret
          exact ⟨rfl, V.out⟩

theorem fnSimpleBy_named : Tryd.prog.globalNamed "loop.example/stackwords/impl.ruleTakes" = some 0 := by kernel_rfl
theorem fnSimpleBy_type : (Tryd.prog.globals[0]?).map (·.type) = some 92 := by kernel_rfl

theorem fnSimpleBy_walk : LawWalkL 5 Tryd.f5 Rows.fnSimpleByRow.laid := by
  intro H enc W base args ds ps hval hA hL _
  rw [Tryd.params5] at hA hval
  obtain ⟨v0, d0, rfl, rfl, h0⟩ := trodAll_one hA
  obtain ⟨A0, c0, zs0, rfl, hi0, hc0⟩ := ints_of_trod Tryd.underlying22 Tryd.underlying5 cells_byte (hval 0 _ _ rfl rfl) h0
  exact fnSimpleBy_any A0 c0 zs0 W (RdC.mk hi0 hc0) (intTab_of_laid fnSimpleBy_named fnSimpleBy_type Tryd.underlying92 Tryd.underlying3 (by kernel_rfl) (by kernel_rfl) (zs := takesL) (List.mem_singleton.2 rfl) (by decide) hL)

noncomputable def fnSimpleBy_world (os : Os) : World :=
  { World.holding Tryd.prog os ⟨#[], #[], []⟩ with heap := (World.holding Tryd.prog os ⟨#[], #[], []⟩).heap.modify 0 fun
      | .cells _ t frozen => .cells (intVals takesL).toArray t frozen
      | o => o }
theorem fnSimpleBy_met (os : Os) : laidMet Tryd.prog Rows.fnSimpleByRow.laid ((fnSimpleBy_world os).forCall (fun _ _ => 0) ⟨#[], #[.slice none 0 0], []⟩).memory :=
  laidMet_of_run' 8 (by kernel_rfl) (by kernel_rfl)
theorem fnSimpleBy_reads (os : Os) {H : Type} (enc : TypeId × Value → H) : ∃ places, DataW.whole enc Tryd.prog ((fnSimpleBy_world os).forCall (fun _ _ => 0) ⟨#[], #[.slice none 0 0], []⟩).memory Tryd.f5.params.toList Rows.fnSimpleBySpec.vars false #[.slice none 0 0].toList 8 = some ([.nil], [intData takesL], places) := by
  have h : (DataW.whole enc Tryd.prog ((fnSimpleBy_world os).forCall (fun _ _ => 0) ⟨#[], #[.slice none 0 0], []⟩).memory Tryd.f5.params.toList Rows.fnSimpleBySpec.vars false #[.slice none 0 0].toList 8).map (fun x => (x.1, x.2.1)) = some ([.nil], [intData takesL]) := by kernel_rfl
  obtain ⟨⟨a, b, c⟩, h1, h2⟩ := Option.map_eq_some_iff.1 h
  simp only [Prod.mk.injEq] at h2
  obtain ⟨rfl, rfl⟩ := h2
  exact ⟨c, h1⟩
theorem fnSimpleBy_readable : Tryd.prog.readableRec 92 = true ∧ 92 < Tryd.prog.types.size := ⟨by kernel_rfl, of_decide_eq_true (by kernel_rfl)⟩

set_option maxRecDepth 100000 in
theorem fnSimpleBy_lifted (os : Os) (started : os.Started) (H : Type) (enc : TypeId × Value → H) (F : Stop.Interp) :
    ReturnsInHanded {} Tryd.checked os 5 .any ((OpenSpec.ofChange Rows.fnSimpleBySpec).preRow enc Tryd.prog Tryd.f5 Rows.fnSimpleByRow.domain false Rows.fnSimpleByRow.laid) (((OpenSpec.ofChange Rows.fnSimpleBySpec).at F).post enc Tryd.prog Tryd.f5 false true false false) := by
  obtain ⟨places, hx⟩ := fnSimpleBy_reads os enc
  refine returnsInHanded_of_row (C := Tryd.checked) (s := OpenSpec.ofChange Rows.fnSimpleBySpec) own started (by kernel_rfl) Tryd.func5
    (witness_row_at (enc := enc) (C := Tryd.checked) false (fnSimpleBy_world os) #[.slice none 0 0] rfl (by kernel_rfl) (by kernel_rfl) (by kernel_rfl)
      (OpenSpec.preRow_of_cond 8 hx (by kernel_rfl) (fun k hk => by cases hk) (by kernel_rfl) (fnSimpleBy_met os))) ?_
  intro W base args ds gs before hval hW _ _ _ hL hsh _
  have hA := hW
  obtain ⟨p, q, hA, hV, _⟩ := hA
  refine (fnSimpleBy_walk H enc W base args ds p hval hA hL hsh).mono fun e W' ⟨he, hb⟩ => ⟨_, he, ?_⟩
  obtain ⟨g, t, cs, fuel, d, p', rfl, _⟩ := trodVars_one hV
  have hd := (trodAll_length hA).2
  match ds, hd with
  | [d0], _ =>
    refine post_lawV (s := Rows.fnSimpleBySpec) laidOut hW (by kernel_rfl) ?_ rfl Tryd.underlying4 ⟨rfl, rfl, rfl⟩ hb
    intro n hn g t hg ht
    obtain rfl : n = "loop.example/stackwords/impl.ruleTakes" := by simpa [Rows.fnSimpleBySpec] using hn
    obtain rfl := Option.some.inj (fnSimpleBy_named.symm.trans hg)
    obtain rfl := Option.some.inj (fnSimpleBy_type.symm.trans ht)
    exact fnSimpleBy_readable

theorem fnSimpleBy_said : Rows.FnSimpleBySaid :=
  OpenClaim.holds_of_cond 5 Tryd.f5 rfl rfl rfl rfl rfl rfl rfl ⟨rfl, rfl, rfl, rfl, rfl⟩ rfl rfl rfl rfl rfl (by kernel_rfl) Tryd.func5 (by unfold joinedFacts; rw [pf_enter, pf_lifts, pf_make]; kernel_rfl)
    (of_decide_eq_true (by kernel_rfl)) (by unfold Func.isWrapper; first | (rw [if_pos (by decide +kernel)]; kernel_rfl) | (rw [if_neg (by decide +kernel)]; exact ⟨rfl, rfl⟩))
    (fun os started H enc _ F => by rw [OpenClaim.pre_eq_preRow]; exact fnSimpleBy_lifted os started H enc F)

theorem fnSimpleBy_plain (f : FuncId) (fn : Func) (hf : Tryd.pinned.checked.prog.funcNamed "loop.example/stackwords/laws.FnSimpleBy" = some f) (hfn : Tryd.pinned.checked.prog.funcs[f]? = some fn) :
    false = Tryd.pinned.checked.prog.looks [] ∧ ∀ (j : Nat) t, fn.params[j]? = some t → Tryd.pinned.checked.prog.wantsStandIn t = false := by
  obtain rfl : f = 5 := Option.some.inj ((show Tryd.prog.funcNamed "loop.example/stackwords/laws.FnSimpleBy" = some 5 by kernel_rfl).symm.trans hf) |>.symm
  obtain rfl : fn = Tryd.f5 := (Option.some.inj (Tryd.func5.symm.trans hfn)).symm
  refine ⟨by kernel_rfl, fun j t ht => ?_⟩
  rw [Tryd.params5] at ht
  have hm := Array.mem_of_getElem? ht
  simp only [List.mem_toArray, List.mem_cons, List.not_mem_nil, or_false] at hm
  rcases hm with rfl
  · exact (show Tryd.prog.wantsStandIn 22 = false by kernel_rfl)

/-- FnSimpleBy: the card, as it is given. -/
theorem fnSimpleBy_card : Rows.FnSimpleByCardSaid :=
  Claim7.holds_tied_plain_at .later [] _ _ _ _ fnSimpleBy_said (fun _ h => by cases h) (by kernel_rfl) (fun _ h => by cases h) fnSimpleBy_row_tie rfl ⟨rfl, rfl⟩ (by kernel_rfl) rfl fnSimpleBy_plain (by kernel_rfl)

end Go.Proofs.YtgbpbcghblmiaaaDoor
