/- FnProofRun: of every code: ProofRun is its model at the drawn program and moves; in two parts, one after the other, the moves lead to the same program. For every input; ruleTakes holds what the program's text lays. -/
import Derived.Test.YtgbpbcghblmiaaaDoorKq
import Derived.Test.YtgbpbcghblmiaaaDoorB9
import Derived.Test.YtgbpbcghblmiaaaDoorB5
import Derived.Test.YtgbpbcghblmiaaaDoorBb
import Derived.Test.YtgbpbcghblmiaaaDoorF1
import Derived.Test.YtgbpbcghblmiaaaDoorF2
import Derived.Test.YtgbpbcghblmiaaaDoorF3
import Derived.Test.YtgbpbcghblmiaaaDoorTie
import Derived.Test.YtgbpbcghblmiaaaDoorCards
import Derived.SevenTiedAt
namespace Go.Proofs.YtgbpbcghblmiaaaDoor
set_option maxRecDepth 100000
open Go.RowKit Go.WideShapes Go.ChangeShapes

theorem RdBM.taken {w : World} {B n c c' : Nat} {A : Option Addr} {ms : List (Int × Int)} (h : RdBM w B (.slice A ms.length c) ms) (hn : n ≤ ms.length) : RdBM w B (.slice A n c') (ms.take n) := by
  obtain ⟨A', c2, e, hl, hr⟩ := h
  cases e
  have hln : (ms.take n).length = n := by rw [List.length_take]; omega
  refine ⟨A, c', by rw [hln], by rw [hln]; omega, fun h0 => ?_⟩
  rw [hln] at h0
  obtain ⟨b, off, rfl, hb, hc⟩ := hr (by omega)
  refine ⟨b, off, rfl, hb, fun j m hj => hc j m ?_⟩
  rw [List.getElem?_take] at hj
  split at hj
  · exact hj
  · cases hj
theorem RdBM.dropped {w : World} {B b off k c c' : Nat} {ms : List (Int × Int)} (h : RdBM w B (.slice (some ⟨b, off, none⟩) ms.length c) ms) (hk : k ≤ ms.length) (n : Nat) (hn : n = ms.length - k) : RdBM w B (.slice (some ⟨b, off + k * 2, none⟩) n c') (ms.drop k) := by
  obtain ⟨A', c2, e, hl, hr⟩ := h
  cases e
  have hln : (ms.drop k).length = n := by rw [List.length_drop, hn]
  refine ⟨_, c', by rw [hln], by rw [hln]; omega, fun h0 => ?_⟩
  rw [hln] at h0
  obtain ⟨b', off', e', hb, hc⟩ := hr (by omega)
  cases e'
  refine ⟨b, off + k * 2, rfl, hb, fun j m hj => ?_⟩
  rw [List.getElem?_drop] at hj
  have := hc (k + j) m hj
  rw [show off + (k + j) * 2 = off + k * 2 + j * 2 from by omega] at this
  exact this
theorem proofRunR_two {p y : List Int} {ms : List (Int × Int)} {k : Nat} (h : proofRunR p ms = (y, true)) : ∃ a, proofRunR p (ms.take k) = (a, true) ∧ proofRunR a (ms.drop k) = (y, true) ∧ a.length ≤ 60 ∧ p.length ≤ 60 ∧ ms.length ≤ 100 := by
  unfold proofRunR at h
  split at h
  · rename_i hc
    have hm : movedR p ms = some y := by
      rcases hq : movedR p ms with _ | q
      · rw [hq] at h; cases h
      · rw [hq] at h; cases h; rfl
    rw [← List.take_append_drop k ms, movedR_append] at hm
    rcases ha : movedR p (ms.take k) with _ | a
    · rw [ha] at hm; cases hm
    · rw [ha] at hm
      have hm2 : movedR a (ms.drop k) = some y := hm
      have hva := movedR_valid hc.1 ha
      refine ⟨a, ?_, ?_, validB_len hva, validB_len hc.1, hc.2⟩
      · unfold proofRunR; rw [if_pos ⟨hc.1, by rw [List.length_take]; omega⟩, ha]
      · unfold proofRunR; rw [if_pos ⟨hva, by rw [List.length_drop]; omega⟩, hm2]
  · cases h
theorem proofRunR_no {p y : List Int} {ms : List (Int × Int)} (h : proofRunR p ms = (y, false)) : y = [] := by
  unfold proofRunR at h
  split at h
  · split at h
    · cases h; rfl
    · cases h
  · cases h; rfl

set_option maxHeartbeats 4000000 in
theorem fnProofRun_any (A0 : Option Addr) (c0 : Nat) (x0 : List Int) (w0 : World) (h0 : RdC w0 (.slice A0 x0.length c0) x0) (htab : IntTab w0 0 takesL) :
    Calls Tryd.prog 3 #[.slice A0 x0.length c0] w0 fun e w' => e = .returned (.bool true) ∧ Below w0.heap.size w0 w' := by
  have hm := h0.len_le
  have hgl := htab.lt
  have HT := Lib.hid htab; clear htab
  have HH := Lib.hid h0; clear h0
  by_cases hl : x0.length ≤ 1048576
  case neg =>
    go_enter Tryd.func3, Tryd.ntmps3
    go_wp2
    go_ret
    exact ⟨rfl, Below.refl _ _⟩
  go_enter Tryd.func3, Tryd.ntmps3
  go_wp2_with fail
  refine (DrawProofRun_any _ x0 _ HH.out).mono ?_
  rintro e w1 ⟨p, zp, A, c, ms, m, rfl, hp, hpl, hm1, hm2, hmv, hml, hb⟩
  have hz1 := hb.size
  have hcap := OwnP.cap hmv
  have hform : (A = none ∧ c = 0 ∧ ms.length = 0) ∨ ∃ g, A = some ⟨g, 0, none⟩ := by
    rcases hmv.own.2 with ⟨e, h0⟩ | ⟨g, cap, cur, e, _⟩
    · simp only [Value.slice.injEq] at e; exact .inl ⟨e.1, e.2.2, h0⟩
    · simp only [Value.slice.injEq] at e; exact .inr ⟨g, e.1⟩
  have S1 : Hid (Below w0.heap.size w0 w1 ∧ RdBI w1 w1.heap.size p zp ∧ RdBM w1 w1.heap.size (.slice A ms.length c) ms) := Lib.hid ⟨hb, hp.rd.at_, hmv.rd.at_⟩
  clear hp hmv hb HH
  rcases hR : proofRunR zp ms with ⟨y, ok⟩
  have hbb : (ok != ok) = false := by simp
  have HR := Lib.hid hR; clear hR
  have hyl : y.length ≤ 60 := by
    rcases ok with _ | _
    · rw [proofRunR_no HR.out]; simp
    · obtain ⟨a, _, h2, _⟩ := proofRunR_two (k := ms.length) HR.out
      rw [List.drop_length] at h2
      unfold proofRunR at h2
      split at h2
      · rename_i hc
        rw [movedR] at h2; cases h2; exact validB_len hc.1
      · cases h2
  go_wp2_with fail
  refine (ProofRun_I _ zp _ ms _ ((S1.out.2.1).rd (by first | omega | (simp <;> omega))) (by omega) ((S1.out.2.2).rd (by first | omega | (simp <;> omega))) y ok HR.out (HT.out.below (S1.out.1) hgl)).mono ?_
  rintro e w_2 ⟨x, rfl, ho2, hb2⟩
  have hz2 : w1.heap.size ≤ w_2.heap.size := by have := hb2.size; simpa using this
  replace hb2 : Below (w1.heap.size) w1 w_2 := by simpa using hb2
  have S2 : Hid (Below w0.heap.size w0 w_2 ∧ RdBI w_2 (w1.heap.size) p (zp) ∧ RdBM w_2 (w1.heap.size) (.slice A ms.length c) (ms) ∧ OwnI w_2 (w1.heap.size) (w_2.heap.size) x (y)) := Lib.hid ⟨(S1.out.1).trans (hb2.mono (by omega)), (S1.out.2.1).below (hb2.mono (by omega)), (S1.out.2.2).below (hb2.mono (by omega)), (by simpa using ho2)⟩
  clear S1
  clear ho2 hb2
  go_wp2_with fail
  refine (ProofRun_S _ zp _ ms _ ((S2.out.2.1).rd (by first | omega | (simp <;> omega))) (by omega) ((S2.out.2.2.1).rd (by first | omega | (simp <;> omega))) y ok HR.out).mono ?_
  rintro e w_3 ⟨z, rfl, ho3, hb3⟩
  have hz3 : w_2.heap.size ≤ w_3.heap.size := by have := hb3.size; simpa using this
  replace hb3 : Below (w_2.heap.size) w_2 w_3 := by simpa using hb3
  have S3 : Hid (Below w0.heap.size w0 w_3 ∧ RdBI w_3 (w1.heap.size) p (zp) ∧ RdBM w_3 (w1.heap.size) (.slice A ms.length c) (ms) ∧ OwnI w_3 (w1.heap.size) (w_2.heap.size) x (y) ∧ OwnI w_3 (w_2.heap.size) (w_3.heap.size) z (y)) := Lib.hid ⟨(S2.out.1).trans (hb3.mono (by omega)), (S2.out.2.1).below (hb3.mono (by omega)), (S2.out.2.2.1).below (hb3.mono (by omega)), (S2.out.2.2.2).belowB hb3 (by omega), (by simpa using ho3)⟩
  clear S2
  clear ho3 hb3
  go_wp2_with fail
  refine (smI _ _ _ _ _ ((S3.out.2.2.2.1).rd) ((S3.out.2.2.2.2).rd) true (decide_eq_true rfl)).mono ?_
  rintro e w_4 ⟨rfl, hb4⟩
  have hz4 : w_3.heap.size ≤ w_4.heap.size := by have := hb4.size; simpa using this
  replace hb4 : Below (w_3.heap.size) w_3 w_4 := by simpa using hb4
  have S4 : Hid (Below w0.heap.size w0 w_4 ∧ RdBI w_4 (w1.heap.size) p (zp) ∧ RdBM w_4 (w1.heap.size) (.slice A ms.length c) (ms) ∧ OwnI w_4 (w1.heap.size) (w_2.heap.size) x (y)) := Lib.hid ⟨(S3.out.1).trans (hb4.mono (by omega)), (S3.out.2.1).below (hb4.mono (by omega)), (S3.out.2.2.1).below (hb4.mono (by omega)), (S3.out.2.2.2.1).belowB hb4 (by omega)⟩
  clear S3
  clear hb4
  -- at w_4: S4: base p mv x
  rcases ok with _ | _
  · obtain rfl := proofRunR_no HR.out
    obtain ⟨Ax, cx, rfl, _⟩ := (S4.out.2.2.2).rd
    go_wp2_with fail
    refine (alive_any _).mono ?_
    rintro e w5 ⟨rfl, hb⟩
    have T := Lib.hid (S4.out.1.trans (hb.mono (by omega))); clear hb
    go_wp2
    go_ret
    exact ⟨rfl, T.out⟩
  · obtain ⟨a, ha1, ha2, hal, _, hm100⟩ := proofRunR_two (k := ms.length / 2) HR.out
    have HA := Lib.hid (And.intro ha1 ha2); clear ha1 ha2
    by_cases hc0 : c = 0
    · have hnil : ms = [] := List.eq_nil_of_length_eq_zero (by omega)
      subst hnil
      subst hc0
      have hA2 : Hid (proofRunR zp [] = (a, true) ∧ proofRunR a [] = (y, true)) := Lib.hid ⟨by simpa using HA.out.1, by simpa using HA.out.2⟩
      clear HA
      go_wp2_with fail
      refine (ProofRun_I _ zp _ [] _ ((S4.out.2.1).rd (by omega)) (by omega) ⟨_, _, rfl, by simp, fun h => by simp at h⟩ a true hA2.out.1 (HT.out.below S4.out.1 hgl)).mono ?_
      rintro e w5 ⟨ua, rfl, ho, hb5⟩
      have hz5 := hb5.size
      have T := Lib.hid (And.intro (S4.out.1.trans (hb5.mono (by omega))) (And.intro ho (S4.out.2.2.2.below hb5))); clear ho hb5 S4
      go_wp2_with fail
      refine (ProofRun_I _ a _ [] _ T.out.2.1.rd (by omega) ⟨_, _, rfl, by simp, fun h => by simp at h⟩ y true hA2.out.2 (HT.out.below T.out.1 hgl)).mono ?_
      rintro e w6 ⟨ub, rfl, ho, hb6⟩
      have hz6 := hb6.size
      have U := Lib.hid (And.intro (T.out.1.trans (hb6.mono (by omega))) (And.intro ho (T.out.2.2.below hb6))); clear ho hb6 T
      go_wp2_with fail
      refine (smI _ _ y y _ U.out.2.1.rd U.out.2.2.rd true (decide_eq_true rfl)).mono ?_
      rintro e w7 ⟨rfl, hb7⟩
      have V := Lib.hid (U.out.1.trans (hb7.mono (by omega))); clear hb7 U
      go_wp2
      go_ret
      exact ⟨rfl, V.out⟩
    · obtain ⟨g, rfl⟩ : ∃ g, A = some ⟨g, 0, none⟩ := by
        rcases hform with ⟨_, h, _⟩ | h
        · exact absurd h hc0
        · exact h
      have hlt : ms.length / 2 < c := by omega
      have hne : ¬ c = ms.length / 2 := by omega
      clear hform
      go_wp2_with fail
      refine (ProofRun_I _ zp _ (ms.take (ms.length / 2)) _ ((S4.out.2.1).rd (by omega)) (by omega) (RdBM.taken ((S4.out.2.2.1).rd (by omega)) (by omega)) a true HA.out.1 (HT.out.below S4.out.1 hgl)).mono ?_
      rintro e w5 ⟨ua, rfl, ho, hb5⟩
      have hz5 := hb5.size
      have T := Lib.hid (And.intro (S4.out.1.trans (hb5.mono (by omega))) (And.intro ho (And.intro (S4.out.2.2.2.below hb5) (S4.out.2.2.1.below (hb5.mono (by omega)))))); clear ho hb5 S4
      go_wp2_with fail
      refine (ProofRun_I _ a _ (ms.drop (ms.length / 2)) _ T.out.2.1.rd (by omega) (by have h := RdBM.dropped (c' := c - ms.length / 2) ((T.out.2.2.2).rd (by omega)) (show ms.length / 2 ≤ ms.length by omega) _ rfl; simpa using h) y true HA.out.2 (HT.out.below T.out.1 hgl)).mono ?_
      rintro e w6 ⟨ub, rfl, ho, hb6⟩
      have hz6 := hb6.size
      have U := Lib.hid (And.intro (T.out.1.trans (hb6.mono (by omega))) (And.intro ho (T.out.2.2.1.below hb6))); clear ho hb6 T
      go_wp2_with fail
      refine (smI _ _ y y _ U.out.2.1.rd U.out.2.2.rd true (decide_eq_true rfl)).mono ?_
      rintro e w7 ⟨rfl, hb7⟩
      have V := Lib.hid (U.out.1.trans (hb7.mono (by omega))); clear hb7 U
      go_wp2
      go_ret
      exact ⟨rfl, V.out⟩

theorem fnProofRun_named : Tryd.prog.globalNamed "loop.example/stackwords/impl.ruleTakes" = some 0 := by kernel_rfl
theorem fnProofRun_type : (Tryd.prog.globals[0]?).map (·.type) = some 92 := by kernel_rfl

theorem fnProofRun_walk : LawWalkL 3 Tryd.f3 Rows.fnProofRunRow.laid := by
  intro H enc W base args ds ps hval hA hL _
  rw [Tryd.params3] at hA hval
  obtain ⟨v0, d0, rfl, rfl, h0⟩ := trodAll_one hA
  obtain ⟨A0, c0, zs0, rfl, hi0, hc0⟩ := ints_of_trod Tryd.underlying22 Tryd.underlying5 cells_byte (hval 0 _ _ rfl rfl) h0
  exact fnProofRun_any A0 c0 zs0 W (RdC.mk hi0 hc0) (intTab_of_laid fnProofRun_named fnProofRun_type Tryd.underlying92 Tryd.underlying3 (by kernel_rfl) (by kernel_rfl) (zs := takesL) (List.mem_singleton.2 rfl) (by decide) hL)

noncomputable def fnProofRun_world (os : Os) : World :=
  { World.holding Tryd.prog os ⟨#[], #[], []⟩ with heap := (World.holding Tryd.prog os ⟨#[], #[], []⟩).heap.modify 0 fun
      | .cells _ t frozen => .cells (intVals takesL).toArray t frozen
      | o => o }
theorem fnProofRun_met (os : Os) : laidMet Tryd.prog Rows.fnProofRunRow.laid ((fnProofRun_world os).forCall (fun _ _ => 0) ⟨#[], #[.slice none 0 0], []⟩).memory :=
  laidMet_of_run' 8 (by kernel_rfl) (by kernel_rfl)
theorem fnProofRun_reads (os : Os) {H : Type} (enc : TypeId × Value → H) : ∃ places, DataW.whole enc Tryd.prog ((fnProofRun_world os).forCall (fun _ _ => 0) ⟨#[], #[.slice none 0 0], []⟩).memory Tryd.f3.params.toList Rows.fnProofRunSpec.vars false #[.slice none 0 0].toList 8 = some ([.nil], [intData takesL], places) := by
  have h : (DataW.whole enc Tryd.prog ((fnProofRun_world os).forCall (fun _ _ => 0) ⟨#[], #[.slice none 0 0], []⟩).memory Tryd.f3.params.toList Rows.fnProofRunSpec.vars false #[.slice none 0 0].toList 8).map (fun x => (x.1, x.2.1)) = some ([.nil], [intData takesL]) := by kernel_rfl
  obtain ⟨⟨a, b, c⟩, h1, h2⟩ := Option.map_eq_some_iff.1 h
  simp only [Prod.mk.injEq] at h2
  obtain ⟨rfl, rfl⟩ := h2
  exact ⟨c, h1⟩
theorem fnProofRun_readable : Tryd.prog.readableRec 92 = true ∧ 92 < Tryd.prog.types.size := ⟨by kernel_rfl, of_decide_eq_true (by kernel_rfl)⟩

set_option maxRecDepth 100000 in
theorem fnProofRun_lifted (os : Os) (started : os.Started) (H : Type) (enc : TypeId × Value → H) (F : Stop.Interp) :
    ReturnsInHanded {} Tryd.checked os 3 .any ((OpenSpec.ofChange Rows.fnProofRunSpec).preRow enc Tryd.prog Tryd.f3 Rows.fnProofRunRow.domain false Rows.fnProofRunRow.laid) (((OpenSpec.ofChange Rows.fnProofRunSpec).at F).post enc Tryd.prog Tryd.f3 false true false false) := by
  obtain ⟨places, hx⟩ := fnProofRun_reads os enc
  refine returnsInHanded_of_row (C := Tryd.checked) (s := OpenSpec.ofChange Rows.fnProofRunSpec) own started (by kernel_rfl) Tryd.func3
    (witness_row_at (enc := enc) (C := Tryd.checked) false (fnProofRun_world os) #[.slice none 0 0] rfl (by kernel_rfl) (by kernel_rfl) (by kernel_rfl)
      (OpenSpec.preRow_of_cond 8 hx (by kernel_rfl) (fun k hk => by cases hk) (by kernel_rfl) (fnProofRun_met os))) ?_
  intro W base args ds gs before hval hW _ _ _ hL hsh _
  have hA := hW
  obtain ⟨p, q, hA, hV, _⟩ := hA
  refine (fnProofRun_walk H enc W base args ds p hval hA hL hsh).mono fun e W' ⟨he, hb⟩ => ⟨_, he, ?_⟩
  obtain ⟨g, t, cs, fuel, d, p', rfl, _⟩ := trodVars_one hV
  have hd := (trodAll_length hA).2
  match ds, hd with
  | [d0], _ =>
    refine post_lawV (s := Rows.fnProofRunSpec) laidOut hW (by kernel_rfl) ?_ rfl Tryd.underlying4 ⟨rfl, rfl, rfl⟩ hb
    intro n hn g t hg ht
    obtain rfl : n = "loop.example/stackwords/impl.ruleTakes" := by simpa [Rows.fnProofRunSpec] using hn
    obtain rfl := Option.some.inj (fnProofRun_named.symm.trans hg)
    obtain rfl := Option.some.inj (fnProofRun_type.symm.trans ht)
    exact fnProofRun_readable

theorem fnProofRun_said : Rows.FnProofRunSaid :=
  OpenClaim.holds_of_cond 3 Tryd.f3 rfl rfl rfl rfl rfl rfl rfl ⟨rfl, rfl, rfl, rfl, rfl⟩ rfl rfl rfl rfl rfl (by kernel_rfl) Tryd.func3 (by unfold joinedFacts; rw [pf_enter, pf_lifts, pf_make]; kernel_rfl)
    (of_decide_eq_true (by kernel_rfl)) (by unfold Func.isWrapper; first | (rw [if_pos (by decide +kernel)]; kernel_rfl) | (rw [if_neg (by decide +kernel)]; exact ⟨rfl, rfl⟩))
    (fun os started H enc _ F => by rw [OpenClaim.pre_eq_preRow]; exact fnProofRun_lifted os started H enc F)

theorem fnProofRun_plain (f : FuncId) (fn : Func) (hf : Tryd.pinned.checked.prog.funcNamed "loop.example/stackwords/laws.FnProofRun" = some f) (hfn : Tryd.pinned.checked.prog.funcs[f]? = some fn) :
    false = Tryd.pinned.checked.prog.looks [] ∧ ∀ (j : Nat) t, fn.params[j]? = some t → Tryd.pinned.checked.prog.wantsStandIn t = false := by
  obtain rfl : f = 3 := Option.some.inj ((show Tryd.prog.funcNamed "loop.example/stackwords/laws.FnProofRun" = some 3 by kernel_rfl).symm.trans hf) |>.symm
  obtain rfl : fn = Tryd.f3 := (Option.some.inj (Tryd.func3.symm.trans hfn)).symm
  refine ⟨by kernel_rfl, fun j t ht => ?_⟩
  rw [Tryd.params3] at ht
  have hm := Array.mem_of_getElem? ht
  simp only [List.mem_toArray, List.mem_cons, List.not_mem_nil, or_false] at hm
  rcases hm with rfl
  · exact (show Tryd.prog.wantsStandIn 22 = false by kernel_rfl)

/-- FnProofRun: the card, as it is given. -/
theorem fnProofRun_card : Rows.FnProofRunCardSaid :=
  Claim7.holds_tied_plain_at .later [] _ _ _ _ fnProofRun_said (fun _ h => by cases h) (by kernel_rfl) (fun _ h => by cases h) fnProofRun_row_tie rfl ⟨rfl, rfl⟩ (by kernel_rfl) rfl fnProofRun_plain (by kernel_rfl)

end Go.Proofs.YtgbpbcghblmiaaaDoor
