/- FnProofOk: of every two codes: ProofOk is its model at the drawn programs and moves; if moves prove it, the second program leaves the same of the drawn stack, and of the empty one, of which it is told what the first one leaves, in no more steps. For every input; ruleTakes holds what the program's text lays. -/
import Derived.Test.YtkdpfiaegimnlaaDoorKr
import Derived.Test.YtkdpfiaegimnlaaDoorDr
import Derived.Test.YtkdpfiaegimnlaaDoorB9
import Derived.Test.YtkdpfiaegimnlaaDoorB5
import Derived.Test.YtkdpfiaegimnlaaDoorB6
import Derived.Test.YtkdpfiaegimnlaaDoorBb
import Derived.Test.YtkdpfiaegimnlaaDoorF1
import Derived.Test.YtkdpfiaegimnlaaDoorF2
import Derived.Test.YtkdpfiaegimnlaaDoorF3
import Derived.Test.YtkdpfiaegimnlaaDoorTie
import Derived.Test.YtkdpfiaegimnlaaDoorCards
import Derived.SevenTiedAt
namespace Go.Proofs.YtkdpfiaegimnlaaDoor
set_option maxRecDepth 100000
open Go.RowKit Go.WideShapes Go.ChangeShapes

theorem rdS_nil0 (w : World) : RdS w (.slice none 0 0) [] := ⟨none, 0, rfl, by simp, fun h => by simp at h⟩
def keepsR (p q : List Int) : Prop := ∀ s l n, runOfR p s = (l, n, true) → ∃ m, runOfR q s = (l, m, true) ∧ m ≤ n
theorem proofOk_keeps {p q : List Int} {ms : List (Int × Int)} (h : proofOkR p q ms = true) : keepsR p q := by
  intro s l n hr
  unfold proofOkR at h
  simp only [Bool.and_eq_true, decide_eq_true_eq] at h
  obtain ⟨h1, h2⟩ := h
  unfold proofRunR at h1 h2
  split at h1
  · rename_i hc
    rw [if_pos hc] at h2
    rcases hm : movedR p ms with _ | x
    · rw [hm] at h1; cases h1
    · rw [hm] at h2
      have hx : x = q := h2
      subst hx
      exact moved_keeps hm hr
  · cases h1
set_option maxHeartbeats 2000000 in
theorem keeps_any (v0 : Value) (x0 : List Int) (v1 : Value) (x1 : List Int) (v2 : Value) (s : List (List Int)) (w : World) (h0 : RdI w v0 x0) (hl0 : x0.length ≤ 1048576) (h1 : RdI w v1 x1) (hl1 : x1.length ≤ 1048576) (h2 : RdS w v2 s) (hk : keepsR x0 x1) :
    Calls Tryd.prog 10 #[v0, v1, v2, .bool true] w fun e w' => e = .returned (.bool true) ∧ Below w.heap.size w w' := by
  have H := Lib.hid (And.intro h0 (And.intro h1 h2)); clear h0 h1 h2
  rcases hA : runOfR x0 s with ⟨za, na, oa⟩
  rcases hB : runOfR x1 s with ⟨zb, nb, ob⟩
  have HA := Lib.hid hA
  have HB := Lib.hid hB
  have hke : oa = true → ob = true ∧ zb = za ∧ nb ≤ na := by
    rintro rfl
    obtain ⟨m, h1, h2⟩ := hk s za na hA
    rw [hB] at h1; cases h1; exact ⟨rfl, rfl, h2⟩
  clear hA hB hk
  go_enter Tryd.func10, Tryd.ntmps10
  go_wp2_with fail
  refine (RunOf_I _ x0 _ s _ H.out.1 hl0 H.out.2.2 za na oa HA.out).mono ?_
  rintro e w1 ⟨u, rfl, ho, hb⟩
  have hz1 := hb.size
  have X := Lib.hid (And.intro hb (And.intro ho (And.intro (H.out.2.1.step hb) (H.out.2.2.step hb)))); clear hb ho H
  go_wp2_with fail
  refine (RunOf_I _ x1 _ s _ X.out.2.2.1 hl1 X.out.2.2.2 zb nb ob HB.out).mono ?_
  rintro e w2 ⟨u2, rfl, ho, hb⟩
  have hz2 := hb.size
  have Y := Lib.hid (And.intro (X.out.1.trans (hb.mono hz1)) (And.intro (X.out.2.1.below hb) ho)); clear hb ho X
  rcases oa with _ | _
  · go_wp2
    go_ret
    exact ⟨rfl, Y.out.1⟩
  · obtain ⟨rfl, hzz, hnm⟩ := hke rfl
    have HZ := Lib.hid hzz; clear hzz
    by_cases hlt : nb < na
    · go_wp2_with fail
      refine (smS _ _ za zb _ Y.out.2.1.rd Y.out.2.2.rd true (decide_eq_true HZ.out.symm)).mono ?_
      rintro e w3 ⟨rfl, hb⟩
      have Z := Lib.hid (Y.out.1.trans (hb.mono (by omega))); clear hb
      go_wp2
      go_ret
      exact ⟨rfl, Z.out⟩
    · obtain rfl : nb = na := by omega
      have hq : (nb == nb) = true := by simp
      go_wp2_with fail
      refine (smS _ _ za zb _ Y.out.2.1.rd Y.out.2.2.rd true (decide_eq_true HZ.out.symm)).mono ?_
      rintro e w3 ⟨rfl, hb⟩
      have Z := Lib.hid (Y.out.1.trans (hb.mono (by omega))); clear hb
      go_wp2
      go_ret
      exact ⟨rfl, Z.out⟩

set_option maxHeartbeats 4000000 in
theorem fnProofOk_any (A0 : Option Addr) (c0 : Nat) (x0 : List Int) (A1 : Option Addr) (c1 : Nat) (x1 : List Int) (w0 : World) (h0 : RdC w0 (.slice A0 x0.length c0) x0) (h1 : RdC w0 (.slice A1 x1.length c1) x1) (htab : IntTab w0 0 takesL) :
    Calls Tryd.prog 3 #[.slice A0 x0.length c0, .slice A1 x1.length c1] w0 fun e w' => e = .returned (.bool true) ∧ Below w0.heap.size w0 w' := by
  have hm := h0.len_le
  have hm1 := h1.len_le
  have hgl := htab.lt
  have HT := Lib.hid htab; clear htab
  have HH := Lib.hid (And.intro h0 h1); clear h0 h1
  by_cases hl : x0.length ≤ 1048576
  case neg =>
    go_enter Tryd.func3, Tryd.ntmps3
    go_wp2
    go_ret
    exact ⟨rfl, Below.refl _ _⟩
  by_cases hl1 : x1.length ≤ 1048576
  case neg =>
    go_enter Tryd.func3, Tryd.ntmps3
    go_wp2
    go_ret
    exact ⟨rfl, Below.refl _ _⟩
  go_enter Tryd.func3, Tryd.ntmps3
  go_wp2_with fail
  refine (DrawProofOk_any _ x0 _ HH.out.1).mono ?_
  rintro e w1 ⟨p, zp, q, zq, A, c, ms, rfl, hp, hpl, hq, hql, hmv, hml, hb⟩
  have hz1 := hb.size
  have S1 : Hid (Below w0.heap.size w0 w1 ∧ RdBC w1 w0.heap.size (.slice A1 x1.length c1) x1 ∧ RdBI w1 w1.heap.size p zp ∧ RdBI w1 w1.heap.size q zq ∧ RdBM w1 w1.heap.size (.slice A ms.length c) ms) := Lib.hid ⟨hb, RdBC.below HH.out.2 hb, hp.at_, hq.at_, hmv.at_⟩
  clear hp hq hmv hb HH
  rcases hR : proofOkR zp zq ms with _ | _
  all_goals
    have HR := Lib.hid hR; clear hR
  · skip
    go_wp2_with fail
    refine (ProofOk_I _ zp _ zq _ ms _ ((S1.out.2.2.1).rd (by first | omega | (simp <;> omega))) (by omega) ((S1.out.2.2.2.1).rd (by first | omega | (simp <;> omega))) (by omega) ((S1.out.2.2.2.2).rd (by first | omega | (simp <;> omega))) false HR.out (HT.out.below (S1.out.1) hgl)).mono ?_
    rintro e w_2 ⟨rfl, hb2⟩
    have hz2 : w1.heap.size ≤ w_2.heap.size := by have := hb2.size; simpa using this
    replace hb2 : Below (w1.heap.size) w1 w_2 := by simpa using hb2
    have S2 : Hid (Below w0.heap.size w0 w_2 ∧ RdBC w_2 w0.heap.size (.slice A1 x1.length c1) (x1) ∧ RdBI w_2 (w1.heap.size) p (zp) ∧ RdBI w_2 (w1.heap.size) q (zq) ∧ RdBM w_2 (w1.heap.size) (.slice A ms.length c) (ms)) := Lib.hid ⟨(S1.out.1).trans (hb2.mono (by omega)), (S1.out.2.1).below (hb2.mono (by omega)), (S1.out.2.2.1).below (hb2.mono (by omega)), (S1.out.2.2.2.1).below (hb2.mono (by omega)), (S1.out.2.2.2.2).below (hb2.mono (by omega))⟩
    clear S1
    clear hb2
    go_wp2_with fail
    refine (ProofOk_S _ zp _ zq _ ms _ ((S2.out.2.2.1).rd (by first | omega | (simp <;> omega))) (by omega) ((S2.out.2.2.2.1).rd (by first | omega | (simp <;> omega))) (by omega) ((S2.out.2.2.2.2).rd (by first | omega | (simp <;> omega))) false HR.out).mono ?_
    rintro e w_3 ⟨rfl, hb3⟩
    have hz3 : w_2.heap.size ≤ w_3.heap.size := by have := hb3.size; simpa using this
    replace hb3 : Below (w_2.heap.size) w_2 w_3 := by simpa using hb3
    have S3 : Hid (Below w0.heap.size w0 w_3 ∧ RdBC w_3 w0.heap.size (.slice A1 x1.length c1) (x1) ∧ RdBI w_3 (w1.heap.size) p (zp) ∧ RdBI w_3 (w1.heap.size) q (zq) ∧ RdBM w_3 (w1.heap.size) (.slice A ms.length c) (ms)) := Lib.hid ⟨(S2.out.1).trans (hb3.mono (by omega)), (S2.out.2.1).below (hb3.mono (by omega)), (S2.out.2.2.1).below (hb3.mono (by omega)), (S2.out.2.2.2.1).below (hb3.mono (by omega)), (S2.out.2.2.2.2).below (hb3.mono (by omega))⟩
    clear S2
    clear hb3
    -- at w_3: S3: base more p q mv
    go_wp2_with fail
    refine (alive_any _).mono ?_
    rintro e w5 ⟨rfl, hb⟩
    have T := Lib.hid (S3.out.1.trans (hb.mono (by omega))); clear hb
    go_wp2
    go_ret
    exact ⟨rfl, T.out⟩
  · have HK := Lib.hid (proofOk_keeps HR.out)
    go_wp2_with fail
    refine (ProofOk_I _ zp _ zq _ ms _ ((S1.out.2.2.1).rd (by first | omega | (simp <;> omega))) (by omega) ((S1.out.2.2.2.1).rd (by first | omega | (simp <;> omega))) (by omega) ((S1.out.2.2.2.2).rd (by first | omega | (simp <;> omega))) true HR.out (HT.out.below (S1.out.1) hgl)).mono ?_
    rintro e w_2 ⟨rfl, hb2⟩
    have hz2 : w1.heap.size ≤ w_2.heap.size := by have := hb2.size; simpa using this
    replace hb2 : Below (w1.heap.size) w1 w_2 := by simpa using hb2
    have S2 : Hid (Below w0.heap.size w0 w_2 ∧ RdBC w_2 w0.heap.size (.slice A1 x1.length c1) (x1) ∧ RdBI w_2 (w1.heap.size) p (zp) ∧ RdBI w_2 (w1.heap.size) q (zq) ∧ RdBM w_2 (w1.heap.size) (.slice A ms.length c) (ms)) := Lib.hid ⟨(S1.out.1).trans (hb2.mono (by omega)), (S1.out.2.1).below (hb2.mono (by omega)), (S1.out.2.2.1).below (hb2.mono (by omega)), (S1.out.2.2.2.1).below (hb2.mono (by omega)), (S1.out.2.2.2.2).below (hb2.mono (by omega))⟩
    clear S1
    clear hb2
    go_wp2_with fail
    refine (ProofOk_S _ zp _ zq _ ms _ ((S2.out.2.2.1).rd (by first | omega | (simp <;> omega))) (by omega) ((S2.out.2.2.2.1).rd (by first | omega | (simp <;> omega))) (by omega) ((S2.out.2.2.2.2).rd (by first | omega | (simp <;> omega))) true HR.out).mono ?_
    rintro e w_3 ⟨rfl, hb3⟩
    have hz3 : w_2.heap.size ≤ w_3.heap.size := by have := hb3.size; simpa using this
    replace hb3 : Below (w_2.heap.size) w_2 w_3 := by simpa using hb3
    have S3 : Hid (Below w0.heap.size w0 w_3 ∧ RdBC w_3 w0.heap.size (.slice A1 x1.length c1) (x1) ∧ RdBI w_3 (w1.heap.size) p (zp) ∧ RdBI w_3 (w1.heap.size) q (zq) ∧ RdBM w_3 (w1.heap.size) (.slice A ms.length c) (ms)) := Lib.hid ⟨(S2.out.1).trans (hb3.mono (by omega)), (S2.out.2.1).below (hb3.mono (by omega)), (S2.out.2.2.1).below (hb3.mono (by omega)), (S2.out.2.2.2.1).below (hb3.mono (by omega)), (S2.out.2.2.2.2).below (hb3.mono (by omega))⟩
    clear S2
    clear hb3
    -- at w_3: S3: base more p q mv
    go_wp2_with fail
    refine (DrawRunOf_any _ x1 _ (S3.out.2.1.rd (by omega))).mono ?_
    rintro e w5 ⟨x, zx, s, zss, rfl, _, _, hs, _, _, hb⟩
    have hz5 : w_3.heap.size ≤ w5.heap.size := hb.size
    have T := Lib.hid (And.intro (S3.out.1.trans (hb.mono (by omega))) (And.intro (S3.out.2.2.1.below (hb.mono (by omega))) (And.intro (S3.out.2.2.2.1.below (hb.mono (by omega))) hs.rd))); clear hs hb S3
    go_wp2_with fail
    refine (keeps_any _ zp _ zq _ zss _ (T.out.2.1.rd (by omega)) (by omega) (T.out.2.2.1.rd (by omega)) (by omega) T.out.2.2.2 HK.out).mono ?_
    rintro e w6 ⟨rfl, hb⟩
    have hz6 := hb.size
    have U := Lib.hid (And.intro (T.out.1.trans (hb.mono (by omega))) (And.intro (T.out.2.1.below (hb.mono (by omega))) (T.out.2.2.1.below (hb.mono (by omega))))); clear hb T
    go_wp2_with fail
    refine (keeps_any _ zp _ zq _ [] _ (U.out.2.1.rd (by omega)) (by omega) (U.out.2.2.rd (by omega)) (by omega) (rdS_nil0 _) HK.out).mono ?_
    rintro e w7 ⟨rfl, hb⟩
    have V := Lib.hid (U.out.1.trans (hb.mono (by omega))); clear hb U
    go_wp2
    go_ret
    exact ⟨rfl, V.out⟩

theorem fnProofOk_named : Tryd.prog.globalNamed "loop.example/stackwords/impl.ruleTakes" = some 0 := by kernel_rfl
theorem fnProofOk_type : (Tryd.prog.globals[0]?).map (·.type) = some 88 := by kernel_rfl

theorem fnProofOk_walk : LawWalkL 3 Tryd.f3 Rows.fnProofOkRow.laid := by
  intro H enc W base args ds ps hval hA hL _
  rw [Tryd.params3] at hA hval
  obtain ⟨v0, v1, d0, d1, p0, p1, rfl, rfl, rfl, h0, h1⟩ := trodAll_two hA
  obtain ⟨A0, c0, zs0, rfl, hi0, hc0⟩ := ints_of_trod Tryd.underlying22 Tryd.underlying5 cells_byte (hval 0 _ _ rfl rfl) h0
  obtain ⟨A1, c1, zs1, rfl, hi1, hc1⟩ := ints_of_trod Tryd.underlying22 Tryd.underlying5 cells_byte (hval 1 _ _ rfl rfl) h1
  exact fnProofOk_any A0 c0 zs0 A1 c1 zs1 W (RdC.mk hi0 hc0) (RdC.mk hi1 hc1) (intTab_of_laid fnProofOk_named fnProofOk_type Tryd.underlying88 Tryd.underlying3 (by kernel_rfl) (by kernel_rfl) (zs := takesL) (List.mem_singleton.2 rfl) (by decide) hL)

noncomputable def fnProofOk_world (os : Os) : World :=
  { World.holding Tryd.prog os ⟨#[], #[], []⟩ with heap := (World.holding Tryd.prog os ⟨#[], #[], []⟩).heap.modify 0 fun
      | .cells _ t frozen => .cells (intVals takesL).toArray t frozen
      | o => o }
theorem fnProofOk_met (os : Os) : laidMet Tryd.prog Rows.fnProofOkRow.laid ((fnProofOk_world os).forCall (fun _ _ => 0) ⟨#[], #[.slice none 0 0, .slice none 0 0], []⟩).memory :=
  laidMet_of_run' 8 (by kernel_rfl) (by kernel_rfl)
theorem fnProofOk_reads (os : Os) {H : Type} (enc : TypeId × Value → H) : ∃ places, DataW.whole enc Tryd.prog ((fnProofOk_world os).forCall (fun _ _ => 0) ⟨#[], #[.slice none 0 0, .slice none 0 0], []⟩).memory Tryd.f3.params.toList Rows.fnProofOkSpec.vars false #[.slice none 0 0, .slice none 0 0].toList 8 = some ([.nil, .nil], [intData takesL], places) := by
  have h : (DataW.whole enc Tryd.prog ((fnProofOk_world os).forCall (fun _ _ => 0) ⟨#[], #[.slice none 0 0, .slice none 0 0], []⟩).memory Tryd.f3.params.toList Rows.fnProofOkSpec.vars false #[.slice none 0 0, .slice none 0 0].toList 8).map (fun x => (x.1, x.2.1)) = some ([.nil, .nil], [intData takesL]) := by kernel_rfl
  obtain ⟨⟨a, b, c⟩, h1, h2⟩ := Option.map_eq_some_iff.1 h
  simp only [Prod.mk.injEq] at h2
  obtain ⟨rfl, rfl⟩ := h2
  exact ⟨c, h1⟩
theorem fnProofOk_readable : Tryd.prog.readableRec 88 = true ∧ 88 < Tryd.prog.types.size := ⟨by kernel_rfl, of_decide_eq_true (by kernel_rfl)⟩

set_option maxRecDepth 100000 in
theorem fnProofOk_lifted (os : Os) (started : os.Started) (H : Type) (enc : TypeId × Value → H) (F : Stop.Interp) :
    ReturnsInHanded {} Tryd.checked os 3 .any ((OpenSpec.ofChange Rows.fnProofOkSpec).preRow enc Tryd.prog Tryd.f3 Rows.fnProofOkRow.domain false Rows.fnProofOkRow.laid) (((OpenSpec.ofChange Rows.fnProofOkSpec).at F).post enc Tryd.prog Tryd.f3 false true false false) := by
  obtain ⟨places, hx⟩ := fnProofOk_reads os enc
  refine returnsInHanded_of_row (C := Tryd.checked) (s := OpenSpec.ofChange Rows.fnProofOkSpec) own started (by kernel_rfl) Tryd.func3
    (witness_row_at (enc := enc) (C := Tryd.checked) false (fnProofOk_world os) #[.slice none 0 0, .slice none 0 0] rfl (by kernel_rfl) (by kernel_rfl) (by kernel_rfl)
      (OpenSpec.preRow_of_cond 8 hx (by kernel_rfl) (fun k hk => by cases hk) (by kernel_rfl) (fnProofOk_met os))) ?_
  intro W base args ds gs before hval hW _ _ _ hL hsh _
  have hA := hW
  obtain ⟨p, q, hA, hV, _⟩ := hA
  refine (fnProofOk_walk H enc W base args ds p hval hA hL hsh).mono fun e W' ⟨he, hb⟩ => ⟨_, he, ?_⟩
  obtain ⟨g, t, cs, fuel, d, p', rfl, _⟩ := trodVars_one hV
  have hd := (trodAll_length hA).2
  match ds, hd with
  | [d0, d1], _ =>
    refine post_lawV (s := Rows.fnProofOkSpec) laidOut hW (by kernel_rfl) ?_ rfl Tryd.underlying4 ⟨rfl, rfl, rfl⟩ hb
    intro n hn g t hg ht
    obtain rfl : n = "loop.example/stackwords/impl.ruleTakes" := by simpa [Rows.fnProofOkSpec] using hn
    obtain rfl := Option.some.inj (fnProofOk_named.symm.trans hg)
    obtain rfl := Option.some.inj (fnProofOk_type.symm.trans ht)
    exact fnProofOk_readable

theorem fnProofOk_said : Rows.FnProofOkSaid :=
  OpenClaim.holds_of_cond 3 Tryd.f3 rfl rfl rfl rfl rfl rfl rfl ⟨rfl, rfl, rfl, rfl, rfl⟩ rfl rfl rfl rfl rfl (by kernel_rfl) Tryd.func3 (by unfold joinedFacts; rw [pf_enter, pf_lifts, pf_make]; kernel_rfl)
    (of_decide_eq_true (by kernel_rfl)) (by unfold Func.isWrapper; first | (rw [if_pos (by decide +kernel)]; kernel_rfl) | (rw [if_neg (by decide +kernel)]; exact ⟨rfl, rfl⟩))
    (fun os started H enc _ F => by rw [OpenClaim.pre_eq_preRow]; exact fnProofOk_lifted os started H enc F)

theorem fnProofOk_plain (f : FuncId) (fn : Func) (hf : Tryd.pinned.checked.prog.funcNamed "loop.example/stackwords/laws.FnProofOk" = some f) (hfn : Tryd.pinned.checked.prog.funcs[f]? = some fn) :
    false = Tryd.pinned.checked.prog.looks [] ∧ ∀ (j : Nat) t, fn.params[j]? = some t → Tryd.pinned.checked.prog.wantsStandIn t = false := by
  obtain rfl : f = 3 := Option.some.inj ((show Tryd.prog.funcNamed "loop.example/stackwords/laws.FnProofOk" = some 3 by kernel_rfl).symm.trans hf) |>.symm
  obtain rfl : fn = Tryd.f3 := (Option.some.inj (Tryd.func3.symm.trans hfn)).symm
  refine ⟨by kernel_rfl, fun j t ht => ?_⟩
  rw [Tryd.params3] at ht
  have hm := Array.mem_of_getElem? ht
  simp only [List.mem_toArray, List.mem_cons, List.not_mem_nil, or_false] at hm
  rcases hm with rfl | rfl
  · exact (show Tryd.prog.wantsStandIn 22 = false by kernel_rfl)
  · exact (show Tryd.prog.wantsStandIn 22 = false by kernel_rfl)

/-- FnProofOk: the card, as it is given. -/
theorem fnProofOk_card : Rows.FnProofOkCardSaid :=
  Claim7.holds_tied_plain_at .later [] _ _ _ _ fnProofOk_said (fun _ h => by cases h) (by kernel_rfl) (fun _ h => by cases h) fnProofOk_row_tie rfl ⟨rfl, rfl⟩ (by kernel_rfl) rfl fnProofOk_plain (by kernel_rfl)

end Go.Proofs.YtkdpfiaegimnlaaDoor
