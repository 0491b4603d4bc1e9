/- ReadProg answers at every text as its model, with a row of its own. For every input; opTexts holds what the program's text lays. -/
import Derived.Test.YtaobijmjlkdphaaDoorNm
import Derived.Test.YtaobijmjlkdphaaDoorNl
import Derived.Test.YtaobijmjlkdphaaDoorBb
import Derived.Test.YtaobijmjlkdphaaDoorF1
import Derived.Test.YtaobijmjlkdphaaDoorF2
import Derived.Test.YtaobijmjlkdphaaDoorF3
import Derived.Test.YtaobijmjlkdphaaDoorTie
import Derived.Test.YtaobijmjlkdphaaDoorCards
import Derived.SevenTiedAt
namespace Go.Proofs.YtaobijmjlkdphaaDoor
set_option maxRecDepth 100000
open Go.RowKit Go.WideShapes Go.ChangeShapes

set_option maxHeartbeats 1000000 in
theorem exReadProg_any (x0 : ByteArray) (w0 : World) (_h0 : x0.size ≤ maxLen) (ht : StrTab w0 0 opNames) :
    Calls Tryd.prog 6 #[.string x0] w0 fun e w' => e = .returned (.bool true) ∧ Below w0.heap.size w0 w' := by
  have hgl1 := ht.lt
  have HT1 := Lib.hid ht; clear ht
  by_cases hl0 : (x0.size : Int) ≤ 1048576
  case neg =>
    go_enter Tryd.func6, Tryd.ntmps6
    go_wp2
    go_ret
    exact ⟨rfl, Below.refl _ _⟩
  generalize hR : rpR x0 = R
  obtain ⟨y0, y1⟩ := R
  have hy0 : szI y0 ≤ 1000000 := by have := rp_len x0; rw [hR] at this; exact this
  have Hy0 := Lib.hid hy0; clear hy0
  have HR := Lib.hid hR; clear hR
  have hbb1 : (y1 != y1) = false := by simp
  have H0 : Hid (Below w0.heap.size w0 w0) := Lib.hid (Below.refl _ _)
  have hs0 : w0.heap.size ≤ w0.heap.size := Nat.le_refl _
  go_enter Tryd.func6, Tryd.ntmps6
  go_wp2_with fail
  refine (ReadProg_S x0 _ (by omega) _ _ HR.out).mono ?_
  rintro e w1 ⟨uw0, rfl, ho, hb⟩
  have hs1 := hb.size
  have hq1_w0 : w0.heap.size ≤ w1.heap.size := hb.size
  have H1 : Hid (Below w0.heap.size w0 w1 ∧ OwnI w1 w0.heap.size w1.heap.size uw0 y0) := Lib.hid ⟨(H0.out).trans (hb.mono (by omega)), ho⟩
  clear hb H0 ho
  go_wp2_with fail
  refine (ReadProg_I x0 _ (by omega) _ _ HR.out (HT1.out.below (H1.out.1) hgl1)).mono ?_
  rintro e w2 ⟨ug0, rfl, ho, hb⟩
  have hs2 := hb.size
  have hq2_g0 : w1.heap.size ≤ w2.heap.size := hb.size
  have H2 : Hid (Below w0.heap.size w0 w2 ∧ OwnI w2 w0.heap.size w1.heap.size uw0 y0 ∧ OwnI w2 w1.heap.size w2.heap.size ug0 y0) := Lib.hid ⟨(H1.out.1).trans (hb.mono (by omega)), (H1.out.2).below hb, ho⟩
  clear hb H1 ho
  go_wp2_with fail
  refine (eqI _ _ _ _ _ ((H2.out.2.2).rd) ((H2.out.2.1).rd) true (decide_eq_true rfl)).mono ?_
  rintro e w3 ⟨rfl, hb⟩
  have hs3 := hb.size
  have H3 : Hid (Below w0.heap.size w0 w3 ∧ OwnI w3 w0.heap.size w1.heap.size uw0 y0 ∧ OwnI w3 w1.heap.size w2.heap.size ug0 y0) := Lib.hid ⟨(H2.out.1).trans (hb.mono (by omega)), (H2.out.2.1).below hb, (H2.out.2.2).below hb⟩
  clear hb H2
  go_wp2_with fail
  refine (markI _ _ _ _ _ _ (by omega) (Nat.le_trans Hy0.out (by omega)) (H3.out.2.2)).mono ?_
  rintro e w4 ⟨rfl, ho, hb⟩
  have hs4 := hb.size
  have H4 : Hid (Below w0.heap.size w0 w4 ∧ OwnI w4 w0.heap.size w1.heap.size uw0 y0 ∧ OwnI w4 w1.heap.size w2.heap.size ug0 (mkI (1) y0)) := Lib.hid ⟨(H3.out.1).trans (hb.below (by omega) (by omega)), (H3.out.2.1).apart hb (by omega), ho⟩
  clear hb H3 ho
  go_wp2_with fail
  refine (heldI _ y0 _ _ (by omega) (Nat.le_trans Hy0.out (by omega)) ((H4.out.2.2).rd)).mono ?_
  rintro e w5 ⟨rfl, hb⟩
  have hs5 := hb.size
  have H5 : Hid (Below w0.heap.size w0 w5 ∧ OwnI w5 w0.heap.size w1.heap.size uw0 y0 ∧ OwnI w5 w1.heap.size w2.heap.size ug0 (mkI (1) y0)) := Lib.hid ⟨(H4.out.1).trans (hb.mono (by omega)), (H4.out.2.1).below hb, (H4.out.2.2).below hb⟩
  clear hb H4
  go_wp2_with fail
  refine (ReadProg_I x0 _ (by omega) _ _ HR.out (HT1.out.below (H5.out.1) hgl1)).mono ?_
  rintro e w6 ⟨uh0, rfl, ho, hb⟩
  have hs6 := hb.size
  have hq6_h0 : w5.heap.size ≤ w6.heap.size := hb.size
  have H6 : Hid (Below w0.heap.size w0 w6 ∧ OwnI w6 w0.heap.size w1.heap.size uw0 y0 ∧ OwnI w6 w1.heap.size w2.heap.size ug0 (mkI (1) y0) ∧ OwnI w6 w5.heap.size w6.heap.size uh0 y0) := Lib.hid ⟨(H5.out.1).trans (hb.mono (by omega)), (H5.out.2.1).below hb, (H5.out.2.2).below hb, ho⟩
  clear hb H5 ho
  go_wp2_with fail
  refine (eqI _ _ _ _ _ ((H6.out.2.2.2).rd) ((H6.out.2.1).rd) true (decide_eq_true rfl)).mono ?_
  rintro e w7 ⟨rfl, hb⟩
  have hs7 := hb.size
  have H7 : Hid (Below w0.heap.size w0 w7 ∧ OwnI w7 w0.heap.size w1.heap.size uw0 y0 ∧ OwnI w7 w1.heap.size w2.heap.size ug0 (mkI (1) y0) ∧ OwnI w7 w5.heap.size w6.heap.size uh0 y0) := Lib.hid ⟨(H6.out.1).trans (hb.mono (by omega)), (H6.out.2.1).below hb, (H6.out.2.2.1).below hb, (H6.out.2.2.2).below hb⟩
  clear hb H6
  go_wp2_with fail
  refine (heldI _ y0 _ _ (by omega) (Nat.le_trans Hy0.out (by omega)) ((H7.out.2.2.1).rd)).mono ?_
  rintro e w8 ⟨rfl, hb⟩
  have hs8 := hb.size
  have H8 : Hid (Below w0.heap.size w0 w8 ∧ OwnI w8 w0.heap.size w1.heap.size uw0 y0 ∧ OwnI w8 w1.heap.size w2.heap.size ug0 (mkI (1) y0) ∧ OwnI w8 w5.heap.size w6.heap.size uh0 y0) := Lib.hid ⟨(H7.out.1).trans (hb.mono (by omega)), (H7.out.2.1).below hb, (H7.out.2.2.1).below hb, (H7.out.2.2.2).below hb⟩
  clear hb H7
  go_wp2
  go_ret
  exact ⟨rfl, H8.out.1⟩

theorem exReadProg_walk : LawWalkL 6 Tryd.f6 Rows.fnExactReadProgRow.laid := by
  intro H enc W base args ds ps hval hA hL _
  rw [Tryd.params6] at hA hval
  obtain ⟨v0, d0, rfl, rfl, h0⟩ := trodAll_one hA
  obtain ⟨zs0, rfl, _, _, hi0⟩ := Go.ChangeMaps.open_string Tryd.underlying9 (hval 0 _ _ rfl rfl) h0
  exact exReadProg_any zs0 W hi0 (strTab_of_laid lv_opTexts_named lv_opTexts_type Tryd.underlying52 Tryd.underlying9 (by kernel_rfl) (by kernel_rfl) (ss := opNames) (List.mem_of_getElem? (i := 0) (by kernel_rfl)) (by decide) hL)

noncomputable def exReadProg_world (os : Os) : World := laidAt (World.holding Tryd.prog os ⟨#[], #[], []⟩) 0 Rows.laid_loop_example_stackwords_impl_opTexts
theorem exReadProg_met (os : Os) : laidMet Tryd.prog Rows.fnExactReadProgRow.laid ((exReadProg_world os).forCall (fun _ _ => 0) ⟨#[], #[.string ⟨#[]⟩], []⟩).memory :=
  laidMet_of_run' 8 (by kernel_rfl) (by kernel_rfl)
theorem exReadProg_reads (os : Os) {H : Type} (enc : TypeId × Value → H) : ∃ places, DataW.whole enc Tryd.prog ((exReadProg_world os).forCall (fun _ _ => 0) ⟨#[], #[.string ⟨#[]⟩], []⟩).memory Tryd.f6.params.toList Rows.fnExactReadProgSpec.vars false #[.string ⟨#[]⟩].toList 8 = some ([.lit (.string [])], [strData opNames], places) := by
  have h : (DataW.whole enc Tryd.prog ((exReadProg_world os).forCall (fun _ _ => 0) ⟨#[], #[.string ⟨#[]⟩], []⟩).memory Tryd.f6.params.toList Rows.fnExactReadProgSpec.vars false #[.string ⟨#[]⟩].toList 8).map (fun x => (x.1, x.2.1)) = some ([.lit (.string [])], [strData opNames]) := by kernel_rfl
  obtain ⟨⟨a, b, c⟩, h1, h2⟩ := Option.map_eq_some_iff.1 h
  simp only [Prod.mk.injEq] at h2
  obtain ⟨rfl, rfl⟩ := h2
  exact ⟨c, h1⟩

set_option maxRecDepth 100000 in
theorem exReadProg_lifted (os : Os) (started : os.Started) (H : Type) (enc : TypeId × Value → H) (F : Stop.Interp) :
    ReturnsInHanded {} Tryd.checked os 6 .any ((OpenSpec.ofChange Rows.fnExactReadProgSpec).preRow enc Tryd.prog Tryd.f6 Rows.fnExactReadProgRow.domain false Rows.fnExactReadProgRow.laid) (((OpenSpec.ofChange Rows.fnExactReadProgSpec).at F).post enc Tryd.prog Tryd.f6 false true false false) := by
  obtain ⟨places, hx⟩ := exReadProg_reads os enc
  refine returnsInHanded_of_row (C := Tryd.checked) (s := OpenSpec.ofChange Rows.fnExactReadProgSpec) own started (by kernel_rfl) Tryd.func6
    (witness_row_at (enc := enc) (C := Tryd.checked) false (exReadProg_world os) #[.string ⟨#[]⟩] rfl (by kernel_rfl) (by kernel_rfl) (by kernel_rfl)
      (OpenSpec.preRow_of_cond 8 hx (by kernel_rfl) (fun k hk => by cases hk) (by kernel_rfl) (exReadProg_met os))) ?_
  intro W base args ds gs before hval hW _ _ _ hL hsh _
  have hA := hW
  obtain ⟨p, q, hA, hV, _⟩ := hA
  refine (exReadProg_walk H enc W base args ds p hval hA hL hsh).mono fun e W' ⟨he, hb⟩ => ⟨_, he, ?_⟩
  obtain ⟨g, t, cs, fuel, d, p', rfl, _⟩ := trodVars_one hV
  have hd := (trodAll_length hA).2
  match ds, hd with
  | [d0], _ =>
    refine post_lawV (s := Rows.fnExactReadProgSpec) laidOut hW (by kernel_rfl) ?_ rfl Tryd.underlying4 ⟨rfl, rfl, rfl⟩ hb
    intro n hn g t hg ht
    have hn2 : n ∈ ["loop.example/stackwords/impl.opTexts"] := hn
    simp only [List.mem_cons, List.not_mem_nil, or_false] at hn2
    rcases hn2 with rfl
    · obtain rfl := Option.some.inj (lv_opTexts_named.symm.trans hg)
      obtain rfl := Option.some.inj (lv_opTexts_type.symm.trans ht)
      exact lv_opTexts_readable

theorem exReadProg_said : Rows.FnExactReadProgSaid :=
  OpenClaim.holds_of_cond 6 Tryd.f6 rfl rfl rfl rfl rfl rfl rfl ⟨rfl, rfl, rfl, rfl, rfl⟩ rfl rfl rfl rfl rfl (by kernel_rfl) Tryd.func6 (by unfold joinedFacts; rw [pf_enter, pf_lifts, pf_make]; kernel_rfl)
    (of_decide_eq_true (by kernel_rfl)) (by unfold Func.isWrapper; first | (rw [if_pos (by decide +kernel)]; kernel_rfl) | (rw [if_neg (by decide +kernel)]; exact ⟨rfl, rfl⟩))
    (fun os started H enc _ F => by rw [OpenClaim.pre_eq_preRow]; exact exReadProg_lifted os started H enc F)

theorem exReadProg_plain (f : FuncId) (fn : Func) (hf : Tryd.pinned.checked.prog.funcNamed "loop.example/stackwords/laws.FnExactReadProg" = some f) (hfn : Tryd.pinned.checked.prog.funcs[f]? = some fn) :
    false = Tryd.pinned.checked.prog.looks [] ∧ ∀ (j : Nat) t, fn.params[j]? = some t → Tryd.pinned.checked.prog.wantsStandIn t = false := by
  obtain rfl : f = 6 := Option.some.inj ((show Tryd.prog.funcNamed "loop.example/stackwords/laws.FnExactReadProg" = some 6 by kernel_rfl).symm.trans hf) |>.symm
  obtain rfl : fn = Tryd.f6 := (Option.some.inj (Tryd.func6.symm.trans hfn)).symm
  refine ⟨by kernel_rfl, fun j t ht => ?_⟩
  rw [Tryd.params6] at ht
  have hm := Array.mem_of_getElem? ht
  simp only [List.mem_toArray, List.mem_cons, List.not_mem_nil, or_false] at hm
  rcases hm with rfl
  · exact (show Tryd.prog.wantsStandIn 9 = false by kernel_rfl)

/-- FnExactReadProg: the card, as it is given. -/
theorem exReadProg_card : Rows.FnExactReadProgCardSaid :=
  Claim7.holds_tied_plain_at .later [] _ _ _ _ exReadProg_said (fun _ h => by cases h) (by kernel_rfl) (fun _ h => by cases h) fnExactReadProg_row_tie rfl ⟨rfl, rfl⟩ (by kernel_rfl) rfl exReadProg_plain (by kernel_rfl)

end Go.Proofs.YtaobijmjlkdphaaDoor
