/- ProgText answers at every row of words as its model, and leaves it as it was. For every input; the listed variables hold what the program's text lays. -/
import Derived.Test.YtaobijmjlkdphaaDoorNm
import Derived.Test.YtaobijmjlkdphaaDoorNl
import Derived.Test.YtaobijmjlkdphaaDoorBb
import Derived.Test.YtaobijmjlkdphaaDoorF1
import Derived.Test.YtaobijmjlkdphaaDoorF2
import Derived.Test.YtaobijmjlkdphaaDoorF3
import Derived.Test.YtaobijmjlkdphaaDoorTie
import Derived.Test.YtaobijmjlkdphaaDoorCards
import Derived.SevenTiedAt
namespace Go.Proofs.YtaobijmjlkdphaaDoor
set_option maxRecDepth 100000
open Go.RowKit Go.WideShapes Go.ChangeShapes

set_option maxHeartbeats 1000000 in
theorem exProgText_any (A0 : Option Addr) (c0 : Nat) (x0 : List Int) (w0 : World) (h0 : RdI w0 (.slice A0 x0.length c0) x0) (ht : StrTab w0 0 opNames) (hp : Pow w0) :
    Calls Tryd.prog 5 #[.slice A0 x0.length c0] w0 fun e w' => e = .returned (.bool true) ∧ Below w0.heap.size w0 w' := by
  have hgl1 := ht.lt
  have HT1 := Lib.hid ht; clear ht
  have HT2 := Lib.hid hp; clear hp
  have hm0 := h0.len_le
  have HH0 := Lib.hid h0; clear h0
  by_cases hl0 : x0.length ≤ 1048576
  case neg =>
    go_enter Tryd.func5, Tryd.ntmps5
    go_wp2
    go_ret
    exact ⟨rfl, Below.refl _ _⟩
  generalize hR : ptR x0 = y0
  have HR := Lib.hid hR; clear hR
  have H0 : Hid (RdBI w0 w0.heap.size (.slice A0 x0.length c0) x0 ∧ Below w0.heap.size w0 w0) := Lib.hid ⟨HH0.out.at_, Below.refl _ _⟩
  clear HH0
  have hs0 : w0.heap.size ≤ w0.heap.size := Nat.le_refl _
  go_enter Tryd.func5, Tryd.ntmps5
  go_wp2_with fail
  refine (toI _ x0 _ ((H0.out.1).rd (by omega)) hl0).mono ?_
  rintro e w1 ⟨ut0, rfl, ho, hb⟩
  have hs1 := hb.size
  have hq1_t0 : w0.heap.size ≤ w1.heap.size := hb.size
  have H1 : Hid (RdBI w1 w0.heap.size (.slice A0 x0.length c0) x0 ∧ Below w0.heap.size w0 w1 ∧ OwnI w1 w0.heap.size w1.heap.size ut0 x0) := Lib.hid ⟨(H0.out.1).below (hb.mono (by omega)), (H0.out.2).trans (hb.mono (by omega)), ho⟩
  clear hb H0 ho
  go_wp2_with fail
  refine (ProgText_XS _ x0 _ ((H1.out.2.2).rd) hl0 _ HR.out).mono ?_
  rintro e w2 ⟨rfl, hb⟩
  have hs2 := hb.size
  have H2 : Hid (RdBI w2 w0.heap.size (.slice A0 x0.length c0) x0 ∧ Below w0.heap.size w0 w2) := Lib.hid ⟨(H1.out.1).below (hb.mono (by omega)), (H1.out.2.1).trans (hb.mono (by omega))⟩
  clear hb H1
  go_wp2_with fail
  refine (toI _ x0 _ ((H2.out.1).rd (by omega)) hl0).mono ?_
  rintro e w3 ⟨ux0, rfl, ho, hb⟩
  have hs3 := hb.size
  have hq3_x0 : w2.heap.size ≤ w3.heap.size := hb.size
  have H3 : Hid (RdBI w3 w0.heap.size (.slice A0 x0.length c0) x0 ∧ Below w0.heap.size w0 w3 ∧ OwnI w3 w2.heap.size w3.heap.size ux0 x0) := Lib.hid ⟨(H2.out.1).below (hb.mono (by omega)), (H2.out.2).trans (hb.mono (by omega)), ho⟩
  clear hb H2 ho
  go_wp2_with fail
  refine (ProgText_XI _ x0 _ ((H3.out.2.2).rd) hl0 _ HR.out (HT1.out.below (H3.out.2.1) hgl1) (HT2.out.below (H3.out.2.1))).mono ?_
  rintro e w4 ⟨rfl, hb⟩
  have hs4 := hb.size
  have H4 : Hid (RdBI w4 w0.heap.size (.slice A0 x0.length c0) x0 ∧ Below w0.heap.size w0 w4 ∧ OwnI w4 w2.heap.size w3.heap.size ux0 x0) := Lib.hid ⟨(H3.out.1).below (hb.mono (by omega)), (H3.out.2.1).trans (hb.mono (by omega)), (H3.out.2.2).below hb⟩
  clear hb H3
  go_wp2_with fail
  refine (toI _ x0 _ ((H4.out.1).rd (by omega)) hl0).mono ?_
  rintro e w5 ⟨ut0, rfl, ho, hb⟩
  have hs5 := hb.size
  have hq5_t0 : w4.heap.size ≤ w5.heap.size := hb.size
  have H5 : Hid (RdBI w5 w0.heap.size (.slice A0 x0.length c0) x0 ∧ Below w0.heap.size w0 w5 ∧ OwnI w5 w2.heap.size w3.heap.size ux0 x0 ∧ OwnI w5 w4.heap.size w5.heap.size ut0 x0) := Lib.hid ⟨(H4.out.1).below (hb.mono (by omega)), (H4.out.2.1).trans (hb.mono (by omega)), (H4.out.2.2).below hb, ho⟩
  clear hb H4 ho
  go_wp2_with fail
  refine (eqI _ _ _ _ _ ((H5.out.2.2.1).rd) ((H5.out.2.2.2).rd) true (decide_eq_true rfl)).mono ?_
  rintro e w6 ⟨rfl, hb⟩
  have hs6 := hb.size
  have H6 : Hid (RdBI w6 w0.heap.size (.slice A0 x0.length c0) x0 ∧ Below w0.heap.size w0 w6 ∧ OwnI w6 w2.heap.size w3.heap.size ux0 x0 ∧ OwnI w6 w4.heap.size w5.heap.size ut0 x0) := Lib.hid ⟨(H5.out.1).below (hb.mono (by omega)), (H5.out.2.1).trans (hb.mono (by omega)), (H5.out.2.2.1).below hb, (H5.out.2.2.2).below hb⟩
  clear hb H5
  go_wp2
  go_ret
  exact ⟨rfl, H6.out.2.1⟩

theorem exProgText_walk : LawWalkL 5 Tryd.f5 Rows.fnExactProgTextRow.laid := by
  intro H enc W base args ds ps hval hA hL _
  rw [Tryd.params5] at hA hval
  obtain ⟨v0, d0, rfl, rfl, h0⟩ := trodAll_one hA
  obtain ⟨A0, c0, zs0, rfl, hi0, hc0⟩ := ints_of_trod Tryd.underlying27 Tryd.underlying3 cells_int (hval 0 _ _ rfl rfl) h0
  exact exProgText_any A0 c0 zs0 W (RdI.mk hi0 hc0) (strTab_of_laid lv_opTexts_named lv_opTexts_type Tryd.underlying52 Tryd.underlying9 (by kernel_rfl) (by kernel_rfl) (ss := opNames) (List.mem_of_getElem? (i := 3) (by kernel_rfl)) (by decide) hL) (tabIs_of_mem lv_uint64pow10_named lv_uint64pow10_type Tryd.underlying113 Tryd.underlying101 (by kernel_rfl) (by kernel_rfl) (List.mem_of_getElem? (i := 2) (by kernel_rfl)) hL)

noncomputable def exProgText_world (os : Os) : World := laidAt (laidAt (laidAt (laidAt (World.holding Tryd.prog os ⟨#[], #[], []⟩) 3 Rows.laid_math_bits_deBruijn32tab) 4 Rows.laid_math_bits_deBruijn64tab) 1 Rows.laid_internal_strconv_uint64pow10) 0 Rows.laid_loop_example_stackwords_impl_opTexts
theorem exProgText_met (os : Os) : laidMet Tryd.prog Rows.fnExactProgTextRow.laid ((exProgText_world os).forCall (fun _ _ => 0) ⟨#[], #[.slice none 0 0], []⟩).memory :=
  laidMet_of_run' 8 (by kernel_rfl) (by kernel_rfl)
theorem exProgText_reads (os : Os) {H : Type} (enc : TypeId × Value → H) : ∃ places, DataW.whole enc Tryd.prog ((exProgText_world os).forCall (fun _ _ => 0) ⟨#[], #[.slice none 0 0], []⟩).memory Tryd.f5.params.toList Rows.fnExactProgTextSpec.vars false #[.slice none 0 0].toList 8 = some ([.nil], [strData opNames], places) := by
  have h : (DataW.whole enc Tryd.prog ((exProgText_world os).forCall (fun _ _ => 0) ⟨#[], #[.slice none 0 0], []⟩).memory Tryd.f5.params.toList Rows.fnExactProgTextSpec.vars false #[.slice none 0 0].toList 8).map (fun x => (x.1, x.2.1)) = some ([.nil], [strData opNames]) := by kernel_rfl
  obtain ⟨⟨a, b, c⟩, h1, h2⟩ := Option.map_eq_some_iff.1 h
  simp only [Prod.mk.injEq] at h2
  obtain ⟨rfl, rfl⟩ := h2
  exact ⟨c, h1⟩

set_option maxRecDepth 100000 in
theorem exProgText_lifted (os : Os) (started : os.Started) (H : Type) (enc : TypeId × Value → H) (F : Stop.Interp) :
    ReturnsInHanded {} Tryd.checked os 5 .any ((OpenSpec.ofChange Rows.fnExactProgTextSpec).preRow enc Tryd.prog Tryd.f5 Rows.fnExactProgTextRow.domain false Rows.fnExactProgTextRow.laid) (((OpenSpec.ofChange Rows.fnExactProgTextSpec).at F).post enc Tryd.prog Tryd.f5 false true false false) := by
  obtain ⟨places, hx⟩ := exProgText_reads os enc
  refine returnsInHanded_of_row (C := Tryd.checked) (s := OpenSpec.ofChange Rows.fnExactProgTextSpec) own started (by kernel_rfl) Tryd.func5
    (witness_row_at (enc := enc) (C := Tryd.checked) false (exProgText_world os) #[.slice none 0 0] rfl (by kernel_rfl) (by kernel_rfl) (by kernel_rfl)
      (OpenSpec.preRow_of_cond 8 hx (by kernel_rfl) (fun k hk => by cases hk) (by kernel_rfl) (exProgText_met os))) ?_
  intro W base args ds gs before hval hW _ _ _ hL hsh _
  have hA := hW
  obtain ⟨p, q, hA, hV, _⟩ := hA
  refine (exProgText_walk H enc W base args ds p hval hA hL hsh).mono fun e W' ⟨he, hb⟩ => ⟨_, he, ?_⟩
  obtain ⟨g, t, cs, fuel, d, p', rfl, _⟩ := trodVars_one hV
  have hd := (trodAll_length hA).2
  match ds, hd with
  | [d0], _ =>
    refine post_lawV (s := Rows.fnExactProgTextSpec) laidOut hW (by kernel_rfl) ?_ rfl Tryd.underlying4 ⟨rfl, rfl, rfl⟩ hb
    intro n hn g t hg ht
    have hn2 : n ∈ ["loop.example/stackwords/impl.opTexts"] := hn
    simp only [List.mem_cons, List.not_mem_nil, or_false] at hn2
    rcases hn2 with rfl
    · obtain rfl := Option.some.inj (lv_opTexts_named.symm.trans hg)
      obtain rfl := Option.some.inj (lv_opTexts_type.symm.trans ht)
      exact lv_opTexts_readable

theorem exProgText_said : Rows.FnExactProgTextSaid :=
  OpenClaim.holds_of_cond 5 Tryd.f5 rfl rfl rfl rfl rfl rfl rfl ⟨rfl, rfl, rfl, rfl, rfl⟩ rfl rfl rfl rfl rfl (by kernel_rfl) Tryd.func5 (by unfold joinedFacts; rw [pf_enter, pf_lifts, pf_make]; kernel_rfl)
    (of_decide_eq_true (by kernel_rfl)) (by unfold Func.isWrapper; first | (rw [if_pos (by decide +kernel)]; kernel_rfl) | (rw [if_neg (by decide +kernel)]; exact ⟨rfl, rfl⟩))
    (fun os started H enc _ F => by rw [OpenClaim.pre_eq_preRow]; exact exProgText_lifted os started H enc F)

theorem exProgText_plain (f : FuncId) (fn : Func) (hf : Tryd.pinned.checked.prog.funcNamed "loop.example/stackwords/laws.FnExactProgText" = some f) (hfn : Tryd.pinned.checked.prog.funcs[f]? = some fn) :
    false = Tryd.pinned.checked.prog.looks [] ∧ ∀ (j : Nat) t, fn.params[j]? = some t → Tryd.pinned.checked.prog.wantsStandIn t = false := by
  obtain rfl : f = 5 := Option.some.inj ((show Tryd.prog.funcNamed "loop.example/stackwords/laws.FnExactProgText" = some 5 by kernel_rfl).symm.trans hf) |>.symm
  obtain rfl : fn = Tryd.f5 := (Option.some.inj (Tryd.func5.symm.trans hfn)).symm
  refine ⟨by kernel_rfl, fun j t ht => ?_⟩
  rw [Tryd.params5] at ht
  have hm := Array.mem_of_getElem? ht
  simp only [List.mem_toArray, List.mem_cons, List.not_mem_nil, or_false] at hm
  rcases hm with rfl
  · exact (show Tryd.prog.wantsStandIn 27 = false by kernel_rfl)

/-- FnExactProgText: the card, as it is given. -/
theorem exProgText_card : Rows.FnExactProgTextCardSaid :=
  Claim7.holds_tied_plain_at .later [] _ _ _ _ exProgText_said (fun _ h => by cases h) (by kernel_rfl) (fun _ h => by cases h) fnExactProgText_row_tie rfl ⟨rfl, rfl⟩ (by kernel_rfl) rfl exProgText_plain (by kernel_rfl)

end Go.Proofs.YtaobijmjlkdphaaDoor
