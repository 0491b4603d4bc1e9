/- WordText answers at every number as its model. For every input; the listed variables hold what the program's text lays. -/
import Derived.Test.YtaobijmjlkdphaaDoorNm
import Derived.Test.YtaobijmjlkdphaaDoorNl
import Derived.Test.YtaobijmjlkdphaaDoorBb
import Derived.Test.YtaobijmjlkdphaaDoorF1
import Derived.Test.YtaobijmjlkdphaaDoorF2
import Derived.Test.YtaobijmjlkdphaaDoorF3
import Derived.Test.YtaobijmjlkdphaaDoorTie
import Derived.Test.YtaobijmjlkdphaaDoorCards
import Derived.SevenTiedAt
namespace Go.Proofs.YtaobijmjlkdphaaDoor
set_option maxRecDepth 100000
open Go.RowKit Go.WideShapes Go.ChangeShapes

set_option maxHeartbeats 1000000 in
theorem exWordText_any (x0 : Int) (w0 : World) (h0 : InK .i64 x0) (ht : StrTab w0 0 opNames) (hp : Pow w0) :
    Calls Tryd.prog 3 #[.int .i64 x0] w0 fun e w' => e = .returned (.bool true) ∧ Below w0.heap.size w0 w' := by
  have hgl1 := ht.lt
  have HT1 := Lib.hid ht; clear ht
  have HT2 := Lib.hid hp; clear hp
  generalize hR : wtR x0 = y0
  have HR := Lib.hid hR; clear hR
  have H0 : Hid (Below w0.heap.size w0 w0) := Lib.hid (Below.refl _ _)
  have hs0 : w0.heap.size ≤ w0.heap.size := Nat.le_refl _
  go_enter Tryd.func3, Tryd.ntmps3
  go_wp2_with fail
  refine (WordText_XS x0 _ h0 _ HR.out).mono ?_
  rintro e w1 ⟨rfl, hb⟩
  have hs1 := hb.size
  have H1 : Hid (Below w0.heap.size w0 w1) := Lib.hid ((H0.out).trans (hb.mono (by omega)))
  clear hb H0
  go_wp2_with fail
  refine (WordText_XI x0 _ h0 _ HR.out (HT1.out.below (H1.out) hgl1) (HT2.out.below (H1.out))).mono ?_
  rintro e w2 ⟨rfl, hb⟩
  have hs2 := hb.size
  have H2 : Hid (Below w0.heap.size w0 w2) := Lib.hid ((H1.out).trans (hb.mono (by omega)))
  clear hb H1
  go_wp2
  go_ret
  exact ⟨rfl, H2.out⟩

theorem exWordText_walk : LawWalkL 3 Tryd.f3 Rows.fnExactWordTextRow.laid := by
  intro H enc W base args ds ps hval hA hL _
  rw [Tryd.params3] at hA hval
  obtain ⟨v0, d0, rfl, rfl, h0⟩ := trodAll_one hA
  obtain ⟨zs0, rfl, _, _, hi0⟩ := open_int Tryd.underlying3 (hval 0 _ _ rfl rfl) h0
  exact exWordText_any zs0 W hi0 (strTab_of_laid lv_opTexts_named lv_opTexts_type Tryd.underlying52 Tryd.underlying9 (by kernel_rfl) (by kernel_rfl) (ss := opNames) (List.mem_of_getElem? (i := 3) (by kernel_rfl)) (by decide) hL) (tabIs_of_mem lv_uint64pow10_named lv_uint64pow10_type Tryd.underlying113 Tryd.underlying101 (by kernel_rfl) (by kernel_rfl) (List.mem_of_getElem? (i := 2) (by kernel_rfl)) hL)

noncomputable def exWordText_world (os : Os) : World := laidAt (laidAt (laidAt (laidAt (World.holding Tryd.prog os ⟨#[], #[], []⟩) 3 Rows.laid_math_bits_deBruijn32tab) 4 Rows.laid_math_bits_deBruijn64tab) 1 Rows.laid_internal_strconv_uint64pow10) 0 Rows.laid_loop_example_stackwords_impl_opTexts
theorem exWordText_met (os : Os) : laidMet Tryd.prog Rows.fnExactWordTextRow.laid ((exWordText_world os).forCall (fun _ _ => 0) ⟨#[], #[.int .i64 0], []⟩).memory :=
  laidMet_of_run' 8 (by kernel_rfl) (by kernel_rfl)
theorem exWordText_reads (os : Os) {H : Type} (enc : TypeId × Value → H) : ∃ places, DataW.whole enc Tryd.prog ((exWordText_world os).forCall (fun _ _ => 0) ⟨#[], #[.int .i64 0], []⟩).memory Tryd.f3.params.toList Rows.fnExactWordTextSpec.vars false #[.int .i64 0].toList 8 = some ([.lit (.int .i64 0)], [strData opNames], places) := by
  have h : (DataW.whole enc Tryd.prog ((exWordText_world os).forCall (fun _ _ => 0) ⟨#[], #[.int .i64 0], []⟩).memory Tryd.f3.params.toList Rows.fnExactWordTextSpec.vars false #[.int .i64 0].toList 8).map (fun x => (x.1, x.2.1)) = some ([.lit (.int .i64 0)], [strData opNames]) := by kernel_rfl
  obtain ⟨⟨a, b, c⟩, h1, h2⟩ := Option.map_eq_some_iff.1 h
  simp only [Prod.mk.injEq] at h2
  obtain ⟨rfl, rfl⟩ := h2
  exact ⟨c, h1⟩

set_option maxRecDepth 100000 in
theorem exWordText_lifted (os : Os) (started : os.Started) (H : Type) (enc : TypeId × Value → H) (F : Stop.Interp) :
    ReturnsInHanded {} Tryd.checked os 3 .any ((OpenSpec.ofChange Rows.fnExactWordTextSpec).preRow enc Tryd.prog Tryd.f3 Rows.fnExactWordTextRow.domain false Rows.fnExactWordTextRow.laid) (((OpenSpec.ofChange Rows.fnExactWordTextSpec).at F).post enc Tryd.prog Tryd.f3 false true false false) := by
  obtain ⟨places, hx⟩ := exWordText_reads os enc
  refine returnsInHanded_of_row (C := Tryd.checked) (s := OpenSpec.ofChange Rows.fnExactWordTextSpec) own started (by kernel_rfl) Tryd.func3
    (witness_row_at (enc := enc) (C := Tryd.checked) false (exWordText_world os) #[.int .i64 0] rfl (by kernel_rfl) (by kernel_rfl) (by kernel_rfl)
      (OpenSpec.preRow_of_cond 8 hx (by kernel_rfl) (fun k hk => by cases hk) (by kernel_rfl) (exWordText_met os))) ?_
  intro W base args ds gs before hval hW _ _ _ hL hsh _
  have hA := hW
  obtain ⟨p, q, hA, hV, _⟩ := hA
  refine (exWordText_walk H enc W base args ds p hval hA hL hsh).mono fun e W' ⟨he, hb⟩ => ⟨_, he, ?_⟩
  obtain ⟨g, t, cs, fuel, d, p', rfl, _⟩ := trodVars_one hV
  have hd := (trodAll_length hA).2
  match ds, hd with
  | [d0], _ =>
    refine post_lawV (s := Rows.fnExactWordTextSpec) laidOut hW (by kernel_rfl) ?_ rfl Tryd.underlying4 ⟨rfl, rfl, rfl⟩ hb
    intro n hn g t hg ht
    have hn2 : n ∈ ["loop.example/stackwords/impl.opTexts"] := hn
    simp only [List.mem_cons, List.not_mem_nil, or_false] at hn2
    rcases hn2 with rfl
    · obtain rfl := Option.some.inj (lv_opTexts_named.symm.trans hg)
      obtain rfl := Option.some.inj (lv_opTexts_type.symm.trans ht)
      exact lv_opTexts_readable

theorem exWordText_said : Rows.FnExactWordTextSaid :=
  OpenClaim.holds_of_cond 3 Tryd.f3 rfl rfl rfl rfl rfl rfl rfl ⟨rfl, rfl, rfl, rfl, rfl⟩ rfl rfl rfl rfl rfl (by kernel_rfl) Tryd.func3 (by unfold joinedFacts; rw [pf_enter, pf_lifts, pf_make]; kernel_rfl)
    (of_decide_eq_true (by kernel_rfl)) (by unfold Func.isWrapper; first | (rw [if_pos (by decide +kernel)]; kernel_rfl) | (rw [if_neg (by decide +kernel)]; exact ⟨rfl, rfl⟩))
    (fun os started H enc _ F => by rw [OpenClaim.pre_eq_preRow]; exact exWordText_lifted os started H enc F)

theorem exWordText_plain (f : FuncId) (fn : Func) (hf : Tryd.pinned.checked.prog.funcNamed "loop.example/stackwords/laws.FnExactWordText" = some f) (hfn : Tryd.pinned.checked.prog.funcs[f]? = some fn) :
    false = Tryd.pinned.checked.prog.looks [] ∧ ∀ (j : Nat) t, fn.params[j]? = some t → Tryd.pinned.checked.prog.wantsStandIn t = false := by
  obtain rfl : f = 3 := Option.some.inj ((show Tryd.prog.funcNamed "loop.example/stackwords/laws.FnExactWordText" = some 3 by kernel_rfl).symm.trans hf) |>.symm
  obtain rfl : fn = Tryd.f3 := (Option.some.inj (Tryd.func3.symm.trans hfn)).symm
  refine ⟨by kernel_rfl, fun j t ht => ?_⟩
  rw [Tryd.params3] at ht
  have hm := Array.mem_of_getElem? ht
  simp only [List.mem_toArray, List.mem_cons, List.not_mem_nil, or_false] at hm
  rcases hm with rfl
  · exact (show Tryd.prog.wantsStandIn 3 = false by kernel_rfl)

/-- FnExactWordText: the card, as it is given. -/
theorem exWordText_card : Rows.FnExactWordTextCardSaid :=
  Claim7.holds_tied_plain_at .later [] _ _ _ _ exWordText_said (fun _ h => by cases h) (by kernel_rfl) (fun _ h => by cases h) fnExactWordText_row_tie rfl ⟨rfl, rfl⟩ (by kernel_rfl) rfl exWordText_plain (by kernel_rfl)

end Go.Proofs.YtaobijmjlkdphaaDoor
