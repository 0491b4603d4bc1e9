/- DeedText answers at every deed as its model. For every input; opTexts holds what the program's text lays. -/
import Derived.Test.YtdabbjlefpgkmaaDoorAe
import Derived.Test.YtdabbjlefpgkmaaDoorNm
import Derived.Test.YtdabbjlefpgkmaaDoorNl
import Derived.Test.YtdabbjlefpgkmaaDoorBb
import Derived.Test.YtdabbjlefpgkmaaDoorF1
import Derived.Test.YtdabbjlefpgkmaaDoorF2
import Derived.Test.YtdabbjlefpgkmaaDoorF3
import Derived.Test.YtdabbjlefpgkmaaDoorTie
import Derived.Test.YtdabbjlefpgkmaaDoorCards
import Derived.SevenTiedAt
namespace Go.Proofs.YtdabbjlefpgkmaaDoor
set_option maxRecDepth 100000
open Go.RowKit Go.WideShapes Go.ChangeShapes

theorem exDeedText_any (k : Int) (S : ByteArray) (w0 : World) (hS : S.size ≤ maxLen) (ht : StrTab w0 0 opNames) :
    Calls Tryd.prog 4 #[.agg #[.int .i64 k, .string S]] w0 fun e w' => e = .returned (.bool true) ∧ Below w0.heap.size w0 w' := by
  have hgl := ht.lt
  have hal : Below w0.heap.size w0 (w0.alloc (.cells #[.int .i64 k, .string S] 33)) := (Below.refl _ _).alloc (Nat.le_refl _) _
  have hbk := Blk.new w0 #[.int .i64 k, .string S] 33
  have S0 := Lib.hid (And.intro hal (And.intro hbk ht)); clear hal ht
  obtain ⟨b00, b01, _, _⟩ := blk_pair hbk
  clear hbk
  have hS' : S.size ≤ 9223372036854775807 := by have : maxLen = 9223372036854775807 := rfl; omega
  by_cases hq : (1048576 : Int) - S.size < 0
  · go_enter Tryd.func4, Tryd.ntmps4
    go_wp2_with fail
    refine (szD_any k S _ hS').mono ?_
    rw [if_pos hq]
    rintro e w1 ⟨rfl, hb⟩
    have B := Lib.hid (S0.out.1.trans (hb.mono (by simp))); clear hb
    go_wp2
    go_ret
    exact ⟨rfl, B.out⟩
  · have hl : S.size ≤ 100000000 := by omega
    generalize hT : (⟨(deedT k (bytesOf S)).toArray⟩ : ByteArray) = T
    have HT := Lib.hid hT; clear hT
    have hse : (T.toList == T.toList) = true := by simp
    go_enter Tryd.func4, Tryd.ntmps4
    go_wp2_with fail
    refine (szD_any k S _ hS').mono ?_
    rw [if_neg (by omega)]
    rintro e w1 ⟨rfl, hb⟩
    have hz1 := hb.size
    have hB := S0.out.2.1.below hb (by simp)
    obtain ⟨b10, b11, _, _⟩ := blk_pair hB
    have B1 := Lib.hid (And.intro (S0.out.1.trans (hb.mono (by simp))) hB); clear hb hB b00 b01
    rw [World.size_alloc] at hz1
    go_wp2_with fail
    refine (toD_any k S _).mono ?_
    rintro e w2 ⟨rfl, hb⟩
    have hz2 := hb.size
    have B2 := Lib.hid (And.intro (B1.out.1.trans (hb.mono (by omega))) (B1.out.2.below hb (by omega))); clear hb B1
    go_wp2_with fail
    refine (DeedText_S k S _ hl).mono ?_
    rw [HT.out]
    rintro e w3 ⟨rfl, hb⟩
    have hz3 := hb.size
    have hB := B2.out.2.below hb (by omega)
    obtain ⟨b30, b31, _, _⟩ := blk_pair hB
    have B3 := Lib.hid (And.intro (B2.out.1.trans (hb.mono (by omega))) hB); clear hb B2 hB b10 b11
    go_wp2_with fail
    refine (toD_any k S _).mono ?_
    rintro e w4 ⟨rfl, hb⟩
    have hz4 := hb.size
    have B4 := Lib.hid (B3.out.1.trans (hb.mono (by omega))); clear hb B3
    go_wp2_with fail
    refine (DeedText_I k S _ hl (S0.out.2.2.below B4.out hgl)).mono ?_
    rw [HT.out]
    rintro e w5 ⟨rfl, hb⟩
    have B5 := Lib.hid (B4.out.trans (hb.mono (by omega))); clear hb B4
    go_wp2
    go_ret
    exact ⟨rfl, B5.out⟩

theorem exDeedText_walk : LawWalkL 4 Tryd.f4 Rows.fnExactDeedTextRow.laid := by
  intro H enc W base args ds ps hval hA hL _
  rw [Tryd.params4] at hA hval
  obtain ⟨v0, d0, rfl, rfl, h0⟩ := trodAll_one hA
  obtain ⟨za0, zb0, rfl, hi0⟩ := deed_of_trod (hval 0 _ _ rfl rfl) h0
  exact exDeedText_any za0 zb0 W hi0 (strTab_of_laid lv_opTexts_named lv_opTexts_type Tryd.underlying112 Tryd.underlying9 (by kernel_rfl) (by kernel_rfl) (ss := opNames) (List.mem_of_getElem? (i := 0) (by kernel_rfl)) (by decide) hL)

noncomputable def exDeedText_world (os : Os) : World := laidAt (World.holding Tryd.prog os ⟨#[], #[], []⟩) 0 Rows.laid_loop_example_stackwords_impl_opTexts
theorem exDeedText_met (os : Os) : laidMet Tryd.prog Rows.fnExactDeedTextRow.laid ((exDeedText_world os).forCall (fun _ _ => 0) ⟨#[], #[.agg #[.int .i64 0, .string ⟨#[]⟩]], []⟩).memory :=
  laidMet_of_run' 8 (by kernel_rfl) (by kernel_rfl)
theorem exDeedText_reads (os : Os) {H : Type} (enc : TypeId × Value → H) : ∃ places, DataW.whole enc Tryd.prog ((exDeedText_world os).forCall (fun _ _ => 0) ⟨#[], #[.agg #[.int .i64 0, .string ⟨#[]⟩]], []⟩).memory Tryd.f4.params.toList Rows.fnExactDeedTextSpec.vars false #[.agg #[.int .i64 0, .string ⟨#[]⟩]].toList 8 = some ([.agg [.lit (.int .i64 0), .lit (.string [])]], [strData opNames], places) := by
  have h : (DataW.whole enc Tryd.prog ((exDeedText_world os).forCall (fun _ _ => 0) ⟨#[], #[.agg #[.int .i64 0, .string ⟨#[]⟩]], []⟩).memory Tryd.f4.params.toList Rows.fnExactDeedTextSpec.vars false #[.agg #[.int .i64 0, .string ⟨#[]⟩]].toList 8).map (fun x => (x.1, x.2.1)) = some ([.agg [.lit (.int .i64 0), .lit (.string [])]], [strData opNames]) := by kernel_rfl
  obtain ⟨⟨a, b, c⟩, h1, h2⟩ := Option.map_eq_some_iff.1 h
  simp only [Prod.mk.injEq] at h2
  obtain ⟨rfl, rfl⟩ := h2
  exact ⟨c, h1⟩

set_option maxRecDepth 100000 in
theorem exDeedText_lifted (os : Os) (started : os.Started) (H : Type) (enc : TypeId × Value → H) (F : Stop.Interp) :
    ReturnsInHanded {} Tryd.checked os 4 .any ((OpenSpec.ofChange Rows.fnExactDeedTextSpec).preRow enc Tryd.prog Tryd.f4 Rows.fnExactDeedTextRow.domain false Rows.fnExactDeedTextRow.laid) (((OpenSpec.ofChange Rows.fnExactDeedTextSpec).at F).post enc Tryd.prog Tryd.f4 false true false false) := by
  obtain ⟨places, hx⟩ := exDeedText_reads os enc
  refine returnsInHanded_of_row (C := Tryd.checked) (s := OpenSpec.ofChange Rows.fnExactDeedTextSpec) own started (by kernel_rfl) Tryd.func4
    (witness_row_at (enc := enc) (C := Tryd.checked) false (exDeedText_world os) #[.agg #[.int .i64 0, .string ⟨#[]⟩]] rfl (by kernel_rfl) (by kernel_rfl) (by kernel_rfl)
      (OpenSpec.preRow_of_cond 8 hx (by kernel_rfl) (fun k hk => by cases hk) (by kernel_rfl) (exDeedText_met os))) ?_
  intro W base args ds gs before hval hW _ _ _ hL hsh _
  have hA := hW
  obtain ⟨p, q, hA, hV, _⟩ := hA
  refine (exDeedText_walk H enc W base args ds p hval hA hL hsh).mono fun e W' ⟨he, hb⟩ => ⟨_, he, ?_⟩
  obtain ⟨g, t, cs, fuel, d, p', rfl, _⟩ := trodVars_one hV
  have hd := (trodAll_length hA).2
  match ds, hd with
  | [d0], _ =>
    refine post_lawV (s := Rows.fnExactDeedTextSpec) laidOut hW (by kernel_rfl) ?_ rfl Tryd.underlying4 ⟨rfl, rfl, rfl⟩ hb
    intro n hn g t hg ht
    have hn2 : n ∈ ["loop.example/stackwords/impl.opTexts"] := hn
    simp only [List.mem_cons, List.not_mem_nil, or_false] at hn2
    rcases hn2 with rfl
    · obtain rfl := Option.some.inj (lv_opTexts_named.symm.trans hg)
      obtain rfl := Option.some.inj (lv_opTexts_type.symm.trans ht)
      exact lv_opTexts_readable

theorem exDeedText_said : Rows.FnExactDeedTextSaid :=
  OpenClaim.holds_of_cond 4 Tryd.f4 rfl rfl rfl rfl rfl rfl rfl ⟨rfl, rfl, rfl, rfl, rfl⟩ rfl rfl rfl rfl rfl (by kernel_rfl) Tryd.func4 (by unfold joinedFacts; rw [pf_enter, pf_lifts, pf_make]; kernel_rfl)
    (of_decide_eq_true (by kernel_rfl)) (by unfold Func.isWrapper; first | (rw [if_pos (by decide +kernel)]; kernel_rfl) | (rw [if_neg (by decide +kernel)]; exact ⟨rfl, rfl⟩))
    (fun os started H enc _ F => by rw [OpenClaim.pre_eq_preRow]; exact exDeedText_lifted os started H enc F)

theorem exDeedText_plain (f : FuncId) (fn : Func) (hf : Tryd.pinned.checked.prog.funcNamed "loop.example/stackwords/laws.FnExactDeedText" = some f) (hfn : Tryd.pinned.checked.prog.funcs[f]? = some fn) :
    false = Tryd.pinned.checked.prog.looks [] ∧ ∀ (j : Nat) t, fn.params[j]? = some t → Tryd.pinned.checked.prog.wantsStandIn t = false := by
  obtain rfl : f = 4 := Option.some.inj ((show Tryd.prog.funcNamed "loop.example/stackwords/laws.FnExactDeedText" = some 4 by kernel_rfl).symm.trans hf) |>.symm
  obtain rfl : fn = Tryd.f4 := (Option.some.inj (Tryd.func4.symm.trans hfn)).symm
  refine ⟨by kernel_rfl, fun j t ht => ?_⟩
  rw [Tryd.params4] at ht
  have hm := Array.mem_of_getElem? ht
  simp only [List.mem_toArray, List.mem_cons, List.not_mem_nil, or_false] at hm
  rcases hm with rfl
  · exact (show Tryd.prog.wantsStandIn 33 = false by kernel_rfl)

/-- FnExactDeedText: the card, as it is given. -/
theorem exDeedText_card : Rows.FnExactDeedTextCardSaid :=
  Claim7.holds_tied_plain_at .later [] _ _ _ _ exDeedText_said (fun _ h => by cases h) (by kernel_rfl) (fun _ h => by cases h) fnExactDeedText_row_tie rfl ⟨rfl, rfl⟩ (by kernel_rfl) rfl exDeedText_plain (by kernel_rfl)

end Go.Proofs.YtdabbjlefpgkmaaDoor
