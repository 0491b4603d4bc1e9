/- JournalText answers at every row of deeds as its model, and leaves it as it was. For every input; opTexts holds what the program's text lays. -/
import Derived.Test.YtdabbjlefpgkmaaDoorAp
import Derived.Test.YtdabbjlefpgkmaaDoorNm
import Derived.Test.YtdabbjlefpgkmaaDoorNl
import Derived.Test.YtdabbjlefpgkmaaDoorBb
import Derived.Test.YtdabbjlefpgkmaaDoorF1
import Derived.Test.YtdabbjlefpgkmaaDoorF2
import Derived.Test.YtdabbjlefpgkmaaDoorF3
import Derived.Test.YtdabbjlefpgkmaaDoorTie
import Derived.Test.YtdabbjlefpgkmaaDoorCards
import Derived.SevenTiedAt
namespace Go.Proofs.YtdabbjlefpgkmaaDoor
set_option maxRecDepth 100000
open Go.RowKit Go.WideShapes Go.ChangeShapes

set_option maxHeartbeats 1000000 in
theorem exJournalText_any (A0 : Option Addr) (c0 : Nat) (ds : Deeds) (w0 : World) (h0 : RdD w0 (.slice A0 ds.length c0) ds ∧ ∀ d ∈ ds, d.2.length ≤ 9223372036854775807) (ht : StrTab w0 0 opNames) :
    Calls Tryd.prog 6 #[.slice A0 ds.length c0] w0 fun e w' => e = .returned (.bool true) ∧ Below w0.heap.size w0 w' := by
  have hgl := ht.lt
  have HH := Lib.hid (And.intro h0.1 (And.intro ht h0.2)); clear h0 ht
  obtain ⟨q, hq⟩ : ∃ q, leftX 1048576 (texts9 ds) = q := ⟨_, rfl⟩
  have HQ := Lib.hid hq
  by_cases hneg : q < 0
  · clear hq
    go_enter Tryd.func6, Tryd.ntmps6
    go_wp2_with fail
    refine (szDS_any _ ds 1048576 _ HH.out.1 (by omega) HH.out.2.2).mono ?_
    rw [HQ.out]
    rintro e w1 ⟨rfl, hb⟩
    have B1 := Lib.hid hb; clear hb
    go_wp2
    go_ret
    exact ⟨rfl, B1.out⟩
  · rw [← hq] at hneg
    obtain ⟨hl1, hl2, _⟩ := leftX_ok hneg
    rw [texts9_len] at hl1
    have hdl : ds.length ≤ 1048576 := by omega
    have hzz : ∀ d ∈ ds, d.2.length ≤ 100000000 := fun d hd => by
      have := szT_mem (ss := texts9 ds) (s := d.2) (List.mem_map.2 ⟨d, hd, rfl⟩)
      omega
    have hneg' : ¬ q < 0 := by rw [← hq]; exact hneg
    have HZ := Lib.hid hzz
    clear hzz hl1 hl2 hq hneg
    obtain ⟨T, hT⟩ : ∃ T : ByteArray, (⟨(jtx ds).toArray⟩ : ByteArray) = T := ⟨_, rfl⟩
    have HT := Lib.hid hT; clear hT
    have hse : (T.toList == T.toList) = true := by simp
    go_enter Tryd.func6, Tryd.ntmps6
    go_wp2_with fail
    refine (szDS_any _ ds 1048576 _ HH.out.1 (by omega) HH.out.2.2).mono ?_
    rw [HQ.out]
    rintro e w1 ⟨rfl, hb⟩
    have hs1 := hb.size
    have B1 := Lib.hid (And.intro hb (RdD.step HH.out.1 hb)); clear hb
    go_wp2_with fail
    refine (toDS _ ds _ B1.out.2 hdl).mono ?_
    rintro e w2 ⟨u, rfl, ho, hb⟩
    have hs2 := hb.size
    have B2 := Lib.hid (And.intro (B1.out.1.trans (hb.mono (by omega))) (And.intro (RdD.step B1.out.2 hb) ho)); clear hb ho B1
    go_wp2_with fail
    refine (JournalText_S _ ds _ B2.out.2.2.rd hdl HZ.out).mono ?_
    rw [HT.out]
    rintro e w3 ⟨rfl, hb⟩
    have hs3 := hb.size
    have B3 := Lib.hid (And.intro (B2.out.1.trans (hb.mono (by omega))) (RdD.step B2.out.2.1 hb)); clear hb B2
    go_wp2_with fail
    refine (toDS _ ds _ B3.out.2 hdl).mono ?_
    rintro e w4 ⟨x, rfl, ho, hb⟩
    have hs4 := hb.size
    have B4 := Lib.hid (And.intro (B3.out.1.trans (hb.mono (by omega))) (And.intro (RdD.step B3.out.2 hb) ho)); clear hb ho B3
    go_wp2_with fail
    refine (JournalText_I _ ds _ B4.out.2.2.rd hdl HZ.out (HH.out.2.1.below B4.out.1 hgl)).mono ?_
    rw [HT.out]
    rintro e w5 ⟨rfl, hb⟩
    have hs5 := hb.size
    have B5 := Lib.hid (And.intro (B4.out.1.trans (hb.mono (by omega))) (And.intro (RdD.step B4.out.2.1 hb) (B4.out.2.2.below hb))); clear hb B4
    go_wp2_with fail
    refine (toDS _ ds _ B5.out.2.1 hdl).mono ?_
    rintro e w6 ⟨y, rfl, ho, hb⟩
    have hs6 := hb.size
    have B6 := Lib.hid (And.intro (B5.out.1.trans (hb.mono (by omega))) (And.intro (B5.out.2.2.below hb) ho)); clear hb ho B5
    go_wp2_with fail
    refine (eqDS _ _ ds _ B6.out.2.1.rd B6.out.2.2.rd).mono ?_
    rintro e w7 ⟨rfl, hb⟩
    have B7 := Lib.hid (B6.out.1.trans (hb.mono (by omega))); clear hb B6
    go_wp2
    go_ret
    exact ⟨rfl, B7.out⟩

theorem exJournalText_walk : LawWalkL 6 Tryd.f6 Rows.fnExactJournalTextRow.laid := by
  intro H enc W base args ds ps hval hA hL _
  rw [Tryd.params6] at hA hval
  obtain ⟨v0, d0, rfl, rfl, h0⟩ := trodAll_one hA
  obtain ⟨A0, c0, zs0, rfl, hi0⟩ := deeds_of_trod (hval 0 _ _ rfl rfl) h0
  exact exJournalText_any A0 c0 zs0 W hi0 (strTab_of_laid lv_opTexts_named lv_opTexts_type Tryd.underlying112 Tryd.underlying9 (by kernel_rfl) (by kernel_rfl) (ss := opNames) (List.mem_of_getElem? (i := 0) (by kernel_rfl)) (by decide) hL)

noncomputable def exJournalText_world (os : Os) : World := laidAt (World.holding Tryd.prog os ⟨#[], #[], []⟩) 0 Rows.laid_loop_example_stackwords_impl_opTexts
theorem exJournalText_met (os : Os) : laidMet Tryd.prog Rows.fnExactJournalTextRow.laid ((exJournalText_world os).forCall (fun _ _ => 0) ⟨#[], #[.slice none 0 0], []⟩).memory :=
  laidMet_of_run' 8 (by kernel_rfl) (by kernel_rfl)
theorem exJournalText_reads (os : Os) {H : Type} (enc : TypeId × Value → H) : ∃ places, DataW.whole enc Tryd.prog ((exJournalText_world os).forCall (fun _ _ => 0) ⟨#[], #[.slice none 0 0], []⟩).memory Tryd.f6.params.toList Rows.fnExactJournalTextSpec.vars false #[.slice none 0 0].toList 8 = some ([.nil], [strData opNames], places) := by
  have h : (DataW.whole enc Tryd.prog ((exJournalText_world os).forCall (fun _ _ => 0) ⟨#[], #[.slice none 0 0], []⟩).memory Tryd.f6.params.toList Rows.fnExactJournalTextSpec.vars false #[.slice none 0 0].toList 8).map (fun x => (x.1, x.2.1)) = some ([.nil], [strData opNames]) := by kernel_rfl
  obtain ⟨⟨a, b, c⟩, h1, h2⟩ := Option.map_eq_some_iff.1 h
  simp only [Prod.mk.injEq] at h2
  obtain ⟨rfl, rfl⟩ := h2
  exact ⟨c, h1⟩

set_option maxRecDepth 100000 in
theorem exJournalText_lifted (os : Os) (started : os.Started) (H : Type) (enc : TypeId × Value → H) (F : Stop.Interp) :
    ReturnsInHanded {} Tryd.checked os 6 .any ((OpenSpec.ofChange Rows.fnExactJournalTextSpec).preRow enc Tryd.prog Tryd.f6 Rows.fnExactJournalTextRow.domain false Rows.fnExactJournalTextRow.laid) (((OpenSpec.ofChange Rows.fnExactJournalTextSpec).at F).post enc Tryd.prog Tryd.f6 false true false false) := by
  obtain ⟨places, hx⟩ := exJournalText_reads os enc
  refine returnsInHanded_of_row (C := Tryd.checked) (s := OpenSpec.ofChange Rows.fnExactJournalTextSpec) own started (by kernel_rfl) Tryd.func6
    (witness_row_at (enc := enc) (C := Tryd.checked) false (exJournalText_world os) #[.slice none 0 0] rfl (by kernel_rfl) (by kernel_rfl) (by kernel_rfl)
      (OpenSpec.preRow_of_cond 8 hx (by kernel_rfl) (fun k hk => by cases hk) (by kernel_rfl) (exJournalText_met os))) ?_
  intro W base args ds gs before hval hW _ _ _ hL hsh _
  have hA := hW
  obtain ⟨p, q, hA, hV, _⟩ := hA
  refine (exJournalText_walk H enc W base args ds p hval hA hL hsh).mono fun e W' ⟨he, hb⟩ => ⟨_, he, ?_⟩
  obtain ⟨g, t, cs, fuel, d, p', rfl, _⟩ := trodVars_one hV
  have hd := (trodAll_length hA).2
  match ds, hd with
  | [d0], _ =>
    refine post_lawV (s := Rows.fnExactJournalTextSpec) laidOut hW (by kernel_rfl) ?_ rfl Tryd.underlying4 ⟨rfl, rfl, rfl⟩ hb
    intro n hn g t hg ht
    have hn2 : n ∈ ["loop.example/stackwords/impl.opTexts"] := hn
    simp only [List.mem_cons, List.not_mem_nil, or_false] at hn2
    rcases hn2 with rfl
    · obtain rfl := Option.some.inj (lv_opTexts_named.symm.trans hg)
      obtain rfl := Option.some.inj (lv_opTexts_type.symm.trans ht)
      exact lv_opTexts_readable

theorem exJournalText_said : Rows.FnExactJournalTextSaid :=
  OpenClaim.holds_of_cond 6 Tryd.f6 rfl rfl rfl rfl rfl rfl rfl ⟨rfl, rfl, rfl, rfl, rfl⟩ rfl rfl rfl rfl rfl (by kernel_rfl) Tryd.func6 (by unfold joinedFacts; rw [pf_enter, pf_lifts, pf_make]; kernel_rfl)
    (of_decide_eq_true (by kernel_rfl)) (by unfold Func.isWrapper; first | (rw [if_pos (by decide +kernel)]; kernel_rfl) | (rw [if_neg (by decide +kernel)]; exact ⟨rfl, rfl⟩))
    (fun os started H enc _ F => by rw [OpenClaim.pre_eq_preRow]; exact exJournalText_lifted os started H enc F)

theorem exJournalText_plain (f : FuncId) (fn : Func) (hf : Tryd.pinned.checked.prog.funcNamed "loop.example/stackwords/laws.FnExactJournalText" = some f) (hfn : Tryd.pinned.checked.prog.funcs[f]? = some fn) :
    false = Tryd.pinned.checked.prog.looks [] ∧ ∀ (j : Nat) t, fn.params[j]? = some t → Tryd.pinned.checked.prog.wantsStandIn t = false := by
  obtain rfl : f = 6 := Option.some.inj ((show Tryd.prog.funcNamed "loop.example/stackwords/laws.FnExactJournalText" = some 6 by kernel_rfl).symm.trans hf) |>.symm
  obtain rfl : fn = Tryd.f6 := (Option.some.inj (Tryd.func6.symm.trans hfn)).symm
  refine ⟨by kernel_rfl, fun j t ht => ?_⟩
  rw [Tryd.params6] at ht
  have hm := Array.mem_of_getElem? ht
  simp only [List.mem_toArray, List.mem_cons, List.not_mem_nil, or_false] at hm
  rcases hm with rfl
  · exact (show Tryd.prog.wantsStandIn 43 = false by kernel_rfl)

/-- FnExactJournalText: the card, as it is given. -/
theorem exJournalText_card : Rows.FnExactJournalTextCardSaid :=
  Claim7.holds_tied_plain_at .later [] _ _ _ _ exJournalText_said (fun _ h => by cases h) (by kernel_rfl) (fun _ h => by cases h) fnExactJournalText_row_tie rfl ⟨rfl, rfl⟩ (by kernel_rfl) rfl exJournalText_plain (by kernel_rfl)

end Go.Proofs.YtdabbjlefpgkmaaDoor
