/- ReadJournal answers at every text as its model, with a row of its own. For every input; opTexts holds what the program's text lays. -/
import Derived.Test.YtdabbjlefpgkmaaDoorAm
import Derived.Test.YtdabbjlefpgkmaaDoorNm
import Derived.Test.YtdabbjlefpgkmaaDoorNl
import Derived.Test.YtdabbjlefpgkmaaDoorBb
import Derived.Test.YtdabbjlefpgkmaaDoorF1
import Derived.Test.YtdabbjlefpgkmaaDoorF2
import Derived.Test.YtdabbjlefpgkmaaDoorF3
import Derived.Test.YtdabbjlefpgkmaaDoorTie
import Derived.Test.YtdabbjlefpgkmaaDoorCards
import Derived.SevenTiedAt
namespace Go.Proofs.YtdabbjlefpgkmaaDoor
set_option maxRecDepth 100000
open Go.RowKit Go.WideShapes Go.ChangeShapes

set_option maxHeartbeats 1000000 in
theorem exReadJournal_any (S : ByteArray) (w0 : World) (_hS : S.size ≤ maxLen) (ht : StrTab w0 0 opNames) (hm : MLen w0) :
    Calls Tryd.prog 7 #[.string S] w0 fun e w' => e = .returned (.bool true) ∧ Below w0.heap.size w0 w' := by
  have hgl := ht.lt
  have hgm := hm.1
  have HT := Lib.hid (And.intro ht hm); clear ht hm
  by_cases hl : (S.size : Int) ≤ 1048576
  case neg =>
    go_enter Tryd.func7, Tryd.ntmps7
    go_wp2
    go_ret
    exact ⟨rfl, Below.refl _ _⟩
  have hle := jrn_le (bytesOf S)
  rw [bytes_len] at hle
  obtain ⟨ds, hds⟩ : ∃ ds, (jrn (bytesOf S)).1 = ds := ⟨_, rfl⟩
  obtain ⟨n, hn⟩ : ∃ n, (jrn (bytesOf S)).2 = n := ⟨_, rfl⟩
  have hdl : ds.length ≤ 1048576 := by rw [← hds]; omega
  have HD := Lib.hid (And.intro hds hn); clear hds hn hle
  have hnn : (((n : Nat) : Int) != ((n : Nat) : Int)) = false := by simp
  have hll : ((1 + 2 * (ds.length : Int)) != (1 + 2 * (ds.length : Int))) = false := by simp
  go_enter Tryd.func7, Tryd.ntmps7
  go_wp2_with fail
  refine (ReadJournal_S S _ (by omega)).mono ?_
  unfold RjPost
  rw [HD.out.1, HD.out.2]
  rintro e w1 ⟨v0, rfl, ho0, hb⟩
  have hs1 := hb.size
  obtain ⟨A0, c0, rfl, _⟩ := ho0.rd
  have B1 := Lib.hid (And.intro hb ho0); clear hb ho0
  go_wp2_with fail
  refine (ReadJournal_I S _ (by omega) (HT.out.1.below B1.out.1 hgl) (HT.out.2.below B1.out.1 hgm)).mono ?_
  unfold RjPost
  rw [HD.out.1, HD.out.2]
  rintro e w2 ⟨v1, rfl, ho1, hb⟩
  have hs2 := hb.size
  obtain ⟨A1, c1, rfl, _⟩ := ho1.rd
  have B2 := Lib.hid (And.intro (B1.out.1.trans (hb.mono (by omega))) (And.intro (B1.out.2.below hb) ho1)); clear hb ho1 B1
  go_wp2_with fail
  refine (eqDS _ _ ds _ B2.out.2.2.rd B2.out.2.1.rd).mono ?_
  rintro e w3 ⟨rfl, hb⟩
  have hs3 := hb.size
  have B3 := Lib.hid (And.intro (B2.out.1.trans (hb.mono (by omega))) (And.intro (B2.out.2.1.below hb) (B2.out.2.2.below hb))); clear hb B2
  go_wp2_with fail
  refine (markD _ ds w1.heap.size w2.heap.size _ hdl B3.out.2.2).mono ?_
  rintro e w4 ⟨rfl, hom, hb⟩
  have hs4 := hb.size
  have B4 := Lib.hid (And.intro (B3.out.1.trans (hb.below (by omega) (by omega))) (And.intro (B3.out.2.1.apart hb (by omega)) hom)); clear hb hom B3
  go_wp2_with fail
  refine (heldD _ ds.length _ hdl (by have h := B4.out.2.2.rd; exact h)).mono ?_
  rintro e w5 ⟨rfl, hb⟩
  have hs5 := hb.size
  have B5 := Lib.hid (And.intro (B4.out.1.trans (hb.mono (by omega))) (And.intro (B4.out.2.1.below hb) (B4.out.2.2.below hb))); clear hb B4
  have hpos : ¬ (1 + 2 * (ds.length : Int)) < 0 := by omega
  go_wp2_with fail
  refine (ReadJournal_I S _ (by omega) (HT.out.1.below B5.out.1 hgl) (HT.out.2.below B5.out.1 hgm)).mono ?_
  unfold RjPost
  rw [HD.out.1, HD.out.2]
  rintro e w6 ⟨v2, rfl, ho2, hb⟩
  have hs6 := hb.size
  obtain ⟨A2, c2, rfl, _⟩ := ho2.rd
  have B6 := Lib.hid (And.intro (B5.out.1.trans (hb.mono (by omega))) (And.intro (B5.out.2.1.below hb) (And.intro (B5.out.2.2.below hb) ho2))); clear hb ho2 B5
  go_wp2_with fail
  refine (eqDS _ _ ds _ B6.out.2.2.2.rd B6.out.2.1.rd).mono ?_
  rintro e w7 ⟨rfl, hb⟩
  have hs7 := hb.size
  have B7 := Lib.hid (And.intro (B6.out.1.trans (hb.mono (by omega))) (B6.out.2.2.1.below hb)); clear hb B6
  go_wp2_with fail
  refine (heldD _ ds.length _ hdl (by have h := B7.out.2.rd; exact h)).mono ?_
  rintro e w8 ⟨rfl, hb⟩
  have B8 := Lib.hid (B7.out.1.trans (hb.mono (by omega))); clear hb B7
  go_wp2
  go_ret
  exact ⟨rfl, B8.out⟩

theorem exReadJournal_walk : LawWalkL 7 Tryd.f7 Rows.fnExactReadJournalRow.laid := by
  intro H enc W base args ds ps hval hA hL hsh
  rw [Tryd.params7] at hA hval
  obtain ⟨v0, d0, rfl, rfl, h0⟩ := trodAll_one hA
  obtain ⟨zs0, rfl, _, _, hi0⟩ := Go.ChangeMaps.open_string Tryd.underlying9 (hval 0 _ _ rfl rfl) h0
  exact exReadJournal_any zs0 W hi0 (strTab_of_laid lv_opTexts_named lv_opTexts_type Tryd.underlying112 Tryd.underlying9 (by kernel_rfl) (by kernel_rfl) (ss := opNames) (List.mem_of_getElem? (i := 0) (by kernel_rfl)) (by decide) hL) (MLen.of_shaped hsh)

noncomputable def exReadJournal_world (os : Os) : World := laidAt (World.holding Tryd.prog os ⟨#[], #[], []⟩) 0 Rows.laid_loop_example_stackwords_impl_opTexts
theorem exReadJournal_met (os : Os) : laidMet Tryd.prog Rows.fnExactReadJournalRow.laid ((exReadJournal_world os).forCall (fun _ _ => 0) ⟨#[], #[.string ⟨#[]⟩], []⟩).memory :=
  laidMet_of_run' 8 (by kernel_rfl) (by kernel_rfl)
theorem exReadJournal_reads (os : Os) {H : Type} (enc : TypeId × Value → H) : ∃ places, DataW.whole enc Tryd.prog ((exReadJournal_world os).forCall (fun _ _ => 0) ⟨#[], #[.string ⟨#[]⟩], []⟩).memory Tryd.f7.params.toList Rows.fnExactReadJournalSpec.vars false #[.string ⟨#[]⟩].toList 8 = some ([.lit (.string [])], [strData opNames], places) := by
  have h : (DataW.whole enc Tryd.prog ((exReadJournal_world os).forCall (fun _ _ => 0) ⟨#[], #[.string ⟨#[]⟩], []⟩).memory Tryd.f7.params.toList Rows.fnExactReadJournalSpec.vars false #[.string ⟨#[]⟩].toList 8).map (fun x => (x.1, x.2.1)) = some ([.lit (.string [])], [strData opNames]) := by kernel_rfl
  obtain ⟨⟨a, b, c⟩, h1, h2⟩ := Option.map_eq_some_iff.1 h
  simp only [Prod.mk.injEq] at h2
  obtain ⟨rfl, rfl⟩ := h2
  exact ⟨c, h1⟩

set_option maxRecDepth 100000 in
theorem exReadJournal_lifted (os : Os) (started : os.Started) (H : Type) (enc : TypeId × Value → H) (F : Stop.Interp) :
    ReturnsInHanded {} Tryd.checked os 7 .any ((OpenSpec.ofChange Rows.fnExactReadJournalSpec).preRow enc Tryd.prog Tryd.f7 Rows.fnExactReadJournalRow.domain false Rows.fnExactReadJournalRow.laid) (((OpenSpec.ofChange Rows.fnExactReadJournalSpec).at F).post enc Tryd.prog Tryd.f7 false true false false) := by
  obtain ⟨places, hx⟩ := exReadJournal_reads os enc
  refine returnsInHanded_of_row (C := Tryd.checked) (s := OpenSpec.ofChange Rows.fnExactReadJournalSpec) own started (by kernel_rfl) Tryd.func7
    (witness_row_at (enc := enc) (C := Tryd.checked) false (exReadJournal_world os) #[.string ⟨#[]⟩] rfl (by kernel_rfl) (by kernel_rfl) (by kernel_rfl)
      (OpenSpec.preRow_of_cond 8 hx (by kernel_rfl) (fun k hk => by cases hk) (by kernel_rfl) (exReadJournal_met os))) ?_
  intro W base args ds gs before hval hW _ _ _ hL hsh _
  have hA := hW
  obtain ⟨p, q, hA, hV, _⟩ := hA
  refine (exReadJournal_walk H enc W base args ds p hval hA hL hsh).mono fun e W' ⟨he, hb⟩ => ⟨_, he, ?_⟩
  obtain ⟨g, t, cs, fuel, d, p', rfl, _⟩ := trodVars_one hV
  have hd := (trodAll_length hA).2
  match ds, hd with
  | [d0], _ =>
    refine post_lawV (s := Rows.fnExactReadJournalSpec) laidOut hW (by kernel_rfl) ?_ rfl Tryd.underlying4 ⟨rfl, rfl, rfl⟩ hb
    intro n hn g t hg ht
    have hn2 : n ∈ ["loop.example/stackwords/impl.opTexts"] := hn
    simp only [List.mem_cons, List.not_mem_nil, or_false] at hn2
    rcases hn2 with rfl
    · obtain rfl := Option.some.inj (lv_opTexts_named.symm.trans hg)
      obtain rfl := Option.some.inj (lv_opTexts_type.symm.trans ht)
      exact lv_opTexts_readable

theorem exReadJournal_said : Rows.FnExactReadJournalSaid :=
  OpenClaim.holds_of_cond 7 Tryd.f7 rfl rfl rfl rfl rfl rfl rfl ⟨rfl, rfl, rfl, rfl, rfl⟩ rfl rfl rfl rfl rfl (by kernel_rfl) Tryd.func7 (by unfold joinedFacts; rw [pf_enter, pf_lifts, pf_make]; kernel_rfl)
    (of_decide_eq_true (by kernel_rfl)) (by unfold Func.isWrapper; first | (rw [if_pos (by decide +kernel)]; kernel_rfl) | (rw [if_neg (by decide +kernel)]; exact ⟨rfl, rfl⟩))
    (fun os started H enc _ F => by rw [OpenClaim.pre_eq_preRow]; exact exReadJournal_lifted os started H enc F)

theorem exReadJournal_plain (f : FuncId) (fn : Func) (hf : Tryd.pinned.checked.prog.funcNamed "loop.example/stackwords/laws.FnExactReadJournal" = some f) (hfn : Tryd.pinned.checked.prog.funcs[f]? = some fn) :
    false = Tryd.pinned.checked.prog.looks [] ∧ ∀ (j : Nat) t, fn.params[j]? = some t → Tryd.pinned.checked.prog.wantsStandIn t = false := by
  obtain rfl : f = 7 := Option.some.inj ((show Tryd.prog.funcNamed "loop.example/stackwords/laws.FnExactReadJournal" = some 7 by kernel_rfl).symm.trans hf) |>.symm
  obtain rfl : fn = Tryd.f7 := (Option.some.inj (Tryd.func7.symm.trans hfn)).symm
  refine ⟨by kernel_rfl, fun j t ht => ?_⟩
  rw [Tryd.params7] at ht
  have hm := Array.mem_of_getElem? ht
  simp only [List.mem_toArray, List.mem_cons, List.not_mem_nil, or_false] at hm
  rcases hm with rfl
  · exact (show Tryd.prog.wantsStandIn 9 = false by kernel_rfl)

/-- FnExactReadJournal: the card, as it is given. -/
theorem exReadJournal_card : Rows.FnExactReadJournalCardSaid :=
  Claim7.holds_tied_plain_at .later [] _ _ _ _ exReadJournal_said (fun _ h => by cases h) (by kernel_rfl) (fun _ h => by cases h) fnExactReadJournal_row_tie rfl ⟨rfl, rfl⟩ (by kernel_rfl) rfl exReadJournal_plain (by kernel_rfl)

end Go.Proofs.YtdabbjlefpgkmaaDoor
