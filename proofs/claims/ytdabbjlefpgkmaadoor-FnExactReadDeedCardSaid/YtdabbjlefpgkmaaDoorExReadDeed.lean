/- ReadDeed answers at every text as its model. For every input; opTexts holds what the program's text lays. -/
import Derived.Test.YtdabbjlefpgkmaaDoorAi
import Derived.Test.YtdabbjlefpgkmaaDoorNm
import Derived.Test.YtdabbjlefpgkmaaDoorNl
import Derived.Test.YtdabbjlefpgkmaaDoorBb
import Derived.Test.YtdabbjlefpgkmaaDoorF1
import Derived.Test.YtdabbjlefpgkmaaDoorF2
import Derived.Test.YtdabbjlefpgkmaaDoorF3
import Derived.Test.YtdabbjlefpgkmaaDoorTie
import Derived.Test.YtdabbjlefpgkmaaDoorCards
import Derived.SevenTiedAt
namespace Go.Proofs.YtdabbjlefpgkmaaDoor
set_option maxRecDepth 100000
open Go.RowKit Go.WideShapes Go.ChangeShapes

theorem eqD_any (k : Int) (D : ByteArray) (w : World) :
    Calls Tryd.prog 22 #[.agg #[.int .i64 k, .string D], .agg #[.int .i64 k, .string D]] w fun e w' => e = .returned (.bool true) ∧ Below w.heap.size w w' := by
  have hb : Below w.heap.size w ((w.alloc (.cells #[.int .i64 k, .string D] 36)).alloc (.cells #[.int .i64 k, .string D] 36)) := ((Below.refl _ _).alloc (Nat.le_refl _) _).alloc (by simp) _
  have HB := Lib.hid hb; clear hb
  have hse : (D.toList == D.toList) = true := by simp
  go_enter Tryd.func22, Tryd.ntmps22
  go_wp2
  go_ret
  exact ⟨rfl, HB.out⟩

set_option maxHeartbeats 1000000 in
theorem exReadDeed_any (S : ByteArray) (w0 : World) (_hS : S.size ≤ maxLen) (ht : StrTab w0 0 opNames) :
    Calls Tryd.prog 5 #[.string S] w0 fun e w' => e = .returned (.bool true) ∧ Below w0.heap.size w0 w' := by
  have hgl := ht.lt
  have HT := Lib.hid ht; clear ht
  by_cases hl : (S.size : Int) ≤ 1048576
  case neg =>
    go_enter Tryd.func5, Tryd.ntmps5
    go_wp2
    go_ret
    exact ⟨rfl, Below.refl _ _⟩
  rcases hR : deedR (bytesOf S) with ⟨⟨d1, d2⟩, b⟩
  obtain ⟨D, hD⟩ : ∃ D : ByteArray, (⟨d2.toArray⟩ : ByteArray) = D := ⟨_, rfl⟩
  have HS : Hid (deedV (deedR (bytesOf S)).1 = .agg #[.int .i64 d1, .string D] ∧ (deedR (bytesOf S)).2 = b) := Lib.hid (by rw [hR]; exact ⟨by rw [← hD]; rfl, rfl⟩)
  clear hR hD
  have hbb : (b != b) = false := by simp
  go_enter Tryd.func5, Tryd.ntmps5
  go_wp2_with fail
  refine (ReadDeed_S S _ (by omega)).mono ?_
  rw [HS.out.1, HS.out.2]
  rintro e w1 ⟨rfl, hb⟩
  have hs1 := hb.size
  have hba : Below w1.heap.size w1 (w1.alloc (.cells #[.int .i64 d1, .string D] 36)) := (Below.refl _ _).alloc (Nat.le_refl _) _
  have B1 := Lib.hid (And.intro (hb.trans (hba.mono hs1)) (Blk.new w1 #[.int .i64 d1, .string D] 36)); clear hb hba
  go_wp2_with fail
  refine (ReadDeed_I S _ (by omega) (HT.out.below B1.out.1 hgl)).mono ?_
  rw [HS.out.1, HS.out.2]
  rintro e w2 ⟨rfl, hb⟩
  have hs2 := hb.size
  rw [World.size_alloc] at hs2
  have hba : Below w2.heap.size w2 (w2.alloc (.cells #[.int .i64 d1, .string D] 36)) := (Below.refl _ _).alloc (Nat.le_refl _) _
  have hB := (B1.out.2.below hb (by simp)).below hba (by omega)
  obtain ⟨c0, c1, _, _⟩ := blk_pair hB
  have B2 := Lib.hid ((B1.out.1.trans (hb.mono (by rw [World.size_alloc]; omega))).trans (hba.mono (by omega))); clear hb hba hB B1
  go_wp2_with fail
  refine (eqD_any d1 D _).mono ?_
  rintro e w3 ⟨rfl, hb⟩
  have B3 := Lib.hid (B2.out.trans (hb.mono (by rw [World.size_alloc]; omega))); clear hb B2
  go_wp2
  go_ret
  exact ⟨rfl, B3.out⟩

theorem exReadDeed_walk : LawWalkL 5 Tryd.f5 Rows.fnExactReadDeedRow.laid := by
  intro H enc W base args ds ps hval hA hL _
  rw [Tryd.params5] at hA hval
  obtain ⟨v0, d0, rfl, rfl, h0⟩ := trodAll_one hA
  obtain ⟨zs0, rfl, _, _, hi0⟩ := Go.ChangeMaps.open_string Tryd.underlying9 (hval 0 _ _ rfl rfl) h0
  exact exReadDeed_any zs0 W hi0 (strTab_of_laid lv_opTexts_named lv_opTexts_type Tryd.underlying112 Tryd.underlying9 (by kernel_rfl) (by kernel_rfl) (ss := opNames) (List.mem_of_getElem? (i := 0) (by kernel_rfl)) (by decide) hL)

noncomputable def exReadDeed_world (os : Os) : World := laidAt (World.holding Tryd.prog os ⟨#[], #[], []⟩) 0 Rows.laid_loop_example_stackwords_impl_opTexts
theorem exReadDeed_met (os : Os) : laidMet Tryd.prog Rows.fnExactReadDeedRow.laid ((exReadDeed_world os).forCall (fun _ _ => 0) ⟨#[], #[.string ⟨#[]⟩], []⟩).memory :=
  laidMet_of_run' 8 (by kernel_rfl) (by kernel_rfl)
theorem exReadDeed_reads (os : Os) {H : Type} (enc : TypeId × Value → H) : ∃ places, DataW.whole enc Tryd.prog ((exReadDeed_world os).forCall (fun _ _ => 0) ⟨#[], #[.string ⟨#[]⟩], []⟩).memory Tryd.f5.params.toList Rows.fnExactReadDeedSpec.vars false #[.string ⟨#[]⟩].toList 8 = some ([.lit (.string [])], [strData opNames], places) := by
  have h : (DataW.whole enc Tryd.prog ((exReadDeed_world os).forCall (fun _ _ => 0) ⟨#[], #[.string ⟨#[]⟩], []⟩).memory Tryd.f5.params.toList Rows.fnExactReadDeedSpec.vars false #[.string ⟨#[]⟩].toList 8).map (fun x => (x.1, x.2.1)) = some ([.lit (.string [])], [strData opNames]) := by kernel_rfl
  obtain ⟨⟨a, b, c⟩, h1, h2⟩ := Option.map_eq_some_iff.1 h
  simp only [Prod.mk.injEq] at h2
  obtain ⟨rfl, rfl⟩ := h2
  exact ⟨c, h1⟩

set_option maxRecDepth 100000 in
theorem exReadDeed_lifted (os : Os) (started : os.Started) (H : Type) (enc : TypeId × Value → H) (F : Stop.Interp) :
    ReturnsInHanded {} Tryd.checked os 5 .any ((OpenSpec.ofChange Rows.fnExactReadDeedSpec).preRow enc Tryd.prog Tryd.f5 Rows.fnExactReadDeedRow.domain false Rows.fnExactReadDeedRow.laid) (((OpenSpec.ofChange Rows.fnExactReadDeedSpec).at F).post enc Tryd.prog Tryd.f5 false true false false) := by
  obtain ⟨places, hx⟩ := exReadDeed_reads os enc
  refine returnsInHanded_of_row (C := Tryd.checked) (s := OpenSpec.ofChange Rows.fnExactReadDeedSpec) own started (by kernel_rfl) Tryd.func5
    (witness_row_at (enc := enc) (C := Tryd.checked) false (exReadDeed_world os) #[.string ⟨#[]⟩] rfl (by kernel_rfl) (by kernel_rfl) (by kernel_rfl)
      (OpenSpec.preRow_of_cond 8 hx (by kernel_rfl) (fun k hk => by cases hk) (by kernel_rfl) (exReadDeed_met os))) ?_
  intro W base args ds gs before hval hW _ _ _ hL hsh _
  have hA := hW
  obtain ⟨p, q, hA, hV, _⟩ := hA
  refine (exReadDeed_walk H enc W base args ds p hval hA hL hsh).mono fun e W' ⟨he, hb⟩ => ⟨_, he, ?_⟩
  obtain ⟨g, t, cs, fuel, d, p', rfl, _⟩ := trodVars_one hV
  have hd := (trodAll_length hA).2
  match ds, hd with
  | [d0], _ =>
    refine post_lawV (s := Rows.fnExactReadDeedSpec) laidOut hW (by kernel_rfl) ?_ rfl Tryd.underlying4 ⟨rfl, rfl, rfl⟩ hb
    intro n hn g t hg ht
    have hn2 : n ∈ ["loop.example/stackwords/impl.opTexts"] := hn
    simp only [List.mem_cons, List.not_mem_nil, or_false] at hn2
    rcases hn2 with rfl
    · obtain rfl := Option.some.inj (lv_opTexts_named.symm.trans hg)
      obtain rfl := Option.some.inj (lv_opTexts_type.symm.trans ht)
      exact lv_opTexts_readable

theorem exReadDeed_said : Rows.FnExactReadDeedSaid :=
  OpenClaim.holds_of_cond 5 Tryd.f5 rfl rfl rfl rfl rfl rfl rfl ⟨rfl, rfl, rfl, rfl, rfl⟩ rfl rfl rfl rfl rfl (by kernel_rfl) Tryd.func5 (by unfold joinedFacts; rw [pf_enter, pf_lifts, pf_make]; kernel_rfl)
    (of_decide_eq_true (by kernel_rfl)) (by unfold Func.isWrapper; first | (rw [if_pos (by decide +kernel)]; kernel_rfl) | (rw [if_neg (by decide +kernel)]; exact ⟨rfl, rfl⟩))
    (fun os started H enc _ F => by rw [OpenClaim.pre_eq_preRow]; exact exReadDeed_lifted os started H enc F)

theorem exReadDeed_plain (f : FuncId) (fn : Func) (hf : Tryd.pinned.checked.prog.funcNamed "loop.example/stackwords/laws.FnExactReadDeed" = some f) (hfn : Tryd.pinned.checked.prog.funcs[f]? = some fn) :
    false = Tryd.pinned.checked.prog.looks [] ∧ ∀ (j : Nat) t, fn.params[j]? = some t → Tryd.pinned.checked.prog.wantsStandIn t = false := by
  obtain rfl : f = 5 := Option.some.inj ((show Tryd.prog.funcNamed "loop.example/stackwords/laws.FnExactReadDeed" = some 5 by kernel_rfl).symm.trans hf) |>.symm
  obtain rfl : fn = Tryd.f5 := (Option.some.inj (Tryd.func5.symm.trans hfn)).symm
  refine ⟨by kernel_rfl, fun j t ht => ?_⟩
  rw [Tryd.params5] at ht
  have hm := Array.mem_of_getElem? ht
  simp only [List.mem_toArray, List.mem_cons, List.not_mem_nil, or_false] at hm
  rcases hm with rfl
  · exact (show Tryd.prog.wantsStandIn 9 = false by kernel_rfl)

/-- FnExactReadDeed: the card, as it is given. -/
theorem exReadDeed_card : Rows.FnExactReadDeedCardSaid :=
  Claim7.holds_tied_plain_at .later [] _ _ _ _ exReadDeed_said (fun _ h => by cases h) (by kernel_rfl) (fun _ h => by cases h) fnExactReadDeed_row_tie rfl ⟨rfl, rfl⟩ (by kernel_rfl) rfl exReadDeed_plain (by kernel_rfl)

end Go.Proofs.YtdabbjlefpgkmaaDoor
