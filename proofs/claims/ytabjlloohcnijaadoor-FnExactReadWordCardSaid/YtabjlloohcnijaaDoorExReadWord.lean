/- ReadWord answers at every text as its model. For every input; opTexts holds what the program's text lays. -/
import Derived.Test.YtabjlloohcnijaaDoorRw
import Derived.Test.YtabjlloohcnijaaDoorLiftD
import Derived.Test.YtabjlloohcnijaaDoorTie
import Derived.Test.YtabjlloohcnijaaDoorCards
import Derived.SevenTiedAt
namespace Go.Proofs.YtabjlloohcnijaaDoor
open Go.RowKit Go.WideShapes Go.ChangeShapes

theorem exReadWord_any (s : ByteArray) (w0 : World) (hm : s.size ≤ 9223372036854775807) (ht : StrTab w0 0 opNames) :
    Calls Tryd.prog 8 #[.string s] w0 fun e w' => e = .returned (.bool true) ∧ Below w0.heap.size w0 w' := by
  have hgl := ht.lt
  have HT := Lib.hid ht; clear ht
  by_cases hl : (s.size : Int) ≤ 1048576
  · generalize hR : optPair (-1) (readWordR (bytesOf s)) = R
    obtain ⟨a, b⟩ := R
    have HR := Lib.hid hR; clear hR
    have hba : (a != a) = false := by simp
    have hbb : (b != b) = false := by simp
    go_enter Tryd.func8, Tryd.ntmps8
    go_wp2_with fail
    refine (specReadWord_any s _ hm).mono ?_
    rw [HR.out]
    rintro e w1 ⟨rfl, hb⟩
    have HB := Lib.hid hb; clear hb
    go_wp2_with fail
    refine (ReadWord_any s _ hm (HT.out.below HB.out hgl)).mono ?_
    rw [HR.out]
    rintro e w2 ⟨rfl, hb⟩
    have HB2 := Lib.hid (below_after HB.out hb); clear hb
    go_wp2
    go_ret
    exact ⟨rfl, HB2.out⟩
  · go_enter Tryd.func8, Tryd.ntmps8
    go_wp2
    go_ret
    exact ⟨rfl, Below.refl _ _⟩

theorem opTexts_named : Tryd.prog.globalNamed "loop.example/stackwords/impl.opTexts" = some 0 := by kernel_rfl
theorem opTexts_type : (Tryd.prog.globals[0]?).map (·.type) = some 45 := by kernel_rfl
theorem cells_str : Tryd.prog.cellsOf 9 = 1 := by kernel_rfl
theorem cells_tab : Tryd.prog.cellsOf 45 = 13 := by kernel_rfl

theorem exReadWord_walk : LawWalkL 8 Tryd.f8 Rows.fnExactReadWordRow.laid := by
  intro H enc W base args ds ps hval hA hL _
  rw [Tryd.params8] at hA hval
  obtain ⟨v0, d0, rfl, rfl, h0⟩ := trodAll_one hA
  obtain ⟨s, rfl, rfl, _, hs⟩ := Go.ChangeMaps.open_string Tryd.underlying9 (hval 0 _ v0 rfl rfl) h0
  refine exReadWord_any s W (by unfold maxLen at hs; omega) ?_
  exact strTab_of_laid opTexts_named opTexts_type Tryd.underlying45 Tryd.underlying9 cells_str cells_tab (ss := opNames) (List.mem_singleton.2 rfl) (by decide) hL

noncomputable def laidWorld (os : Os) : World :=
  { World.holding Tryd.prog os ⟨#[], #[], []⟩ with heap := (World.holding Tryd.prog os ⟨#[], #[], []⟩).heap.modify 0 fun
      | .cells _ t frozen => .cells (strVals opNames).toArray t frozen
      | o => o }
theorem laid_met (os : Os) : laidMet Tryd.prog Rows.fnExactReadWordRow.laid ((laidWorld os).forCall (fun _ _ => 0) ⟨#[], #[.string ⟨#[]⟩], []⟩).memory :=
  laidMet_of_run' 8 (by kernel_rfl) (by kernel_rfl)
theorem reads (os : Os) {H : Type} (enc : TypeId × Value → H) : ∃ places, DataW.whole enc Tryd.prog ((laidWorld os).forCall (fun _ _ => 0) ⟨#[], #[.string ⟨#[]⟩], []⟩).memory Tryd.f8.params.toList Rows.fnExactReadWordSpec.vars false #[Value.string ⟨#[]⟩].toList 8 = some ([.lit (.string [])], [strData opNames], places) := by
  have h : (DataW.whole enc Tryd.prog ((laidWorld os).forCall (fun _ _ => 0) ⟨#[], #[.string ⟨#[]⟩], []⟩).memory Tryd.f8.params.toList Rows.fnExactReadWordSpec.vars false #[Value.string ⟨#[]⟩].toList 8).map (fun x => (x.1, x.2.1)) = some ([.lit (.string [])], [strData opNames]) := by kernel_rfl
  obtain ⟨⟨a, b, c⟩, h1, h2⟩ := Option.map_eq_some_iff.1 h
  simp only [Prod.mk.injEq] at h2
  obtain ⟨rfl, rfl⟩ := h2
  exact ⟨c, h1⟩

theorem opTexts_readable : Tryd.prog.readableRec 45 = true ∧ 45 < Tryd.prog.types.size := ⟨by kernel_rfl, of_decide_eq_true (by kernel_rfl)⟩

set_option maxRecDepth 100000 in
theorem lifted (os : Os) (started : os.Started) (H : Type) (enc : TypeId × Value → H) (F : Stop.Interp) :
    ReturnsInHanded {} Tryd.checked os 8 .any ((OpenSpec.ofChange Rows.fnExactReadWordSpec).preRow enc Tryd.prog Tryd.f8 Rows.fnExactReadWordRow.domain false Rows.fnExactReadWordRow.laid) (((OpenSpec.ofChange Rows.fnExactReadWordSpec).at F).post enc Tryd.prog Tryd.f8 false true false false) := by
  obtain ⟨places, hx⟩ := reads os enc
  refine returnsInHanded_of_row (C := Tryd.checked) (s := OpenSpec.ofChange Rows.fnExactReadWordSpec) own started (by kernel_rfl) Tryd.func8
    (witness_row_at (enc := enc) (C := Tryd.checked) false (laidWorld os) #[.string ⟨#[]⟩] rfl (by kernel_rfl) (by kernel_rfl) (by kernel_rfl)
      (OpenSpec.preRow_of_cond 8 hx (by kernel_rfl) (fun k hk => by cases hk) (by kernel_rfl) (laid_met os))) ?_
  intro W base args ds gs before hval hW _ _ _ hL hsh _
  have hA := hW
  obtain ⟨p, q, hA, hV, _⟩ := hA
  refine (exReadWord_walk H enc W base args ds p hval hA hL hsh).mono fun e W' ⟨he, hb⟩ => ⟨_, he, ?_⟩
  obtain ⟨g, t, cs, fuel, d, p', rfl, _⟩ := trodVars_one hV
  have hd := (trodAll_length hA).2
  match ds, hd with
  | [d0], _ =>
    refine post_lawV (s := Rows.fnExactReadWordSpec) laidOut hW (by kernel_rfl) ?_ rfl Tryd.underlying4 ⟨rfl, rfl, rfl⟩ hb
    intro n hn g t hg ht
    obtain rfl : n = "loop.example/stackwords/impl.opTexts" := by simpa [Rows.fnExactReadWordSpec] using hn
    obtain rfl := Option.some.inj (opTexts_named.symm.trans hg)
    obtain rfl := Option.some.inj (opTexts_type.symm.trans ht)
    exact opTexts_readable

theorem exReadWord_said : Rows.FnExactReadWordSaid :=
  OpenClaim.holds_of_cond 8 Tryd.f8 rfl rfl rfl rfl rfl rfl rfl ⟨rfl, rfl, rfl, rfl, rfl⟩ rfl rfl rfl rfl rfl (by kernel_rfl) Tryd.func8 (by kernel_rfl)
    (of_decide_eq_true (by kernel_rfl)) (by unfold Func.isWrapper; first | (rw [if_pos (by decide +kernel)]; kernel_rfl) | (rw [if_neg (by decide +kernel)]; exact ⟨rfl, rfl⟩))
    (fun os started H enc _ F => by rw [OpenClaim.pre_eq_preRow]; exact lifted os started H enc F)

theorem plain (f : FuncId) (fn : Func) (hf : Tryd.pinned.checked.prog.funcNamed "loop.example/stackwords/laws.FnExactReadWord" = some f) (hfn : Tryd.pinned.checked.prog.funcs[f]? = some fn) :
    false = Tryd.pinned.checked.prog.looks [] ∧ ∀ (j : Nat) t, fn.params[j]? = some t → Tryd.pinned.checked.prog.wantsStandIn t = false := by
  obtain rfl : f = 8 := Option.some.inj ((show Tryd.prog.funcNamed "loop.example/stackwords/laws.FnExactReadWord" = some 8 by kernel_rfl).symm.trans hf) |>.symm
  obtain rfl : fn = Tryd.f8 := (Option.some.inj (Tryd.func8.symm.trans hfn)).symm
  refine ⟨by kernel_rfl, fun j t ht => ?_⟩
  rw [Tryd.params8] at ht
  obtain rfl : t = 9 := by simpa using Array.mem_of_getElem? ht
  exact (show Tryd.prog.wantsStandIn 9 = false by kernel_rfl)

/-- The card, as it is given. -/
theorem exReadWord_card : Rows.FnExactReadWordCardSaid :=
  Claim7.holds_tied_plain_at .later [] _ _ _ _ exReadWord_said (fun _ h => by cases h) (by kernel_rfl) (fun _ h => by cases h) fnExactReadWord_row_tie rfl ⟨rfl, rfl⟩ (by kernel_rfl) rfl plain (by kernel_rfl)
end Go.Proofs.YtabjlloohcnijaaDoor
