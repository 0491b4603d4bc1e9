/- FnReadWord: of every code: ReadWord is its model at the drawn text; WordText of the word is the text; with a space behind it a text is refused. For every input; the listed variables hold what the program's text lays. -/
import Derived.Test.YtaobijmjlkdphaaDoorNq
import Derived.Test.YtaobijmjlkdphaaDoorNm
import Derived.Test.YtaobijmjlkdphaaDoorNl
import Derived.Test.YtaobijmjlkdphaaDoorBb
import Derived.Test.YtaobijmjlkdphaaDoorF1
import Derived.Test.YtaobijmjlkdphaaDoorF2
import Derived.Test.YtaobijmjlkdphaaDoorF3
import Derived.Test.YtaobijmjlkdphaaDoorTie
import Derived.Test.YtaobijmjlkdphaaDoorCards
import Derived.SevenTiedAt
namespace Go.Proofs.YtaobijmjlkdphaaDoor
set_option maxRecDepth 100000
open Go.RowKit Go.WideShapes Go.ChangeShapes

set_option maxHeartbeats 2000000 in
theorem fnReadWord_any (A0 : Option Addr) (c0 : Nat) (x0 : List Int) (w0 : World) (h0 : RdC w0 (.slice A0 x0.length c0) x0) (ht : StrTab w0 0 opNames) (hp : Pow w0) :
    Calls Tryd.prog 8 #[.slice A0 x0.length c0] w0 fun e w' => e = .returned (.bool true) ∧ Below w0.heap.size w0 w' := by
  have hm := h0.len_le
  have hgl := ht.lt
  have HH := Lib.hid (And.intro h0 (And.intro ht hp)); clear h0 ht hp
  by_cases hl : x0.length ≤ 1048576
  case neg =>
    go_enter Tryd.func8, Tryd.ntmps8
    go_wp2
    go_ret
    exact ⟨rfl, Below.refl _ _⟩
  go_enter Tryd.func8, Tryd.ntmps8
  go_wp2_with fail
  refine (DrawReadWord_any _ x0 _ HH.out.1).mono ?_
  rintro e w1 ⟨S, rfl, hSl, hb⟩
  have B1 := Lib.hid hb; clear hb
  obtain ⟨T, hT, hadd⟩ := add_strs S [32] (by simp; omega)
  have hTl : T.size ≤ 200 := by rw [← bytes_len T, hT, List.length_append, bytes_len]; simp; omega
  have HT := Lib.hid (show readWordR (bytesOf T) = none by rw [hT]; exact read_sp (by simp))
  clear hT
  go_wp2_with fail
  refine (ReadWord_any S _ (by omega) (HH.out.2.1.below B1.out hgl)).mono ?_
  rintro e w2 ⟨rfl, hb⟩
  have B2 := Lib.hid (B1.out.trans (hb.mono B1.out.size)); clear hb B1
  rcases hr : readWordR (bytesOf S) with _ | z
  · have HR := Lib.hid hr; clear hr
    go_wp2_with fail
    refine (specReadWord_any S _ (by omega)).mono ?_
    rw [HR.out]
    rintro e w3 ⟨rfl, hb⟩
    have B3 := Lib.hid (B2.out.trans (hb.mono B2.out.size)); clear hb B2
    go_wp2_with fail
    refine (alive_any _).mono ?_
    rintro e w4 ⟨rfl, hb⟩
    have B4 := Lib.hid (B3.out.trans (hb.mono B3.out.size)); clear hb B3
    go_wp2
    go_ret
    exact ⟨rfl, B4.out⟩
  · have HR := Lib.hid hr
    have HW := Lib.hid (word_read hr).2
    have hbb : (z != z) = false := by simp
    have hse : (S.toList == S.toList) = true := by simp
    clear hr
    go_wp2_with fail
    refine (specReadWord_any S _ (by omega)).mono ?_
    rw [HR.out]
    rintro e w3 ⟨rfl, hb⟩
    have B3 := Lib.hid (B2.out.trans (hb.mono B2.out.size)); clear hb B2
    go_wp2_with fail
    refine (ReadWord_any T _ (by omega) (HH.out.2.1.below B3.out hgl)).mono ?_
    rw [HT.out]
    rintro e w4 ⟨rfl, hb⟩
    have B4 := Lib.hid (B3.out.trans (hb.mono B3.out.size)); clear hb B3
    go_wp2_with fail
    refine (WordText_I z _ (HH.out.2.1.below B4.out hgl) (HH.out.2.2.below B4.out)).mono ?_
    rw [HW.out, ba_eta]
    rintro e w5 ⟨rfl, hb⟩
    have B5 := Lib.hid (B4.out.trans (hb.mono B4.out.size)); clear hb B4
    go_wp2
    go_ret
    exact ⟨rfl, B5.out⟩

theorem fnReadWord_walk : LawWalkL 8 Tryd.f8 Rows.fnReadWordRow.laid := by
  intro H enc W base args ds ps hval hA hL _
  rw [Tryd.params8] at hA hval
  obtain ⟨v0, d0, rfl, rfl, h0⟩ := trodAll_one hA
  obtain ⟨A0, c0, zs0, rfl, hi0, hc0⟩ := ints_of_trod Tryd.underlying35 Tryd.underlying5 cells_byte (hval 0 _ _ rfl rfl) h0
  exact fnReadWord_any A0 c0 zs0 W (RdC.mk hi0 hc0) (strTab_of_laid lv_opTexts_named lv_opTexts_type Tryd.underlying52 Tryd.underlying9 (by kernel_rfl) (by kernel_rfl) (ss := opNames) (List.mem_of_getElem? (i := 3) (by kernel_rfl)) (by decide) hL) (tabIs_of_mem lv_uint64pow10_named lv_uint64pow10_type Tryd.underlying113 Tryd.underlying101 (by kernel_rfl) (by kernel_rfl) (List.mem_of_getElem? (i := 2) (by kernel_rfl)) hL)

noncomputable def fnReadWord_world (os : Os) : World := laidAt (laidAt (laidAt (laidAt (World.holding Tryd.prog os ⟨#[], #[], []⟩) 3 Rows.laid_math_bits_deBruijn32tab) 4 Rows.laid_math_bits_deBruijn64tab) 1 Rows.laid_internal_strconv_uint64pow10) 0 Rows.laid_loop_example_stackwords_impl_opTexts
theorem fnReadWord_met (os : Os) : laidMet Tryd.prog Rows.fnReadWordRow.laid ((fnReadWord_world os).forCall (fun _ _ => 0) ⟨#[], #[.slice none 0 0], []⟩).memory :=
  laidMet_of_run' 8 (by kernel_rfl) (by kernel_rfl)
theorem fnReadWord_reads (os : Os) {H : Type} (enc : TypeId × Value → H) : ∃ places, DataW.whole enc Tryd.prog ((fnReadWord_world os).forCall (fun _ _ => 0) ⟨#[], #[.slice none 0 0], []⟩).memory Tryd.f8.params.toList Rows.fnReadWordSpec.vars false #[.slice none 0 0].toList 8 = some ([.nil], [strData opNames], places) := by
  have h : (DataW.whole enc Tryd.prog ((fnReadWord_world os).forCall (fun _ _ => 0) ⟨#[], #[.slice none 0 0], []⟩).memory Tryd.f8.params.toList Rows.fnReadWordSpec.vars false #[.slice none 0 0].toList 8).map (fun x => (x.1, x.2.1)) = some ([.nil], [strData opNames]) := by kernel_rfl
  obtain ⟨⟨a, b, c⟩, h1, h2⟩ := Option.map_eq_some_iff.1 h
  simp only [Prod.mk.injEq] at h2
  obtain ⟨rfl, rfl⟩ := h2
  exact ⟨c, h1⟩

set_option maxRecDepth 100000 in
theorem fnReadWord_lifted (os : Os) (started : os.Started) (H : Type) (enc : TypeId × Value → H) (F : Stop.Interp) :
    ReturnsInHanded {} Tryd.checked os 8 .any ((OpenSpec.ofChange Rows.fnReadWordSpec).preRow enc Tryd.prog Tryd.f8 Rows.fnReadWordRow.domain false Rows.fnReadWordRow.laid) (((OpenSpec.ofChange Rows.fnReadWordSpec).at F).post enc Tryd.prog Tryd.f8 false true false false) := by
  obtain ⟨places, hx⟩ := fnReadWord_reads os enc
  refine returnsInHanded_of_row (C := Tryd.checked) (s := OpenSpec.ofChange Rows.fnReadWordSpec) own started (by kernel_rfl) Tryd.func8
    (witness_row_at (enc := enc) (C := Tryd.checked) false (fnReadWord_world os) #[.slice none 0 0] rfl (by kernel_rfl) (by kernel_rfl) (by kernel_rfl)
      (OpenSpec.preRow_of_cond 8 hx (by kernel_rfl) (fun k hk => by cases hk) (by kernel_rfl) (fnReadWord_met os))) ?_
  intro W base args ds gs before hval hW _ _ _ hL hsh _
  have hA := hW
  obtain ⟨p, q, hA, hV, _⟩ := hA
  refine (fnReadWord_walk H enc W base args ds p hval hA hL hsh).mono fun e W' ⟨he, hb⟩ => ⟨_, he, ?_⟩
  obtain ⟨g, t, cs, fuel, d, p', rfl, _⟩ := trodVars_one hV
  have hd := (trodAll_length hA).2
  match ds, hd with
  | [d0], _ =>
    refine post_lawV (s := Rows.fnReadWordSpec) laidOut hW (by kernel_rfl) ?_ rfl Tryd.underlying4 ⟨rfl, rfl, rfl⟩ hb
    intro n hn g t hg ht
    have hn2 : n ∈ ["loop.example/stackwords/impl.opTexts"] := hn
    simp only [List.mem_cons, List.not_mem_nil, or_false] at hn2
    rcases hn2 with rfl
    · obtain rfl := Option.some.inj (lv_opTexts_named.symm.trans hg)
      obtain rfl := Option.some.inj (lv_opTexts_type.symm.trans ht)
      exact lv_opTexts_readable

theorem fnReadWord_said : Rows.FnReadWordSaid :=
  OpenClaim.holds_of_cond 8 Tryd.f8 rfl rfl rfl rfl rfl rfl rfl ⟨rfl, rfl, rfl, rfl, rfl⟩ rfl rfl rfl rfl rfl (by kernel_rfl) Tryd.func8 (by unfold joinedFacts; rw [pf_enter, pf_lifts, pf_make]; kernel_rfl)
    (of_decide_eq_true (by kernel_rfl)) (by unfold Func.isWrapper; first | (rw [if_pos (by decide +kernel)]; kernel_rfl) | (rw [if_neg (by decide +kernel)]; exact ⟨rfl, rfl⟩))
    (fun os started H enc _ F => by rw [OpenClaim.pre_eq_preRow]; exact fnReadWord_lifted os started H enc F)

theorem fnReadWord_plain (f : FuncId) (fn : Func) (hf : Tryd.pinned.checked.prog.funcNamed "loop.example/stackwords/laws.FnReadWord" = some f) (hfn : Tryd.pinned.checked.prog.funcs[f]? = some fn) :
    false = Tryd.pinned.checked.prog.looks [] ∧ ∀ (j : Nat) t, fn.params[j]? = some t → Tryd.pinned.checked.prog.wantsStandIn t = false := by
  obtain rfl : f = 8 := Option.some.inj ((show Tryd.prog.funcNamed "loop.example/stackwords/laws.FnReadWord" = some 8 by kernel_rfl).symm.trans hf) |>.symm
  obtain rfl : fn = Tryd.f8 := (Option.some.inj (Tryd.func8.symm.trans hfn)).symm
  refine ⟨by kernel_rfl, fun j t ht => ?_⟩
  rw [Tryd.params8] at ht
  have hm := Array.mem_of_getElem? ht
  simp only [List.mem_toArray, List.mem_cons, List.not_mem_nil, or_false] at hm
  rcases hm with rfl
  · exact (show Tryd.prog.wantsStandIn 35 = false by kernel_rfl)

/-- FnReadWord: the card, as it is given. -/
theorem fnReadWord_card : Rows.FnReadWordCardSaid :=
  Claim7.holds_tied_plain_at .later [] _ _ _ _ fnReadWord_said (fun _ h => by cases h) (by kernel_rfl) (fun _ h => by cases h) fnReadWord_row_tie rfl ⟨rfl, rfl⟩ (by kernel_rfl) rfl fnReadWord_plain (by kernel_rfl)

end Go.Proofs.YtaobijmjlkdphaaDoor
