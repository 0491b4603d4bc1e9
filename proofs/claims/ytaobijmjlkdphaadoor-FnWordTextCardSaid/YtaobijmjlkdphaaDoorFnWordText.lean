/- FnWordText: of every code: WordText is its model at the drawn number; ReadWord of the text, if there is one, is the word. For every input; the listed variables hold what the program's text lays. -/
import Derived.Test.YtaobijmjlkdphaaDoorNq
import Derived.Test.YtaobijmjlkdphaaDoorNm
import Derived.Test.YtaobijmjlkdphaaDoorNl
import Derived.Test.YtaobijmjlkdphaaDoorBb
import Derived.Test.YtaobijmjlkdphaaDoorF1
import Derived.Test.YtaobijmjlkdphaaDoorF2
import Derived.Test.YtaobijmjlkdphaaDoorF3
import Derived.Test.YtaobijmjlkdphaaDoorTie
import Derived.Test.YtaobijmjlkdphaaDoorCards
import Derived.SevenTiedAt
namespace Go.Proofs.YtaobijmjlkdphaaDoor
set_option maxRecDepth 100000
open Go.RowKit Go.WideShapes Go.ChangeShapes

set_option maxHeartbeats 2000000 in
theorem fnWordText_any (A0 : Option Addr) (c0 : Nat) (x0 : List Int) (w0 : World) (h0 : RdC w0 (.slice A0 x0.length c0) x0) (ht : StrTab w0 0 opNames) (hp : Pow w0) :
    Calls Tryd.prog 7 #[.slice A0 x0.length c0] w0 fun e w' => e = .returned (.bool true) ∧ Below w0.heap.size w0 w' := by
  have hm := h0.len_le
  have hgl := ht.lt
  have HH := Lib.hid (And.intro h0 (And.intro ht hp)); clear h0 ht hp
  by_cases hl : x0.length ≤ 1048576
  case neg =>
    go_enter Tryd.func7, Tryd.ntmps7
    go_wp2
    go_ret
    exact ⟨rfl, Below.refl _ _⟩
  go_enter Tryd.func7, Tryd.ntmps7
  go_wp2_with fail
  refine (DrawWordText_any _ x0 _ HH.out.1).mono ?_
  rintro e w1 ⟨z, rfl, hz0, hz1, hb⟩
  have B1 := Lib.hid hb; clear hb
  go_wp2_with fail
  refine (WordText_I z _ (HH.out.2.1.below B1.out hgl) (HH.out.2.2.below B1.out)).mono ?_
  rintro e w2 ⟨rfl, hb⟩
  have B2 := Lib.hid (B1.out.trans (hb.mono B1.out.size)); clear hb B1
  have hbb : (z == z) = true := by simp
  rcases hw : isWordB z with _ | _
  · have HS : Hid ((⟨(wordT z).toArray⟩ : ByteArray) = ⟨#[]⟩) := Lib.hid (by rw [wordT_no hw])
    clear hw
    rw [HS.out]
    go_wp2_with fail
    refine (WordText_S z _).mono ?_
    rw [HS.out]
    rintro e w3 ⟨rfl, hb⟩
    have B3 := Lib.hid (B2.out.trans (hb.mono B2.out.size)); clear hb B2
    go_wp2_with fail
    refine (alive_any _).mono ?_
    rintro e w4 ⟨rfl, hb⟩
    have B4 := Lib.hid (B3.out.trans (hb.mono B3.out.size)); clear hb B3
    go_wp2
    go_ret
    exact ⟨rfl, B4.out⟩
  · have hf := wordT_facts hw
    have HR := Lib.hid (read_word hw)
    obtain ⟨S, hS⟩ : ∃ S : ByteArray, (⟨(wordT z).toArray⟩ : ByteArray) = S := ⟨_, rfl⟩
    have hne : S.toList.isEmpty = false := by rw [Go.ByteArray.toList_eq, ← hS]; simpa using hf.2.1
    have hSl : S.size ≤ 5 := by rw [← hS, mk_size]; exact hf.2.2.2
    have HB : Hid (bytesOf S = wordT z) := Lib.hid (by rw [← hS, bytes_mk])
    have HS := Lib.hid hS
    clear hw hf hS
    rw [HS.out]
    go_wp2_with fail
    refine (WordText_S z _).mono ?_
    rw [HS.out]
    rintro e w3 ⟨rfl, hb⟩
    have B3 := Lib.hid (B2.out.trans (hb.mono B2.out.size)); clear hb B2
    go_wp2_with fail
    refine (ReadWord_any S _ (by omega) (HH.out.2.1.below B3.out hgl)).mono ?_
    rw [HB.out, HR.out, optPair_some]
    rintro e w4 ⟨rfl, hb⟩
    have B4 := Lib.hid (B3.out.trans (hb.mono B3.out.size)); clear hb B3
    go_wp2
    go_ret
    exact ⟨rfl, B4.out⟩

theorem fnWordText_walk : LawWalkL 7 Tryd.f7 Rows.fnWordTextRow.laid := by
  intro H enc W base args ds ps hval hA hL _
  rw [Tryd.params7] at hA hval
  obtain ⟨v0, d0, rfl, rfl, h0⟩ := trodAll_one hA
  obtain ⟨A0, c0, zs0, rfl, hi0, hc0⟩ := ints_of_trod Tryd.underlying35 Tryd.underlying5 cells_byte (hval 0 _ _ rfl rfl) h0
  exact fnWordText_any A0 c0 zs0 W (RdC.mk hi0 hc0) (strTab_of_laid lv_opTexts_named lv_opTexts_type Tryd.underlying52 Tryd.underlying9 (by kernel_rfl) (by kernel_rfl) (ss := opNames) (List.mem_of_getElem? (i := 3) (by kernel_rfl)) (by decide) hL) (tabIs_of_mem lv_uint64pow10_named lv_uint64pow10_type Tryd.underlying113 Tryd.underlying101 (by kernel_rfl) (by kernel_rfl) (List.mem_of_getElem? (i := 2) (by kernel_rfl)) hL)

noncomputable def fnWordText_world (os : Os) : World := laidAt (laidAt (laidAt (laidAt (World.holding Tryd.prog os ⟨#[], #[], []⟩) 3 Rows.laid_math_bits_deBruijn32tab) 4 Rows.laid_math_bits_deBruijn64tab) 1 Rows.laid_internal_strconv_uint64pow10) 0 Rows.laid_loop_example_stackwords_impl_opTexts
theorem fnWordText_met (os : Os) : laidMet Tryd.prog Rows.fnWordTextRow.laid ((fnWordText_world os).forCall (fun _ _ => 0) ⟨#[], #[.slice none 0 0], []⟩).memory :=
  laidMet_of_run' 8 (by kernel_rfl) (by kernel_rfl)
theorem fnWordText_reads (os : Os) {H : Type} (enc : TypeId × Value → H) : ∃ places, DataW.whole enc Tryd.prog ((fnWordText_world os).forCall (fun _ _ => 0) ⟨#[], #[.slice none 0 0], []⟩).memory Tryd.f7.params.toList Rows.fnWordTextSpec.vars false #[.slice none 0 0].toList 8 = some ([.nil], [strData opNames], places) := by
  have h : (DataW.whole enc Tryd.prog ((fnWordText_world os).forCall (fun _ _ => 0) ⟨#[], #[.slice none 0 0], []⟩).memory Tryd.f7.params.toList Rows.fnWordTextSpec.vars false #[.slice none 0 0].toList 8).map (fun x => (x.1, x.2.1)) = some ([.nil], [strData opNames]) := by kernel_rfl
  obtain ⟨⟨a, b, c⟩, h1, h2⟩ := Option.map_eq_some_iff.1 h
  simp only [Prod.mk.injEq] at h2
  obtain ⟨rfl, rfl⟩ := h2
  exact ⟨c, h1⟩

set_option maxRecDepth 100000 in
theorem fnWordText_lifted (os : Os) (started : os.Started) (H : Type) (enc : TypeId × Value → H) (F : Stop.Interp) :
    ReturnsInHanded {} Tryd.checked os 7 .any ((OpenSpec.ofChange Rows.fnWordTextSpec).preRow enc Tryd.prog Tryd.f7 Rows.fnWordTextRow.domain false Rows.fnWordTextRow.laid) (((OpenSpec.ofChange Rows.fnWordTextSpec).at F).post enc Tryd.prog Tryd.f7 false true false false) := by
  obtain ⟨places, hx⟩ := fnWordText_reads os enc
  refine returnsInHanded_of_row (C := Tryd.checked) (s := OpenSpec.ofChange Rows.fnWordTextSpec) own started (by kernel_rfl) Tryd.func7
    (witness_row_at (enc := enc) (C := Tryd.checked) false (fnWordText_world os) #[.slice none 0 0] rfl (by kernel_rfl) (by kernel_rfl) (by kernel_rfl)
      (OpenSpec.preRow_of_cond 8 hx (by kernel_rfl) (fun k hk => by cases hk) (by kernel_rfl) (fnWordText_met os))) ?_
  intro W base args ds gs before hval hW _ _ _ hL hsh _
  have hA := hW
  obtain ⟨p, q, hA, hV, _⟩ := hA
  refine (fnWordText_walk H enc W base args ds p hval hA hL hsh).mono fun e W' ⟨he, hb⟩ => ⟨_, he, ?_⟩
  obtain ⟨g, t, cs, fuel, d, p', rfl, _⟩ := trodVars_one hV
  have hd := (trodAll_length hA).2
  match ds, hd with
  | [d0], _ =>
    refine post_lawV (s := Rows.fnWordTextSpec) laidOut hW (by kernel_rfl) ?_ rfl Tryd.underlying4 ⟨rfl, rfl, rfl⟩ hb
    intro n hn g t hg ht
    have hn2 : n ∈ ["loop.example/stackwords/impl.opTexts"] := hn
    simp only [List.mem_cons, List.not_mem_nil, or_false] at hn2
    rcases hn2 with rfl
    · obtain rfl := Option.some.inj (lv_opTexts_named.symm.trans hg)
      obtain rfl := Option.some.inj (lv_opTexts_type.symm.trans ht)
      exact lv_opTexts_readable

theorem fnWordText_said : Rows.FnWordTextSaid :=
  OpenClaim.holds_of_cond 7 Tryd.f7 rfl rfl rfl rfl rfl rfl rfl ⟨rfl, rfl, rfl, rfl, rfl⟩ rfl rfl rfl rfl rfl (by kernel_rfl) Tryd.func7 (by unfold joinedFacts; rw [pf_enter, pf_lifts, pf_make]; kernel_rfl)
    (of_decide_eq_true (by kernel_rfl)) (by unfold Func.isWrapper; first | (rw [if_pos (by decide +kernel)]; kernel_rfl) | (rw [if_neg (by decide +kernel)]; exact ⟨rfl, rfl⟩))
    (fun os started H enc _ F => by rw [OpenClaim.pre_eq_preRow]; exact fnWordText_lifted os started H enc F)

theorem fnWordText_plain (f : FuncId) (fn : Func) (hf : Tryd.pinned.checked.prog.funcNamed "loop.example/stackwords/laws.FnWordText" = some f) (hfn : Tryd.pinned.checked.prog.funcs[f]? = some fn) :
    false = Tryd.pinned.checked.prog.looks [] ∧ ∀ (j : Nat) t, fn.params[j]? = some t → Tryd.pinned.checked.prog.wantsStandIn t = false := by
  obtain rfl : f = 7 := Option.some.inj ((show Tryd.prog.funcNamed "loop.example/stackwords/laws.FnWordText" = some 7 by kernel_rfl).symm.trans hf) |>.symm
  obtain rfl : fn = Tryd.f7 := (Option.some.inj (Tryd.func7.symm.trans hfn)).symm
  refine ⟨by kernel_rfl, fun j t ht => ?_⟩
  rw [Tryd.params7] at ht
  have hm := Array.mem_of_getElem? ht
  simp only [List.mem_toArray, List.mem_cons, List.not_mem_nil, or_false] at hm
  rcases hm with rfl
  · exact (show Tryd.prog.wantsStandIn 35 = false by kernel_rfl)

/-- FnWordText: the card, as it is given. -/
theorem fnWordText_card : Rows.FnWordTextCardSaid :=
  Claim7.holds_tied_plain_at .later [] _ _ _ _ fnWordText_said (fun _ h => by cases h) (by kernel_rfl) (fun _ h => by cases h) fnWordText_row_tie rfl ⟨rfl, rfl⟩ (by kernel_rfl) rfl fnWordText_plain (by kernel_rfl)

end Go.Proofs.YtaobijmjlkdphaaDoor
