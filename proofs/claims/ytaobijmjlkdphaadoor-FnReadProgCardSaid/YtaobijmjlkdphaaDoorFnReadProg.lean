/- FnReadProg: of every code: ReadProg is its model at the drawn text; ProgText of the program is the text; with a space behind it a text is refused. For every input; the listed variables hold what the program's text lays. -/
import Derived.Test.YtaobijmjlkdphaaDoorNq
import Derived.Test.YtaobijmjlkdphaaDoorNm
import Derived.Test.YtaobijmjlkdphaaDoorNl
import Derived.Test.YtaobijmjlkdphaaDoorBb
import Derived.Test.YtaobijmjlkdphaaDoorF1
import Derived.Test.YtaobijmjlkdphaaDoorF2
import Derived.Test.YtaobijmjlkdphaaDoorF3
import Derived.Test.YtaobijmjlkdphaaDoorTie
import Derived.Test.YtaobijmjlkdphaaDoorCards
import Derived.SevenTiedAt
namespace Go.Proofs.YtaobijmjlkdphaaDoor
set_option maxRecDepth 100000
open Go.RowKit Go.WideShapes Go.ChangeShapes

set_option maxHeartbeats 2000000 in
theorem fnReadProg_any (A0 : Option Addr) (c0 : Nat) (x0 : List Int) (w0 : World) (h0 : RdC w0 (.slice A0 x0.length c0) x0) (ht : StrTab w0 0 opNames) (hp : Pow w0) :
    Calls Tryd.prog 10 #[.slice A0 x0.length c0] w0 fun e w' => e = .returned (.bool true) ∧ Below w0.heap.size w0 w' := by
  have hm := h0.len_le
  have hgl := ht.lt
  have HH := Lib.hid (And.intro h0 (And.intro ht hp)); clear h0 ht hp
  by_cases hl : x0.length ≤ 1048576
  case neg =>
    go_enter Tryd.func10, Tryd.ntmps10
    go_wp2
    go_ret
    exact ⟨rfl, Below.refl _ _⟩
  go_enter Tryd.func10, Tryd.ntmps10
  go_wp2_with fail
  refine (DrawReadProg_any _ x0 _ HH.out.1).mono ?_
  rintro e w1 ⟨S, rfl, hSl, hb⟩
  have hs1 := hb.size
  have B1 := Lib.hid hb; clear hb
  obtain ⟨T, hT, hadd⟩ := add_strs S [32] (by simp; omega)
  have hTl : T.size ≤ 600 := by rw [← bytes_len T, hT, List.length_append, bytes_len]; simp; omega
  have HT := Lib.hid (show readProgP (bytesOf T) = ([], false) by rw [hT]; unfold readProgP; rw [read_prog_sp])
  clear hT
  rcases hr : readProgR (bytesOf S) with _ | p
  · have HR := Lib.hid (show readProgP (bytesOf S) = ([], false) by unfold readProgP; rw [hr]); clear hr
    go_wp2_with fail
    refine (ReadProg_I S _ (by omega) _ _ HR.out (HH.out.2.1.below B1.out hgl)).mono ?_
    rintro e w2 ⟨u, rfl, ho, hb⟩
    have hs2 := hb.size
    have B2 := Lib.hid (And.intro (B1.out.trans (hb.mono hs1)) ho); clear hb B1 ho
    go_wp2_with fail
    refine (ReadProg_S S _ (by omega) _ _ HR.out).mono ?_
    rintro e w3 ⟨u2, rfl, ho, hb⟩
    have hs3 := hb.size
    have B3 := Lib.hid (And.intro (B2.out.1.trans (hb.mono (by omega))) (And.intro (B2.out.2.below hb) ho)); clear hb B2 ho
    go_wp2_with fail
    refine (smI u u2 [] [] _ B3.out.2.1.rd B3.out.2.2.rd true (decide_eq_true rfl)).mono ?_
    rintro e w4 ⟨rfl, hb⟩
    have hs4 := hb.size
    obtain ⟨A, c, rfl, _⟩ := B3.out.2.1.rd
    have B4 := Lib.hid (B3.out.1.trans (hb.mono (by omega))); clear hb B3
    go_wp2_with fail
    refine (alive_any _).mono ?_
    rintro e w5 ⟨rfl, hb⟩
    have B5 := Lib.hid (B4.out.trans (hb.mono (by omega))); clear hb B4
    go_wp2
    go_ret
    exact ⟨rfl, B5.out⟩
  · have HR := Lib.hid (show readProgP (bytesOf S) = (p, true) by unfold readProgP; rw [hr])
    have HW := Lib.hid (prog_read hr).2
    have hse : (S.toList == S.toList) = true := by simp
    clear hr
    go_wp2_with fail
    refine (ReadProg_I S _ (by omega) _ _ HR.out (HH.out.2.1.below B1.out hgl)).mono ?_
    rintro e w2 ⟨u, rfl, ho, hb⟩
    have hs2 := hb.size
    have B2 := Lib.hid (And.intro (B1.out.trans (hb.mono hs1)) ho); clear hb B1 ho
    go_wp2_with fail
    refine (ReadProg_S S _ (by omega) _ _ HR.out).mono ?_
    rintro e w3 ⟨u2, rfl, ho, hb⟩
    have hs3 := hb.size
    have B3 := Lib.hid (And.intro (B2.out.1.trans (hb.mono (by omega))) (And.intro (B2.out.2.below hb) ho)); clear hb B2 ho
    go_wp2_with fail
    refine (smI u u2 p p _ B3.out.2.1.rd B3.out.2.2.rd true (decide_eq_true rfl)).mono ?_
    rintro e w4 ⟨rfl, hb⟩
    have hs4 := hb.size
    have B4 := Lib.hid (And.intro (B3.out.1.trans (hb.mono (by omega))) (B3.out.2.1.below hb)); clear hb B3
    go_wp2_with fail
    refine (ReadProg_I T _ (by omega) _ _ HT.out (HH.out.2.1.below B4.out.1 hgl)).mono ?_
    rintro e w5 ⟨u3, rfl, ho, hb⟩
    have hs5 := hb.size
    have B5 := Lib.hid (And.intro (B4.out.1.trans (hb.mono (by omega))) (B4.out.2.below hb)); clear hb B4 ho
    go_wp2_with fail
    refine (ProgText_I u p _ B5.out.2.rd (HH.out.2.1.below B5.out.1 hgl) (HH.out.2.2.below B5.out.1)).mono ?_
    rw [HW.out, ba_eta]
    rintro e w6 ⟨rfl, hb⟩
    have B6 := Lib.hid (B5.out.1.trans (hb.mono (by omega))); clear hb B5
    go_wp2
    go_ret
    exact ⟨rfl, B6.out⟩

theorem fnReadProg_walk : LawWalkL 10 Tryd.f10 Rows.fnReadProgRow.laid := by
  intro H enc W base args ds ps hval hA hL _
  rw [Tryd.params10] at hA hval
  obtain ⟨v0, d0, rfl, rfl, h0⟩ := trodAll_one hA
  obtain ⟨A0, c0, zs0, rfl, hi0, hc0⟩ := ints_of_trod Tryd.underlying35 Tryd.underlying5 cells_byte (hval 0 _ _ rfl rfl) h0
  exact fnReadProg_any A0 c0 zs0 W (RdC.mk hi0 hc0) (strTab_of_laid lv_opTexts_named lv_opTexts_type Tryd.underlying52 Tryd.underlying9 (by kernel_rfl) (by kernel_rfl) (ss := opNames) (List.mem_of_getElem? (i := 3) (by kernel_rfl)) (by decide) hL) (tabIs_of_mem lv_uint64pow10_named lv_uint64pow10_type Tryd.underlying113 Tryd.underlying101 (by kernel_rfl) (by kernel_rfl) (List.mem_of_getElem? (i := 2) (by kernel_rfl)) hL)

noncomputable def fnReadProg_world (os : Os) : World := laidAt (laidAt (laidAt (laidAt (World.holding Tryd.prog os ⟨#[], #[], []⟩) 3 Rows.laid_math_bits_deBruijn32tab) 4 Rows.laid_math_bits_deBruijn64tab) 1 Rows.laid_internal_strconv_uint64pow10) 0 Rows.laid_loop_example_stackwords_impl_opTexts
theorem fnReadProg_met (os : Os) : laidMet Tryd.prog Rows.fnReadProgRow.laid ((fnReadProg_world os).forCall (fun _ _ => 0) ⟨#[], #[.slice none 0 0], []⟩).memory :=
  laidMet_of_run' 8 (by kernel_rfl) (by kernel_rfl)
theorem fnReadProg_reads (os : Os) {H : Type} (enc : TypeId × Value → H) : ∃ places, DataW.whole enc Tryd.prog ((fnReadProg_world os).forCall (fun _ _ => 0) ⟨#[], #[.slice none 0 0], []⟩).memory Tryd.f10.params.toList Rows.fnReadProgSpec.vars false #[.slice none 0 0].toList 8 = some ([.nil], [strData opNames], places) := by
  have h : (DataW.whole enc Tryd.prog ((fnReadProg_world os).forCall (fun _ _ => 0) ⟨#[], #[.slice none 0 0], []⟩).memory Tryd.f10.params.toList Rows.fnReadProgSpec.vars false #[.slice none 0 0].toList 8).map (fun x => (x.1, x.2.1)) = some ([.nil], [strData opNames]) := by kernel_rfl
  obtain ⟨⟨a, b, c⟩, h1, h2⟩ := Option.map_eq_some_iff.1 h
  simp only [Prod.mk.injEq] at h2
  obtain ⟨rfl, rfl⟩ := h2
  exact ⟨c, h1⟩

set_option maxRecDepth 100000 in
theorem fnReadProg_lifted (os : Os) (started : os.Started) (H : Type) (enc : TypeId × Value → H) (F : Stop.Interp) :
    ReturnsInHanded {} Tryd.checked os 10 .any ((OpenSpec.ofChange Rows.fnReadProgSpec).preRow enc Tryd.prog Tryd.f10 Rows.fnReadProgRow.domain false Rows.fnReadProgRow.laid) (((OpenSpec.ofChange Rows.fnReadProgSpec).at F).post enc Tryd.prog Tryd.f10 false true false false) := by
  obtain ⟨places, hx⟩ := fnReadProg_reads os enc
  refine returnsInHanded_of_row (C := Tryd.checked) (s := OpenSpec.ofChange Rows.fnReadProgSpec) own started (by kernel_rfl) Tryd.func10
    (witness_row_at (enc := enc) (C := Tryd.checked) false (fnReadProg_world os) #[.slice none 0 0] rfl (by kernel_rfl) (by kernel_rfl) (by kernel_rfl)
      (OpenSpec.preRow_of_cond 8 hx (by kernel_rfl) (fun k hk => by cases hk) (by kernel_rfl) (fnReadProg_met os))) ?_
  intro W base args ds gs before hval hW _ _ _ hL hsh _
  have hA := hW
  obtain ⟨p, q, hA, hV, _⟩ := hA
  refine (fnReadProg_walk H enc W base args ds p hval hA hL hsh).mono fun e W' ⟨he, hb⟩ => ⟨_, he, ?_⟩
  obtain ⟨g, t, cs, fuel, d, p', rfl, _⟩ := trodVars_one hV
  have hd := (trodAll_length hA).2
  match ds, hd with
  | [d0], _ =>
    refine post_lawV (s := Rows.fnReadProgSpec) laidOut hW (by kernel_rfl) ?_ rfl Tryd.underlying4 ⟨rfl, rfl, rfl⟩ hb
    intro n hn g t hg ht
    have hn2 : n ∈ ["loop.example/stackwords/impl.opTexts"] := hn
    simp only [List.mem_cons, List.not_mem_nil, or_false] at hn2
    rcases hn2 with rfl
    · obtain rfl := Option.some.inj (lv_opTexts_named.symm.trans hg)
      obtain rfl := Option.some.inj (lv_opTexts_type.symm.trans ht)
      exact lv_opTexts_readable

theorem fnReadProg_said : Rows.FnReadProgSaid :=
  OpenClaim.holds_of_cond 10 Tryd.f10 rfl rfl rfl rfl rfl rfl rfl ⟨rfl, rfl, rfl, rfl, rfl⟩ rfl rfl rfl rfl rfl (by kernel_rfl) Tryd.func10 (by unfold joinedFacts; rw [pf_enter, pf_lifts, pf_make]; kernel_rfl)
    (of_decide_eq_true (by kernel_rfl)) (by unfold Func.isWrapper; first | (rw [if_pos (by decide +kernel)]; kernel_rfl) | (rw [if_neg (by decide +kernel)]; exact ⟨rfl, rfl⟩))
    (fun os started H enc _ F => by rw [OpenClaim.pre_eq_preRow]; exact fnReadProg_lifted os started H enc F)

theorem fnReadProg_plain (f : FuncId) (fn : Func) (hf : Tryd.pinned.checked.prog.funcNamed "loop.example/stackwords/laws.FnReadProg" = some f) (hfn : Tryd.pinned.checked.prog.funcs[f]? = some fn) :
    false = Tryd.pinned.checked.prog.looks [] ∧ ∀ (j : Nat) t, fn.params[j]? = some t → Tryd.pinned.checked.prog.wantsStandIn t = false := by
  obtain rfl : f = 10 := Option.some.inj ((show Tryd.prog.funcNamed "loop.example/stackwords/laws.FnReadProg" = some 10 by kernel_rfl).symm.trans hf) |>.symm
  obtain rfl : fn = Tryd.f10 := (Option.some.inj (Tryd.func10.symm.trans hfn)).symm
  refine ⟨by kernel_rfl, fun j t ht => ?_⟩
  rw [Tryd.params10] at ht
  have hm := Array.mem_of_getElem? ht
  simp only [List.mem_toArray, List.mem_cons, List.not_mem_nil, or_false] at hm
  rcases hm with rfl
  · exact (show Tryd.prog.wantsStandIn 35 = false by kernel_rfl)

/-- FnReadProg: the card, as it is given. -/
theorem fnReadProg_card : Rows.FnReadProgCardSaid :=
  Claim7.holds_tied_plain_at .later [] _ _ _ _ fnReadProg_said (fun _ h => by cases h) (by kernel_rfl) (fun _ h => by cases h) fnReadProg_row_tie rfl ⟨rfl, rfl⟩ (by kernel_rfl) rfl fnReadProg_plain (by kernel_rfl)

end Go.Proofs.YtaobijmjlkdphaaDoor
