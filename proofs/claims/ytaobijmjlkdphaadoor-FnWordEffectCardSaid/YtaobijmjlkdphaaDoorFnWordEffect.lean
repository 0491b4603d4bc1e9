/- FnWordEffect: of every code: WordEffect is its model at the drawn number; every word but brackets has one; it is an effect, needs at most three values, and leaves at most two. For every input; the listed variables hold what the program's text lays. -/
import Derived.Test.YtaobijmjlkdphaaDoorNq
import Derived.Test.YtaobijmjlkdphaaDoorNr
import Derived.Test.YtaobijmjlkdphaaDoorWs
import Derived.Test.YtaobijmjlkdphaaDoorTe
import Derived.Test.YtaobijmjlkdphaaDoorNe
import Derived.Test.YtaobijmjlkdphaaDoorNm
import Derived.Test.YtaobijmjlkdphaaDoorNl
import Derived.Test.YtaobijmjlkdphaaDoorBb
import Derived.Test.YtaobijmjlkdphaaDoorF1
import Derived.Test.YtaobijmjlkdphaaDoorF2
import Derived.Test.YtaobijmjlkdphaaDoorF3
import Derived.Test.YtaobijmjlkdphaaDoorTie
import Derived.Test.YtaobijmjlkdphaaDoorCards
import Derived.SevenTiedAt
namespace Go.Proofs.YtaobijmjlkdphaaDoor
set_option maxRecDepth 100000
open Go.RowKit Go.WideShapes Go.ChangeShapes

theorem wordR_facts (n : Int) : (wordR n).2.2 = true → effB (wordR n).1 (wordR n).2.1 = true ∧ 0 ≤ (needsR (wordR n).1 (wordR n).2.1).1 ∧ (needsR (wordR n).1 (wordR n).2.1).1 ≤ 3 ∧ (needsR (wordR n).1 (wordR n).2.1).2 ≤ 2 := by
  unfold wordR
  repeat' split
  all_goals decide
theorem wordR_no (n : Int) : (wordR n).2.2 = false → isWordB n = false ∨ n = 1012 ∨ n = 1013 := by
  intro h
  by_cases h1 : isWordB n = true
  · have := isWordB_iff.1 h1
    revert h
    unfold wordR
    repeat' split
    all_goals first
      | (intro h; exact absurd h (by decide))
      | (intro _; omega)
      | (intro _; simp_all [isNumB]; omega)
  · exact .inl (by simpa using h1)
theorem DrawWordEffect_any (v : Value) (zs : List Int) (w : World) (h : RdC w v zs) :
    Calls Tryd.prog 31 #[v] w fun e w' => ∃ z : Int, e = .returned (.int .i64 z) ∧ -1 ≤ z ∧ z ≤ 1014 ∧ Below w.heap.size w w' := by
  have H := Lib.hid h; clear h
  go_enter Tryd.func31, Tryd.ntmps31
  go_wp2_with fail
  refine (DrawWordText_any v zs _ H.out).mono ?_
  rintro e w1 ⟨z, rfl, h0, h1, hb⟩
  have B := Lib.hid hb; clear hb
  go_wp2
  go_ret
  exact ⟨z, rfl, h0, h1, B.out⟩
set_option maxHeartbeats 2000000 in
theorem fnWordEffect_any (A0 : Option Addr) (c0 : Nat) (x0 : List Int) (w0 : World) (h0 : RdC w0 (.slice A0 x0.length c0) x0) (ht : StrTab w0 0 opNames) (hp : Pow w0) :
    Calls Tryd.prog 11 #[.slice A0 x0.length c0] w0 fun e w' => e = .returned (.bool true) ∧ Below w0.heap.size w0 w' := by
  have hm := h0.len_le
  have hgl := ht.lt
  have HH := Lib.hid (And.intro h0 (And.intro ht hp)); clear h0 ht hp
  by_cases hl : x0.length ≤ 1048576
  case neg =>
    go_enter Tryd.func11, Tryd.ntmps11
    go_wp2
    go_ret
    exact ⟨rfl, Below.refl _ _⟩
  go_enter Tryd.func11, Tryd.ntmps11
  go_wp2_with fail
  refine (DrawWordEffect_any _ x0 _ HH.out.1).mono ?_
  rintro e w1 ⟨z, rfl, hz0, hz1, hb⟩
  have hs1 := hb.size
  have B1 := Lib.hid hb; clear hb
  have hzk : InK .i64 z := WalkArith.wf_i64 (by omega)
  rcases hR : wordR z with ⟨y0, y1, y2⟩
  have hf := wordR_facts z
  have hn := wordR_no z
  rw [hR] at hf hn
  dsimp only at hf hn
  have HF := Lib.hid (And.intro hf hn)
  have HR := Lib.hid hR; clear hR hf hn
  have hbb : (y2 != y2) = false := by simp
  go_wp2_with fail
  refine (WordEffect_I z _ hzk y0 y1 y2 HR.out).mono ?_
  rintro e w2 ⟨u0, u1, lo0, hi0, lo1, hi1, rfl, p0, p1, p2, p3, p4, p5, p6, o0, o1, hb⟩
  have hs2 := hb.size
  obtain ⟨G0, d0, rfl, _⟩ := o0.rd
  obtain ⟨G1, d1, rfl, _⟩ := o1.rd
  have hal : Below w2.heap.size w2 (w2.alloc (.cells #[.slice G0 y0.length d0, .slice G1 y1.length d1] 42)) := (Below.refl _ _).alloc (Nat.le_refl _) _
  have hbk := Blk.new w2 #[.slice G0 y0.length d0, .slice G1 y1.length d1] 42
  have S2 := Lib.hid (And.intro (o0.below hal).rd (And.intro (o1.below hal).rd (And.intro ((B1.out.trans (hb.mono hs1)).trans (hal.mono (by omega))) hbk))); clear hb o0 o1 hal hbk B1 p2 p3 p4 p5 p6 p0 p1
  go_wp2_with fail
  refine (WordEffect_S z _ hzk y0 y1 y2 HR.out).mono ?_
  rintro e w3 ⟨u0, u1, rfl, h0, h1, hb⟩
  have hs3 : w2.heap.size + 1 ≤ w3.heap.size := by have := hb.size; rw [World.size_alloc] at this; exact this
  have k0 := h0
  have k1 := h1
  obtain ⟨A0, c0', rfl, _⟩ := h0
  obtain ⟨A1, c1', rfl, _⟩ := h1
  have hal : Below w3.heap.size w3 (w3.alloc (.cells #[.slice A0 y0.length c0', .slice A1 y1.length c1'] 42)) := (Below.refl _ _).alloc (Nat.le_refl _) _
  have hbk := Blk.new w3 #[.slice A0 y0.length c0', .slice A1 y1.length c1'] 42
  have hB := S2.out.2.2.2.below hb (by rw [World.size_alloc]; omega)
  have hB2 := hB.below hal (by omega)
  have S3 := Lib.hid (And.intro ((S2.out.1.step hb).step hal) (And.intro ((S2.out.2.1.step hb).step hal) (And.intro ((S2.out.2.2.1.trans (hb.mono (by rw [World.size_alloc]; omega))).trans (hal.mono (by omega))) (And.intro hB2 (And.intro (k0.step hal) (k1.step hal)))))); clear hb hal hB S2 k0 k1
  obtain ⟨b20, b21, _, _⟩ := blk_two hB2
  obtain ⟨b30, b31, _, _⟩ := blk_two hbk
  clear hB2 hbk
  go_wp2_with fail
  refine (smE _ _ _ _ y0 y0 y1 y1 _ S3.out.1 S3.out.2.1 S3.out.2.2.2.2.1 S3.out.2.2.2.2.2 true (by simp)).mono ?_
  rintro e w4 ⟨rfl, hb⟩
  have hs4 : w3.heap.size + 1 ≤ w4.heap.size := by have := hb.size; rw [World.size_alloc] at this; exact this
  have hB := S3.out.2.2.2.1.below hb (by rw [World.size_alloc]; omega)
  have S4 := Lib.hid (And.intro (S3.out.1.step hb) (And.intro (S3.out.2.1.step hb) (And.intro (S3.out.2.2.1.trans (hb.mono (by rw [World.size_alloc]; omega))) hB))); clear hb S3 b20 b21 b30 b31
  rcases y2 with _ | _
  · clear hB
    have hw2 : (isWordB z = false) ∨ (∃ b : Bool, isWordB z = true ∧ (z == 1012) = b ∧ (b = true ∨ (z == 1013) = true)) := by
      rcases HF.out.2 rfl with h | rfl | rfl
      · exact .inl h
      · exact .inr ⟨true, by decide, by decide, .inl rfl⟩
      · exact .inr ⟨false, by decide, by decide, .inr (by decide)⟩
    rcases hw2 with hw | ⟨b, hw, hb1, hb2⟩
    · have HS : Hid ((⟨(wordT z).toArray⟩ : ByteArray) = ⟨#[]⟩) := Lib.hid (by rw [wordT_no hw])
      clear hw
      go_wp2_with fail
      refine (WordText_I z _ (HH.out.2.1.below S4.out.2.2.1 hgl) (HH.out.2.2.below S4.out.2.2.1)).mono ?_
      rw [HS.out]
      rintro e w5 ⟨rfl, hb⟩
      have B5 := Lib.hid (S4.out.2.2.1.trans (hb.mono (by omega))); clear hb S4
      have hs5 := B5.out.size
      go_wp2_with fail
      refine (alive_any _).mono ?_
      rintro e w6 ⟨rfl, hb⟩
      have B6 := Lib.hid (B5.out.trans (hb.mono (by omega))); clear hb B5
      go_wp2
      go_ret
      exact ⟨rfl, B6.out⟩
    · have hf := wordT_facts hw
      obtain ⟨S, hS⟩ : ∃ S : ByteArray, (⟨(wordT z).toArray⟩ : ByteArray) = S := ⟨_, rfl⟩
      have hne : S.toList.isEmpty = false := by rw [Go.ByteArray.toList_eq, ← hS]; simpa using hf.2.1
      have HS := Lib.hid hS
      clear hw hf hS
      rcases b with _ | _
      · have h13 : (z == 1013) = true := hb2.resolve_left (by simp)
        clear hb2
        go_wp2_with fail
        refine (WordText_I z _ (HH.out.2.1.below S4.out.2.2.1 hgl) (HH.out.2.2.below S4.out.2.2.1)).mono ?_
        rw [HS.out]
        rintro e w5 ⟨rfl, hb⟩
        have B5 := Lib.hid (S4.out.2.2.1.trans (hb.mono (by omega))); clear hb S4
        have hs5 := B5.out.size
        go_wp2_with fail
        refine (alive_any _).mono ?_
        rintro e w6 ⟨rfl, hb⟩
        have B6 := Lib.hid (B5.out.trans (hb.mono (by omega))); clear hb B5
        go_wp2
        go_ret
        exact ⟨rfl, B6.out⟩
      · clear hb2
        go_wp2_with fail
        refine (WordText_I z _ (HH.out.2.1.below S4.out.2.2.1 hgl) (HH.out.2.2.below S4.out.2.2.1)).mono ?_
        rw [HS.out]
        rintro e w5 ⟨rfl, hb⟩
        have B5 := Lib.hid (S4.out.2.2.1.trans (hb.mono (by omega))); clear hb S4
        have hs5 := B5.out.size
        go_wp2_with fail
        refine (alive_any _).mono ?_
        rintro e w6 ⟨rfl, hb⟩
        have B6 := Lib.hid (B5.out.trans (hb.mono (by omega))); clear hb B5
        go_wp2
        go_ret
        exact ⟨rfl, B6.out⟩
  · obtain ⟨f1, f2, f3, f4⟩ := HF.out.1 rfl
    have HE := Lib.hid f1
    rcases hN : needsR y0 y1 with ⟨n, m⟩
    rw [hN] at f2 f3 f4
    dsimp only at f2 f3 f4
    have HN := Lib.hid hN
    clear hN f1
    obtain ⟨b40, b41, _, _⟩ := blk_two hB
    clear hB
    go_wp2_with fail
    refine (NeedsOf_I _ _ y0 y1 _ S4.out.1 S4.out.2.1 n m HN.out).mono ?_
    rintro e w5 ⟨rfl, hb⟩
    have hs5 := hb.size
    have hB := S4.out.2.2.2.below hb (by omega)
    have S5 := Lib.hid (And.intro (S4.out.1.step hb) (And.intro (S4.out.2.1.step hb) (S4.out.2.2.1.trans (hb.mono (by omega))))); clear hb S4 b40 b41
    obtain ⟨b50, b51, _, _⟩ := blk_two hB
    clear hB
    go_wp2_with fail
    refine (EffectOk_I _ _ y0 y1 _ S5.out.1 S5.out.2.1).mono ?_
    rw [HE.out]
    rintro e w6 ⟨rfl, hb⟩
    have B6 := Lib.hid (S5.out.2.2.trans (hb.mono (by omega))); clear hb S5
    go_wp2
    go_ret
    exact ⟨rfl, B6.out⟩

theorem fnWordEffect_walk : LawWalkL 11 Tryd.f11 Rows.fnWordEffectRow.laid := by
  intro H enc W base args ds ps hval hA hL _
  rw [Tryd.params11] at hA hval
  obtain ⟨v0, d0, rfl, rfl, h0⟩ := trodAll_one hA
  obtain ⟨A0, c0, zs0, rfl, hi0, hc0⟩ := ints_of_trod Tryd.underlying35 Tryd.underlying5 cells_byte (hval 0 _ _ rfl rfl) h0
  exact fnWordEffect_any A0 c0 zs0 W (RdC.mk hi0 hc0) (strTab_of_laid lv_opTexts_named lv_opTexts_type Tryd.underlying52 Tryd.underlying9 (by kernel_rfl) (by kernel_rfl) (ss := opNames) (List.mem_of_getElem? (i := 3) (by kernel_rfl)) (by decide) hL) (tabIs_of_mem lv_uint64pow10_named lv_uint64pow10_type Tryd.underlying113 Tryd.underlying101 (by kernel_rfl) (by kernel_rfl) (List.mem_of_getElem? (i := 2) (by kernel_rfl)) hL)

noncomputable def fnWordEffect_world (os : Os) : World := laidAt (laidAt (laidAt (laidAt (World.holding Tryd.prog os ⟨#[], #[], []⟩) 3 Rows.laid_math_bits_deBruijn32tab) 4 Rows.laid_math_bits_deBruijn64tab) 1 Rows.laid_internal_strconv_uint64pow10) 0 Rows.laid_loop_example_stackwords_impl_opTexts
theorem fnWordEffect_met (os : Os) : laidMet Tryd.prog Rows.fnWordEffectRow.laid ((fnWordEffect_world os).forCall (fun _ _ => 0) ⟨#[], #[.slice none 0 0], []⟩).memory :=
  laidMet_of_run' 8 (by kernel_rfl) (by kernel_rfl)
theorem fnWordEffect_reads (os : Os) {H : Type} (enc : TypeId × Value → H) : ∃ places, DataW.whole enc Tryd.prog ((fnWordEffect_world os).forCall (fun _ _ => 0) ⟨#[], #[.slice none 0 0], []⟩).memory Tryd.f11.params.toList Rows.fnWordEffectSpec.vars false #[.slice none 0 0].toList 8 = some ([.nil], [strData opNames], places) := by
  have h : (DataW.whole enc Tryd.prog ((fnWordEffect_world os).forCall (fun _ _ => 0) ⟨#[], #[.slice none 0 0], []⟩).memory Tryd.f11.params.toList Rows.fnWordEffectSpec.vars false #[.slice none 0 0].toList 8).map (fun x => (x.1, x.2.1)) = some ([.nil], [strData opNames]) := by kernel_rfl
  obtain ⟨⟨a, b, c⟩, h1, h2⟩ := Option.map_eq_some_iff.1 h
  simp only [Prod.mk.injEq] at h2
  obtain ⟨rfl, rfl⟩ := h2
  exact ⟨c, h1⟩

set_option maxRecDepth 100000 in
theorem fnWordEffect_lifted (os : Os) (started : os.Started) (H : Type) (enc : TypeId × Value → H) (F : Stop.Interp) :
    ReturnsInHanded {} Tryd.checked os 11 .any ((OpenSpec.ofChange Rows.fnWordEffectSpec).preRow enc Tryd.prog Tryd.f11 Rows.fnWordEffectRow.domain false Rows.fnWordEffectRow.laid) (((OpenSpec.ofChange Rows.fnWordEffectSpec).at F).post enc Tryd.prog Tryd.f11 false true false false) := by
  obtain ⟨places, hx⟩ := fnWordEffect_reads os enc
  refine returnsInHanded_of_row (C := Tryd.checked) (s := OpenSpec.ofChange Rows.fnWordEffectSpec) own started (by kernel_rfl) Tryd.func11
    (witness_row_at (enc := enc) (C := Tryd.checked) false (fnWordEffect_world os) #[.slice none 0 0] rfl (by kernel_rfl) (by kernel_rfl) (by kernel_rfl)
      (OpenSpec.preRow_of_cond 8 hx (by kernel_rfl) (fun k hk => by cases hk) (by kernel_rfl) (fnWordEffect_met os))) ?_
  intro W base args ds gs before hval hW _ _ _ hL hsh _
  have hA := hW
  obtain ⟨p, q, hA, hV, _⟩ := hA
  refine (fnWordEffect_walk H enc W base args ds p hval hA hL hsh).mono fun e W' ⟨he, hb⟩ => ⟨_, he, ?_⟩
  obtain ⟨g, t, cs, fuel, d, p', rfl, _⟩ := trodVars_one hV
  have hd := (trodAll_length hA).2
  match ds, hd with
  | [d0], _ =>
    refine post_lawV (s := Rows.fnWordEffectSpec) laidOut hW (by kernel_rfl) ?_ rfl Tryd.underlying4 ⟨rfl, rfl, rfl⟩ hb
    intro n hn g t hg ht
    have hn2 : n ∈ ["loop.example/stackwords/impl.opTexts"] := hn
    simp only [List.mem_cons, List.not_mem_nil, or_false] at hn2
    rcases hn2 with rfl
    · obtain rfl := Option.some.inj (lv_opTexts_named.symm.trans hg)
      obtain rfl := Option.some.inj (lv_opTexts_type.symm.trans ht)
      exact lv_opTexts_readable

theorem fnWordEffect_said : Rows.FnWordEffectSaid :=
  OpenClaim.holds_of_cond 11 Tryd.f11 rfl rfl rfl rfl rfl rfl rfl ⟨rfl, rfl, rfl, rfl, rfl⟩ rfl rfl rfl rfl rfl (by kernel_rfl) Tryd.func11 (by unfold joinedFacts; rw [pf_enter, pf_lifts, pf_make]; kernel_rfl)
    (of_decide_eq_true (by kernel_rfl)) (by unfold Func.isWrapper; first | (rw [if_pos (by decide +kernel)]; kernel_rfl) | (rw [if_neg (by decide +kernel)]; exact ⟨rfl, rfl⟩))
    (fun os started H enc _ F => by rw [OpenClaim.pre_eq_preRow]; exact fnWordEffect_lifted os started H enc F)

theorem fnWordEffect_plain (f : FuncId) (fn : Func) (hf : Tryd.pinned.checked.prog.funcNamed "loop.example/stackwords/laws.FnWordEffect" = some f) (hfn : Tryd.pinned.checked.prog.funcs[f]? = some fn) :
    false = Tryd.pinned.checked.prog.looks [] ∧ ∀ (j : Nat) t, fn.params[j]? = some t → Tryd.pinned.checked.prog.wantsStandIn t = false := by
  obtain rfl : f = 11 := Option.some.inj ((show Tryd.prog.funcNamed "loop.example/stackwords/laws.FnWordEffect" = some 11 by kernel_rfl).symm.trans hf) |>.symm
  obtain rfl : fn = Tryd.f11 := (Option.some.inj (Tryd.func11.symm.trans hfn)).symm
  refine ⟨by kernel_rfl, fun j t ht => ?_⟩
  rw [Tryd.params11] at ht
  have hm := Array.mem_of_getElem? ht
  simp only [List.mem_toArray, List.mem_cons, List.not_mem_nil, or_false] at hm
  rcases hm with rfl
  · exact (show Tryd.prog.wantsStandIn 35 = false by kernel_rfl)

/-- FnWordEffect: the card, as it is given. -/
theorem fnWordEffect_card : Rows.FnWordEffectCardSaid :=
  Claim7.holds_tied_plain_at .later [] _ _ _ _ fnWordEffect_said (fun _ h => by cases h) (by kernel_rfl) (fun _ h => by cases h) fnWordEffect_row_tie rfl ⟨rfl, rfl⟩ (by kernel_rfl) rfl fnWordEffect_plain (by kernel_rfl)

end Go.Proofs.YtaobijmjlkdphaaDoor
