/- FnBenchValid: of every code: BenchValid is its model at the drawn bench; a valid bench without its texts is valid; the empty bench is valid. For every input; the listed variables hold what the program lays. -/
import Derived.Test.YtjblecinkedppaaDoorI
import Derived.Test.YtjblecinkedppaaDoorHy
import Derived.Test.YtjblecinkedppaaDoorHo
import Derived.Test.YtjblecinkedppaaDoorBm
import Derived.Test.YtjblecinkedppaaDoorAh
import Derived.Test.YtjblecinkedppaaDoorAi
import Derived.Test.YtjblecinkedppaaDoorNl
import Derived.Test.YtjblecinkedppaaDoorBb
import Derived.Test.YtjblecinkedppaaDoorF1
import Derived.Test.YtjblecinkedppaaDoorF2
import Derived.Test.YtjblecinkedppaaDoorF3
import Derived.BigQuiet
import Derived.Deep.RegionHeld3
import Derived.Test.YtjblecinkedppaaDoorTie
import Derived.Test.YtjblecinkedppaaDoorCards
import Derived.SevenTiedAt
namespace Go.Proofs.YtjblecinkedppaaDoor
set_option maxRecDepth 100000
open Go.RowKit Go.WideShapes Go.ChangeShapes Go.Maps Go.Deep

theorem benchB_nopast {n : List Int} {ps : List (List UInt8)} (h : benchB n ps = true) : benchB n [] = true := benchB_mk (benchB_parts h).1 (by simp) (by simp)
theorem benchB_none : benchB [] [] = true := by decide
set_option maxHeartbeats 4000000 in
theorem fnBenchValid_any (A0 : Option Addr) (c0 : Nat) (x0 : List Int) (w0 : World) (h0 : RdC w0 (.slice A0 x0.length c0) x0) (ht : StrTab w0 0 opNames) :
    Calls Tryd.prog 3 #[.slice A0 x0.length c0] w0 fun e w' => e = .returned (.bool true) ∧ Below w0.heap.size w0 w' := by
  have hm := h0.len_le
  have HH := Lib.hid h0; clear h0
  have HTT : Hid (∀ X, Below w0.heap.size w0 X → StrTab X 0 opNames) := Lib.hid fun X hX => ht.below hX ht.lt
  clear ht
  by_cases hl : x0.length ≤ 1048576
  case neg =>
    go_enter Tryd.func3, Tryd.ntmps3
    go_wp2
    go_ret
    exact ⟨rfl, Below.refl _ _⟩
  go_enter Tryd.func3, Tryd.ntmps3
  go_wp2_with fail
  refine (DrawBenchValid_any _ x0 _ HH.out).mono ?_
  rintro e w1 ⟨vn, vp, n, ps, rfl, hn, hp, hl1, hl2, hl3, hb⟩
  have hz1 := hb.size
  obtain ⟨A, c, rfl, _⟩ := id hn
  obtain ⟨B, d, rfl, _⟩ := id hp
  have hl8 : ∀ t ∈ ps, t.length ≤ 100000000 := fun t ht => by have := hl3 t ht; omega
  have hba : Below w1.heap.size w1 (w1.alloc (.cells #[.slice A n.length c, .slice B ps.length d] 26)) := (Below.refl _ _).alloc (Nat.le_refl _) _
  obtain ⟨W, hW⟩ : ∃ W, w1.alloc (.cells #[.slice A n.length c, .slice B ps.length d] 26) = W := ⟨_, rfl⟩
  have kB : Blk W w1.heap.size #[.slice A n.length c, .slice B ps.length d] 26 := by rw [← hW]; exact Blk.new w1 _ _
  rw [hW] at hba
  have S := Lib.hid (And.intro (hb.trans (hba.mono hz1)) (And.intro (hn.step hba) (And.intro (RdT.step hp hba) (And.intro kB hl8)))); clear hb hba hn hp kB hl3 hl8 HH
  have hzW := S.out.1.size
  have hlW := S.out.2.2.2.1.lt
  obtain ⟨e0, e1, _, _⟩ := blkPair9 S.out.2.2.2.1
  rcases hv : benchB n ps with _ | _
  · have HV := Lib.hid hv; clear hv
    go_wp2_with fail
    try rw [hW]
    refine (BenchValid_I _ _ n ps W S.out.2.1 S.out.2.2.1 (by omega) (by omega) S.out.2.2.2.2 (HTT.out _ S.out.1)).mono ?_
    rw [HV.out]
    rintro e w2 ⟨rfl, hb⟩
    have hz2 := hb.size
    have T := Lib.hid (And.intro (S.out.1.trans (hb.mono hzW)) (And.intro (S.out.2.1.step hb) (And.intro (RdT.step S.out.2.2.1 hb) (And.intro (S.out.2.2.2.1.below hb hlW) S.out.2.2.2.2)))); clear hb S e0 e1
    obtain ⟨e0, e1, _, _⟩ := blkPair9 T.out.2.2.2.1
    go_wp2_with fail
    refine (BenchValid_S _ _ n ps w2 T.out.2.1 T.out.2.2.1 (by omega) (by omega) T.out.2.2.2.2).mono ?_
    rw [HV.out]
    rintro e w3 ⟨rfl, hb⟩
    have U := Lib.hid (T.out.1.trans (hb.mono (by omega))); clear T e0 e1
    have hz3 := hb.size; clear hb
    have hw0 := U.out.size
    go_wp2_with fail
    refine (BenchValid_I _ _ [] [] w3 (RdI.nil9 _) (RdT.nil9 _ _ _) (by simp) (by simp) (by simp) (HTT.out _ U.out)).mono ?_
    rw [benchB_none]
    rintro e w4 ⟨rfl, hb⟩
    have V := Lib.hid (U.out.trans (hb.mono hw0)); clear hb U
    have hw4 := V.out.size
    go_wp2_with fail
    refine (alive_any _).mono ?_
    rintro e w5 ⟨rfl, hb⟩
    have Q := Lib.hid (V.out.trans (hb.mono hw4)); clear hb V
    go_wp2
    go_ret
    exact ⟨rfl, Q.out⟩
  · have HV := Lib.hid hv; clear hv
    have HN := Lib.hid (benchB_nopast HV.out)
    go_wp2_with fail
    try rw [hW]
    refine (BenchValid_I _ _ n ps W S.out.2.1 S.out.2.2.1 (by omega) (by omega) S.out.2.2.2.2 (HTT.out _ S.out.1)).mono ?_
    rw [HV.out]
    rintro e w2 ⟨rfl, hb⟩
    have hz2 := hb.size
    have T := Lib.hid (And.intro (S.out.1.trans (hb.mono hzW)) (And.intro (S.out.2.1.step hb) (And.intro (RdT.step S.out.2.2.1 hb) (And.intro (S.out.2.2.2.1.below hb hlW) S.out.2.2.2.2)))); clear hb S e0 e1
    obtain ⟨e0, e1, _, _⟩ := blkPair9 T.out.2.2.2.1
    go_wp2_with fail
    refine (BenchValid_S _ _ n ps w2 T.out.2.1 T.out.2.2.1 (by omega) (by omega) T.out.2.2.2.2).mono ?_
    rw [HV.out]
    rintro e w3 ⟨rfl, hb⟩
    have hz3 := hb.size
    have U := Lib.hid (And.intro (T.out.1.trans (hb.mono (by omega))) (And.intro (T.out.2.1.step hb) (T.out.2.2.2.1.below hb (by omega)))); clear hb T e0 e1
    obtain ⟨e0, e1, _, _⟩ := blkPair9 U.out.2.2
    have hw0 := U.out.1.size
    go_wp2_with fail
    refine (BenchValid_I _ _ n [] w3 U.out.2.1 (RdT.nil9 _ _ _) (by omega) (by simp) (by simp) (HTT.out _ U.out.1)).mono ?_
    rw [HN.out]
    rintro e w4 ⟨rfl, hb⟩
    have V := Lib.hid (U.out.1.trans (hb.mono hw0)); clear hb U e0 e1
    have hw4 := V.out.size
    go_wp2_with fail
    refine (BenchValid_I _ _ [] [] w4 (RdI.nil9 _) (RdT.nil9 _ _ _) (by simp) (by simp) (by simp) (HTT.out _ V.out)).mono ?_
    rw [benchB_none]
    rintro e w5 ⟨rfl, hb⟩
    have Q := Lib.hid (V.out.trans (hb.mono hw4)); clear hb V
    have hw5 := Q.out.size
    go_wp2_with fail
    refine (alive_any _).mono ?_
    rintro e w6 ⟨rfl, hb⟩
    have R := Lib.hid (Q.out.trans (hb.mono hw5)); clear hb Q
    go_wp2
    go_ret
    exact ⟨rfl, R.out⟩

theorem fnBenchValid_walk : LawWalkL 3 Tryd.f3 Rows.fnBenchValidRow.laid := by
  intro H enc W base args ds ps hval hA hL _
  rw [Tryd.params3] at hA hval
  obtain ⟨v0, d0, rfl, rfl, h0⟩ := trodAll_one hA
  obtain ⟨A0, c0, zs0, rfl, hi0, hc0⟩ := ints_of_trod Tryd.underlying22 Tryd.underlying5 cells_byte (hval 0 _ _ rfl rfl) h0
  exact fnBenchValid_any A0 c0 zs0 W (RdC.mk hi0 hc0) (strTab_of_laid lv_opTexts_named lv_opTexts_type Tryd.underlying98 Tryd.underlying9 (by kernel_rfl) (by kernel_rfl) (ss := opNames) (List.mem_of_getElem? (i := 0) (by kernel_rfl)) (by decide) hL)

noncomputable def fnBenchValid_world (os : Os) : World := laidAt (World.holding Tryd.prog os ⟨#[], #[], []⟩) 0 Rows.laid_loop_example_stackwords_impl_opTexts
theorem fnBenchValid_met (os : Os) : laidMet Tryd.prog Rows.fnBenchValidRow.laid ((fnBenchValid_world os).forCall (fun _ _ => 0) ⟨#[], #[.slice none 0 0], []⟩).memory :=
  laidMet_of_run' 8 (by kernel_rfl) (by kernel_rfl)
theorem fnBenchValid_reads (os : Os) {H : Type} (enc : TypeId × Value → H) : ∃ places, DataW.whole enc Tryd.prog ((fnBenchValid_world os).forCall (fun _ _ => 0) ⟨#[], #[.slice none 0 0], []⟩).memory Tryd.f3.params.toList Rows.fnBenchValidSpec.vars false #[.slice none 0 0].toList 8 = some ([.nil], [strData opNames], places) := by
  have h : (DataW.whole enc Tryd.prog ((fnBenchValid_world os).forCall (fun _ _ => 0) ⟨#[], #[.slice none 0 0], []⟩).memory Tryd.f3.params.toList Rows.fnBenchValidSpec.vars false #[.slice none 0 0].toList 8).map (fun x => (x.1, x.2.1)) = some ([.nil], [strData opNames]) := by kernel_rfl
  obtain ⟨⟨a, b, c⟩, h1, h2⟩ := Option.map_eq_some_iff.1 h
  simp only [Prod.mk.injEq] at h2
  obtain ⟨rfl, rfl⟩ := h2
  exact ⟨c, h1⟩

set_option maxRecDepth 100000 in
theorem fnBenchValid_lifted (os : Os) (started : os.Started) (H : Type) (enc : TypeId × Value → H) (F : Stop.Interp) :
    ReturnsInHanded {} Tryd.checked os 3 .any ((OpenSpec.ofChange Rows.fnBenchValidSpec).preRow enc Tryd.prog Tryd.f3 Rows.fnBenchValidRow.domain false Rows.fnBenchValidRow.laid) (((OpenSpec.ofChange Rows.fnBenchValidSpec).at F).post enc Tryd.prog Tryd.f3 false true false false) := by
  obtain ⟨places, hx⟩ := fnBenchValid_reads os enc
  refine returnsInHanded_of_row (C := Tryd.checked) (s := OpenSpec.ofChange Rows.fnBenchValidSpec) own started (by kernel_rfl) Tryd.func3
    (witness_row_at (enc := enc) (C := Tryd.checked) false (fnBenchValid_world os) #[.slice none 0 0] rfl (by kernel_rfl) (by kernel_rfl) (by kernel_rfl)
      (OpenSpec.preRow_of_cond 8 hx (by kernel_rfl) (fun k hk => by cases hk) (by kernel_rfl) (fnBenchValid_met os))) ?_
  intro W base args ds gs before hval hW _ _ _ hL hsh _
  have hA := hW
  obtain ⟨p, q, hA, hV, _⟩ := hA
  refine (fnBenchValid_walk H enc W base args ds p hval hA hL hsh).mono fun e W' ⟨he, hb⟩ => ⟨_, he, ?_⟩
  obtain ⟨g, t, cs, fuel, d, p', rfl, _⟩ := trodVars_one hV
  have hd := (trodAll_length hA).2
  match ds, hd with
  | [d0], _ =>
    refine post_lawV (s := Rows.fnBenchValidSpec) laidOut hW (by kernel_rfl) ?_ rfl Tryd.underlying4 ⟨rfl, rfl, rfl⟩ hb
    intro n hn g t hg ht
    have hn2 : n ∈ ["loop.example/stackwords/impl.opTexts"] := hn
    simp only [List.mem_cons, List.not_mem_nil, or_false] at hn2
    rcases hn2 with rfl
    · obtain rfl := Option.some.inj (lv_opTexts_named.symm.trans hg)
      obtain rfl := Option.some.inj (lv_opTexts_type.symm.trans ht)
      exact lv_opTexts_readable

theorem fnBenchValid_said : Rows.FnBenchValidSaid :=
  OpenClaim.holds_of_cond 3 Tryd.f3 rfl rfl rfl rfl rfl rfl rfl ⟨rfl, rfl, rfl, rfl, rfl⟩ rfl rfl rfl rfl rfl (by kernel_rfl) Tryd.func3 (by unfold joinedFacts; rw [pf_enter, pf_lifts, pf_make]; kernel_rfl)
    (of_decide_eq_true (by kernel_rfl)) (by unfold Func.isWrapper; first | (rw [if_pos (by decide +kernel)]; kernel_rfl) | (rw [if_neg (by decide +kernel)]; exact ⟨rfl, rfl⟩))
    (fun os started H enc _ F => by rw [OpenClaim.pre_eq_preRow]; exact fnBenchValid_lifted os started H enc F)

theorem fnBenchValid_plain (f : FuncId) (fn : Func) (hf : Tryd.pinned.checked.prog.funcNamed "loop.example/stackwords/laws.FnBenchValid" = some f) (hfn : Tryd.pinned.checked.prog.funcs[f]? = some fn) :
    false = Tryd.pinned.checked.prog.looks [] ∧ ∀ (j : Nat) t, fn.params[j]? = some t → Tryd.pinned.checked.prog.wantsStandIn t = false := by
  obtain rfl : f = 3 := Option.some.inj ((show Tryd.prog.funcNamed "loop.example/stackwords/laws.FnBenchValid" = some 3 by kernel_rfl).symm.trans hf) |>.symm
  obtain rfl : fn = Tryd.f3 := (Option.some.inj (Tryd.func3.symm.trans hfn)).symm
  refine ⟨by kernel_rfl, fun j t ht => ?_⟩
  rw [Tryd.params3] at ht
  have hm := Array.mem_of_getElem? ht
  simp only [List.mem_toArray, List.mem_cons, List.not_mem_nil, or_false] at hm
  rcases hm with rfl
  · exact (show Tryd.prog.wantsStandIn 22 = false by kernel_rfl)

/-- FnBenchValid: the card, as it is given. -/
theorem fnBenchValid_card : Rows.FnBenchValidCardSaid :=
  Claim7.holds_tied_plain_at .later [] _ _ _ _ fnBenchValid_said (fun _ h => by cases h) (by kernel_rfl) (fun _ h => by cases h) fnBenchValid_row_tie rfl ⟨rfl, rfl⟩ (by kernel_rfl) rfl fnBenchValid_plain (by kernel_rfl)

end Go.Proofs.YtjblecinkedppaaDoor
