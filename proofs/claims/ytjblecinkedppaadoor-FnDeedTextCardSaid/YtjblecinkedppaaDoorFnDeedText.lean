/- FnDeedText: of every code: DeedText is its model at the drawn deed; ReadDeed of the text, if there is one, is the deed. For every input; the listed variables hold what the program lays. -/
import Derived.Test.YtjblecinkedppaaDoorI
import Derived.Test.YtjblecinkedppaaDoorHy
import Derived.Test.YtjblecinkedppaaDoorHo
import Derived.Test.YtjblecinkedppaaDoorBm
import Derived.Test.YtjblecinkedppaaDoorAh
import Derived.Test.YtjblecinkedppaaDoorAi
import Derived.Test.YtjblecinkedppaaDoorNl
import Derived.Test.YtjblecinkedppaaDoorBb
import Derived.Test.YtjblecinkedppaaDoorF1
import Derived.Test.YtjblecinkedppaaDoorF2
import Derived.Test.YtjblecinkedppaaDoorF3
import Derived.BigQuiet
import Derived.Deep.RegionHeld3
import Derived.Test.YtjblecinkedppaaDoorTie
import Derived.Test.YtjblecinkedppaaDoorCards
import Derived.SevenTiedAt
namespace Go.Proofs.YtjblecinkedppaaDoor
set_option maxRecDepth 100000
open Go.RowKit Go.WideShapes Go.ChangeShapes Go.Maps Go.Deep

theorem deed_text_read {k : Int} {t : List UInt8} (h : deedT k t ≠ []) : deedR (deedT k t) = ((k, t), true) := by
  unfold deedT at h ⊢
  split at h
  · rename_i h0
    subst h0
    split at h
    · rename_i h1
      rw [if_pos rfl, if_pos h1, deedR_do h1]
    · exact absurd rfl h
  · rename_i h0
    rw [if_neg h0]
    split at h
    · exact absurd rfl h
    · rename_i h1
      have ht : t = [] := Classical.not_not.1 h1
      subst ht
      rw [if_neg (by simp)]
      split at h
      · rename_i h2
        rw [if_pos h2, h2]; decide
      · rename_i h2
        rw [if_neg h2]
        split at h
        · rename_i h3
          rw [if_pos h3, h3]; decide
        · exact absurd rfl h
set_option maxHeartbeats 4000000 in
theorem fnDeedText_any (A0 : Option Addr) (c0 : Nat) (x0 : List Int) (w0 : World) (h0 : RdC w0 (.slice A0 x0.length c0) x0) (ht : StrTab w0 0 opNames) :
    Calls Tryd.prog 4 #[.slice A0 x0.length c0] w0 fun e w' => e = .returned (.bool true) ∧ Below w0.heap.size w0 w' := by
  have hm := h0.len_le
  have HH := Lib.hid h0; clear h0
  have HTT : Hid (∀ X, Below w0.heap.size w0 X → StrTab X 0 opNames) := Lib.hid fun X hX => ht.below hX ht.lt
  clear ht
  by_cases hl : x0.length ≤ 1048576
  case neg =>
    go_enter Tryd.func4, Tryd.ntmps4
    go_wp2
    go_ret
    exact ⟨rfl, Below.refl _ _⟩
  go_enter Tryd.func4, Tryd.ntmps4
  go_wp2_with fail
  refine (DrawDeedText_any _ x0 _ HH.out).mono ?_
  rintro e w1 ⟨k, S, rfl, hk0, hk1, hS, hb⟩
  have hz1 := hb.size
  have hba : Below w1.heap.size w1 (w1.alloc (.cells #[.int .i64 k, .string S] 32)) := (Below.refl _ _).alloc (Nat.le_refl _) _
  obtain ⟨W, hW⟩ : ∃ W, w1.alloc (.cells #[.int .i64 k, .string S] 32) = W := ⟨_, rfl⟩
  have kB : Blk W w1.heap.size #[.int .i64 k, .string S] 32 := by rw [← hW]; exact Blk.new w1 _ _
  rw [hW] at hba
  have X := Lib.hid (And.intro (hb.trans (hba.mono hz1)) kB); clear hb hba kB HH
  have hzW := X.out.1.size
  have hlW := X.out.2.lt
  obtain ⟨e0, e1, _, _⟩ := blkQ X.out.2
  obtain ⟨T, hT⟩ : ∃ T : ByteArray, (⟨(deedT k (bytesOf S)).toArray⟩ : ByteArray) = T := ⟨_, rfl⟩
  have hTb : bytesOf T = deedT k (bytesOf S) := by rw [← hT, bytes_mk]
  have hTl : T.size ≤ 403 := by have := deedT_len k (bytesOf S); rw [← hT]; simpa [ByteArray.size] using this
  have hTT : (T.toList == T.toList) = true := by simp
  have HTB := Lib.hid hTb; clear hTb
  go_wp2_with fail
  try rw [hW]
  refine (DeedText_I k S W (by omega) (HTT.out _ X.out.1)).mono ?_
  rintro e w2 ⟨rfl, hb⟩
  have hz2 := hb.size
  have Y := Lib.hid (And.intro (X.out.1.trans (hb.mono hzW)) (X.out.2.below hb hlW)); clear hb X e0 e1
  obtain ⟨e0, e1, _, _⟩ := blkQ Y.out.2
  go_wp2_with fail
  try rw [hT]
  refine (DeedText_S k S w2 (by omega)).mono ?_
  rintro e w3 ⟨rfl, hb⟩
  have hz3 := hb.size
  have Z := Lib.hid (And.intro (Y.out.1.trans (hb.mono (by omega))) (Y.out.2.below hb (by omega))); clear hb Y e0 e1
  obtain ⟨e0, e1, _, _⟩ := blkQ Z.out.2
  have hw3 := Z.out.1.size
  rw [hT]
  by_cases hne : deedT k (bytesOf S) = []
  · have hTe : T = ⟨#[]⟩ := by rw [← hT, hne]
    clear hT
    subst hTe
    go_wp2_with fail
    refine (alive_any _).mono ?_
    rintro e w4 ⟨rfl, hb⟩
    have Q := Lib.hid (Z.out.1.trans (hb.mono hw3)); clear hb Z
    go_wp2
    go_ret
    exact ⟨rfl, Q.out⟩
  · have HR := Lib.hid (show deedR (bytesOf T) = ((k, bytesOf S), true) by rw [HTB.out]; exact deed_text_read hne)
    have hTn : (T.toList == []) = false := by rw [str_eq]; exact decide_eq_false (by rw [HTB.out]; exact hne)
    have hSS : (S.toList == S.toList) = true := by simp
    clear hT hne
    go_wp2_with fail
    refine (ReadDeed_I T w3 (by omega) (HTT.out _ Z.out.1)).mono ?_
    rw [HR.out]
    rintro e w4 ⟨rfl, hb⟩
    have hz4 := hb.size
    rw [show deedV (k, bytesOf S) = .agg #[.int .i64 k, .string S] from by simp [deedV]]
    have hba : Below w4.heap.size w4 (w4.alloc (.cells #[.int .i64 k, .string S] 32)) := (Below.refl _ _).alloc (Nat.le_refl _) _
    obtain ⟨V, hV⟩ : ∃ V, w4.alloc (.cells #[.int .i64 k, .string S] 32) = V := ⟨_, rfl⟩
    have kV : Blk V w4.heap.size #[.int .i64 k, .string S] 32 := by rw [← hV]; exact Blk.new w4 _ _
    rw [hV] at hba
    have Q := Lib.hid (And.intro ((Z.out.1.trans (hb.mono hw3)).trans (hba.mono (by omega))) (And.intro ((Z.out.2.below hb (by omega)).below hba (by omega)) kV)); clear hb hba kV Z e0 e1
    obtain ⟨e0, e1, _, _⟩ := blkQ Q.out.2.1
    obtain ⟨f0, f1, _, _⟩ := blkQ Q.out.2.2
    go_wp2
    try rw [hV]
    go_ret
    exact ⟨rfl, Q.out.1⟩

theorem fnDeedText_walk : LawWalkL 4 Tryd.f4 Rows.fnDeedTextRow.laid := by
  intro H enc W base args ds ps hval hA hL _
  rw [Tryd.params4] at hA hval
  obtain ⟨v0, d0, rfl, rfl, h0⟩ := trodAll_one hA
  obtain ⟨A0, c0, zs0, rfl, hi0, hc0⟩ := ints_of_trod Tryd.underlying22 Tryd.underlying5 cells_byte (hval 0 _ _ rfl rfl) h0
  exact fnDeedText_any A0 c0 zs0 W (RdC.mk hi0 hc0) (strTab_of_laid lv_opTexts_named lv_opTexts_type Tryd.underlying98 Tryd.underlying9 (by kernel_rfl) (by kernel_rfl) (ss := opNames) (List.mem_of_getElem? (i := 0) (by kernel_rfl)) (by decide) hL)

noncomputable def fnDeedText_world (os : Os) : World := laidAt (World.holding Tryd.prog os ⟨#[], #[], []⟩) 0 Rows.laid_loop_example_stackwords_impl_opTexts
theorem fnDeedText_met (os : Os) : laidMet Tryd.prog Rows.fnDeedTextRow.laid ((fnDeedText_world os).forCall (fun _ _ => 0) ⟨#[], #[.slice none 0 0], []⟩).memory :=
  laidMet_of_run' 8 (by kernel_rfl) (by kernel_rfl)
theorem fnDeedText_reads (os : Os) {H : Type} (enc : TypeId × Value → H) : ∃ places, DataW.whole enc Tryd.prog ((fnDeedText_world os).forCall (fun _ _ => 0) ⟨#[], #[.slice none 0 0], []⟩).memory Tryd.f4.params.toList Rows.fnDeedTextSpec.vars false #[.slice none 0 0].toList 8 = some ([.nil], [strData opNames], places) := by
  have h : (DataW.whole enc Tryd.prog ((fnDeedText_world os).forCall (fun _ _ => 0) ⟨#[], #[.slice none 0 0], []⟩).memory Tryd.f4.params.toList Rows.fnDeedTextSpec.vars false #[.slice none 0 0].toList 8).map (fun x => (x.1, x.2.1)) = some ([.nil], [strData opNames]) := by kernel_rfl
  obtain ⟨⟨a, b, c⟩, h1, h2⟩ := Option.map_eq_some_iff.1 h
  simp only [Prod.mk.injEq] at h2
  obtain ⟨rfl, rfl⟩ := h2
  exact ⟨c, h1⟩

set_option maxRecDepth 100000 in
theorem fnDeedText_lifted (os : Os) (started : os.Started) (H : Type) (enc : TypeId × Value → H) (F : Stop.Interp) :
    ReturnsInHanded {} Tryd.checked os 4 .any ((OpenSpec.ofChange Rows.fnDeedTextSpec).preRow enc Tryd.prog Tryd.f4 Rows.fnDeedTextRow.domain false Rows.fnDeedTextRow.laid) (((OpenSpec.ofChange Rows.fnDeedTextSpec).at F).post enc Tryd.prog Tryd.f4 false true false false) := by
  obtain ⟨places, hx⟩ := fnDeedText_reads os enc
  refine returnsInHanded_of_row (C := Tryd.checked) (s := OpenSpec.ofChange Rows.fnDeedTextSpec) own started (by kernel_rfl) Tryd.func4
    (witness_row_at (enc := enc) (C := Tryd.checked) false (fnDeedText_world os) #[.slice none 0 0] rfl (by kernel_rfl) (by kernel_rfl) (by kernel_rfl)
      (OpenSpec.preRow_of_cond 8 hx (by kernel_rfl) (fun k hk => by cases hk) (by kernel_rfl) (fnDeedText_met os))) ?_
  intro W base args ds gs before hval hW _ _ _ hL hsh _
  have hA := hW
  obtain ⟨p, q, hA, hV, _⟩ := hA
  refine (fnDeedText_walk H enc W base args ds p hval hA hL hsh).mono fun e W' ⟨he, hb⟩ => ⟨_, he, ?_⟩
  obtain ⟨g, t, cs, fuel, d, p', rfl, _⟩ := trodVars_one hV
  have hd := (trodAll_length hA).2
  match ds, hd with
  | [d0], _ =>
    refine post_lawV (s := Rows.fnDeedTextSpec) laidOut hW (by kernel_rfl) ?_ rfl Tryd.underlying4 ⟨rfl, rfl, rfl⟩ hb
    intro n hn g t hg ht
    have hn2 : n ∈ ["loop.example/stackwords/impl.opTexts"] := hn
    simp only [List.mem_cons, List.not_mem_nil, or_false] at hn2
    rcases hn2 with rfl
    · obtain rfl := Option.some.inj (lv_opTexts_named.symm.trans hg)
      obtain rfl := Option.some.inj (lv_opTexts_type.symm.trans ht)
      exact lv_opTexts_readable

theorem fnDeedText_said : Rows.FnDeedTextSaid :=
  OpenClaim.holds_of_cond 4 Tryd.f4 rfl rfl rfl rfl rfl rfl rfl ⟨rfl, rfl, rfl, rfl, rfl⟩ rfl rfl rfl rfl rfl (by kernel_rfl) Tryd.func4 (by unfold joinedFacts; rw [pf_enter, pf_lifts, pf_make]; kernel_rfl)
    (of_decide_eq_true (by kernel_rfl)) (by unfold Func.isWrapper; first | (rw [if_pos (by decide +kernel)]; kernel_rfl) | (rw [if_neg (by decide +kernel)]; exact ⟨rfl, rfl⟩))
    (fun os started H enc _ F => by rw [OpenClaim.pre_eq_preRow]; exact fnDeedText_lifted os started H enc F)

theorem fnDeedText_plain (f : FuncId) (fn : Func) (hf : Tryd.pinned.checked.prog.funcNamed "loop.example/stackwords/laws.FnDeedText" = some f) (hfn : Tryd.pinned.checked.prog.funcs[f]? = some fn) :
    false = Tryd.pinned.checked.prog.looks [] ∧ ∀ (j : Nat) t, fn.params[j]? = some t → Tryd.pinned.checked.prog.wantsStandIn t = false := by
  obtain rfl : f = 4 := Option.some.inj ((show Tryd.prog.funcNamed "loop.example/stackwords/laws.FnDeedText" = some 4 by kernel_rfl).symm.trans hf) |>.symm
  obtain rfl : fn = Tryd.f4 := (Option.some.inj (Tryd.func4.symm.trans hfn)).symm
  refine ⟨by kernel_rfl, fun j t ht => ?_⟩
  rw [Tryd.params4] at ht
  have hm := Array.mem_of_getElem? ht
  simp only [List.mem_toArray, List.mem_cons, List.not_mem_nil, or_false] at hm
  rcases hm with rfl
  · exact (show Tryd.prog.wantsStandIn 22 = false by kernel_rfl)

/-- FnDeedText: the card, as it is given. -/
theorem fnDeedText_card : Rows.FnDeedTextCardSaid :=
  Claim7.holds_tied_plain_at .later [] _ _ _ _ fnDeedText_said (fun _ h => by cases h) (by kernel_rfl) (fun _ h => by cases h) fnDeedText_row_tie rfl ⟨rfl, rfl⟩ (by kernel_rfl) rfl fnDeedText_plain (by kernel_rfl)

end Go.Proofs.YtjblecinkedppaaDoor
