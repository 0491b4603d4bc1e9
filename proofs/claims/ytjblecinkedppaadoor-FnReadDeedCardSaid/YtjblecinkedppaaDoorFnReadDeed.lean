/- FnReadDeed: of every code: ReadDeed is its model at the drawn text; DeedText of the deed is the text; with a space behind it a text is refused. For every input; the listed variables hold what the program lays. -/
import Derived.Test.YtjblecinkedppaaDoorI
import Derived.Test.YtjblecinkedppaaDoorHy
import Derived.Test.YtjblecinkedppaaDoorHo
import Derived.Test.YtjblecinkedppaaDoorBm
import Derived.Test.YtjblecinkedppaaDoorAh
import Derived.Test.YtjblecinkedppaaDoorAi
import Derived.Test.YtjblecinkedppaaDoorNl
import Derived.Test.YtjblecinkedppaaDoorBb
import Derived.Test.YtjblecinkedppaaDoorF1
import Derived.Test.YtjblecinkedppaaDoorF2
import Derived.Test.YtjblecinkedppaaDoorF3
import Derived.BigQuiet
import Derived.Deep.RegionHeld3
import Derived.Test.YtjblecinkedppaaDoorTie
import Derived.Test.YtjblecinkedppaaDoorCards
import Derived.SevenTiedAt
namespace Go.Proofs.YtjblecinkedppaaDoor
set_option maxRecDepth 100000
open Go.RowKit Go.WideShapes Go.ChangeShapes Go.Maps Go.Deep

theorem deed_back {t : List UInt8} {d : Int × List UInt8} (h : deedR t = (d, true)) : deedT d.1 d.2 = t := by
  unfold deedR at h
  split at h
  · rename_i h0
    obtain rfl : d = (1, []) := by injection h with h1 _; exact h1.symm
    rw [h0]; decide
  · split at h
    · rename_i h0
      obtain rfl : d = (2, []) := by injection h with h1 _; exact h1.symm
      rw [h0]; decide
    · split at h
      · rename_i h0
        obtain rfl : d = (0, Lib.trimPrefix t doL) := by injection h with h1 _; exact h1.symm
        rw [Bool.and_eq_true] at h0
        rw [deedT, if_pos rfl, if_pos h0.2]
        exact (prefix_of h0.1).symm
      · injection h with _ h2; cases h2
theorem deed_no {t : List UInt8} {d : Int × List UInt8} (h : deedR t = (d, false)) : d = (0, []) := by
  unfold deedR at h
  split at h
  · injection h with _ h2; cases h2
  · split at h
    · injection h with _ h2; cases h2
    · split at h
      · injection h with _ h2; cases h2
      · injection h with h1 _; exact h1.symm
theorem deed_space {t : List UInt8} (h : (deedR t).2 = true) : deedR (t ++ [32]) = ((0, []), false) := by
  have hc : t ++ [32] ≠ clearL := fun e => by have h1 := congrArg List.getLast? e; simp [clearL] at h1
  have hb : t ++ [32] ≠ backL := fun e => by have h1 := congrArg List.getLast? e; simp [backL] at h1
  have hn : (Lib.hasPrefix (t ++ [32]) doL && (readProgP (Lib.trimPrefix (t ++ [32]) doL)).2) = false := by
    unfold deedR at h
    split at h
    · rename_i h0; subst h0; decide
    · split at h
      · rename_i h0; subst h0; decide
      · split at h
        · rename_i h0
          rw [Bool.and_eq_true] at h0
          have ht := prefix_of h0.1
          rw [ht, List.append_assoc, (prefix_do _).1, (prefix_do _).2]
          unfold readProgP
          rw [read_prog_sp]; rfl
        · cases h
  rw [deedR, if_neg hc, if_neg hb, hn]
  rfl
set_option maxHeartbeats 4000000 in
theorem fnReadDeed_any (A0 : Option Addr) (c0 : Nat) (x0 : List Int) (w0 : World) (h0 : RdC w0 (.slice A0 x0.length c0) x0) (ht : StrTab w0 0 opNames) :
    Calls Tryd.prog 5 #[.slice A0 x0.length c0] w0 fun e w' => e = .returned (.bool true) ∧ Below w0.heap.size w0 w' := by
  have hm := h0.len_le
  have HH := Lib.hid h0; clear h0
  have HTT : Hid (∀ X, Below w0.heap.size w0 X → StrTab X 0 opNames) := Lib.hid fun X hX => ht.below hX ht.lt
  clear ht
  by_cases hl : x0.length ≤ 1048576
  case neg =>
    go_enter Tryd.func5, Tryd.ntmps5
    go_wp2
    go_ret
    exact ⟨rfl, Below.refl _ _⟩
  go_enter Tryd.func5, Tryd.ntmps5
  go_wp2_with fail
  refine (DrawReadDeed_any _ x0 _ HH.out).mono ?_
  rintro e w1 ⟨S, rfl, hS, hb⟩
  have hz1 := hb.size
  have X := Lib.hid hb; clear hb HH
  rcases hd : deedR (bytesOf S) with ⟨⟨k, t⟩, ok⟩
  obtain ⟨D, hD⟩ : ∃ D : ByteArray, (⟨t.toArray⟩ : ByteArray) = D := ⟨_, rfl⟩
  have hDb : bytesOf D = t := by rw [← hD, bytes_mk]
  have hDz : D.size ≤ 400 := by have := deedR_len (bytesOf S); rw [hd] at this; rw [← hD]; simpa [ByteArray.size] using this
  have HR := Lib.hid (show deedR (bytesOf S) = ((k, t), ok) from hd)
  have HV := Lib.hid (show deedV (k, t) = .agg #[.int .i64 k, .string D] by rw [← hD]; rfl)
  have hDD : (D.toList == D.toList) = true := by simp
  go_wp2_with fail
  refine (ReadDeed_I S w1 (by omega) (HTT.out _ X.out)).mono ?_
  rw [HR.out]
  dsimp only
  rw [HV.out]
  rintro e w2 ⟨rfl, hb⟩
  have hz2 := hb.size
  have hba : Below w2.heap.size w2 (w2.alloc (.cells #[.int .i64 k, .string D] 32)) := (Below.refl _ _).alloc (Nat.le_refl _) _
  obtain ⟨W, hW⟩ : ∃ W, w2.alloc (.cells #[.int .i64 k, .string D] 32) = W := ⟨_, rfl⟩
  have kB : Blk W w2.heap.size #[.int .i64 k, .string D] 32 := by rw [← hW]; exact Blk.new w2 _ _
  rw [hW] at hba
  have Y := Lib.hid (And.intro ((X.out.trans (hb.mono hz1)).trans (hba.mono (by omega))) kB); clear hb hba kB X
  have hzW := Y.out.1.size
  have hlW := Y.out.2.lt
  go_wp2_with fail
  try rw [hW]
  refine (ReadDeed_S S W (by omega)).mono ?_
  rw [HR.out]
  dsimp only
  rw [HV.out]
  rintro e w3 ⟨rfl, hb⟩
  have hz3 := hb.size
  have hba : Below w3.heap.size w3 (w3.alloc (.cells #[.int .i64 k, .string D] 32)) := (Below.refl _ _).alloc (Nat.le_refl _) _
  obtain ⟨V, hV⟩ : ∃ V, w3.alloc (.cells #[.int .i64 k, .string D] 32) = V := ⟨_, rfl⟩
  have kV : Blk V w3.heap.size #[.int .i64 k, .string D] 32 := by rw [← hV]; exact Blk.new w3 _ _
  rw [hV] at hba
  have Z := Lib.hid (And.intro ((Y.out.1.trans (hb.mono hzW)).trans (hba.mono (by omega))) (And.intro ((Y.out.2.below hb hlW).below hba (by omega)) kV)); clear hb hba kV Y
  obtain ⟨e0, e1, _, _⟩ := blkQ Z.out.2.1
  obtain ⟨f0, f1, _, _⟩ := blkQ Z.out.2.2
  have hzV := Z.out.1.size
  have hlV := Z.out.2.1.lt
  rcases ok with _ | _
  · have h9 := deed_no HR.out
    injection h9 with h8 h7
    subst h8
    subst h7
    have hDe : D = ⟨#[]⟩ := by rw [← hD]
    clear hD hd
    subst hDe
    subst hV
    go_wp2_with fail
    refine (alive_any _).mono ?_
    rintro e w4 ⟨rfl, hb⟩
    have Q := Lib.hid (Z.out.1.trans (hb.mono hzV)); clear hb Z
    go_wp2
    go_ret
    exact ⟨rfl, Q.out⟩
  · have HT := Lib.hid (deed_back HR.out)
    obtain ⟨T, hT, hadd⟩ := add_strs S [32] (by simp; omega)
    have hTl : T.size ≤ 501 := by rw [← bytes_len T, hT, List.length_append, bytes_len]; simp; omega
    have HTT2 := Lib.hid (show deedR (bytesOf T) = ((0, []), false) by rw [hT]; exact deed_space (by rw [HR.out]))
    have hSS : (S.toList == S.toList) = true := by simp
    clear hT hd
    go_wp2_with fail
    try rw [hV]
    refine (ReadDeed_I T V (by omega) (HTT.out _ Z.out.1)).mono ?_
    rw [HTT2.out]
    rintro e w4 ⟨rfl, hb⟩
    have hz4 := hb.size
    rw [show deedV ((0, []) : Int × List UInt8) = .agg #[.int .i64 0, .string ⟨#[]⟩] from rfl]
    have hba : Below w4.heap.size w4 (w4.alloc (.cells #[.int .i64 0, .string ⟨#[]⟩] 32)) := (Below.refl _ _).alloc (Nat.le_refl _) _
    obtain ⟨U, hU⟩ : ∃ U, w4.alloc (.cells #[.int .i64 0, .string ⟨#[]⟩] 32) = U := ⟨_, rfl⟩
    rw [hU] at hba
    have Q := Lib.hid (And.intro ((Z.out.1.trans (hb.mono hzV)).trans (hba.mono (by omega))) ((Z.out.2.1.below hb hlV).below hba (by omega))); clear hb hba Z e0 e1 f0 f1
    obtain ⟨e0, e1, _, _⟩ := blkQ Q.out.2
    have hzU := Q.out.1.size
    subst hU
    go_wp2_with fail
    refine (DeedText_I k D _ (by omega) (HTT.out _ Q.out.1)).mono ?_
    rw [hDb]
    rw [show (⟨(deedT k t).toArray⟩ : ByteArray) = S by rw [HT.out]]
    rintro e w5 ⟨rfl, hb⟩
    have R := Lib.hid (Q.out.1.trans (hb.mono hzU)); clear hb Q
    go_wp2
    go_ret
    exact ⟨rfl, R.out⟩

theorem fnReadDeed_walk : LawWalkL 5 Tryd.f5 Rows.fnReadDeedRow.laid := by
  intro H enc W base args ds ps hval hA hL _
  rw [Tryd.params5] at hA hval
  obtain ⟨v0, d0, rfl, rfl, h0⟩ := trodAll_one hA
  obtain ⟨A0, c0, zs0, rfl, hi0, hc0⟩ := ints_of_trod Tryd.underlying22 Tryd.underlying5 cells_byte (hval 0 _ _ rfl rfl) h0
  exact fnReadDeed_any A0 c0 zs0 W (RdC.mk hi0 hc0) (strTab_of_laid lv_opTexts_named lv_opTexts_type Tryd.underlying98 Tryd.underlying9 (by kernel_rfl) (by kernel_rfl) (ss := opNames) (List.mem_of_getElem? (i := 0) (by kernel_rfl)) (by decide) hL)

noncomputable def fnReadDeed_world (os : Os) : World := laidAt (World.holding Tryd.prog os ⟨#[], #[], []⟩) 0 Rows.laid_loop_example_stackwords_impl_opTexts
theorem fnReadDeed_met (os : Os) : laidMet Tryd.prog Rows.fnReadDeedRow.laid ((fnReadDeed_world os).forCall (fun _ _ => 0) ⟨#[], #[.slice none 0 0], []⟩).memory :=
  laidMet_of_run' 8 (by kernel_rfl) (by kernel_rfl)
theorem fnReadDeed_reads (os : Os) {H : Type} (enc : TypeId × Value → H) : ∃ places, DataW.whole enc Tryd.prog ((fnReadDeed_world os).forCall (fun _ _ => 0) ⟨#[], #[.slice none 0 0], []⟩).memory Tryd.f5.params.toList Rows.fnReadDeedSpec.vars false #[.slice none 0 0].toList 8 = some ([.nil], [strData opNames], places) := by
  have h : (DataW.whole enc Tryd.prog ((fnReadDeed_world os).forCall (fun _ _ => 0) ⟨#[], #[.slice none 0 0], []⟩).memory Tryd.f5.params.toList Rows.fnReadDeedSpec.vars false #[.slice none 0 0].toList 8).map (fun x => (x.1, x.2.1)) = some ([.nil], [strData opNames]) := by kernel_rfl
  obtain ⟨⟨a, b, c⟩, h1, h2⟩ := Option.map_eq_some_iff.1 h
  simp only [Prod.mk.injEq] at h2
  obtain ⟨rfl, rfl⟩ := h2
  exact ⟨c, h1⟩

set_option maxRecDepth 100000 in
theorem fnReadDeed_lifted (os : Os) (started : os.Started) (H : Type) (enc : TypeId × Value → H) (F : Stop.Interp) :
    ReturnsInHanded {} Tryd.checked os 5 .any ((OpenSpec.ofChange Rows.fnReadDeedSpec).preRow enc Tryd.prog Tryd.f5 Rows.fnReadDeedRow.domain false Rows.fnReadDeedRow.laid) (((OpenSpec.ofChange Rows.fnReadDeedSpec).at F).post enc Tryd.prog Tryd.f5 false true false false) := by
  obtain ⟨places, hx⟩ := fnReadDeed_reads os enc
  refine returnsInHanded_of_row (C := Tryd.checked) (s := OpenSpec.ofChange Rows.fnReadDeedSpec) own started (by kernel_rfl) Tryd.func5
    (witness_row_at (enc := enc) (C := Tryd.checked) false (fnReadDeed_world os) #[.slice none 0 0] rfl (by kernel_rfl) (by kernel_rfl) (by kernel_rfl)
      (OpenSpec.preRow_of_cond 8 hx (by kernel_rfl) (fun k hk => by cases hk) (by kernel_rfl) (fnReadDeed_met os))) ?_
  intro W base args ds gs before hval hW _ _ _ hL hsh _
  have hA := hW
  obtain ⟨p, q, hA, hV, _⟩ := hA
  refine (fnReadDeed_walk H enc W base args ds p hval hA hL hsh).mono fun e W' ⟨he, hb⟩ => ⟨_, he, ?_⟩
  obtain ⟨g, t, cs, fuel, d, p', rfl, _⟩ := trodVars_one hV
  have hd := (trodAll_length hA).2
  match ds, hd with
  | [d0], _ =>
    refine post_lawV (s := Rows.fnReadDeedSpec) laidOut hW (by kernel_rfl) ?_ rfl Tryd.underlying4 ⟨rfl, rfl, rfl⟩ hb
    intro n hn g t hg ht
    have hn2 : n ∈ ["loop.example/stackwords/impl.opTexts"] := hn
    simp only [List.mem_cons, List.not_mem_nil, or_false] at hn2
    rcases hn2 with rfl
    · obtain rfl := Option.some.inj (lv_opTexts_named.symm.trans hg)
      obtain rfl := Option.some.inj (lv_opTexts_type.symm.trans ht)
      exact lv_opTexts_readable

theorem fnReadDeed_said : Rows.FnReadDeedSaid :=
  OpenClaim.holds_of_cond 5 Tryd.f5 rfl rfl rfl rfl rfl rfl rfl ⟨rfl, rfl, rfl, rfl, rfl⟩ rfl rfl rfl rfl rfl (by kernel_rfl) Tryd.func5 (by unfold joinedFacts; rw [pf_enter, pf_lifts, pf_make]; kernel_rfl)
    (of_decide_eq_true (by kernel_rfl)) (by unfold Func.isWrapper; first | (rw [if_pos (by decide +kernel)]; kernel_rfl) | (rw [if_neg (by decide +kernel)]; exact ⟨rfl, rfl⟩))
    (fun os started H enc _ F => by rw [OpenClaim.pre_eq_preRow]; exact fnReadDeed_lifted os started H enc F)

theorem fnReadDeed_plain (f : FuncId) (fn : Func) (hf : Tryd.pinned.checked.prog.funcNamed "loop.example/stackwords/laws.FnReadDeed" = some f) (hfn : Tryd.pinned.checked.prog.funcs[f]? = some fn) :
    false = Tryd.pinned.checked.prog.looks [] ∧ ∀ (j : Nat) t, fn.params[j]? = some t → Tryd.pinned.checked.prog.wantsStandIn t = false := by
  obtain rfl : f = 5 := Option.some.inj ((show Tryd.prog.funcNamed "loop.example/stackwords/laws.FnReadDeed" = some 5 by kernel_rfl).symm.trans hf) |>.symm
  obtain rfl : fn = Tryd.f5 := (Option.some.inj (Tryd.func5.symm.trans hfn)).symm
  refine ⟨by kernel_rfl, fun j t ht => ?_⟩
  rw [Tryd.params5] at ht
  have hm := Array.mem_of_getElem? ht
  simp only [List.mem_toArray, List.mem_cons, List.not_mem_nil, or_false] at hm
  rcases hm with rfl
  · exact (show Tryd.prog.wantsStandIn 22 = false by kernel_rfl)

/-- FnReadDeed: the card, as it is given. -/
theorem fnReadDeed_card : Rows.FnReadDeedCardSaid :=
  Claim7.holds_tied_plain_at .later [] _ _ _ _ fnReadDeed_said (fun _ h => by cases h) (by kernel_rfl) (fun _ h => by cases h) fnReadDeed_row_tie rfl ⟨rfl, rfl⟩ (by kernel_rfl) rfl fnReadDeed_plain (by kernel_rfl)

end Go.Proofs.YtjblecinkedppaaDoor
