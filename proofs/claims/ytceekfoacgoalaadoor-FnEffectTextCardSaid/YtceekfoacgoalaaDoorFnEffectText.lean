/- FnEffectText: of every two codes: EffectText is its model at the drawn effect; it is empty only where the effect is none; two effects with one text are the same. For every input; the listed variables hold what the program's text lays. -/
import Derived.Test.YtceekfoacgoalaaDoorI
import Derived.Test.YtceekfoacgoalaaDoorIt
import Derived.Test.YtceekfoacgoalaaDoorIu
import Derived.Test.YtceekfoacgoalaaDoorIj
import Derived.Test.YtceekfoacgoalaaDoorNr
import Derived.Test.YtceekfoacgoalaaDoorBo
import Derived.Test.YtceekfoacgoalaaDoorNl
import Derived.Test.YtceekfoacgoalaaDoorBb
import Derived.Test.YtceekfoacgoalaaDoorF1
import Derived.Test.YtceekfoacgoalaaDoorF2
import Derived.Test.YtceekfoacgoalaaDoorF3
import Derived.Test.YtceekfoacgoalaaDoorTie
import Derived.Test.YtceekfoacgoalaaDoorCards
import Derived.SevenTiedAt
namespace Go.Proofs.YtceekfoacgoalaaDoor
set_option maxRecDepth 100000
open Go.RowKit Go.WideShapes Go.ChangeShapes

theorem effText_nil {a b : List Int} (h : effB a b = false) : effTextR a b = [] := by rw [effTextR, if_neg (by rw [h]; simp)]
theorem effText_ne {a b : List Int} (h : effB a b = true) : effTextR a b ≠ [] := by
  rw [effTextR, if_pos h]; simp
theorem effText_inj {a b c d : List Int} (h : effB a b = true) (e : effTextR c d = effTextR a b) : a = c ∧ b = d := by
  have h2 : effB c d = true := by
    rcases h2 : effB c d with _ | _
    · rw [effText_nil h2] at e; exact absurd e.symm (effText_ne h)
    · rfl
  obtain ⟨A, B, hA, hB, rfl, rfl, _⟩ := eff_ty h
  obtain ⟨C, D, hC, hD, rfl, rfl, _⟩ := eff_ty h2
  rw [effText_ty hA hB h, effText_ty hC hD h2] at e
  obtain ⟨rfl, rfl⟩ := effect_apart hA hB hC hD e.symm
  exact ⟨rfl, rfl⟩
theorem effText_size (a b : List Int) : (effTextR a b).length ≤ 2000 := by
  rcases h : effB a b with _ | _
  · rw [effText_nil h]; simp
  · obtain ⟨A, B, hA, hB, rfl, rfl, la, lb, _⟩ := eff_ty h
    have := txt_len hA
    have := txt_len hB
    rw [effText_ty hA hB h]
    simp; omega
set_option maxHeartbeats 4000000 in
theorem fnEffectText_any (A0 : Option Addr) (c0 : Nat) (x0 : List Int) (A1 : Option Addr) (c1 : Nat) (x1 : List Int) (w0 : World) (h0 : RdC w0 (.slice A0 x0.length c0) x0) (h1 : RdC w0 (.slice A1 x1.length c1) x1) (hp : Pow w0) :
    Calls Tryd.prog 4 #[.slice A0 x0.length c0, .slice A1 x1.length c1] w0 fun e w' => e = .returned (.bool true) ∧ Below w0.heap.size w0 w' := by
  have hm := h0.len_le
  have hm1 := h1.len_le
  have HH := Lib.hid (And.intro h0 (And.intro h1 hp)); clear h0 h1 hp
  by_cases hl : x0.length ≤ 1048576
  case neg =>
    go_enter Tryd.func4, Tryd.ntmps4
    go_wp2
    go_ret
    exact ⟨rfl, Below.refl _ _⟩
  by_cases hl1 : x1.length ≤ 1048576
  case neg =>
    go_enter Tryd.func4, Tryd.ntmps4
    go_wp2
    go_ret
    exact ⟨rfl, Below.refl _ _⟩
  go_enter Tryd.func4, Tryd.ntmps4
  go_wp2_with fail
  refine (DrawEffectText_any _ x0 _ HH.out.1).mono ?_
  rintro e w1 ⟨u0, u1, a, b, rfl, ra, rb, hla, hlb, hb⟩
  have hz1 : w0.heap.size ≤ w1.heap.size := hb.size
  obtain ⟨W, hW⟩ : ∃ W, w1.alloc (.cells #[u0, u1] 27) = W := ⟨_, rfl⟩
  have hal : Below w1.heap.size w1 W := by rw [← hW]; exact (Below.refl _ _).alloc (Nat.le_refl _) _
  have kW : Blk W w1.heap.size #[u0, u1] 27 := by rw [← hW]; exact Blk.new w1 _ _
  have X1 := Lib.hid (And.intro (hb.trans (hal.mono hz1)) (And.intro (ra.step hal) (And.intro (rb.step hal) kW))); clear hal kW hb
  obtain ⟨B0, d0, rfl, _⟩ := id ra
  obtain ⟨B1, d1, rfl, _⟩ := id rb
  clear ra rb
  obtain ⟨g, hg⟩ : ∃ g, w1.heap.size = g := ⟨_, rfl⟩
  rw [hg] at X1
  obtain ⟨T, hT⟩ : ∃ T : ByteArray, (⟨(effTextR a b).toArray⟩ : ByteArray) = T := ⟨_, rfl⟩
  have hTb : bytesOf T = effTextR a b := by rw [← hT, bytes_mk]
  have hTT : (T.toList == T.toList) = true := by simp
  have HT := Lib.hid (And.intro hT hTb); clear hT hTb
  obtain ⟨e0, e1, _, _⟩ := blk_pairT X1.out.2.2.2
  go_wp2_with fail
  try rw [hW]
  try rw [hg]
  refine (EffectText_I _ _ a b _ X1.out.2.1 X1.out.2.2.1 (HH.out.2.2.below X1.out.1) _ rfl).mono ?_
  rw [HT.out.1]
  rintro e w2 ⟨rfl, hb⟩
  have X2 := Lib.hid (And.intro (X1.out.1.trans (hb.mono X1.out.1.size)) (And.intro (X1.out.2.1.step hb) (And.intro (X1.out.2.2.1.step hb) (X1.out.2.2.2.below hb X1.out.2.2.2.lt)))); clear hb X1 e0 e1 hW hg
  obtain ⟨e0, e1, _, _⟩ := blk_pairT X2.out.2.2.2
  go_wp2_with fail
  refine (EffectText_S _ _ a b _ X2.out.2.1 X2.out.2.2.1 (by omega) (by omega) _ rfl).mono ?_
  rw [HT.out.1]
  rintro e w3 ⟨rfl, hb⟩
  have X3 := Lib.hid (And.intro (X2.out.1.trans (hb.mono X2.out.1.size)) (And.intro (X2.out.2.1.step hb) (And.intro (X2.out.2.2.1.step hb) (X2.out.2.2.2.below hb X2.out.2.2.2.lt)))); clear hb X2 e0 e1
  obtain ⟨e0, e1, _, _⟩ := blk_pairT X3.out.2.2.2
  rcases hB : effB a b with _ | _
  · have HB := Lib.hid hB
    have hTe : T = ⟨#[]⟩ := by rw [← HT.out.1, effText_nil hB]
    clear hB HT
    subst hTe
    go_wp2_with fail
    refine (EffectOk_Iy _ _ a b _ X3.out.2.1 X3.out.2.2.1 false HB.out).mono ?_
    rintro e w4 ⟨rfl, hb⟩
    have B4 := Lib.hid (X3.out.1.trans (hb.mono X3.out.1.size)); clear hb X3
    go_wp2_with fail
    refine (alive_any _).mono ?_
    rintro e w5 ⟨rfl, hb⟩
    have B5 := Lib.hid (B4.out.trans (hb.mono B4.out.size)); clear hb B4
    go_wp2
    go_ret
    exact ⟨rfl, B5.out⟩
  have HB := Lib.hid hB; clear hB
  have hTn : (T.toList == []) = false := by rw [str_eq]; exact decide_eq_false (by rw [HT.out.2]; exact effText_ne HB.out)
  have hTi : T.toList.isEmpty = false := by rw [Go.ByteArray.toList_eq]; have h := effText_ne HB.out; rw [← HT.out.2] at h; simpa [bytesOf] using h
  go_wp2_with fail
  refine (DrawEffectText_any _ x1 _ ((RdBC.below HH.out.2.1 X3.out.1).rd X3.out.1.size)).mono ?_
  rintro e w4 ⟨u2, u3, c, d, rfl, rc, rd, hlc, hld, hb⟩
  have hz4 : w3.heap.size ≤ w4.heap.size := hb.size
  obtain ⟨V, hV⟩ : ∃ V, w4.alloc (.cells #[u2, u3] 27) = V := ⟨_, rfl⟩
  have hal : Below w4.heap.size w4 V := by rw [← hV]; exact (Below.refl _ _).alloc (Nat.le_refl _) _
  have kV : Blk V w4.heap.size #[u2, u3] 27 := by rw [← hV]; exact Blk.new w4 _ _
  have hb3 : Below w3.heap.size w3 V := hb.trans (hal.mono hz4)
  have X4 := Lib.hid (And.intro (X3.out.1.trans (hb3.mono X3.out.1.size)) (And.intro (X3.out.2.1.step hb3) (And.intro (X3.out.2.2.1.step hb3) (And.intro (X3.out.2.2.2.below hb3 X3.out.2.2.2.lt) (And.intro (rc.step hal) (And.intro (rd.step hal) kV)))))); clear hb hal kV hb3 X3 e0 e1
  obtain ⟨B2, d2, rfl, _⟩ := id rc
  obtain ⟨B3, d3, rfl, _⟩ := id rd
  clear rc rd
  obtain ⟨g7, hg7⟩ : ∃ g, w4.heap.size = g := ⟨_, rfl⟩
  rw [hg7] at X4
  obtain ⟨U, hU⟩ : ∃ U : ByteArray, (⟨(effTextR c d).toArray⟩ : ByteArray) = U := ⟨_, rfl⟩
  have HU := Lib.hid (And.intro hU (show bytesOf U = effTextR c d by rw [← hU, bytes_mk])); clear hU
  obtain ⟨e0, e1, _, _⟩ := blk_pairT X4.out.2.2.2.1
  obtain ⟨f0, f1, _, _⟩ := blk_pairT X4.out.2.2.2.2.2.2
  go_wp2_with fail
  try rw [hV]
  try rw [hg7]
  refine (EffectText_I _ _ c d _ X4.out.2.2.2.2.1 X4.out.2.2.2.2.2.1 (HH.out.2.2.below X4.out.1) _ rfl).mono ?_
  rw [HU.out.1]
  rintro e w5 ⟨rfl, hb⟩
  have X5 := Lib.hid (And.intro (X4.out.1.trans (hb.mono X4.out.1.size)) (And.intro (X4.out.2.1.step hb) (And.intro (X4.out.2.2.1.step hb) (And.intro (X4.out.2.2.2.1.below hb X4.out.2.2.2.1.lt) (And.intro (X4.out.2.2.2.2.1.step hb) (And.intro (X4.out.2.2.2.2.2.1.step hb) (X4.out.2.2.2.2.2.2.below hb X4.out.2.2.2.2.2.2.lt))))))); clear hb X4 e0 e1 f0 f1 hV hg7
  obtain ⟨e0, e1, _, _⟩ := blk_pairT X5.out.2.2.2.1
  obtain ⟨f0, f1, _, _⟩ := blk_pairT X5.out.2.2.2.2.2.2
  by_cases hE : effTextR c d = effTextR a b
  · obtain ⟨h1, h2⟩ := effText_inj HB.out hE
    have hUT : U = T := by rw [← HU.out.1, ← HT.out.1, hE]
    subst hUT
    clear hE HU
    have HE := Lib.hid (show (decide (a = c) && decide (b = d)) = true by simp [h1, h2]); clear h1 h2
    go_wp2_with fail
    refine (smE _ _ _ _ a c b d _ X5.out.2.1 X5.out.2.2.1 X5.out.2.2.2.2.1 X5.out.2.2.2.2.2.1 true HE.out).mono ?_
    rintro e w6 ⟨rfl, hb⟩
    have B6 := Lib.hid (X5.out.1.trans (hb.mono X5.out.1.size)); clear hb X5
    go_wp2
    go_ret
    exact ⟨rfl, B6.out⟩
  · have hUT : (U.toList == T.toList) = false := by
      rw [Go.ByteArray.toList_eq, Go.ByteArray.toList_eq]
      exact beq_eq_false_iff_ne.2 (fun h => hE (by rw [← HU.out.2, ← HT.out.2]; exact h))
    clear hE
    go_wp2
    go_ret
    exact ⟨rfl, X5.out.1⟩

theorem fnEffectText_walk : LawWalkL 4 Tryd.f4 Rows.fnEffectTextRow.laid := by
  intro H enc W base args ds ps hval hA hL _
  rw [Tryd.params4] at hA hval
  obtain ⟨v0, v1, d0, d1, p0, p1, rfl, rfl, rfl, h0, h1⟩ := trodAll_two hA
  obtain ⟨A0, c0, zs0, rfl, hi0, hc0⟩ := ints_of_trod Tryd.underlying31 Tryd.underlying5 cells_byte (hval 0 _ _ rfl rfl) h0
  obtain ⟨A1, c1, zs1, rfl, hi1, hc1⟩ := ints_of_trod Tryd.underlying31 Tryd.underlying5 cells_byte (hval 1 _ _ rfl rfl) h1
  exact fnEffectText_any A0 c0 zs0 A1 c1 zs1 W (RdC.mk hi0 hc0) (RdC.mk hi1 hc1) (tabIs_of_mem lv_uint64pow10_named lv_uint64pow10_type Tryd.underlying85 Tryd.underlying79 (by kernel_rfl) (by kernel_rfl) (List.mem_of_getElem? (i := 2) (by kernel_rfl)) hL)

noncomputable def fnEffectText_world (os : Os) : World := laidAt (laidAt (laidAt (World.holding Tryd.prog os ⟨#[], #[], []⟩) 1 Rows.laid_math_bits_deBruijn32tab) 2 Rows.laid_math_bits_deBruijn64tab) 0 Rows.laid_internal_strconv_uint64pow10
theorem fnEffectText_met (os : Os) : laidMet Tryd.prog Rows.fnEffectTextRow.laid ((fnEffectText_world os).forCall (fun _ _ => 0) ⟨#[], #[.slice none 0 0, .slice none 0 0], []⟩).memory :=
  laidMet_of_run' 8 (by kernel_rfl) (by kernel_rfl)
theorem fnEffectText_reads (os : Os) {H : Type} (enc : TypeId × Value → H) : ∃ places, DataW.whole enc Tryd.prog ((fnEffectText_world os).forCall (fun _ _ => 0) ⟨#[], #[.slice none 0 0, .slice none 0 0], []⟩).memory Tryd.f4.params.toList Rows.fnEffectTextSpec.vars false #[.slice none 0 0, .slice none 0 0].toList 8 = some ([.nil, .nil], [], places) := by
  have h : (DataW.whole enc Tryd.prog ((fnEffectText_world os).forCall (fun _ _ => 0) ⟨#[], #[.slice none 0 0, .slice none 0 0], []⟩).memory Tryd.f4.params.toList Rows.fnEffectTextSpec.vars false #[.slice none 0 0, .slice none 0 0].toList 8).map (fun x => (x.1, x.2.1)) = some ([.nil, .nil], []) := by kernel_rfl
  obtain ⟨⟨a, b, c⟩, h1, h2⟩ := Option.map_eq_some_iff.1 h
  simp only [Prod.mk.injEq] at h2
  obtain ⟨rfl, rfl⟩ := h2
  exact ⟨c, h1⟩

set_option maxRecDepth 100000 in
theorem fnEffectText_lifted (os : Os) (started : os.Started) (H : Type) (enc : TypeId × Value → H) (F : Stop.Interp) :
    ReturnsInHanded {} Tryd.checked os 4 .any ((OpenSpec.ofChange Rows.fnEffectTextSpec).preRow enc Tryd.prog Tryd.f4 Rows.fnEffectTextRow.domain false Rows.fnEffectTextRow.laid) (((OpenSpec.ofChange Rows.fnEffectTextSpec).at F).post enc Tryd.prog Tryd.f4 false true false false) := by
  obtain ⟨places, hx⟩ := fnEffectText_reads os enc
  refine returnsInHanded_of_row (C := Tryd.checked) (s := OpenSpec.ofChange Rows.fnEffectTextSpec) own started (by kernel_rfl) Tryd.func4
    (witness_row_at (enc := enc) (C := Tryd.checked) false (fnEffectText_world os) #[.slice none 0 0, .slice none 0 0] rfl (by kernel_rfl) (by kernel_rfl) (by kernel_rfl)
      (OpenSpec.preRow_of_cond 8 hx (by kernel_rfl) (fun k hk => by cases hk) (by kernel_rfl) (fnEffectText_met os))) ?_
  intro W base args ds gs before hval hW _ _ _ hL hsh _
  have hA := hW
  obtain ⟨p, q, hA, hV, _⟩ := hA
  refine (fnEffectText_walk H enc W base args ds p hval hA hL hsh).mono fun e W' ⟨he, hb⟩ => ⟨_, he, ?_⟩
  obtain ⟨rfl, _⟩ := trodVars_none hV
  have hd := (trodAll_length hA).2
  match ds, hd with
  | [d0, d1], _ =>
    refine post_lawV (s := Rows.fnEffectTextSpec) laidOut hW (by kernel_rfl) ?_ rfl Tryd.underlying4 ⟨rfl, rfl, rfl⟩ hb
    intro n hn
    exact absurd (show n ∈ ([] : List String) from hn) (by simp)

theorem fnEffectText_said : Rows.FnEffectTextSaid :=
  OpenClaim.holds_of_cond 4 Tryd.f4 rfl rfl rfl rfl rfl rfl rfl ⟨rfl, rfl, rfl, rfl, rfl⟩ rfl rfl rfl rfl rfl (by kernel_rfl) Tryd.func4 (by unfold joinedFacts; rw [pf_enter, pf_lifts, pf_make]; kernel_rfl)
    (of_decide_eq_true (by kernel_rfl)) (by unfold Func.isWrapper; first | (rw [if_pos (by decide +kernel)]; kernel_rfl) | (rw [if_neg (by decide +kernel)]; exact ⟨rfl, rfl⟩))
    (fun os started H enc _ F => by rw [OpenClaim.pre_eq_preRow]; exact fnEffectText_lifted os started H enc F)

theorem fnEffectText_plain (f : FuncId) (fn : Func) (hf : Tryd.pinned.checked.prog.funcNamed "loop.example/stackwords/laws.FnEffectText" = some f) (hfn : Tryd.pinned.checked.prog.funcs[f]? = some fn) :
    false = Tryd.pinned.checked.prog.looks [] ∧ ∀ (j : Nat) t, fn.params[j]? = some t → Tryd.pinned.checked.prog.wantsStandIn t = false := by
  obtain rfl : f = 4 := Option.some.inj ((show Tryd.prog.funcNamed "loop.example/stackwords/laws.FnEffectText" = some 4 by kernel_rfl).symm.trans hf) |>.symm
  obtain rfl : fn = Tryd.f4 := (Option.some.inj (Tryd.func4.symm.trans hfn)).symm
  refine ⟨by kernel_rfl, fun j t ht => ?_⟩
  rw [Tryd.params4] at ht
  have hm := Array.mem_of_getElem? ht
  simp only [List.mem_toArray, List.mem_cons, List.not_mem_nil, or_false] at hm
  rcases hm with rfl | rfl
  · exact (show Tryd.prog.wantsStandIn 31 = false by kernel_rfl)
  · exact (show Tryd.prog.wantsStandIn 31 = false by kernel_rfl)

/-- FnEffectText: the card, as it is given. -/
theorem fnEffectText_card : Rows.FnEffectTextCardSaid :=
  Claim7.holds_tied_plain_at .later [] _ _ _ _ fnEffectText_said (fun _ h => by cases h) (by kernel_rfl) (fun _ h => by cases h) fnEffectText_row_tie rfl ⟨rfl, rfl⟩ (by kernel_rfl) rfl fnEffectText_plain (by kernel_rfl)

end Go.Proofs.YtceekfoacgoalaaDoor
