/- EffectText answers at every effect as its model, and writes into no argument. For every input; the listed variables hold what the program's text lays. -/
import Derived.Test.YtceekfoacgoalaaDoorIt
import Derived.Test.YtceekfoacgoalaaDoorNl
import Derived.Test.YtceekfoacgoalaaDoorBb
import Derived.Test.YtceekfoacgoalaaDoorEg
import Derived.Test.YtceekfoacgoalaaDoorEf
import Derived.Test.YtceekfoacgoalaaDoorF1
import Derived.Test.YtceekfoacgoalaaDoorF2
import Derived.Test.YtceekfoacgoalaaDoorF3
import Derived.Test.YtceekfoacgoalaaDoorTie
import Derived.Test.YtceekfoacgoalaaDoorCards
import Derived.SevenTiedAt
import Derived.Deep.RegionWith
namespace Go.Proofs.YtceekfoacgoalaaDoor
set_option maxRecDepth 100000
open Go.RowKit Go.WideShapes Go.ChangeShapes Go.Deep

theorem blk_two4 {w : World} {g : Nat} {a b : Value} {T : TypeId} (h : Blk w g #[a, b] T) : w.cell? ⟨g, 0, none⟩ = some a ∧ w.cell? ⟨g, 1, none⟩ = some b ∧ w.frozen? ⟨g, 0, none⟩ = false ∧ w.frozen? ⟨g, 1, none⟩ = false :=
  ⟨h.cell 0, h.cell 1, h.free 0, h.free 1⟩
set_option maxHeartbeats 4000000 in
theorem exEffectText_any (A0 : Option Addr) (c0 : Nat) (r : List Int) (A1 : Option Addr) (c1 : Nat) (s : List Int) (w0 : World) (h0 : RdI w0 (.slice A0 r.length c0) r) (h1 : RdI w0 (.slice A1 s.length c1) s) (hp : Pow w0) :
    Calls Tryd.prog 3 #[.agg #[.slice A0 r.length c0, .slice A1 s.length c1]] w0 fun e w' => e = .returned (.bool true) ∧ Below w0.heap.size w0 w' := by
  have HP := Lib.hid hp; clear hp
  have hb0 : Below w0.heap.size w0 (w0.alloc (.cells #[.slice A0 r.length c0, .slice A1 s.length c1] 24)) := (Below.refl _ _).alloc (Nat.le_refl _) _
  have S0 := Lib.hid (And.intro (h0.step hb0) (And.intro (h1.step hb0) (And.intro hb0 (Blk.new w0 #[.slice A0 r.length c0, .slice A1 s.length c1] 24)))); clear h0 h1 hb0
  by_cases hq : leftE 1048576 r s < 0
  · go_enter Tryd.func3, Tryd.ntmps3
    go_wp2_with fail
    refine (szE_any _ _ r s 1048576 _ S0.out.1 S0.out.2.1 (by omega)).mono ?_
    rintro e w1 ⟨rfl, hb⟩
    have X := Lib.hid (S0.out.2.2.1.trans (hb.mono (by simp))); clear hb
    go_wp2
    go_ret
    exact ⟨rfl, X.out⟩
  obtain ⟨hl, hn⟩ := leftE_ok hq
  obtain ⟨S, hS⟩ : ∃ S : ByteArray, (⟨(effTextR r s).toArray⟩ : ByteArray) = S := ⟨_, rfl⟩
  have HR := Lib.hid hS; clear hS
  have hbb : (S.toList == S.toList) = true := by simp
  go_enter Tryd.func3, Tryd.ntmps3
  go_wp2_with fail
  refine (szE_any _ _ r s 1048576 _ S0.out.1 S0.out.2.1 (by omega)).mono ?_
  rintro e w1 ⟨rfl, hb⟩
  have hs1 : w0.heap.size + 1 ≤ w1.heap.size := by have := hb.size; simpa using this
  have hS := S0.out.1.at_
  have hT := S0.out.2.1.at_
  simp only [World.size_alloc] at hS hT
  have S1 := Lib.hid (And.intro (hS.below (hb.mono (by simp))) (And.intro (hT.below (hb.mono (by simp))) (And.intro (S0.out.2.2.1.trans (hb.mono (by simp))) (S0.out.2.2.2.below hb (by simp))))); clear hb S0 hS hT
  obtain ⟨a0, a1, _, _⟩ := blk_two4 S1.out.2.2.2
  go_wp2_with fail
  refine (toE _ _ r s _ (S1.out.1.rd (by omega)) (S1.out.2.1.rd (by omega)) hl hn).mono ?_
  rintro e w2 ⟨t0, t1, tm, rfl, hm1, hm2, ho0, ho1, hb⟩
  have hs2 := hb.size
  obtain ⟨T0, d0, rfl, _⟩ := ho0.rd
  obtain ⟨T1, d1, rfl, _⟩ := ho1.rd
  have S2 := Lib.hid (And.intro (S1.out.1.below (hb.mono (by omega))) (And.intro (S1.out.2.1.below (hb.mono (by omega))) (And.intro (S1.out.2.2.1.trans (hb.mono (by omega))) (And.intro (S1.out.2.2.2.below hb (by omega)) (And.intro ho0.rd ho1.rd))))); clear hb S1 ho0 ho1 a0 a1
  go_wp2_with fail
  refine (EffectText_S _ _ r s _ S2.out.2.2.2.2.1 S2.out.2.2.2.2.2 hl hn _ rfl).mono ?_
  rw [HR.out]
  rintro e w3 ⟨rfl, hb⟩
  have hs3 := hb.size
  have S3 := Lib.hid (And.intro (S2.out.1.below (hb.mono (by omega))) (And.intro (S2.out.2.1.below (hb.mono (by omega))) (And.intro (S2.out.2.2.1.trans (hb.mono (by omega))) (S2.out.2.2.2.1.below hb (by omega))))); clear hb S2
  obtain ⟨a0, a1, _, _⟩ := blk_two4 S3.out.2.2.2
  go_wp2_with fail
  refine (toE _ _ r s _ (S3.out.1.rd (by omega)) (S3.out.2.1.rd (by omega)) hl hn).mono ?_
  rintro e w4 ⟨x0, x1, xm, rfl, hx1, hx2, ho0, ho1, hb⟩
  have hs4 := hb.size
  obtain ⟨X0, e0, rfl, _⟩ := ho0.rd
  obtain ⟨X1, e1, rfl, _⟩ := ho1.rd
  have hba : Below w4.heap.size w4 (w4.alloc (.cells #[.slice X0 r.length e0, .slice X1 s.length e1] 27)) := (Below.refl _ _).alloc (Nat.le_refl _) _
  have bx := Blk.new w4 #[.slice X0 r.length e0, .slice X1 s.length e1] 27
  have S4 := Lib.hid (And.intro ((S3.out.1.below (hb.mono (by omega))).below (hba.mono (by omega))) (And.intro ((S3.out.2.1.below (hb.mono (by omega))).below (hba.mono (by omega))) (And.intro ((S3.out.2.2.1.trans (hb.mono (by omega))).trans (hba.mono (by omega))) (And.intro ((S3.out.2.2.2.below hb (by omega)).below hba (by omega)) (And.intro (ho0.below hba) (And.intro (ho1.below hba) bx)))))); clear hb S3 ho0 ho1 a0 a1 hba bx
  go_wp2_with fail
  refine (EffectText_I _ _ r s _ S4.out.2.2.2.2.1.rd S4.out.2.2.2.2.2.1.rd (HP.out.below S4.out.2.2.1) _ rfl).mono ?_
  rw [HR.out]
  rintro e w5 ⟨rfl, hb⟩
  have hs5 : w4.heap.size + 1 ≤ w5.heap.size := by have := hb.size; simpa using this
  have S5 := Lib.hid (And.intro (S4.out.1.below (hb.mono (by simp; omega))) (And.intro (S4.out.2.1.below (hb.mono (by simp; omega))) (And.intro (S4.out.2.2.1.trans (hb.mono (by simp; omega))) (And.intro (S4.out.2.2.2.1.below hb (by simp; omega)) (And.intro (S4.out.2.2.2.2.1.below hb) (And.intro (S4.out.2.2.2.2.2.1.below hb) (S4.out.2.2.2.2.2.2.below hb (by simp)))))))); clear hb S4
  obtain ⟨a0, a1, _, _⟩ := blk_two4 S5.out.2.2.2.1
  obtain ⟨b0, b1, _, _⟩ := blk_two4 S5.out.2.2.2.2.2.2
  have hd : Below w5.heap.size w5 w5.drew := (Below.refl _ _).drew
  have HZ : Hid (w5.drew.heap.size = w5.heap.size) := Lib.hid rfl
  go_wp2_with fail
  go_region_with (first
    | (go_at_call 9; refine (eqE _ _ _ _ r r s s _ ((S5.out.2.2.2.2.1.below hd).below hbA).rd ((S5.out.2.2.2.2.2.1.below hd).below hbA).rd hoA0.rd hoA1.rd true (by simp)).mono ?_; rintro e w6 ⟨rfl, hbB⟩)
    | (go_at_call 7; refine (toE _ _ r s _ ((S5.out.1.below (hd.mono (by omega))).rd (by rw [HZ.out]; omega)) ((S5.out.2.1.below (hd.mono (by omega))).rd (by rw [HZ.out]; omega)) hl hn).mono ?_; rintro e wA ⟨q0, q1, mA, rfl, hmA1, hmA2, hoA0, hoA1, hbA⟩; obtain ⟨x60, x61, _, _⟩ := blk_two4 ((S5.out.2.2.2.2.2.2.below hd (by omega)).below hbA (by rw [HZ.out]; omega)); obtain ⟨C0, f0, rfl, _⟩ := hoA0.rd; obtain ⟨C1, f1, rfl, _⟩ := hoA1.rd))
  all_goals
    have hb : Below w5.heap.size w5 w6 := hd.trans ((hbA.mono (by rw [HZ.out]; omega)).trans (hbB.mono (by have := hbA.size; rw [HZ.out] at this; omega)))
    have V := Lib.hid (S5.out.2.2.1.trans (hb.mono (by omega))); clear hb hbA hbB
    go_wp2
    go_ret
    exact ⟨rfl, V.out⟩
theorem exEffectText_walk : LawWalkL 3 Tryd.f3 Rows.fnExactEffectTextRow.laid := by
  intro H enc W base args ds ps hval hA hL _
  rw [Tryd.params3] at hA hval
  obtain ⟨v0, d0, rfl, rfl, h0⟩ := trodAll_one hA
  obtain ⟨A0, c0, zs0, B0, d0, ss0, rfl, hi0, hj0⟩ := effect_of_trod (hval 0 _ _ rfl rfl) h0
  exact exEffectText_any A0 c0 zs0 B0 d0 ss0 W hi0 hj0 (tabIs_of_mem lv_uint64pow10_named lv_uint64pow10_type Tryd.underlying85 Tryd.underlying79 (by kernel_rfl) (by kernel_rfl) (List.mem_of_getElem? (i := 2) (by kernel_rfl)) hL)

noncomputable def exEffectText_world (os : Os) : World := laidAt (laidAt (laidAt (World.holding Tryd.prog os ⟨#[], #[], []⟩) 1 Rows.laid_math_bits_deBruijn32tab) 2 Rows.laid_math_bits_deBruijn64tab) 0 Rows.laid_internal_strconv_uint64pow10
theorem exEffectText_met (os : Os) : laidMet Tryd.prog Rows.fnExactEffectTextRow.laid ((exEffectText_world os).forCall (fun _ _ => 0) ⟨#[], #[.agg #[.slice none 0 0, .slice none 0 0]], []⟩).memory :=
  laidMet_of_run' 8 (by kernel_rfl) (by kernel_rfl)
theorem exEffectText_reads (os : Os) {H : Type} (enc : TypeId × Value → H) : ∃ places, DataW.whole enc Tryd.prog ((exEffectText_world os).forCall (fun _ _ => 0) ⟨#[], #[.agg #[.slice none 0 0, .slice none 0 0]], []⟩).memory Tryd.f3.params.toList Rows.fnExactEffectTextSpec.vars false #[.agg #[.slice none 0 0, .slice none 0 0]].toList 8 = some ([.agg [.nil, .nil]], [], places) := by
  have h : (DataW.whole enc Tryd.prog ((exEffectText_world os).forCall (fun _ _ => 0) ⟨#[], #[.agg #[.slice none 0 0, .slice none 0 0]], []⟩).memory Tryd.f3.params.toList Rows.fnExactEffectTextSpec.vars false #[.agg #[.slice none 0 0, .slice none 0 0]].toList 8).map (fun x => (x.1, x.2.1)) = some ([.agg [.nil, .nil]], []) := by kernel_rfl
  obtain ⟨⟨a, b, c⟩, h1, h2⟩ := Option.map_eq_some_iff.1 h
  simp only [Prod.mk.injEq] at h2
  obtain ⟨rfl, rfl⟩ := h2
  exact ⟨c, h1⟩

set_option maxRecDepth 100000 in
theorem exEffectText_lifted (os : Os) (started : os.Started) (H : Type) (enc : TypeId × Value → H) (F : Stop.Interp) :
    ReturnsInHanded {} Tryd.checked os 3 .any ((OpenSpec.ofChange Rows.fnExactEffectTextSpec).preRow enc Tryd.prog Tryd.f3 Rows.fnExactEffectTextRow.domain false Rows.fnExactEffectTextRow.laid) (((OpenSpec.ofChange Rows.fnExactEffectTextSpec).at F).post enc Tryd.prog Tryd.f3 false true false false) := by
  obtain ⟨places, hx⟩ := exEffectText_reads os enc
  refine returnsInHanded_of_row (C := Tryd.checked) (s := OpenSpec.ofChange Rows.fnExactEffectTextSpec) own started (by kernel_rfl) Tryd.func3
    (witness_row_at (enc := enc) (C := Tryd.checked) false (exEffectText_world os) #[.agg #[.slice none 0 0, .slice none 0 0]] rfl (by kernel_rfl) (by kernel_rfl) (by kernel_rfl)
      (OpenSpec.preRow_of_cond 8 hx (by kernel_rfl) (fun k hk => by cases hk) (by kernel_rfl) (exEffectText_met os))) ?_
  intro W base args ds gs before hval hW _ _ _ hL hsh _
  have hA := hW
  obtain ⟨p, q, hA, hV, _⟩ := hA
  refine (exEffectText_walk H enc W base args ds p hval hA hL hsh).mono fun e W' ⟨he, hb⟩ => ⟨_, he, ?_⟩
  obtain ⟨rfl, _⟩ := trodVars_none hV
  have hd := (trodAll_length hA).2
  match ds, hd with
  | [d0], _ =>
    refine post_lawV (s := Rows.fnExactEffectTextSpec) laidOut hW (by kernel_rfl) ?_ rfl Tryd.underlying4 ⟨rfl, rfl, rfl⟩ hb
    intro n hn
    exact absurd (show n ∈ ([] : List String) from hn) (by simp)

theorem exEffectText_said : Rows.FnExactEffectTextSaid :=
  OpenClaim.holds_of_cond 3 Tryd.f3 rfl rfl rfl rfl rfl rfl rfl ⟨rfl, rfl, rfl, rfl, rfl⟩ rfl rfl rfl rfl rfl (by kernel_rfl) Tryd.func3 (by unfold joinedFacts; rw [pf_enter, pf_lifts, pf_make]; kernel_rfl)
    (of_decide_eq_true (by kernel_rfl)) (by unfold Func.isWrapper; first | (rw [if_pos (by decide +kernel)]; kernel_rfl) | (rw [if_neg (by decide +kernel)]; exact ⟨rfl, rfl⟩))
    (fun os started H enc _ F => by rw [OpenClaim.pre_eq_preRow]; exact exEffectText_lifted os started H enc F)

theorem exEffectText_plain (f : FuncId) (fn : Func) (hf : Tryd.pinned.checked.prog.funcNamed "loop.example/stackwords/laws.FnExactEffectText" = some f) (hfn : Tryd.pinned.checked.prog.funcs[f]? = some fn) :
    false = Tryd.pinned.checked.prog.looks [] ∧ ∀ (j : Nat) t, fn.params[j]? = some t → Tryd.pinned.checked.prog.wantsStandIn t = false := by
  obtain rfl : f = 3 := Option.some.inj ((show Tryd.prog.funcNamed "loop.example/stackwords/laws.FnExactEffectText" = some 3 by kernel_rfl).symm.trans hf) |>.symm
  obtain rfl : fn = Tryd.f3 := (Option.some.inj (Tryd.func3.symm.trans hfn)).symm
  refine ⟨by kernel_rfl, fun j t ht => ?_⟩
  rw [Tryd.params3] at ht
  have hm := Array.mem_of_getElem? ht
  simp only [List.mem_toArray, List.mem_cons, List.not_mem_nil, or_false] at hm
  rcases hm with rfl
  · exact (show Tryd.prog.wantsStandIn 24 = false by kernel_rfl)

/-- FnExactEffectText: the card, as it is given. -/
theorem exEffectText_card : Rows.FnExactEffectTextCardSaid :=
  Claim7.holds_tied_plain_at .later [] _ _ _ _ exEffectText_said (fun _ h => by cases h) (by kernel_rfl) (fun _ h => by cases h) fnExactEffectText_row_tie rfl ⟨rfl, rfl⟩ (by kernel_rfl) rfl exEffectText_plain (by kernel_rfl)

end Go.Proofs.YtceekfoacgoalaaDoor
