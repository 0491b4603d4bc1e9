/- ProgValid answers at every argument as its model, and leaves the argument as it was. For every input. -/
import Derived.Test.YtabjlloohcnijaaE
import Derived.Test.YtabjlloohcnijaaS
import Derived.Test.YtabjlloohcnijaaLift
namespace Go.Proofs.Ytabjlloohcnijaa
open Go.RowKit Go.WideShapes Go.ChangeShapes

theorem cells_int : Try.prog.cellsOf 3 = 1 := by kernel_rfl

theorem exProgValid_any (A : Option Addr) (c : Nat) (zs : List Int) (w : World) (h : Ints w A zs) :
    Calls Try.prog 8 #[.slice A zs.length c] w fun e w' => e = .returned (.bool true) ∧ Below w.heap.size w w' := by
  have hm := h.len
  have H := Lib.hid h; clear h
  by_cases hl : zs.length ≤ 1048576
  · generalize hv : validB zs = b
    have Hv := Lib.hid hv; clear hv
    go_enter Try.func8, Try.ntmps8
    go_wp2_with fail
    refine (toIntS_any A c zs _ H.out hl).mono ?_
    rintro e w1 ⟨v1, rfl, ho1, hb1⟩
    obtain ⟨A1, c1, rfl, hi1⟩ := ho1.ints
    have HI1 := Lib.hid hi1; clear hi1 ho1
    go_wp2_with fail
    refine (specValid_any A1 c1 zs _ HI1.out).mono ?_
    rw [Hv.out]
    rintro e w' ⟨rfl, rfl⟩
    go_wp2_with fail
    refine (toIntS_any A c zs _ (H.out.step hb1) hl).mono ?_
    rintro e w2 ⟨v2, rfl, ho2, hb2⟩
    have hb2' := below_after hb1 hb2
    obtain ⟨A2, c2, rfl, hi2⟩ := ho2.ints
    have HI2 := Lib.hid hi2; clear hi2 ho2
    go_wp2_with fail
    refine (ProgValid_any A2 c2 zs _ HI2.out).mono ?_
    rw [Hv.out]
    rintro e w' ⟨rfl, rfl⟩
    have hbb : (b != b) = false := by simp
    go_wp2_with fail
    refine (toIntS_any A c zs _ (H.out.step hb2') hl).mono ?_
    rintro e w3 ⟨v3, rfl, ho3, hb3⟩
    have hb3' := below_after hb2' hb3
    obtain ⟨A3, c3, rfl, hi3⟩ := ho3.ints
    have HI3 := Lib.hid hi3; clear hi3 ho3
    go_wp2_with fail
    refine (eqIntS_any A2 A3 c2 c3 zs zs _ (HI2.out.step hb3) HI3.out).mono ?_
    rw [decide_eq_true rfl]
    rintro e w' ⟨rfl, n, rfl⟩
    go_wp2
    go_ret
    exact ⟨rfl, below_drewN hb3' n⟩
  · go_enter Try.func8, Try.ntmps8
    go_wp2
    go_ret
    exact ⟨rfl, Below.refl _ _⟩
theorem exProgValid_walk : LawWalk 8 Try.f8 := by
  intro H enc W base args ds ps hval hA
  rw [Try.params8] at hA hval
  obtain ⟨v0, d0, rfl, rfl, h0⟩ := trodAll_one hA
  obtain ⟨A, c, zs, rfl, hi⟩ := ints_of_trod Try.underlying23 Try.underlying3 cells_int (hval 0 _ v0 rfl rfl) h0
  exact exProgValid_any A c zs W hi

set_option maxRecDepth 100000 in
theorem exProgValid_lifted (os : Os) (started : os.Started) (H : Type) (enc : TypeId × Value → H) :
    ReturnsInHanded {} Try.checked os 8 .any (Rows.fnExactProgValidSpec.pre6 enc Try.prog Try.f8 Rows.fnExactProgValidRow.domain false) (Rows.fnExactProgValidSpec.post enc Try.prog Try.f8 false true false false) := by
  refine returnsInHanded_of_change (C := Try.checked) own started (by kernel_rfl) Try.func8
    (ChangeSpec.witness6 (enc := enc) (C := Try.checked) false ⟨#[], #[.slice none 0 0], []⟩ 8 (by kernel_rfl) (by kernel_rfl) (by kernel_rfl) (by kernel_rfl)) ?_
  intro W base args ds gs before hval hW _ _
  exact law_contract laidOut rfl (by kernel_rfl) rfl (fun H ds hd => by
    match ds, hd with
    | [d], _ => exact ⟨rfl, rfl, rfl⟩) exProgValid_walk W base args ds gs before hval hW

theorem exProgValid_holds : Rows.FnExactProgValidSaid :=
  OpenClaim.holds_of_wide 8 Try.f8 rfl rfl rfl rfl rfl rfl rfl ⟨rfl, rfl, rfl, rfl, rfl⟩ rfl rfl rfl rfl rfl (by kernel_rfl) Try.func8 (by kernel_rfl)
    (of_decide_eq_true (by kernel_rfl)) (by unfold Func.isWrapper; first | (rw [if_pos (by decide +kernel)]; kernel_rfl) | (rw [if_neg (by decide +kernel)]; exact ⟨rfl, rfl⟩))
    (fun os started H enc _ => exProgValid_lifted os started H enc)

end Go.Proofs.Ytabjlloohcnijaa
