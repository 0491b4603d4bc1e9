/- FnStateOk: of every code: StateOk is its model at the drawn state; the stack's words of an empty rest; an ok state has an ok stack. For every input. -/
import Derived.Test.YtjbfpbajbjnifaaDq
import Derived.Test.YtjbfpbajbjnifaaB6
import Derived.Test.YtjbfpbajbjnifaaLs
import Derived.Test.YtjbfpbajbjnifaaLift
import Derived.Deep.RegionHeld3
import Derived.Deep.RegionLaw
namespace Go.Proofs.Ytjbfpbajbjnifaa
set_option maxRecDepth 100000
open Go.RowKit Go.WideShapes Go.ChangeShapes

set_option maxHeartbeats 8000000 in
theorem fnStateOk_any (A0 : Option Addr) (c0 : Nat) (x0 : List Int) (w0 : World) (h0 : RdC w0 (.slice A0 x0.length c0) x0) :
    Calls Try.prog 3 #[.slice A0 x0.length c0] w0 fun e w' => e = .returned (.bool true) ∧ Below w0.heap.size w0 w' := by
  have hm := h0.len_le
  have HH := Lib.hid h0; clear h0
  by_cases hl : x0.length ≤ 1048576
  case neg =>
    go_enter Try.func3, Try.ntmps3
    go_wp2
    go_ret
    exact ⟨rfl, Below.refl _ _⟩
  go_enter Try.func3, Try.ntmps3
  go_wp2_with fail
  refine (DrawStateOk_any _ x0 _ HH.out).mono ?_
  rintro e w1 ⟨A, c, zs, B, d, zss, rfl, hA, hzl, hB, hul, hb⟩
  have hz1 := hb.size
  clear HH
  generalize hR : stateB zs zss = b
  have HR := Lib.hid hR; clear hR
  have hba : Below w1.heap.size w1 (w1.alloc (.cells #[.slice A zs.length c, .slice B zss.length d] 26)) := (Below.refl _ _).alloc (Nat.le_refl _) _
  have bt := Blk.new w1 #[.slice A zs.length c, .slice B zss.length d] 26
  have S1 := Lib.hid (And.intro (hA.step hba) (And.intro (hB.step hba) (And.intro (hb.trans (hba.mono hz1)) bt))); clear hA hB hb hba bt
  go_wp2_with fail
  refine (StateOk_any _ _ zs zss _ S1.out.1 S1.out.2.1).mono ?_
  rw [HR.out]
  rintro e w2 ⟨rfl, hb⟩
  have hz2 : w1.heap.size + 1 ≤ w2.heap.size := by have := hb.size; simpa using this
  have b0 := S1.out.2.2.2.below hb (by simp)
  have c20 := b0.cell 0
  have c21 := b0.cell 1
  simp only [List.getElem?_toArray, List.getElem?_cons_zero, List.getElem?_cons_succ] at c20 c21
  have S2 := Lib.hid (And.intro (S1.out.1.step hb) (And.intro (S1.out.2.1.step hb) (And.intro (S1.out.2.2.1.trans (hb.mono (by simp; omega))) b0))); clear hb S1 b0
  go_wp2_with fail
  refine (specStateOk_any _ _ zs zss _ S2.out.1 S2.out.2.1).mono ?_
  rw [HR.out]
  rintro e w3 ⟨rfl, hb⟩
  have hz3 := hb.size
  have b0 := S2.out.2.2.2.below hb (by omega)
  have c31 := b0.cell 1
  simp only [List.getElem?_toArray, List.getElem?_cons_zero, List.getElem?_cons_succ] at c31
  clear c20 c21
  have S3 := Lib.hid (And.intro (RdS.at_ (S2.out.2.1.step hb)) (And.intro (S2.out.2.2.1.trans (hb.mono (by omega))) b0)); clear hb S2 b0
  have hbb : (b != b) = false := by simp
  obtain ⟨q, hq⟩ : ∃ q, stackB zss = q := ⟨_, rfl⟩
  have hq0 : stateB [] zss = q := by simp [stateB, show restB [] = true from by decide, hq]
  have hbq : b = true → q = true := fun h => by rw [← hq]; have := HR.out; rw [h, stateB, Bool.and_eq_true] at this; exact this.2
  have HQ := Lib.hid (And.intro hq hq0); clear hq hq0 HR
  go_wp2_with fail
  have hd5 : Below w3.heap.size w3 w3.drew := (Below.refl _ _).drew
  have hzd : w3.drew.heap.size = w3.heap.size := rfl
  have S6 := Lib.hid (And.intro (S3.out.1.below hd5) (And.intro (S3.out.2.1.trans (hd5.mono (by omega))) (And.intro (S3.out.2.2.below hd5 (by omega)) (rd_nil (A := none) (n := 0) (c := 0) (r := []) (by simp) (Nat.le_refl 0) : RdI w3.drew (.slice none 0 0) [])))); clear hd5 S3
  have HZ := Lib.hid hzd; clear hzd
  have AL : ∀ w : World, Below w3.drew.heap.size w3.drew w → RdS w (.slice B zss.length d) zss ∧ RdI w (.slice none 0 0) [] ∧ w.cell? ⟨w1.heap.size, 1, none⟩ = some (.slice B zss.length d) := by
    intro w h
    have hz := h.size
    rw [HZ.out] at hz
    have b0 := S6.out.2.2.1.below h (by rw [HZ.out]; omega)
    have c := b0.cell 1
    simp only [List.getElem?_toArray, List.getElem?_cons_zero, List.getElem?_cons_succ] at c
    exact ⟨(S6.out.1.below (h.mono (by rw [HZ.out]; omega))).rd (by rw [HZ.out] at *; omega), rd_nil (by simp) (Nat.le_refl 0), c⟩
  have HA := Lib.hid AL; clear AL
  rcases q with _ | _ <;> rcases b with _ | _
  case false.true => exact absurd (hbq rfl) (by simp)
  case true.true =>
    clear hbq
    first | (go_region_held3 (fun w' => w'.cell? ⟨w1.heap.size, 1, none⟩ = some (.slice B zss.length d)) (repeat (first | assumption | rw [World.cell?_drew])) (first
      | (go_at_call 19; first | (have hbX := hbC; refine (alive_any _).mono ?_; rintro e w8 ⟨rfl, hbD⟩; have p3 := (HA.out _ (((hbA.trans (hbB.mono (by have := hbA.size; omega))).trans (hbC.mono (by have := hbA.size; have := hbB.size; omega))).trans (hbD.mono (by have := hbA.size; have := hbB.size; have := hbC.size; omega)))).2.2) | (refine (alive_any _).mono ?_; rintro e w8 ⟨rfl, hbD⟩; have p3 := (HA.out _ ((hbA.trans (hbB.mono (by have := hbA.size; omega))).trans (hbD.mono (by have := hbA.size; have := hbB.size; omega)))).2.2))
      | (go_at_call 18; have hbX := hbB; refine (StackOk_B _ zss _ (HA.out _ (hbA.trans (hbB.mono (by have := hbA.size; omega)))).1 _ HQ.out.1).mono ?_; rintro e w7 ⟨rfl, hbC⟩; have p2 := (HA.out _ ((hbA.trans (hbB.mono (by have := hbA.size; omega))).trans (hbC.mono (by have := hbA.size; have := hbB.size; omega)))).2.2)
      | (go_at_call 18; have hbX := hbA; refine (StackOk_B _ zss _ (HA.out _ hbA).1 _ HQ.out.1).mono ?_; rintro e w6 ⟨rfl, hbB⟩; have p1 := (HA.out _ (hbA.trans (hbB.mono (by have := hbA.size; omega)))).2.2)
      | (go_at_call 16; refine (StateOk_any _ _ [] zss _ (HA.out _ (Below.refl _ _)).2.1 (HA.out _ (Below.refl _ _)).1).mono ?_; rw [HQ.out.2]; rintro e w5 ⟨rfl, hbA⟩; have p0 := (HA.out _ hbA).2.2))) | fail
    all_goals
      have hzA := hbA.size
      have hzB := hbB.size
      rw [HZ.out] at hzA
      have V := Lib.hid ((S6.out.2.1.trans (hbA.mono (by rw [HZ.out]; omega))).trans (hbB.mono (by omega)))
      first
        | (have hzC := hbC.size; have V2 := Lib.hid ((V.out.trans (hbC.mono (by omega))).trans (hbD.mono (by omega))))
        | (have V2 := Lib.hid (V.out.trans (hbD.mono (by omega))))
      go_wp2
      go_ret
      exact ⟨rfl, V2.out⟩
  all_goals
    clear hbq
    have c3d := (HA.out _ (Below.refl _ _)).2.2
    first | (go_region_law (first
      | (go_simp; go_at_call 19; refine (alive_any _).mono ?_; rintro e w8 ⟨rfl, hbD⟩)
      | (go_simp; go_at_call 18; refine (StackOk_B _ zss _ (HA.out _ hbA).1 _ HQ.out.1).mono ?_; rintro e w6 ⟨rfl, hbB⟩)
      | (go_simp; go_at_call 16; refine (StateOk_any _ _ [] zss _ (HA.out _ (Below.refl _ _)).2.1 (HA.out _ (Below.refl _ _)).1).mono ?_; rw [HQ.out.2]; rintro e w5 ⟨rfl, hbA⟩; have p0 := (HA.out _ hbA).2.2))) | fail
    all_goals
      have hzA := hbA.size
      have hzB := hbB.size
      rw [HZ.out] at hzA
      have V := Lib.hid ((S6.out.2.1.trans (hbA.mono (by rw [HZ.out]; omega))).trans (hbB.mono (by omega)))
      have V2 := Lib.hid (V.out.trans (hbD.mono (by omega)))
      go_wp2
      go_ret
      exact ⟨rfl, V2.out⟩

theorem fnStateOk_walk : LawWalk 3 Try.f3 := by
  intro H enc W base args ds ps hval hA
  rw [Try.params3] at hA hval
  obtain ⟨v0, d0, rfl, rfl, h0⟩ := trodAll_one hA
  obtain ⟨A0, c0, zs0, rfl, hi0, hc0⟩ := ints_of_trod Try.underlying22 Try.underlying5 cells_byte (hval 0 _ _ rfl rfl) h0
  exact fnStateOk_any A0 c0 zs0 W (RdC.mk hi0 hc0)

set_option maxRecDepth 100000 in
theorem fnStateOk_lifted (os : Os) (started : os.Started) (H : Type) (enc : TypeId × Value → H) :
    ReturnsInHanded {} Try.checked os 3 .any (Rows.fnStateOkSpec.pre6 enc Try.prog Try.f3 Rows.fnStateOkRow.domain false) (Rows.fnStateOkSpec.post enc Try.prog Try.f3 false true false false) := by
  refine returnsInHanded_of_change (C := Try.checked) own started (by kernel_rfl) Try.func3
    (ChangeSpec.witness6 (enc := enc) (C := Try.checked) false ⟨#[], #[.slice none 0 0], []⟩ 8 (by kernel_rfl) (by kernel_rfl) (by kernel_rfl) (by kernel_rfl)) ?_
  intro W base args ds gs before hval hW _ _
  exact law_contract laidOut rfl (by kernel_rfl) rfl (fun H ds hd => by
    match ds, hd with
    | [d0], _ => exact ⟨rfl, rfl, rfl⟩) fnStateOk_walk W base args ds gs before hval hW

/-- FnStateOk: the row as it is given. -/
theorem fnStateOk_holds : Rows.FnStateOkSaid :=
  OpenClaim.holds_of_wide 3 Try.f3 rfl rfl rfl rfl rfl rfl rfl ⟨rfl, rfl, rfl, rfl, rfl⟩ rfl rfl rfl rfl rfl (by kernel_rfl) Try.func3 (by unfold joinedFacts; rw [pf_enter, pf_lifts, pf_make]; kernel_rfl)
    (of_decide_eq_true (by kernel_rfl)) (by unfold Func.isWrapper; first | (rw [if_pos (by decide +kernel)]; kernel_rfl) | (rw [if_neg (by decide +kernel)]; exact ⟨rfl, rfl⟩))
    (fun os started H enc _ => fnStateOk_lifted os started H enc)

end Go.Proofs.Ytjbfpbajbjnifaa
