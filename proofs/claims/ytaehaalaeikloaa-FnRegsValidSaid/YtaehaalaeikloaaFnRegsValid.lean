/- FnRegsValid: of every code: RegsValid is its model at the drawn registers; without Outs valid registers are valid, and so are those that take, do and leave nothing. For every input. -/
import Derived.Test.YtaehaalaeikloaaI
import Derived.Test.YtaehaalaeikloaaZs
import Derived.Test.YtaehaalaeikloaaLift
namespace Go.Proofs.Ytaehaalaeikloaa
set_option maxRecDepth 100000
open Go.RowKit Go.WideShapes Go.ChangeShapes Go.Deep

set_option maxHeartbeats 4000000 in
theorem fnRegsValid_any (A0 : Option Addr) (c0 : Nat) (x0 : List Int) (w0 : World) (h0 : RdC w0 (.slice A0 x0.length c0) x0) :
    Calls Try.prog 7 #[.slice A0 x0.length c0] w0 fun e w' => e = .returned (.bool true) ∧ Below w0.heap.size w0 w' := by
  have hm := h0.len_le
  have HH := Lib.hid h0; clear h0
  by_cases hl : x0.length ≤ 1048576
  case neg =>
    go_enter Try.func7, Try.ntmps7
    go_wp2
    go_ret
    exact ⟨rfl, Below.refl _ _⟩
  go_enter Try.func7, Try.ntmps7
  go_wp2_with fail
  refine (DrawRegsValid_any _ x0 _ HH.out).mono ?_
  rintro e w1 ⟨t, u0, u1, ms, row, rfl, h3, hi, ⟨ht0, ht1, hm61, hr241⟩, hb⟩
  have hz1 := hb.size
  clear HH
  obtain ⟨Aa, ca, rfl, _⟩ := id h3
  obtain ⟨Ab, cb, rfl, _⟩ := id hi
  generalize hR : regsB t ms row = y
  have HR := Lib.hid hR; clear hR
  have hba : Below w1.heap.size w1 (w1.alloc (.cells #[.int .i64 t, .slice Aa ms.length ca, .slice Ab row.length cb] 43)) := (Below.refl _ _).alloc (Nat.le_refl _) _
  have S1 := Lib.hid (And.intro (h3.step hba) (And.intro (hi.step hba) (And.intro (hb.trans (hba.mono hz1)) (Blk.new w1 #[.int .i64 t, .slice Aa ms.length ca, .slice Ab row.length cb] 43)))); clear h3 hi hb hba
  go_wp2_with fail
  refine (RegsValid_I t Aa ca ms Ab cb row _ S1.out.1 S1.out.2.1 y HR.out).mono ?_
  rintro e w2 ⟨rfl, hb⟩
  have hz2 : w1.heap.size + 1 ≤ w2.heap.size := by have := hb.size; simpa using this
  have b0 := S1.out.2.2.2.below hb (by simp)
  obtain ⟨c0', c1', c2', _, _, _⟩ := blkThree b0
  have S2 := Lib.hid (And.intro (S1.out.1.step hb) (And.intro (S1.out.2.1.step hb) (And.intro (S1.out.2.2.1.trans (hb.mono (by simp; omega))) b0))); clear hb S1 b0
  go_wp2_with fail
  refine (RegsValid_S t Aa ca ms Ab cb row _ S2.out.1 (by omega) S2.out.2.1 (by omega) y HR.out).mono ?_
  rintro e w3 ⟨rfl, hb⟩
  have hz3 := hb.size
  have b0 := S2.out.2.2.2.below hb (by omega)
  clear c0' c1' c2'
  obtain ⟨c0', c1', c2', _, _, _⟩ := blkThree b0
  have S3 := Lib.hid (And.intro (S2.out.1.step hb) (And.intro (S2.out.2.2.1.trans (hb.mono (by omega))) b0)); clear hb S2 b0
  have hbb : (y != y) = false := by simp
  rcases y with _ | _
  · go_wp2_with fail
    refine (RegsValid_I 0 none 0 [] none 0 [] _ ⟨none, 0, rfl, by simp, fun h => by simp at h⟩ (RdI.mk (zs := []) (A := none) (c := 0) (IntsK.nil _ _ _ _) (Nat.le_refl 0)) true (by decide)).mono ?_
    rintro e w4 ⟨rfl, hb⟩
    have hz4 := hb.size
    have S4 := Lib.hid (S3.out.2.1.trans (hb.mono (by omega))); clear hb S3
    go_wp2_with fail
    refine (alive_any _).mono ?_
    rintro e w5 ⟨rfl, hb⟩
    have S5 := Lib.hid (S4.out.trans (hb.mono (by omega))); clear hb S4
    go_wp2
    go_ret
    exact ⟨rfl, S5.out⟩
  · have HL := Lib.hid (regsB_less HR.out)
    go_wp2_with fail
    refine (RegsValid_I t Aa ca ms none 0 [] _ S3.out.1 (RdI.mk (zs := []) (A := none) (c := 0) (IntsK.nil _ _ _ _) (Nat.le_refl 0)) true HL.out).mono ?_
    rintro e w4 ⟨rfl, hb⟩
    have hz4 := hb.size
    have S4 := Lib.hid (S3.out.2.1.trans (hb.mono (by omega))); clear hb S3
    go_wp2_with fail
    refine (RegsValid_I 0 none 0 [] none 0 [] _ ⟨none, 0, rfl, by simp, fun h => by simp at h⟩ (RdI.mk (zs := []) (A := none) (c := 0) (IntsK.nil _ _ _ _) (Nat.le_refl 0)) true (by decide)).mono ?_
    rintro e w5 ⟨rfl, hb⟩
    have hz5 := hb.size
    have S5 := Lib.hid (S4.out.trans (hb.mono (by omega))); clear hb S4
    go_wp2_with fail
    refine (alive_any _).mono ?_
    rintro e w6 ⟨rfl, hb⟩
    have S6 := Lib.hid (S5.out.trans (hb.mono (by omega))); clear hb S5
    go_wp2
    go_ret
    exact ⟨rfl, S6.out⟩

theorem fnRegsValid_walk : LawWalk 7 Try.f7 := by
  intro H enc W base args ds ps hval hA
  rw [Try.params7] at hA hval
  obtain ⟨v0, d0, rfl, rfl, h0⟩ := trodAll_one hA
  obtain ⟨A0, c0, zs0, rfl, hi0, hc0⟩ := ints_of_trod Try.underlying22 Try.underlying5 cells_byte (hval 0 _ _ rfl rfl) h0
  exact fnRegsValid_any A0 c0 zs0 W (RdC.mk hi0 hc0)

set_option maxRecDepth 100000 in
theorem fnRegsValid_lifted (os : Os) (started : os.Started) (H : Type) (enc : TypeId × Value → H) :
    ReturnsInHanded {} Try.checked os 7 .any (Rows.fnRegsValidSpec.pre6 enc Try.prog Try.f7 Rows.fnRegsValidRow.domain false) (Rows.fnRegsValidSpec.post enc Try.prog Try.f7 false true false false) := by
  refine returnsInHanded_of_change (C := Try.checked) own started (by kernel_rfl) Try.func7
    (ChangeSpec.witness6 (enc := enc) (C := Try.checked) false ⟨#[], #[.slice none 0 0], []⟩ 8 (by kernel_rfl) (by kernel_rfl) (by kernel_rfl) (by kernel_rfl)) ?_
  intro W base args ds gs before hval hW _ _
  exact law_contract laidOut rfl (by kernel_rfl) rfl (fun H ds hd => by
    match ds, hd with
    | [d0], _ => exact ⟨rfl, rfl, rfl⟩) fnRegsValid_walk W base args ds gs before hval hW

/-- FnRegsValid: the row as it is given. -/
theorem fnRegsValid_holds : Rows.FnRegsValidSaid :=
  OpenClaim.holds_of_wide 7 Try.f7 rfl rfl rfl rfl rfl rfl rfl ⟨rfl, rfl, rfl, rfl, rfl⟩ rfl rfl rfl rfl rfl (by kernel_rfl) Try.func7 (by unfold joinedFacts; rw [pf_enter, pf_lifts, pf_make]; kernel_rfl)
    (of_decide_eq_true (by kernel_rfl)) (by unfold Func.isWrapper; first | (rw [if_pos (by decide +kernel)]; kernel_rfl) | (rw [if_neg (by decide +kernel)]; exact ⟨rfl, rfl⟩))
    (fun os started H enc _ => fnRegsValid_lifted os started H enc)

end Go.Proofs.Ytaehaalaeikloaa
