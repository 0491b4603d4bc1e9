/- FnStackOk: of every code: StackOk is its model at the drawn stack; without its upper value a stack is one, and the empty one is. For every input. -/
import Derived.Test.YtmhhmdakilecoaaDb
import Derived.Test.YtmhhmdakilecoaaLb
import Derived.Test.YtmhhmdakilecoaaLr
import Derived.Test.YtmhhmdakilecoaaLift
namespace Go.Proofs.Ytmhhmdakilecoaa
set_option maxRecDepth 100000
open Go.RowKit Go.WideShapes Go.ChangeShapes

theorem stackB_take {zss : List (List Int)} (n : Nat) (h : stackB zss = true) : stackB (zss.take n) = true := by
  simp only [stackB, Bool.and_eq_true, decide_eq_true_eq, List.all_eq_true] at *
  exact ⟨by simp; omega, fun v hv => h.2 v (List.mem_of_mem_take hv)⟩
theorem RdS.take {w : World} {A : Option Addr} {c : Nat} {zss : List (List Int)} (h : RdS w (.slice A zss.length c) zss) (n : Nat) (hn : n ≤ zss.length) : RdS w (.slice A n c) (zss.take n) := by
  obtain ⟨A', c', he, hr⟩ := h
  cases he
  have hl : (zss.take n).length = n := by simp; omega
  refine ⟨A, c, by rw [hl], ⟨by have := hr.len; omega, fun h0 => ?_⟩⟩
  obtain ⟨b, off, rfl, hb, hc⟩ := hr.at_ (by omega)
  refine ⟨b, off, rfl, hb, fun j zs hj => hc j zs ?_⟩
  rw [List.getElem?_take] at hj
  by_cases hjn : j < n
  · rwa [if_pos hjn] at hj
  · rw [if_neg hjn] at hj; cases hj

theorem OwnS.cap {w : World} {lo hi n c : Nat} {A : Option Addr} {zss : List (List Int)} (h : OwnS w lo hi (.slice A n c) zss) : zss.length ≤ c ∧ c ≤ 9223372036854775807 := by
  obtain ⟨vs, h⟩ := h
  rcases h.row.2 with ⟨h0, h1⟩ | ⟨g, cap, cur, h0, hb, hh, h1, h2, _⟩
  · cases h0; exact ⟨by omega, by omega⟩
  · cases h0; exact ⟨h1, by simpa [maxLen] using h2⟩

set_option maxHeartbeats 2000000 in
theorem fnStackOk_any (A0 : Option Addr) (c0 : Nat) (x0 : List Int) (w0 : World) (h0 : RdC w0 (.slice A0 x0.length c0) x0) :
    Calls Try.prog 4 #[.slice A0 x0.length c0] w0 fun e w' => e = .returned (.bool true) ∧ Below w0.heap.size w0 w' := by
  have hm := h0.len_le
  have HH := Lib.hid h0; clear h0
  by_cases hl : x0.length ≤ 1048576
  case neg =>
    go_enter Try.func4, Try.ntmps4
    go_wp2
    go_ret
    exact ⟨rfl, Below.refl _ _⟩
  have S0 : Hid (Below w0.heap.size w0 w0 ∧ RdBC w0 w0.heap.size (.slice A0 x0.length c0) x0) := Lib.hid ⟨Below.refl _ _, HH.out⟩
  clear HH
  go_enter Try.func4, Try.ntmps4
  go_wp2_with fail
  refine (DrawStackOk_any (.slice A0 x0.length c0) x0 _ ((S0.out.2).rd (by omega))).mono ?_
  rintro e w_1 ⟨s, zss, rfl, ho1, hl_s, hb1⟩
  have hz1 : w0.heap.size ≤ w_1.heap.size := by have := hb1.size; simpa using this
  replace hb1 : Below (w0.heap.size) w0 w_1 := by simpa using hb1
  have S1 : Hid (Below w0.heap.size w0 w_1 ∧ RdBC w_1 w0.heap.size (.slice A0 x0.length c0) (x0) ∧ OwnS w_1 (w0.heap.size) (w_1.heap.size) s (zss)) := Lib.hid ⟨(S0.out.1).trans (hb1.mono (by omega)), (S0.out.2).below (hb1.mono (by omega)), (by simpa using ho1)⟩
  clear S0
  clear ho1 hb1
  -- at w_1: S1: base code s
  generalize hb : stackB zss = b
  have HR := Lib.hid hb; clear hb
  go_wp2_with fail
  refine (StackOk_B _ zss _ ((S1.out.2.2).rd) b HR.out).mono ?_
  rintro e w_2 ⟨rfl, hb2⟩
  have hz2 : w_1.heap.size ≤ w_2.heap.size := by have := hb2.size; simpa using this
  replace hb2 : Below (w_1.heap.size) w_1 w_2 := by simpa using hb2
  have S2 : Hid (Below w0.heap.size w0 w_2 ∧ RdBC w_2 w0.heap.size (.slice A0 x0.length c0) (x0) ∧ OwnS w_2 (w0.heap.size) (w_1.heap.size) s (zss)) := Lib.hid ⟨(S1.out.1).trans (hb2.mono (by omega)), (S1.out.2.1).below (hb2.mono (by omega)), (S1.out.2.2).belowB hb2 (by omega)⟩
  clear S1
  clear hb2
  go_wp2_with fail
  refine (specStackOk_B _ zss _ ((S2.out.2.2).rd) b HR.out).mono ?_
  rintro e w_3 ⟨rfl, hb3⟩
  have hz3 : w_2.heap.size ≤ w_3.heap.size := by have := hb3.size; simpa using this
  replace hb3 : Below (w_2.heap.size) w_2 w_3 := by simpa using hb3
  have S3 : Hid (Below w0.heap.size w0 w_3 ∧ RdBC w_3 w0.heap.size (.slice A0 x0.length c0) (x0) ∧ OwnS w_3 (w0.heap.size) (w_1.heap.size) s (zss)) := Lib.hid ⟨(S2.out.1).trans (hb3.mono (by omega)), (S2.out.2.1).below (hb3.mono (by omega)), (S2.out.2.2).belowB hb3 (by omega)⟩
  clear S2
  clear hb3
  -- at w_3: S3: base code s
  obtain ⟨As, cs, rfl, hAs⟩ := (S3.out.2.2).rd
  have hnil : ∀ w : World, RdS w (.slice none 0 0) [] := fun w => (OwnS.nil w 0 0).rd
  have hall := fun (n : Nat) (hn : n ≤ zss.length) => RdS.take (w := w_3) (A := As) (c := cs) ⟨As, cs, rfl, hAs⟩ n hn
  have hcap := (S3.out.2.2).cap
  have Hnil := Lib.hid hnil; clear hnil
  have Hall := Lib.hid hall; clear hall hAs
  rcases b with _ | _
  · go_wp2_with fail
    refine (StackOk_B _ [] _ (Hnil.out _) true rfl).mono ?_
    rintro e w_4 ⟨rfl, hb4⟩
    have hz4 := hb4.size
    have T4 := Lib.hid (S3.out.1.trans (hb4.mono (by omega))); clear hb4
    go_wp2_with fail
    refine (alive_any _).mono ?_
    rintro e w_5 ⟨rfl, hb5⟩
    have T5 := Lib.hid (T4.out.trans (hb5.mono (by omega))); clear hb5
    go_wp2_with fail
    go_ret
    exact ⟨rfl, T5.out⟩
  · rcases zss with _ | ⟨z, zss⟩
    · go_wp2_with fail
      refine (StackOk_B _ [] _ (Hnil.out _) true rfl).mono ?_
      rintro e w_4 ⟨rfl, hb4⟩
      have hz4 := hb4.size
      have T4 := Lib.hid (S3.out.1.trans (hb4.mono (by omega))); clear hb4
      go_wp2_with fail
      refine (alive_any _).mono ?_
      rintro e w_5 ⟨rfl, hb5⟩
      have T5 := Lib.hid (T4.out.trans (hb5.mono (by omega))); clear hb5
      go_wp2_with fail
      go_ret
      exact ⟨rfl, T5.out⟩
    · have hl20 : zss.length ≤ 20 := by have := hl_s.1; rw [List.length_cons] at this; omega
      have htk : stackB ((z :: zss).take zss.length) = true := stackB_take _ HR.out
      have Htk := Lib.hid htk; clear htk
      rw [List.length_cons] at hcap
      clear hl_s
      go_wp2_with fail
      go_goals
      refine (StackOk_B _ _ _ (Hall.out zss.length (by simp)) true Htk.out).mono ?_
      rintro e w_4 ⟨rfl, hb4⟩
      have hz4 := hb4.size
      have T4 := Lib.hid (S3.out.1.trans (hb4.mono (by omega))); clear hb4
      go_wp2_with fail
      refine (StackOk_B _ [] _ (Hnil.out _) true rfl).mono ?_
      rintro e w_5 ⟨rfl, hb5⟩
      have hz5 := hb5.size
      have T5 := Lib.hid (T4.out.trans (hb5.mono (by omega))); clear hb5
      go_wp2_with fail
      refine (alive_any _).mono ?_
      rintro e w_6 ⟨rfl, hb6⟩
      have T6 := Lib.hid (T5.out.trans (hb6.mono (by omega))); clear hb6
      go_wp2_with fail
      go_ret
      exact ⟨rfl, T6.out⟩

theorem fnStackOk_walk : LawWalk 4 Try.f4 := by
  intro H enc W base args ds ps hval hA
  rw [Try.params4] at hA hval
  obtain ⟨v0, d0, rfl, rfl, h0⟩ := trodAll_one hA
  obtain ⟨A0, c0, zs0, rfl, hi0, hc0⟩ := ints_of_trod Try.underlying22 Try.underlying5 cells_byte (hval 0 _ _ rfl rfl) h0
  exact fnStackOk_any A0 c0 zs0 W (RdC.mk hi0 hc0)

set_option maxRecDepth 100000 in
theorem fnStackOk_lifted (os : Os) (started : os.Started) (H : Type) (enc : TypeId × Value → H) :
    ReturnsInHanded {} Try.checked os 4 .any (Rows.fnStackOkSpec.pre6 enc Try.prog Try.f4 Rows.fnStackOkRow.domain false) (Rows.fnStackOkSpec.post enc Try.prog Try.f4 false true false false) := by
  refine returnsInHanded_of_change (C := Try.checked) own started (by kernel_rfl) Try.func4
    (ChangeSpec.witness6 (enc := enc) (C := Try.checked) false ⟨#[], #[.slice none 0 0], []⟩ 8 (by kernel_rfl) (by kernel_rfl) (by kernel_rfl) (by kernel_rfl)) ?_
  intro W base args ds gs before hval hW _ _
  exact law_contract laidOut rfl (by kernel_rfl) rfl (fun H ds hd => by
    match ds, hd with
    | [d0], _ => exact ⟨rfl, rfl, rfl⟩) fnStackOk_walk W base args ds gs before hval hW

/-- FnStackOk: the row as it is given. -/
theorem fnStackOk_holds : Rows.FnStackOkSaid :=
  OpenClaim.holds_of_wide 4 Try.f4 rfl rfl rfl rfl rfl rfl rfl ⟨rfl, rfl, rfl, rfl, rfl⟩ rfl rfl rfl rfl rfl (by kernel_rfl) Try.func4 (by unfold joinedFacts; rw [pf_enter, pf_lifts, pf_make]; kernel_rfl)
    (of_decide_eq_true (by kernel_rfl)) (by unfold Func.isWrapper; first | (rw [if_pos (by decide +kernel)]; kernel_rfl) | (rw [if_neg (by decide +kernel)]; exact ⟨rfl, rfl⟩))
    (fun os started H enc _ => fnStackOk_lifted os started H enc)

end Go.Proofs.Ytmhhmdakilecoaa
