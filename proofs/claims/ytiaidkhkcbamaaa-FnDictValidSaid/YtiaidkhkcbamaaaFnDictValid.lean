/- FnDictValid: of every code: DictValid is its model at the drawn dictionary; without its last program a valid dictionary is valid, and the one without programs is. For every input. -/
import Derived.Test.YtiaidkhkcbamaaaI
import Derived.Test.YtiaidkhkcbamaaaB2
import Derived.Test.YtiaidkhkcbamaaaYq
import Derived.Test.YtiaidkhkcbamaaaYr
import Derived.Test.YtiaidkhkcbamaaaLift
namespace Go.Proofs.Ytiaidkhkcbamaaa
set_option maxRecDepth 100000
open Go.RowKit Go.WideShapes Go.ChangeShapes

theorem RdS.take9 {w : World} {A : Option Addr} {c : Nat} {zss : List (List Int)} (h : RdS w (.slice A zss.length c) zss) (n : Nat) (hn : n ≤ zss.length) : RdS w (.slice A n c) (zss.take n) := by
  obtain ⟨A', c', he, hr⟩ := h
  cases he
  have hl : (zss.take n).length = n := by simp; omega
  refine ⟨A, c, by rw [hl], ⟨by have := hr.len; omega, fun h0 => ?_⟩⟩
  obtain ⟨b, off, rfl, hb, hc⟩ := hr.at_ (by omega)
  refine ⟨b, off, rfl, hb, fun j zs hj => hc j zs ?_⟩
  rw [List.getElem?_take] at hj
  by_cases hjn : j < n
  · rwa [if_pos hjn] at hj
  · rw [if_neg hjn] at hj; cases hj
theorem OwnS.cap9 {w : World} {lo hi n c : Nat} {A : Option Addr} {zss : List (List Int)} (h : OwnS w lo hi (.slice A n c) zss) : zss.length ≤ c ∧ c ≤ 9223372036854775807 := by
  obtain ⟨vs, h⟩ := h
  rcases h.row.2 with ⟨h0, h1⟩ | ⟨g, cap, cur, h0, hb, hh, h1, h2, _⟩
  · cases h0; exact ⟨by omega, by omega⟩
  · cases h0; exact ⟨h1, by simpa [maxLen] using h2⟩

set_option maxHeartbeats 4000000 in
theorem fnDictValid_any (A0 : Option Addr) (c0 : Nat) (x0 : List Int) (w0 : World) (h0 : RdC w0 (.slice A0 x0.length c0) x0) :
    Calls Try.prog 3 #[.slice A0 x0.length c0] w0 fun e w' => e = .returned (.bool true) ∧ Below w0.heap.size w0 w' := by
  have hm := h0.len_le
  have HH := Lib.hid h0; clear h0
  by_cases hl : x0.length ≤ 1048576
  case neg =>
    go_enter Try.func3, Try.ntmps3
    go_wp2
    go_ret
    exact ⟨rfl, Below.refl _ _⟩
  have S0 : Hid (Below w0.heap.size w0 w0 ∧ RdBC w0 w0.heap.size (.slice A0 x0.length c0) x0) := Lib.hid ⟨Below.refl _ _, HH.out⟩
  clear HH
  go_enter Try.func3, Try.ntmps3
  go_wp2_with fail
  refine (DrawDictValid_any (.slice A0 x0.length c0) x0 _ ((S0.out.2).rd (by first | omega | (simp <;> omega)))).mono ?_
  rintro e w_1 ⟨d, zd, rfl, ho1, hl_d, hb1⟩
  have hz1 : w0.heap.size ≤ w_1.heap.size := by have := hb1.size; simpa using this
  replace hb1 : Below (w0.heap.size) w0 w_1 := by simpa using hb1
  have S1 : Hid (Below w0.heap.size w0 w_1 ∧ RdBC w_1 w0.heap.size (.slice A0 x0.length c0) (x0) ∧ OwnS w_1 (w0.heap.size) (w_1.heap.size) d (zd)) := Lib.hid ⟨(S0.out.1).trans (hb1.mono (by omega)), (S0.out.2).below (hb1.mono (by omega)), (by simpa using ho1)⟩
  clear S0
  clear ho1 hb1
  -- at w_1: S1: base code d
  have hd7 := hl_d.1
  have hds := szS_small hl_d
  have hdt : ∀ n, szS (zd.take n) ≤ 1048576 := fun n => Nat.le_trans (szS_take_le zd n) hds
  clear hl_d
  generalize hb : dictB zd = b
  have HR := Lib.hid hb; clear hb
  go_wp2_with fail
  refine (DictValid_I _ zd _ ((S1.out.2.2).rd) (by omega) hds b HR.out).mono ?_
  rintro e w_2 ⟨rfl, hb2⟩
  have hz2 : w_1.heap.size ≤ w_2.heap.size := by have := hb2.size; simpa using this
  replace hb2 : Below (w_1.heap.size) w_1 w_2 := by simpa using hb2
  have S2 : Hid (Below w0.heap.size w0 w_2 ∧ RdBC w_2 w0.heap.size (.slice A0 x0.length c0) (x0) ∧ OwnS w_2 (w0.heap.size) (w_1.heap.size) d (zd)) := Lib.hid ⟨(S1.out.1).trans (hb2.mono (by omega)), (S1.out.2.1).below (hb2.mono (by omega)), (S1.out.2.2).belowB hb2 (by omega)⟩
  clear S1
  clear hb2
  go_wp2_with fail
  refine (DictValid_S _ zd _ ((S2.out.2.2).rd) (by omega) hds b HR.out).mono ?_
  rintro e w_3 ⟨rfl, hb3⟩
  have hz3 : w_2.heap.size ≤ w_3.heap.size := by have := hb3.size; simpa using this
  replace hb3 : Below (w_2.heap.size) w_2 w_3 := by simpa using hb3
  have S3 : Hid (Below w0.heap.size w0 w_3 ∧ RdBC w_3 w0.heap.size (.slice A0 x0.length c0) (x0) ∧ OwnS w_3 (w0.heap.size) (w_1.heap.size) d (zd)) := Lib.hid ⟨(S2.out.1).trans (hb3.mono (by omega)), (S2.out.2.1).below (hb3.mono (by omega)), (S2.out.2.2).belowB hb3 (by omega)⟩
  clear S2
  clear hb3
  -- at w_3: S3: base code d
  obtain ⟨As, cs, rfl, hAs⟩ := (S3.out.2.2).rd
  have hnil : ∀ w : World, RdS w (.slice none 0 0) [] := fun w => ⟨none, 0, rfl, ⟨by simp, fun h => by simp at h⟩⟩
  have hall := fun (n : Nat) (hn : n ≤ zd.length) => RdS.take9 (w := w_3) (A := As) (c := cs) ⟨As, cs, rfl, hAs⟩ n hn
  have hcap := (S3.out.2.2).cap9
  have Hnil := Lib.hid hnil; clear hnil
  have Hall := Lib.hid hall; clear hall hAs
  rcases b with _ | _
  · skip
    go_wp2_with fail
    refine (DictValid_I _ [] _ (Hnil.out _) (by simp) (by simp [szS]) true rfl).mono ?_
    rintro e w_5 ⟨rfl, hb5⟩
    have hz5 := hb5.size
    have T5 := Lib.hid (S3.out.1.trans (hb5.mono (by omega))); clear hb5
    go_wp2_with fail
    refine (alive_any _).mono ?_
    rintro e w_6 ⟨rfl, hb6⟩
    have T6 := Lib.hid (T5.out.trans (hb6.mono (by omega))); clear hb6
    go_wp2_with fail
    go_ret
    exact ⟨rfl, T6.out⟩
  · rcases Nat.eq_zero_or_pos zd.length with h0 | h0
    · have h0I : ((zd.length : Int) == 0) = true := by simp [h0]
      go_wp2_with fail
      refine (DictValid_I _ [] _ (Hnil.out _) (by simp) (by simp [szS]) true rfl).mono ?_
      rintro e w_5 ⟨rfl, hb5⟩
      have hz5 := hb5.size
      have T5 := Lib.hid (S3.out.1.trans (hb5.mono (by omega))); clear hb5
      go_wp2_with fail
      refine (alive_any _).mono ?_
      rintro e w_6 ⟨rfl, hb6⟩
      have T6 := Lib.hid (T5.out.trans (hb6.mono (by omega))); clear hb6
      go_wp2_with fail
      go_ret
      exact ⟨rfl, T6.out⟩
    · have h0I : ((zd.length : Int) == 0) = false := by rw [beq_eq_false_iff_ne]; omega
      have hz4' : w0.heap.size ≤ w_3.heap.size := S3.out.1.size
      obtain ⟨m, HM⟩ : ∃ m : Nat, Hid (zd.length - 1 = m) := ⟨_, Lib.hid rfl⟩
      have hmI : (zd.length : Int) - 1 = (m : Int) := by have := HM.out; omega
      have hmc : m ≤ cs := by have := HM.out; omega
      have hmz : m ≤ zd.length := by have := HM.out; omega
      have htk : dictB (zd.take m) = true := dictB_take HR.out m
      have Htk := Lib.hid htk; clear htk
      go_wp2_with fail
      refine (DictValid_I _ (zd.take m) _ (Hall.out m hmz) (by rw [List.length_take]; omega) (hdt m) true Htk.out).mono ?_
      rintro e w_4 ⟨rfl, hb4⟩
      have hz4 := hb4.size
      have T4 := Lib.hid (S3.out.1.trans (hb4.mono (by omega))); clear hb4
      go_wp2_with fail
      refine (DictValid_I _ [] _ (Hnil.out _) (by simp) (by simp [szS]) true rfl).mono ?_
      rintro e w_5 ⟨rfl, hb5⟩
      have hz5 := hb5.size
      have T5 := Lib.hid (T4.out.trans (hb5.mono (by omega))); clear hb5
      go_wp2_with fail
      refine (alive_any _).mono ?_
      rintro e w_6 ⟨rfl, hb6⟩
      have T6 := Lib.hid (T5.out.trans (hb6.mono (by omega))); clear hb6
      go_wp2_with fail
      go_ret
      exact ⟨rfl, T6.out⟩

theorem fnDictValid_walk : LawWalk 3 Try.f3 := by
  intro H enc W base args ds ps hval hA
  rw [Try.params3] at hA hval
  obtain ⟨v0, d0, rfl, rfl, h0⟩ := trodAll_one hA
  obtain ⟨A0, c0, zs0, rfl, hi0, hc0⟩ := ints_of_trod Try.underlying22 Try.underlying5 cells_byte (hval 0 _ _ rfl rfl) h0
  exact fnDictValid_any A0 c0 zs0 W (RdC.mk hi0 hc0)

set_option maxRecDepth 100000 in
theorem fnDictValid_lifted (os : Os) (started : os.Started) (H : Type) (enc : TypeId × Value → H) :
    ReturnsInHanded {} Try.checked os 3 .any (Rows.fnDictValidSpec.pre6 enc Try.prog Try.f3 Rows.fnDictValidRow.domain false) (Rows.fnDictValidSpec.post enc Try.prog Try.f3 false true false false) := by
  refine returnsInHanded_of_change (C := Try.checked) own started (by kernel_rfl) Try.func3
    (ChangeSpec.witness6 (enc := enc) (C := Try.checked) false ⟨#[], #[.slice none 0 0], []⟩ 8 (by kernel_rfl) (by kernel_rfl) (by kernel_rfl) (by kernel_rfl)) ?_
  intro W base args ds gs before hval hW _ _
  exact law_contract laidOut rfl (by kernel_rfl) rfl (fun H ds hd => by
    match ds, hd with
    | [d0], _ => exact ⟨rfl, rfl, rfl⟩) fnDictValid_walk W base args ds gs before hval hW

/-- FnDictValid: the row as it is given. -/
theorem fnDictValid_holds : Rows.FnDictValidSaid :=
  OpenClaim.holds_of_wide 3 Try.f3 rfl rfl rfl rfl rfl rfl rfl ⟨rfl, rfl, rfl, rfl, rfl⟩ rfl rfl rfl rfl rfl (by kernel_rfl) Try.func3 (by unfold joinedFacts; rw [pf_enter, pf_lifts, pf_make]; kernel_rfl)
    (of_decide_eq_true (by kernel_rfl)) (by unfold Func.isWrapper; first | (rw [if_pos (by decide +kernel)]; kernel_rfl) | (rw [if_neg (by decide +kernel)]; exact ⟨rfl, rfl⟩))
    (fun os started H enc _ => fnDictValid_lifted os started H enc)

end Go.Proofs.Ytiaidkhkcbamaaa
