/- FnSimpleOf: of every code: SimpleOf is its model at the drawn program; it is a valid program that leaves of the empty stack what the program leaves, if this is told. For every input; ruleTakes holds what the program's text lays. -/
import Derived.Test.YtkdpfiaegimnlaaDoorKd
import Derived.Test.YtkdpfiaegimnlaaDoorVt
import Derived.Test.YtkdpfiaegimnlaaDoorVu
import Derived.Test.YtkdpfiaegimnlaaDoorB8
import Derived.Test.YtkdpfiaegimnlaaDoorB5
import Derived.Test.YtkdpfiaegimnlaaDoorB2
import Derived.Test.YtkdpfiaegimnlaaDoorB6
import Derived.Test.YtkdpfiaegimnlaaDoorBb
import Derived.Test.YtkdpfiaegimnlaaDoorF1
import Derived.Test.YtkdpfiaegimnlaaDoorF2
import Derived.Test.YtkdpfiaegimnlaaDoorF3
import Derived.Test.YtkdpfiaegimnlaaDoorTie
import Derived.Test.YtkdpfiaegimnlaaDoorCards
import Derived.SevenTiedAt
namespace Go.Proofs.YtkdpfiaegimnlaaDoor
set_option maxRecDepth 100000
open Go.RowKit Go.WideShapes Go.ChangeShapes

theorem rdS_nil0 (w : World) : RdS w (.slice none 0 0) [] := ⟨none, 0, rfl, by simp, fun h => by simp at h⟩
set_option maxHeartbeats 4000000 in
theorem fnSimpleOf_any (A0 : Option Addr) (c0 : Nat) (x0 : List Int) (w0 : World) (h0 : RdC w0 (.slice A0 x0.length c0) x0) (htab : IntTab w0 0 takesL) :
    Calls Tryd.prog 4 #[.slice A0 x0.length c0] w0 fun e w' => e = .returned (.bool true) ∧ Below w0.heap.size w0 w' := by
  have hm := h0.len_le
  have hgl := htab.lt
  have HT := Lib.hid htab; clear htab
  have HH := Lib.hid h0; clear h0
  by_cases hl : x0.length ≤ 1048576
  case neg =>
    go_enter Tryd.func4, Tryd.ntmps4
    go_wp2
    go_ret
    exact ⟨rfl, Below.refl _ _⟩
  go_enter Tryd.func4, Tryd.ntmps4
  go_wp2_with fail
  refine (DrawSimpleOf_any _ x0 _ HH.out).mono ?_
  rintro e w1 ⟨p, zp, rfl, hp, hpl, hb⟩
  have hz1 := hb.size
  have S1 : Hid (Below w0.heap.size w0 w1 ∧ RdBI w1 w1.heap.size p zp) := Lib.hid ⟨hb, hp.rd.at_⟩
  clear hp hb HH
  obtain ⟨q, hR⟩ : ∃ q, simpleOfR zp = q := ⟨_, rfl⟩
  have hql : q.length ≤ 60 := by rw [← hR]; exact simpleOfR_len zp
  have HR := Lib.hid hR; clear hR
  rcases hv : validB zp with _ | _ <;> have Hv := Lib.hid hv <;> clear hv
  · obtain rfl : q = [] := by rw [← HR.out]; unfold simpleOfR; rw [Hv.out]; rfl
    go_wp2_with fail
    refine (SimpleOf_I _ zp _ ((S1.out.2).rd (by first | omega | (simp <;> omega))) (by omega) _ HR.out (HT.out.below (S1.out.1) hgl)).mono ?_
    rintro e w_2 ⟨x, rfl, ho2, hb2⟩
    have hz2 : w1.heap.size ≤ w_2.heap.size := by have := hb2.size; simpa using this
    replace hb2 : Below (w1.heap.size) w1 w_2 := by simpa using hb2
    have S2 : Hid (Below w0.heap.size w0 w_2 ∧ RdBI w_2 (w1.heap.size) p (zp) ∧ OwnI w_2 (w1.heap.size) (w_2.heap.size) x ([])) := Lib.hid ⟨(S1.out.1).trans (hb2.mono (by omega)), (S1.out.2).below (hb2.mono (by omega)), (by simpa using ho2)⟩
    clear S1
    clear ho2 hb2
    go_wp2_with fail
    refine (SimpleOf_S _ zp _ ((S2.out.2.1).rd (by first | omega | (simp <;> omega))) (by omega) _ HR.out).mono ?_
    rintro e w_3 ⟨y, rfl, ho3, hb3⟩
    have hz3 : w_2.heap.size ≤ w_3.heap.size := by have := hb3.size; simpa using this
    replace hb3 : Below (w_2.heap.size) w_2 w_3 := by simpa using hb3
    have S3 : Hid (Below w0.heap.size w0 w_3 ∧ RdBI w_3 (w1.heap.size) p (zp) ∧ OwnI w_3 (w1.heap.size) (w_2.heap.size) x ([]) ∧ OwnI w_3 (w_2.heap.size) (w_3.heap.size) y ([])) := Lib.hid ⟨(S2.out.1).trans (hb3.mono (by omega)), (S2.out.2.1).below (hb3.mono (by omega)), (S2.out.2.2).belowB hb3 (by omega), (by simpa using ho3)⟩
    clear S2
    clear ho3 hb3
    go_wp2_with fail
    refine (smI _ _ _ _ _ ((S3.out.2.2.1).rd) ((S3.out.2.2.2).rd) true (decide_eq_true rfl)).mono ?_
    rintro e w_4 ⟨rfl, hb4⟩
    have hz4 : w_3.heap.size ≤ w_4.heap.size := by have := hb4.size; simpa using this
    replace hb4 : Below (w_3.heap.size) w_3 w_4 := by simpa using hb4
    have S4 : Hid (Below w0.heap.size w0 w_4 ∧ RdBI w_4 (w1.heap.size) p (zp) ∧ OwnI w_4 (w1.heap.size) (w_2.heap.size) x ([])) := Lib.hid ⟨(S3.out.1).trans (hb4.mono (by omega)), (S3.out.2.1).below (hb4.mono (by omega)), (S3.out.2.2.1).belowB hb4 (by omega)⟩
    clear S3
    clear hb4
    go_wp2_with fail
    refine (ProgValid_S _ zp _ ((S4.out.2.1).rd (by first | omega | (simp <;> omega))) (by omega) false Hv.out).mono ?_
    rintro e w_5 ⟨rfl, hb5⟩
    have hz5 : w_4.heap.size ≤ w_5.heap.size := by have := hb5.size; simpa using this
    replace hb5 : Below (w_4.heap.size) w_4 w_5 := by simpa using hb5
    have S5 : Hid (Below w0.heap.size w0 w_5 ∧ RdBI w_5 (w1.heap.size) p (zp) ∧ OwnI w_5 (w1.heap.size) (w_2.heap.size) x ([])) := Lib.hid ⟨(S4.out.1).trans (hb5.mono (by omega)), (S4.out.2.1).below (hb5.mono (by omega)), (S4.out.2.2).belowB hb5 (by omega)⟩
    clear S4
    clear hb5
    -- at w_5: S5: base p x
    obtain ⟨Ax, cx, rfl, _⟩ := (S5.out.2.2).rd
    go_wp2_with fail
    refine (alive_any _).mono ?_
    rintro e w5 ⟨rfl, hb⟩
    have T := Lib.hid (S5.out.1.trans (hb.mono (by omega))); clear hb
    go_wp2
    go_ret
    exact ⟨rfl, T.out⟩
  · have hqv : validB q = true ∧ movedR zp (simplerR 100 zp).1 = some q := by
      rw [← HR.out]; unfold simpleOfR; rw [if_pos Hv.out]
      exact ⟨movedR_valid Hv.out (simplerR_moved 100 zp), simplerR_moved 100 zp⟩
    have Hq := Lib.hid hqv; clear hqv
    rcases hA : runOfR zp [] with ⟨za, na, oa⟩
    rcases hB : runOfR q [] with ⟨zb, nb, ob⟩
    have HA := Lib.hid hA
    have HB := Lib.hid hB
    have hke : oa = true → ob = true ∧ zb = za := by
      rintro rfl
      obtain ⟨m, h1, _⟩ := moved_keeps Hq.out.2 HA.out
      rw [HB.out] at h1; cases h1; exact ⟨rfl, rfl⟩
    have HK := Lib.hid hke; clear hke hA hB
    go_wp2_with fail
    refine (SimpleOf_I _ zp _ ((S1.out.2).rd (by first | omega | (simp <;> omega))) (by omega) _ HR.out (HT.out.below (S1.out.1) hgl)).mono ?_
    rintro e w_2 ⟨x, rfl, ho2, hb2⟩
    have hz2 : w1.heap.size ≤ w_2.heap.size := by have := hb2.size; simpa using this
    replace hb2 : Below (w1.heap.size) w1 w_2 := by simpa using hb2
    have S2 : Hid (Below w0.heap.size w0 w_2 ∧ RdBI w_2 (w1.heap.size) p (zp) ∧ OwnI w_2 (w1.heap.size) (w_2.heap.size) x (q)) := Lib.hid ⟨(S1.out.1).trans (hb2.mono (by omega)), (S1.out.2).below (hb2.mono (by omega)), (by simpa using ho2)⟩
    clear S1
    clear ho2 hb2
    go_wp2_with fail
    refine (SimpleOf_S _ zp _ ((S2.out.2.1).rd (by first | omega | (simp <;> omega))) (by omega) _ HR.out).mono ?_
    rintro e w_3 ⟨y, rfl, ho3, hb3⟩
    have hz3 : w_2.heap.size ≤ w_3.heap.size := by have := hb3.size; simpa using this
    replace hb3 : Below (w_2.heap.size) w_2 w_3 := by simpa using hb3
    have S3 : Hid (Below w0.heap.size w0 w_3 ∧ RdBI w_3 (w1.heap.size) p (zp) ∧ OwnI w_3 (w1.heap.size) (w_2.heap.size) x (q) ∧ OwnI w_3 (w_2.heap.size) (w_3.heap.size) y (q)) := Lib.hid ⟨(S2.out.1).trans (hb3.mono (by omega)), (S2.out.2.1).below (hb3.mono (by omega)), (S2.out.2.2).belowB hb3 (by omega), (by simpa using ho3)⟩
    clear S2
    clear ho3 hb3
    go_wp2_with fail
    refine (smI _ _ _ _ _ ((S3.out.2.2.1).rd) ((S3.out.2.2.2).rd) true (decide_eq_true rfl)).mono ?_
    rintro e w_4 ⟨rfl, hb4⟩
    have hz4 : w_3.heap.size ≤ w_4.heap.size := by have := hb4.size; simpa using this
    replace hb4 : Below (w_3.heap.size) w_3 w_4 := by simpa using hb4
    have S4 : Hid (Below w0.heap.size w0 w_4 ∧ RdBI w_4 (w1.heap.size) p (zp) ∧ OwnI w_4 (w1.heap.size) (w_2.heap.size) x (q)) := Lib.hid ⟨(S3.out.1).trans (hb4.mono (by omega)), (S3.out.2.1).below (hb4.mono (by omega)), (S3.out.2.2.1).belowB hb4 (by omega)⟩
    clear S3
    clear hb4
    go_wp2_with fail
    refine (ProgValid_S _ zp _ ((S4.out.2.1).rd (by first | omega | (simp <;> omega))) (by omega) true Hv.out).mono ?_
    rintro e w_5 ⟨rfl, hb5⟩
    have hz5 : w_4.heap.size ≤ w_5.heap.size := by have := hb5.size; simpa using this
    replace hb5 : Below (w_4.heap.size) w_4 w_5 := by simpa using hb5
    have S5 : Hid (Below w0.heap.size w0 w_5 ∧ RdBI w_5 (w1.heap.size) p (zp) ∧ OwnI w_5 (w1.heap.size) (w_2.heap.size) x (q)) := Lib.hid ⟨(S4.out.1).trans (hb5.mono (by omega)), (S4.out.2.1).below (hb5.mono (by omega)), (S4.out.2.2).belowB hb5 (by omega)⟩
    clear S4
    clear hb5
    go_wp2_with fail
    refine (RunOf_I _ zp _ [] _ ((S5.out.2.1).rd (by first | omega | (simp <;> omega))) (by omega) (rdS_nil0 _) za na oa HA.out).mono ?_
    rintro e w_6 ⟨left, rfl, ho6, hb6⟩
    have hz6 : w_5.heap.size ≤ w_6.heap.size := by have := hb6.size; simpa using this
    replace hb6 : Below (w_5.heap.size) w_5 w_6 := by simpa using hb6
    have S6 : Hid (Below w0.heap.size w0 w_6 ∧ RdBI w_6 (w1.heap.size) p (zp) ∧ OwnI w_6 (w1.heap.size) (w_2.heap.size) x (q) ∧ OwnS w_6 (w_5.heap.size) (w_6.heap.size) left (za)) := Lib.hid ⟨(S5.out.1).trans (hb6.mono (by omega)), (S5.out.2.1).below (hb6.mono (by omega)), (S5.out.2.2).belowB hb6 (by omega), (by simpa using ho6)⟩
    clear S5
    clear ho6 hb6
    go_wp2_with fail
    refine (RunOf_I _ q _ [] _ ((S6.out.2.2.1).rd) (by omega) (rdS_nil0 _) zb nb ob HB.out).mono ?_
    rintro e w_7 ⟨other, rfl, ho7, hb7⟩
    have hz7 : w_6.heap.size ≤ w_7.heap.size := by have := hb7.size; simpa using this
    replace hb7 : Below (w_6.heap.size) w_6 w_7 := by simpa using hb7
    have S7 : Hid (Below w0.heap.size w0 w_7 ∧ RdBI w_7 (w1.heap.size) p (zp) ∧ OwnI w_7 (w1.heap.size) (w_2.heap.size) x (q) ∧ OwnS w_7 (w_5.heap.size) (w_6.heap.size) left (za) ∧ OwnS w_7 (w_6.heap.size) (w_7.heap.size) other (zb)) := Lib.hid ⟨(S6.out.1).trans (hb7.mono (by omega)), (S6.out.2.1).below (hb7.mono (by omega)), (S6.out.2.2.1).belowB hb7 (by omega), (S6.out.2.2.2).belowB hb7 (by omega), (by simpa using ho7)⟩
    clear S6
    clear ho7 hb7
    go_wp2_with fail
    refine (ProgValid_I _ q _ ((S7.out.2.2.1).rd) (by omega) true Hq.out.1).mono ?_
    rintro e w_8 ⟨rfl, hb8⟩
    have hz8 : w_7.heap.size ≤ w_8.heap.size := by have := hb8.size; simpa using this
    replace hb8 : Below (w_7.heap.size) w_7 w_8 := by simpa using hb8
    have S8 : Hid (Below w0.heap.size w0 w_8 ∧ RdBI w_8 (w1.heap.size) p (zp) ∧ OwnI w_8 (w1.heap.size) (w_2.heap.size) x (q) ∧ OwnS w_8 (w_5.heap.size) (w_6.heap.size) left (za) ∧ OwnS w_8 (w_6.heap.size) (w_7.heap.size) other (zb)) := Lib.hid ⟨(S7.out.1).trans (hb8.mono (by omega)), (S7.out.2.1).below (hb8.mono (by omega)), (S7.out.2.2.1).belowB hb8 (by omega), (S7.out.2.2.2.1).belowB hb8 (by omega), (S7.out.2.2.2.2).belowB hb8 (by omega)⟩
    clear S7
    clear hb8
    -- at w_8: S8: base p x left other
    rcases oa with _ | _
    · go_wp2
      go_ret
      exact ⟨rfl, S8.out.1⟩
    · obtain ⟨rfl, he⟩ := HK.out rfl
      have HE := Lib.hid he; clear he
      go_wp2_with fail
      refine (smS _ _ za zb _ ((S8.out.2.2.2.1).rd) ((S8.out.2.2.2.2).rd) true (decide_eq_true HE.out.symm)).mono ?_
      rintro e w_9 ⟨rfl, hb9⟩
      have hz9 : w_8.heap.size ≤ w_9.heap.size := by have := hb9.size; simpa using this
      replace hb9 : Below (w_8.heap.size) w_8 w_9 := by simpa using hb9
      have S9 : Hid (Below w0.heap.size w0 w_9 ∧ RdBI w_9 (w1.heap.size) p (zp) ∧ OwnI w_9 (w1.heap.size) (w_2.heap.size) x (q) ∧ OwnS w_9 (w_5.heap.size) (w_6.heap.size) left (za) ∧ OwnS w_9 (w_6.heap.size) (w_7.heap.size) other (zb)) := Lib.hid ⟨(S8.out.1).trans (hb9.mono (by omega)), (S8.out.2.1).below (hb9.mono (by omega)), (S8.out.2.2.1).belowB hb9 (by omega), (S8.out.2.2.2.1).belowB hb9 (by omega), (S8.out.2.2.2.2).belowB hb9 (by omega)⟩
      clear S8
      clear hb9
      -- at w_9: S9: base p x left other
      go_wp2
      go_ret
      exact ⟨rfl, S9.out.1⟩

theorem fnSimpleOf_named : Tryd.prog.globalNamed "loop.example/stackwords/impl.ruleTakes" = some 0 := by kernel_rfl
theorem fnSimpleOf_type : (Tryd.prog.globals[0]?).map (·.type) = some 88 := by kernel_rfl

theorem fnSimpleOf_walk : LawWalkL 4 Tryd.f4 Rows.fnSimpleOfRow.laid := by
  intro H enc W base args ds ps hval hA hL _
  rw [Tryd.params4] at hA hval
  obtain ⟨v0, d0, rfl, rfl, h0⟩ := trodAll_one hA
  obtain ⟨A0, c0, zs0, rfl, hi0, hc0⟩ := ints_of_trod Tryd.underlying22 Tryd.underlying5 cells_byte (hval 0 _ _ rfl rfl) h0
  exact fnSimpleOf_any A0 c0 zs0 W (RdC.mk hi0 hc0) (intTab_of_laid fnSimpleOf_named fnSimpleOf_type Tryd.underlying88 Tryd.underlying3 (by kernel_rfl) (by kernel_rfl) (zs := takesL) (List.mem_singleton.2 rfl) (by decide) hL)

noncomputable def fnSimpleOf_world (os : Os) : World :=
  { World.holding Tryd.prog os ⟨#[], #[], []⟩ with heap := (World.holding Tryd.prog os ⟨#[], #[], []⟩).heap.modify 0 fun
      | .cells _ t frozen => .cells (intVals takesL).toArray t frozen
      | o => o }
theorem fnSimpleOf_met (os : Os) : laidMet Tryd.prog Rows.fnSimpleOfRow.laid ((fnSimpleOf_world os).forCall (fun _ _ => 0) ⟨#[], #[.slice none 0 0], []⟩).memory :=
  laidMet_of_run' 8 (by kernel_rfl) (by kernel_rfl)
theorem fnSimpleOf_reads (os : Os) {H : Type} (enc : TypeId × Value → H) : ∃ places, DataW.whole enc Tryd.prog ((fnSimpleOf_world os).forCall (fun _ _ => 0) ⟨#[], #[.slice none 0 0], []⟩).memory Tryd.f4.params.toList Rows.fnSimpleOfSpec.vars false #[.slice none 0 0].toList 8 = some ([.nil], [intData takesL], places) := by
  have h : (DataW.whole enc Tryd.prog ((fnSimpleOf_world os).forCall (fun _ _ => 0) ⟨#[], #[.slice none 0 0], []⟩).memory Tryd.f4.params.toList Rows.fnSimpleOfSpec.vars false #[.slice none 0 0].toList 8).map (fun x => (x.1, x.2.1)) = some ([.nil], [intData takesL]) := by kernel_rfl
  obtain ⟨⟨a, b, c⟩, h1, h2⟩ := Option.map_eq_some_iff.1 h
  simp only [Prod.mk.injEq] at h2
  obtain ⟨rfl, rfl⟩ := h2
  exact ⟨c, h1⟩
theorem fnSimpleOf_readable : Tryd.prog.readableRec 88 = true ∧ 88 < Tryd.prog.types.size := ⟨by kernel_rfl, of_decide_eq_true (by kernel_rfl)⟩

set_option maxRecDepth 100000 in
theorem fnSimpleOf_lifted (os : Os) (started : os.Started) (H : Type) (enc : TypeId × Value → H) (F : Stop.Interp) :
    ReturnsInHanded {} Tryd.checked os 4 .any ((OpenSpec.ofChange Rows.fnSimpleOfSpec).preRow enc Tryd.prog Tryd.f4 Rows.fnSimpleOfRow.domain false Rows.fnSimpleOfRow.laid) (((OpenSpec.ofChange Rows.fnSimpleOfSpec).at F).post enc Tryd.prog Tryd.f4 false true false false) := by
  obtain ⟨places, hx⟩ := fnSimpleOf_reads os enc
  refine returnsInHanded_of_row (C := Tryd.checked) (s := OpenSpec.ofChange Rows.fnSimpleOfSpec) own started (by kernel_rfl) Tryd.func4
    (witness_row_at (enc := enc) (C := Tryd.checked) false (fnSimpleOf_world os) #[.slice none 0 0] rfl (by kernel_rfl) (by kernel_rfl) (by kernel_rfl)
      (OpenSpec.preRow_of_cond 8 hx (by kernel_rfl) (fun k hk => by cases hk) (by kernel_rfl) (fnSimpleOf_met os))) ?_
  intro W base args ds gs before hval hW _ _ _ hL hsh _
  have hA := hW
  obtain ⟨p, q, hA, hV, _⟩ := hA
  refine (fnSimpleOf_walk H enc W base args ds p hval hA hL hsh).mono fun e W' ⟨he, hb⟩ => ⟨_, he, ?_⟩
  obtain ⟨g, t, cs, fuel, d, p', rfl, _⟩ := trodVars_one hV
  have hd := (trodAll_length hA).2
  match ds, hd with
  | [d0], _ =>
    refine post_lawV (s := Rows.fnSimpleOfSpec) laidOut hW (by kernel_rfl) ?_ rfl Tryd.underlying4 ⟨rfl, rfl, rfl⟩ hb
    intro n hn g t hg ht
    obtain rfl : n = "loop.example/stackwords/impl.ruleTakes" := by simpa [Rows.fnSimpleOfSpec] using hn
    obtain rfl := Option.some.inj (fnSimpleOf_named.symm.trans hg)
    obtain rfl := Option.some.inj (fnSimpleOf_type.symm.trans ht)
    exact fnSimpleOf_readable

theorem fnSimpleOf_said : Rows.FnSimpleOfSaid :=
  OpenClaim.holds_of_cond 4 Tryd.f4 rfl rfl rfl rfl rfl rfl rfl ⟨rfl, rfl, rfl, rfl, rfl⟩ rfl rfl rfl rfl rfl (by kernel_rfl) Tryd.func4 (by unfold joinedFacts; rw [pf_enter, pf_lifts, pf_make]; kernel_rfl)
    (of_decide_eq_true (by kernel_rfl)) (by unfold Func.isWrapper; first | (rw [if_pos (by decide +kernel)]; kernel_rfl) | (rw [if_neg (by decide +kernel)]; exact ⟨rfl, rfl⟩))
    (fun os started H enc _ F => by rw [OpenClaim.pre_eq_preRow]; exact fnSimpleOf_lifted os started H enc F)

theorem fnSimpleOf_plain (f : FuncId) (fn : Func) (hf : Tryd.pinned.checked.prog.funcNamed "loop.example/stackwords/laws.FnSimpleOf" = some f) (hfn : Tryd.pinned.checked.prog.funcs[f]? = some fn) :
    false = Tryd.pinned.checked.prog.looks [] ∧ ∀ (j : Nat) t, fn.params[j]? = some t → Tryd.pinned.checked.prog.wantsStandIn t = false := by
  obtain rfl : f = 4 := Option.some.inj ((show Tryd.prog.funcNamed "loop.example/stackwords/laws.FnSimpleOf" = some 4 by kernel_rfl).symm.trans hf) |>.symm
  obtain rfl : fn = Tryd.f4 := (Option.some.inj (Tryd.func4.symm.trans hfn)).symm
  refine ⟨by kernel_rfl, fun j t ht => ?_⟩
  rw [Tryd.params4] at ht
  have hm := Array.mem_of_getElem? ht
  simp only [List.mem_toArray, List.mem_cons, List.not_mem_nil, or_false] at hm
  rcases hm with rfl
  · exact (show Tryd.prog.wantsStandIn 22 = false by kernel_rfl)

/-- FnSimpleOf: the card, as it is given. -/
theorem fnSimpleOf_card : Rows.FnSimpleOfCardSaid :=
  Claim7.holds_tied_plain_at .later [] _ _ _ _ fnSimpleOf_said (fun _ h => by cases h) (by kernel_rfl) (fun _ h => by cases h) fnSimpleOf_row_tie rfl ⟨rfl, rfl⟩ (by kernel_rfl) rfl fnSimpleOf_plain (by kernel_rfl)

end Go.Proofs.YtkdpfiaegimnlaaDoor
