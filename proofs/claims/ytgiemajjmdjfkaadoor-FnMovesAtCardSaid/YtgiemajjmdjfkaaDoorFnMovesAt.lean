/- FnMovesAt: of every code: MovesAt is its model at the drawn program and place; a rule is told exactly if its move can be done; at one place at most one fits. For every input; ruleTakes holds what the program's text lays. -/
import Derived.Test.YtgiemajjmdjfkaaDoorKn
import Derived.Test.YtgiemajjmdjfkaaDoorVp
import Derived.Test.YtgiemajjmdjfkaaDoorVk
import Derived.Test.YtgiemajjmdjfkaaDoorLiftD
import Derived.Test.YtgiemajjmdjfkaaDoorF1
import Derived.Test.YtgiemajjmdjfkaaDoorF2
import Derived.Test.YtgiemajjmdjfkaaDoorF3
import Derived.Test.YtgiemajjmdjfkaaDoorTie
import Derived.Test.YtgiemajjmdjfkaaDoorCards
import Derived.SevenTiedAt
namespace Go.Proofs.YtgiemajjmdjfkaaDoor
set_option maxRecDepth 100000
open Go.RowKit Go.WideShapes Go.ChangeShapes

theorem hasInt_any (v : Value) (xs : List Int) (z : Int) (w : World) (h : RdI w v xs) (b : Bool) (hb : decide (z ∈ xs) = b) :
    Calls Tryd.prog 40 #[v, .int .i64 z] w fun e w' => e = .returned (.bool b) ∧ w = w' := by
  obtain ⟨A, c, rfl, hi, _⟩ := h
  have hm := hi.len
  have HI := Lib.hid hi; clear hi
  have HB := Lib.hid hb; clear hb
  go_enter Tryd.func40, Tryd.ntmps40
  go_wp2
  go_loop [5] (fun i => ∃ k : Nat, k ≤ xs.length ∧ i = .int .i64 k ∧ ∀ j, j < k → xs.getD j 0 ≠ z) (fun i => xs.length - (intOf i).toNat)
  case atStart => exact ⟨0, Nat.zero_le _, rfl, fun j hj => by omega⟩
  case round =>
    obtain ⟨k, hk, rfl, hall⟩ := hrel
    have Hall := Lib.hid hall; clear hall
    by_cases hlt : k < xs.length
    · obtain ⟨bb, off, rfl, hbb, hc⟩ := HI.out.at_ (by omega)
      have hcell := hc k hlt
      have hltI : (k : Int) < xs.length := by omega
      obtain ⟨y, hy⟩ : ∃ y, xs.getD k 0 = y := ⟨_, rfl⟩
      rw [hy] at hcell
      have HY := Lib.hid hy; clear hy hc
      by_cases hz : y = z
      · have hmem : z ∈ xs := by
          rw [← hz, ← HY.out, List.getD, List.getElem?_eq_getElem hlt]; exact List.getElem_mem hlt
        have hbt : b = true := by rw [← HB.out]; simpa using hmem
        subst hbt
        have hyz : (y == z) = true := by simp [hz]
        clear hz hmem
        go_wp2
        go_ret
        exact ⟨rfl, rfl⟩
      · have hyz : (y == z) = false := by simp [hz]
        have Hz := Lib.hid hz; clear hz
        go_wp2
        go_round
        case rel => exact ⟨k + 1, by omega, by go_num, fun j hj => by
          by_cases e : j = k
          · subst e; rw [HY.out]; exact Hz.out
          · exact Hall.out j (by omega)⟩
        case measure => simp [intOf]; omega
    · have hbf : b = false := by
        rw [← HB.out, decide_eq_false_iff_not]
        intro hmem
        obtain ⟨j, hj⟩ := List.getElem?_of_mem hmem
        have hjl : j < xs.length := by
          rcases Nat.lt_or_ge j xs.length with h | h
          · exact h
          · rw [List.getElem?_eq_none h] at hj; cases hj
        exact Hall.out j (by omega) (by rw [List.getD, hj]; rfl)
      subst hbf
      go_wp2
      go_ret
      exact ⟨rfl, rfl⟩

set_option maxHeartbeats 4000000 in
theorem fnMovesAt_any (A0 : Option Addr) (c0 : Nat) (x0 : List Int) (w0 : World) (h0 : RdC w0 (.slice A0 x0.length c0) x0) (htab : IntTab w0 0 takesL) :
    Calls Tryd.prog 7 #[.slice A0 x0.length c0] w0 fun e w' => e = .returned (.bool true) ∧ Below w0.heap.size w0 w' := by
  have hm := h0.len_le
  have hgl := htab.lt
  have HT := Lib.hid htab; clear htab
  have HH := Lib.hid h0; clear h0
  by_cases hl : x0.length ≤ 1048576
  case neg =>
    go_enter Tryd.func7, Tryd.ntmps7
    go_wp2
    go_ret
    exact ⟨rfl, Below.refl _ _⟩
  go_enter Tryd.func7, Tryd.ntmps7
  go_wp2_with fail
  refine (DrawMovesAt_any _ x0 _ HH.out).mono ?_
  rintro e w1 ⟨p, zp, x, rfl, hp, hpl, hx, hb⟩
  have hz1 := hb.size
  have S1 : Hid (Below w0.heap.size w0 w1 ∧ RdBI w1 w1.heap.size p zp) := Lib.hid ⟨hb, hp.rd.at_⟩
  clear hp hb HH
  rcases hR : movesAtR zp x with L
  have HR := Lib.hid hR
  have hform := movesAt_form zp x
  rw [hR] at hform
  have hLl : L.length ≤ 1 := by rcases hform with h | ⟨z, h, _⟩ <;> rw [h] <;> simp
  have HM : Hid (∀ (k : Nat) (r : List Int) (b : Bool), moveDoR zp k x = (r, b) → decide ((k : Int) ∈ L) = b) := Lib.hid (by
    intro k r b h
    have h2 := moveDoR_2 zp k x
    rw [h, hR] at h2
    dsimp only at h2
    rw [h2]
    rcases hform with h3 | ⟨z, h3, _⟩
    · rw [h3]; simp
    · rw [h3]; simp [eq_comm])
  clear hR hform
  have HX := Lib.hid hx; clear hx
  go_wp2_with fail
  refine (MovesAt_I _ zp x _ ((S1.out.2).rd (by first | omega | (simp <;> omega))) (by omega) HX.out _ HR.out (HT.out.below (S1.out.1) hgl)).mono ?_
  rintro e w_2 ⟨list, rfl, ho2, hb2⟩
  have hz2 : w1.heap.size ≤ w_2.heap.size := by have := hb2.size; simpa using this
  replace hb2 : Below (w1.heap.size) w1 w_2 := by simpa using hb2
  have S2 : Hid (Below w0.heap.size w0 w_2 ∧ RdBI w_2 (w1.heap.size) p (zp) ∧ OwnI w_2 (w1.heap.size) (w_2.heap.size) list (L)) := Lib.hid ⟨(S1.out.1).trans (hb2.mono (by omega)), (S1.out.2).below (hb2.mono (by omega)), (by simpa using ho2)⟩
  clear S1
  clear ho2 hb2
  go_wp2_with fail
  refine (MovesAt_S _ zp x _ ((S2.out.2.1).rd (by first | omega | (simp <;> omega))) (by omega) HX.out _ HR.out).mono ?_
  rintro e w_3 ⟨list2, rfl, ho3, hb3⟩
  have hz3 : w_2.heap.size ≤ w_3.heap.size := by have := hb3.size; simpa using this
  replace hb3 : Below (w_2.heap.size) w_2 w_3 := by simpa using hb3
  have S3 : Hid (Below w0.heap.size w0 w_3 ∧ RdBI w_3 (w1.heap.size) p (zp) ∧ OwnI w_3 (w1.heap.size) (w_2.heap.size) list (L) ∧ OwnI w_3 (w_2.heap.size) (w_3.heap.size) list2 (L)) := Lib.hid ⟨(S2.out.1).trans (hb3.mono (by omega)), (S2.out.2.1).below (hb3.mono (by omega)), (S2.out.2.2).belowB hb3 (by omega), (by simpa using ho3)⟩
  clear S2
  clear ho3 hb3
  go_wp2_with fail
  refine (smI _ _ _ _ _ ((S3.out.2.2.1).rd) ((S3.out.2.2.2).rd) true (decide_eq_true rfl)).mono ?_
  rintro e w_4 ⟨rfl, hb4⟩
  have hz4 : w_3.heap.size ≤ w_4.heap.size := by have := hb4.size; simpa using this
  replace hb4 : Below (w_3.heap.size) w_3 w_4 := by simpa using hb4
  have S4 : Hid (Below w0.heap.size w0 w_4 ∧ RdBI w_4 (w1.heap.size) p (zp) ∧ OwnI w_4 (w1.heap.size) (w_2.heap.size) list (L)) := Lib.hid ⟨(S3.out.1).trans (hb4.mono (by omega)), (S3.out.2.1).below (hb4.mono (by omega)), (S3.out.2.2.1).belowB hb4 (by omega)⟩
  clear S3
  clear hb4
  -- at w_4: S4: base p list
  obtain ⟨Al, cl, hlv, _⟩ := (S4.out.2.2).rd
  subst hlv
  obtain ⟨Ap, cp, hpv, _⟩ := (S4.out.2.1).rd (by omega)
  subst hpv
  have hLI : (L.length : Int) ≤ 1 := by omega
  go_wp2
  go_loopw [6] (fun i wr => ∃ k : Nat, k ≤ 9 ∧ i = .int .i64 k ∧ w_4.heap.size ≤ wr.heap.size ∧ Below w0.heap.size w0 wr ∧ RdBI wr w1.heap.size (.slice Ap zp.length cp) zp ∧ OwnI wr w1.heap.size w_2.heap.size (.slice Al L.length cl) L) (fun i _ => 9 - (intOf i).toNat)
  case atStart => exact ⟨0, by omega, rfl, Nat.le_refl _, S4.out⟩
  case round =>
    clear S4
    obtain ⟨k, hk, rfl, hsz, q1, q2, q3⟩ := hrel
    have Q := Lib.hid (And.intro q1 (And.intro q2 q3)); clear q1 q2 q3
    by_cases hlt : k < 9
    · have hltI : (k : Int) < 9 := by omega
      rcases hm : moveDoR zp k x with ⟨r, b⟩
      have Hb := Lib.hid (HM.out k r b hm)
      have Hm := Lib.hid hm; clear hm
      go_wp2_with fail
      refine (MoveDo_I _ zp (k : Int) x _ (Q.out.2.1.rd (by omega)) (by omega) r b Hm.out (HT.out.below Q.out.1 hgl)).mono ?_
      rintro e w5 ⟨u, rfl, ho, hb5⟩
      have hz5 := hb5.size
      have V := Lib.hid (And.intro (Q.out.1.trans (hb5.mono (by omega))) (And.intro (Q.out.2.1.below (hb5.mono (by omega))) (Q.out.2.2.below hb5))); clear ho hb5 Q
      have hbb : (b != b) = false := by simp
      go_wp2_with fail
      refine (hasInt_any _ L (k : Int) _ V.out.2.2.rd b Hb.out).mono ?_
      rintro e w' ⟨rfl, rfl⟩
      go_wp2
      go_roundw
      case rel => exact ⟨k + 1, by omega, by go_num, by omega, V.out⟩
      case measure => simp [intOf]; omega
    · obtain rfl : k = 9 := by omega
      go_wp2_with fail
      refine (alive_any _).mono ?_
      rintro e w5 ⟨rfl, hb5⟩
      have V := Lib.hid (Q.out.1.trans (hb5.mono (by omega))); clear hb5
      go_wp2
      go_ret
      exact ⟨rfl, V.out⟩

theorem fnMovesAt_named : Tryd.prog.globalNamed "loop.example/stackwords/impl.ruleTakes" = some 0 := by kernel_rfl
theorem fnMovesAt_type : (Tryd.prog.globals[0]?).map (·.type) = some 95 := by kernel_rfl

theorem fnMovesAt_walk : LawWalkL 7 Tryd.f7 Rows.fnMovesAtRow.laid := by
  intro H enc W base args ds ps hval hA hL _
  rw [Tryd.params7] at hA hval
  obtain ⟨v0, d0, rfl, rfl, h0⟩ := trodAll_one hA
  obtain ⟨A0, c0, zs0, rfl, hi0, hc0⟩ := ints_of_trod Tryd.underlying22 Tryd.underlying5 cells_byte (hval 0 _ _ rfl rfl) h0
  exact fnMovesAt_any A0 c0 zs0 W (RdC.mk hi0 hc0) (intTab_of_laid fnMovesAt_named fnMovesAt_type Tryd.underlying95 Tryd.underlying3 (by kernel_rfl) (by kernel_rfl) (zs := takesL) (List.mem_singleton.2 rfl) (by decide) hL)

noncomputable def fnMovesAt_world (os : Os) : World :=
  { World.holding Tryd.prog os ⟨#[], #[], []⟩ with heap := (World.holding Tryd.prog os ⟨#[], #[], []⟩).heap.modify 0 fun
      | .cells _ t frozen => .cells (intVals takesL).toArray t frozen
      | o => o }
theorem fnMovesAt_met (os : Os) : laidMet Tryd.prog Rows.fnMovesAtRow.laid ((fnMovesAt_world os).forCall (fun _ _ => 0) ⟨#[], #[.slice none 0 0], []⟩).memory :=
  laidMet_of_run' 8 (by kernel_rfl) (by kernel_rfl)
theorem fnMovesAt_reads (os : Os) {H : Type} (enc : TypeId × Value → H) : ∃ places, DataW.whole enc Tryd.prog ((fnMovesAt_world os).forCall (fun _ _ => 0) ⟨#[], #[.slice none 0 0], []⟩).memory Tryd.f7.params.toList Rows.fnMovesAtSpec.vars false #[.slice none 0 0].toList 8 = some ([.nil], [intData takesL], places) := by
  have h : (DataW.whole enc Tryd.prog ((fnMovesAt_world os).forCall (fun _ _ => 0) ⟨#[], #[.slice none 0 0], []⟩).memory Tryd.f7.params.toList Rows.fnMovesAtSpec.vars false #[.slice none 0 0].toList 8).map (fun x => (x.1, x.2.1)) = some ([.nil], [intData takesL]) := by kernel_rfl
  obtain ⟨⟨a, b, c⟩, h1, h2⟩ := Option.map_eq_some_iff.1 h
  simp only [Prod.mk.injEq] at h2
  obtain ⟨rfl, rfl⟩ := h2
  exact ⟨c, h1⟩
theorem fnMovesAt_readable : Tryd.prog.readableRec 95 = true ∧ 95 < Tryd.prog.types.size := ⟨by kernel_rfl, of_decide_eq_true (by kernel_rfl)⟩

set_option maxRecDepth 100000 in
theorem fnMovesAt_lifted (os : Os) (started : os.Started) (H : Type) (enc : TypeId × Value → H) (F : Stop.Interp) :
    ReturnsInHanded {} Tryd.checked os 7 .any ((OpenSpec.ofChange Rows.fnMovesAtSpec).preRow enc Tryd.prog Tryd.f7 Rows.fnMovesAtRow.domain false Rows.fnMovesAtRow.laid) (((OpenSpec.ofChange Rows.fnMovesAtSpec).at F).post enc Tryd.prog Tryd.f7 false true false false) := by
  obtain ⟨places, hx⟩ := fnMovesAt_reads os enc
  refine returnsInHanded_of_row (C := Tryd.checked) (s := OpenSpec.ofChange Rows.fnMovesAtSpec) own started (by kernel_rfl) Tryd.func7
    (witness_row_at (enc := enc) (C := Tryd.checked) false (fnMovesAt_world os) #[.slice none 0 0] rfl (by kernel_rfl) (by kernel_rfl) (by kernel_rfl)
      (OpenSpec.preRow_of_cond 8 hx (by kernel_rfl) (fun k hk => by cases hk) (by kernel_rfl) (fnMovesAt_met os))) ?_
  intro W base args ds gs before hval hW _ _ _ hL hsh _
  have hA := hW
  obtain ⟨p, q, hA, hV, _⟩ := hA
  refine (fnMovesAt_walk H enc W base args ds p hval hA hL hsh).mono fun e W' ⟨he, hb⟩ => ⟨_, he, ?_⟩
  obtain ⟨g, t, cs, fuel, d, p', rfl, _⟩ := trodVars_one hV
  have hd := (trodAll_length hA).2
  match ds, hd with
  | [d0], _ =>
    refine post_lawV (s := Rows.fnMovesAtSpec) laidOut hW (by kernel_rfl) ?_ rfl Tryd.underlying4 ⟨rfl, rfl, rfl⟩ hb
    intro n hn g t hg ht
    obtain rfl : n = "loop.example/stackwords/impl.ruleTakes" := by simpa [Rows.fnMovesAtSpec] using hn
    obtain rfl := Option.some.inj (fnMovesAt_named.symm.trans hg)
    obtain rfl := Option.some.inj (fnMovesAt_type.symm.trans ht)
    exact fnMovesAt_readable

theorem fnMovesAt_said : Rows.FnMovesAtSaid :=
  OpenClaim.holds_of_cond 7 Tryd.f7 rfl rfl rfl rfl rfl rfl rfl ⟨rfl, rfl, rfl, rfl, rfl⟩ rfl rfl rfl rfl rfl (by kernel_rfl) Tryd.func7 (by unfold joinedFacts; rw [pf_enter, pf_lifts, pf_make]; kernel_rfl)
    (of_decide_eq_true (by kernel_rfl)) (by unfold Func.isWrapper; first | (rw [if_pos (by decide +kernel)]; kernel_rfl) | (rw [if_neg (by decide +kernel)]; exact ⟨rfl, rfl⟩))
    (fun os started H enc _ F => by rw [OpenClaim.pre_eq_preRow]; exact fnMovesAt_lifted os started H enc F)

theorem fnMovesAt_plain (f : FuncId) (fn : Func) (hf : Tryd.pinned.checked.prog.funcNamed "loop.example/stackwords/laws.FnMovesAt" = some f) (hfn : Tryd.pinned.checked.prog.funcs[f]? = some fn) :
    false = Tryd.pinned.checked.prog.looks [] ∧ ∀ (j : Nat) t, fn.params[j]? = some t → Tryd.pinned.checked.prog.wantsStandIn t = false := by
  obtain rfl : f = 7 := Option.some.inj ((show Tryd.prog.funcNamed "loop.example/stackwords/laws.FnMovesAt" = some 7 by kernel_rfl).symm.trans hf) |>.symm
  obtain rfl : fn = Tryd.f7 := (Option.some.inj (Tryd.func7.symm.trans hfn)).symm
  refine ⟨by kernel_rfl, fun j t ht => ?_⟩
  rw [Tryd.params7] at ht
  have hm := Array.mem_of_getElem? ht
  simp only [List.mem_toArray, List.mem_cons, List.not_mem_nil, or_false] at hm
  rcases hm with rfl
  · exact (show Tryd.prog.wantsStandIn 22 = false by kernel_rfl)

/-- FnMovesAt: the card, as it is given. -/
theorem fnMovesAt_card : Rows.FnMovesAtCardSaid :=
  Claim7.holds_tied_plain_at .later [] _ _ _ _ fnMovesAt_said (fun _ h => by cases h) (by kernel_rfl) (fun _ h => by cases h) fnMovesAt_row_tie rfl ⟨rfl, rfl⟩ (by kernel_rfl) rfl fnMovesAt_plain (by kernel_rfl)

end Go.Proofs.YtgiemajjmdjfkaaDoor
