/- FnJournalText: of every code: JournalText is its model at the drawn deeds; ReadJournal of the text, if there is one, are the deeds, and the whole text. For every input; the listed variables hold what the program lays. -/
import Derived.Test.YtjblecinkedppaaDoorI
import Derived.Test.YtjblecinkedppaaDoorBw
import Derived.Test.YtjblecinkedppaaDoorBv
import Derived.Test.YtjblecinkedppaaDoorNl
import Derived.Test.YtjblecinkedppaaDoorBb
import Derived.Test.YtjblecinkedppaaDoorF1
import Derived.Test.YtjblecinkedppaaDoorF2
import Derived.Test.YtjblecinkedppaaDoorF3
import Derived.BigQuiet
import Derived.Test.YtjblecinkedppaaDoorTie
import Derived.Test.YtjblecinkedppaaDoorCards
import Derived.SevenTiedAt
namespace Go.Proofs.YtjblecinkedppaaDoor
set_option maxRecDepth 100000
open Go.RowKit Go.WideShapes Go.ChangeShapes Go.Maps Go.Deep

set_option maxHeartbeats 2000000 in
theorem sameDeeds9 (v u : Value) (ds : Deeds) (w : World) (h0 : RdD w v ds) (h1 : RdD w u ds) :
    Calls Tryd.prog 21 #[v, u] w fun e w' => e = .returned (.bool true) ∧ Below w.heap.size w w' := by
  obtain ⟨A, c, rfl, hm, hr0⟩ := h0
  obtain ⟨B, d, rfl, _, hr1⟩ := h1
  have H0 := Lib.hid hr0; have H1 := Lib.hid hr1; clear hr0 hr1
  go_enter Tryd.func21, Tryd.ntmps21
  go_wp2
  go_loopw [5] (fun kv wr => ∃ k : Nat, k ≤ ds.length ∧ kv = .int .i64 k ∧ Below w.heap.size w wr) (fun kv _ => ds.length - (intOf kv).toNat)
  case atStart => exact ⟨0, Nat.zero_le _, by first | rfl | simp, Below.refl _ _⟩
  case round =>
    obtain ⟨k, hk, rfl, hbl⟩ := hrel
    by_cases hlt : k < ds.length
    · obtain ⟨b1, o1, rfl, hb1, hc1⟩ := H0.out (by omega)
      obtain ⟨b2, o2, rfl, hb2, hc2⟩ := H1.out (by omega)
      obtain ⟨m, hs⟩ : ∃ s, ds[k]? = some s := ⟨ds[k], List.getElem?_eq_getElem hlt⟩
      have x0 := (hbl.cell (p := ⟨b1, o1 + k * 2, none⟩) hb1).trans (hc1 k m hs).1
      have x1 := (hbl.cell (p := ⟨b1, o1 + k * 2 + 1, none⟩) hb1).trans (hc1 k m hs).2
      have y0 := (hbl.cell (p := ⟨b2, o2 + k * 2, none⟩) hb2).trans (hc2 k m hs).1
      have y1 := (hbl.cell (p := ⟨b2, o2 + k * 2 + 1, none⟩) hb2).trans (hc2 k m hs).2
      obtain ⟨m0, m1⟩ := m
      dsimp only at x0 x1 y0 y1
      obtain ⟨D, hD⟩ : ∃ D : ByteArray, (⟨m1.toArray⟩ : ByteArray) = D := ⟨_, rfl⟩
      rw [hD] at x1 y1
      have hDD : (D.toList == D.toList) = true := by simp
      have hltI : (k : Int) < ds.length := by omega
      have V := Lib.hid hbl; clear hbl hs hc1 hc2 hD
      go_wp2
      go_quiet (fail)
      go_wp2
      go_roundw
      case rel => exact ⟨k + 1, by omega, by go_num, below_drewN V.out _⟩
      case measure => simp [intOf]; omega
    · have hltI : ¬ (k : Int) < ds.length := by omega
      have V := Lib.hid hbl; clear hbl
      go_wp2
      go_ret
      exact ⟨rfl, V.out⟩
set_option maxHeartbeats 4000000 in
theorem fnJournalText_any (A0 : Option Addr) (c0 : Nat) (x0 : List Int) (w0 : World) (h0 : RdC w0 (.slice A0 x0.length c0) x0) (ht : StrTab w0 0 opNames) (hm : MLen w0) :
    Calls Tryd.prog 6 #[.slice A0 x0.length c0] w0 fun e w' => e = .returned (.bool true) ∧ Below w0.heap.size w0 w' := by
  have hml := h0.len_le
  have HH := Lib.hid h0; clear h0
  have HTT : Hid (∀ X, Below w0.heap.size w0 X → StrTab X 0 opNames ∧ MLen X) := Lib.hid fun X hX => ⟨ht.below hX ht.lt, hm.below hX hm.1⟩
  clear ht hm
  by_cases hl : x0.length ≤ 1048576
  case neg =>
    go_enter Tryd.func6, Tryd.ntmps6
    go_wp2
    go_ret
    exact ⟨rfl, Below.refl _ _⟩
  go_enter Tryd.func6, Tryd.ntmps6
  go_wp2_with fail
  refine (DrawJournalText_any _ x0 _ HH.out).mono ?_
  rintro e w1 ⟨u, ds, rfl, hrd, hdl, hdm, hb⟩
  have hz1 := hb.size
  have HM := Lib.hid (show ∀ d ∈ ds, d.2.length ≤ 100000000 from fun d hd => by have := hdm d hd; omega)
  obtain ⟨A, c, rfl, _⟩ := id hrd
  have X := Lib.hid (And.intro hb hrd); clear hb hrd hdm HH
  obtain ⟨T, hT⟩ : ∃ T : ByteArray, (⟨(jtx ds).toArray⟩ : ByteArray) = T := ⟨_, rfl⟩
  have hTb : bytesOf T = jtx ds := by rw [← hT, bytes_mk]
  have hTl : T.size ≤ 2900 := by have := jtx_len ds; rw [← hT]; simp only [ByteArray.size, List.size_toArray]; omega
  have HTB := Lib.hid hTb; clear hTb
  have hTT : (T.toList == T.toList) = true := by simp
  go_wp2_with fail
  refine (JournalText_I _ ds w1 X.out.2 (by omega) HM.out (HTT.out _ X.out.1).1).mono ?_
  rw [hT]
  rintro e w2 ⟨rfl, hb⟩
  have hz2 := hb.size
  have Y := Lib.hid (And.intro (X.out.1.trans (hb.mono hz1)) (RdD.step X.out.2 hb)); clear hb X
  go_wp2_with fail
  refine (JournalText_S _ ds w2 Y.out.2 (by omega) HM.out).mono ?_
  rw [hT]
  rintro e w3 ⟨rfl, hb⟩
  have hz3 := hb.size
  have Z := Lib.hid (And.intro (Y.out.1.trans (hb.mono (by omega))) (RdD.step Y.out.2 hb)); clear hb Y
  have hw3 := Z.out.1.size
  by_cases hne : jtx ds = []
  · have hTe : T = ⟨#[]⟩ := by rw [← hT, hne]
    clear hT
    subst hTe
    go_wp2_with fail
    refine (alive_any _).mono ?_
    rintro e w4 ⟨rfl, hb⟩
    have Q := Lib.hid (Z.out.1.trans (hb.mono hw3)); clear hb Z
    go_wp2
    go_ret
    exact ⟨rfl, Q.out⟩
  · have HJ := Lib.hid (show jrn (bytesOf T) = (ds, T.size) by rw [HTB.out, jrn_jtx hne, ← HTB.out, bytes_len])
    have hTn : (T.toList == []) = false := by rw [str_eq]; exact decide_eq_false (by rw [HTB.out]; exact hne)
    clear hT hne
    have HR := ReadJournal_I T w3 (by omega) (HTT.out _ Z.out.1).1 (HTT.out _ Z.out.1).2
    unfold RjPost at HR
    rw [HJ.out] at HR
    have HRH := Lib.hid HR; clear HR
    go_wp2_with fail
    refine HRH.out.mono ?_
    rintro e w4 ⟨v, rfl, hod, hb⟩
    have hz4 := hb.size
    obtain ⟨A4, c4, rfl, _⟩ := id hod.rd
    have Q := Lib.hid (And.intro (Z.out.1.trans (hb.mono hw3)) (And.intro (RdD.step Z.out.2 hb) hod.rd)); clear hb Z hod HRH
    have hw4 := Q.out.1.size
    go_wp2_with fail
    refine (sameDeeds9 _ _ ds w4 Q.out.2.2 Q.out.2.1).mono ?_
    rintro e w5 ⟨rfl, hb⟩
    have R := Lib.hid (Q.out.1.trans (hb.mono hw4)); clear hb Q
    go_wp2
    go_ret
    exact ⟨rfl, R.out⟩

theorem fnJournalText_walk : LawWalkL 6 Tryd.f6 Rows.fnJournalTextRow.laid := by
  intro H enc W base args ds ps hval hA hL hsh
  rw [Tryd.params6] at hA hval
  obtain ⟨v0, d0, rfl, rfl, h0⟩ := trodAll_one hA
  obtain ⟨A0, c0, zs0, rfl, hi0, hc0⟩ := ints_of_trod Tryd.underlying22 Tryd.underlying5 cells_byte (hval 0 _ _ rfl rfl) h0
  exact fnJournalText_any A0 c0 zs0 W (RdC.mk hi0 hc0) (strTab_of_laid lv_opTexts_named lv_opTexts_type Tryd.underlying98 Tryd.underlying9 (by kernel_rfl) (by kernel_rfl) (ss := opNames) (List.mem_of_getElem? (i := 0) (by kernel_rfl)) (by decide) hL) (MLen.of_shaped hsh)

noncomputable def fnJournalText_world (os : Os) : World := laidAt (World.holding Tryd.prog os ⟨#[], #[], []⟩) 0 Rows.laid_loop_example_stackwords_impl_opTexts
theorem fnJournalText_met (os : Os) : laidMet Tryd.prog Rows.fnJournalTextRow.laid ((fnJournalText_world os).forCall (fun _ _ => 0) ⟨#[], #[.slice none 0 0], []⟩).memory :=
  laidMet_of_run' 8 (by kernel_rfl) (by kernel_rfl)
theorem fnJournalText_reads (os : Os) {H : Type} (enc : TypeId × Value → H) : ∃ places, DataW.whole enc Tryd.prog ((fnJournalText_world os).forCall (fun _ _ => 0) ⟨#[], #[.slice none 0 0], []⟩).memory Tryd.f6.params.toList Rows.fnJournalTextSpec.vars false #[.slice none 0 0].toList 8 = some ([.nil], [strData opNames], places) := by
  have h : (DataW.whole enc Tryd.prog ((fnJournalText_world os).forCall (fun _ _ => 0) ⟨#[], #[.slice none 0 0], []⟩).memory Tryd.f6.params.toList Rows.fnJournalTextSpec.vars false #[.slice none 0 0].toList 8).map (fun x => (x.1, x.2.1)) = some ([.nil], [strData opNames]) := by kernel_rfl
  obtain ⟨⟨a, b, c⟩, h1, h2⟩ := Option.map_eq_some_iff.1 h
  simp only [Prod.mk.injEq] at h2
  obtain ⟨rfl, rfl⟩ := h2
  exact ⟨c, h1⟩

set_option maxRecDepth 100000 in
theorem fnJournalText_lifted (os : Os) (started : os.Started) (H : Type) (enc : TypeId × Value → H) (F : Stop.Interp) :
    ReturnsInHanded {} Tryd.checked os 6 .any ((OpenSpec.ofChange Rows.fnJournalTextSpec).preRow enc Tryd.prog Tryd.f6 Rows.fnJournalTextRow.domain false Rows.fnJournalTextRow.laid) (((OpenSpec.ofChange Rows.fnJournalTextSpec).at F).post enc Tryd.prog Tryd.f6 false true false false) := by
  obtain ⟨places, hx⟩ := fnJournalText_reads os enc
  refine returnsInHanded_of_row (C := Tryd.checked) (s := OpenSpec.ofChange Rows.fnJournalTextSpec) own started (by kernel_rfl) Tryd.func6
    (witness_row_at (enc := enc) (C := Tryd.checked) false (fnJournalText_world os) #[.slice none 0 0] rfl (by kernel_rfl) (by kernel_rfl) (by kernel_rfl)
      (OpenSpec.preRow_of_cond 8 hx (by kernel_rfl) (fun k hk => by cases hk) (by kernel_rfl) (fnJournalText_met os))) ?_
  intro W base args ds gs before hval hW _ _ _ hL hsh _
  have hA := hW
  obtain ⟨p, q, hA, hV, _⟩ := hA
  refine (fnJournalText_walk H enc W base args ds p hval hA hL hsh).mono fun e W' ⟨he, hb⟩ => ⟨_, he, ?_⟩
  obtain ⟨g, t, cs, fuel, d, p', rfl, _⟩ := trodVars_one hV
  have hd := (trodAll_length hA).2
  match ds, hd with
  | [d0], _ =>
    refine post_lawV (s := Rows.fnJournalTextSpec) laidOut hW (by kernel_rfl) ?_ rfl Tryd.underlying4 ⟨rfl, rfl, rfl⟩ hb
    intro n hn g t hg ht
    have hn2 : n ∈ ["loop.example/stackwords/impl.opTexts"] := hn
    simp only [List.mem_cons, List.not_mem_nil, or_false] at hn2
    rcases hn2 with rfl
    · obtain rfl := Option.some.inj (lv_opTexts_named.symm.trans hg)
      obtain rfl := Option.some.inj (lv_opTexts_type.symm.trans ht)
      exact lv_opTexts_readable

theorem fnJournalText_said : Rows.FnJournalTextSaid :=
  OpenClaim.holds_of_cond 6 Tryd.f6 rfl rfl rfl rfl rfl rfl rfl ⟨rfl, rfl, rfl, rfl, rfl⟩ rfl rfl rfl rfl rfl (by kernel_rfl) Tryd.func6 (by unfold joinedFacts; rw [pf_enter, pf_lifts, pf_make]; kernel_rfl)
    (of_decide_eq_true (by kernel_rfl)) (by unfold Func.isWrapper; first | (rw [if_pos (by decide +kernel)]; kernel_rfl) | (rw [if_neg (by decide +kernel)]; exact ⟨rfl, rfl⟩))
    (fun os started H enc _ F => by rw [OpenClaim.pre_eq_preRow]; exact fnJournalText_lifted os started H enc F)

theorem fnJournalText_plain (f : FuncId) (fn : Func) (hf : Tryd.pinned.checked.prog.funcNamed "loop.example/stackwords/laws.FnJournalText" = some f) (hfn : Tryd.pinned.checked.prog.funcs[f]? = some fn) :
    false = Tryd.pinned.checked.prog.looks [] ∧ ∀ (j : Nat) t, fn.params[j]? = some t → Tryd.pinned.checked.prog.wantsStandIn t = false := by
  obtain rfl : f = 6 := Option.some.inj ((show Tryd.prog.funcNamed "loop.example/stackwords/laws.FnJournalText" = some 6 by kernel_rfl).symm.trans hf) |>.symm
  obtain rfl : fn = Tryd.f6 := (Option.some.inj (Tryd.func6.symm.trans hfn)).symm
  refine ⟨by kernel_rfl, fun j t ht => ?_⟩
  rw [Tryd.params6] at ht
  have hm := Array.mem_of_getElem? ht
  simp only [List.mem_toArray, List.mem_cons, List.not_mem_nil, or_false] at hm
  rcases hm with rfl
  · exact (show Tryd.prog.wantsStandIn 22 = false by kernel_rfl)

/-- FnJournalText: the card, as it is given. -/
theorem fnJournalText_card : Rows.FnJournalTextCardSaid :=
  Claim7.holds_tied_plain_at .later [] _ _ _ _ fnJournalText_said (fun _ h => by cases h) (by kernel_rfl) (fun _ h => by cases h) fnJournalText_row_tie rfl ⟨rfl, rfl⟩ (by kernel_rfl) rfl fnJournalText_plain (by kernel_rfl)

end Go.Proofs.YtjblecinkedppaaDoor
