/- FnSameShuffle: of every code and every other bytes: SameShuffle is its model at the drawn shuffles; if it holds, both leave the same of five values, where it is told. For every input. -/
import Derived.Test.YtkdpfiaegimnlaaI
import Derived.Test.YtkdpfiaegimnlaaJy
import Derived.Test.YtkdpfiaegimnlaaJr
import Derived.Test.YtkdpfiaegimnlaaJu
import Derived.Test.YtkdpfiaegimnlaaB6
import Derived.Test.YtkdpfiaegimnlaaRy
import Derived.Test.YtkdpfiaegimnlaaB5
import Derived.Test.YtkdpfiaegimnlaaLift
namespace Go.Proofs.Ytkdpfiaegimnlaa
set_option maxRecDepth 100000
open Go.RowKit Go.WideShapes Go.ChangeShapes

theorem same_leave {p q : List Int} {s l1 l2 : List (List Int)} {n1 n2 : Int} (h : sameShufR p q = true) (hs : s.length = 5) (h1 : runOfR p s = (l1, n1, true)) (h2 : runOfR q s = (l2, n2, true)) : l1 = l2 := by
  rcases hp : placesR p 5 with ⟨xs, a⟩
  rcases hq : placesR q 5 with ⟨ys, b⟩
  have h3 := sameShufR_parts h hp hq
  simp only [Bool.and_eq_true, decide_eq_true_eq] at h3
  obtain ⟨⟨rfl, rfl⟩, rfl⟩ := h3
  rw [places_run hp (by omega) h1, places_run hq (by omega) h2]
theorem sameShufR_swap {p q : List Int} (h : sameShufR p q = true) : sameShufR q p = true := by
  unfold sameShufR at *
  simp only [Bool.and_eq_true, decide_eq_true_eq] at *
  exact ⟨⟨h.1.2, h.1.1⟩, h.2.symm⟩

set_option maxHeartbeats 4000000 in
theorem fnSameShuffle_any (A0 : Option Addr) (c0 : Nat) (x0 : List Int) (A1 : Option Addr) (c1 : Nat) (x1 : List Int) (w0 : World) (h0 : RdC w0 (.slice A0 x0.length c0) x0) (h1 : RdC w0 (.slice A1 x1.length c1) x1) :
    Calls Try.prog 7 #[.slice A0 x0.length c0, .slice A1 x1.length c1] w0 fun e w' => e = .returned (.bool true) ∧ Below w0.heap.size w0 w' := by
  have hm := h0.len_le
  have hm1 := h1.len_le
  have HH := Lib.hid h0; clear h0 h1
  by_cases hl : x0.length ≤ 1048576
  case neg =>
    go_enter Try.func7, Try.ntmps7
    go_wp2
    go_ret
    exact ⟨rfl, Below.refl _ _⟩
  by_cases hl1 : x1.length ≤ 1048576
  case neg =>
    go_enter Try.func7, Try.ntmps7
    go_wp2
    go_ret
    exact ⟨rfl, Below.refl _ _⟩
  go_enter Try.func7, Try.ntmps7
  go_wp2_with fail
  refine (DrawSameShuffle_any _ x0 _ HH.out).mono ?_
  rintro e w1 ⟨p, zp, q, zq, rfl, hop, hoq, hlp, hlq, hb⟩
  have S1 : Hid (Below w0.heap.size w0 w1 ∧ OwnI w1 w0.heap.size w1.heap.size p zp ∧ OwnI w1 w0.heap.size w1.heap.size q zq) := Lib.hid ⟨hb, hop, hoq⟩
  have hz1 : w0.heap.size ≤ w1.heap.size := hb.size
  clear hop hoq hb HH
  rcases hs : sameShufR zp zq with _ | _ <;> have HS := Lib.hid hs <;> clear hs
  · skip
    go_wp2_with fail
    refine (SameShuffle_I _ zp _ zq _ ((S1.out.2.1).rd) (by omega) ((S1.out.2.2).rd) (by omega) false HS.out).mono ?_
    rintro e w_2 ⟨rfl, hb2⟩
    have hz2 : w1.heap.size ≤ w_2.heap.size := by have := hb2.size; simpa using this
    replace hb2 : Below (w1.heap.size) w1 w_2 := by simpa using hb2
    have S2 : Hid (Below w0.heap.size w0 w_2 ∧ OwnI w_2 (w0.heap.size) (w1.heap.size) p (zp) ∧ OwnI w_2 (w0.heap.size) (w1.heap.size) q (zq)) := Lib.hid ⟨(S1.out.1).trans (hb2.mono (by omega)), (S1.out.2.1).belowB hb2 (by omega), (S1.out.2.2).belowB hb2 (by omega)⟩
    clear S1
    clear hb2
    go_wp2_with fail
    refine (SameShuffle_S _ zp _ zq _ ((S2.out.2.1).rd) (by omega) ((S2.out.2.2).rd) (by omega) false HS.out).mono ?_
    rintro e w_3 ⟨rfl, hb3⟩
    have hz3 : w_2.heap.size ≤ w_3.heap.size := by have := hb3.size; simpa using this
    replace hb3 : Below (w_2.heap.size) w_2 w_3 := by simpa using hb3
    have S3 : Hid (Below w0.heap.size w0 w_3 ∧ OwnI w_3 (w0.heap.size) (w1.heap.size) p (zp) ∧ OwnI w_3 (w0.heap.size) (w1.heap.size) q (zq)) := Lib.hid ⟨(S2.out.1).trans (hb3.mono (by omega)), (S2.out.2.1).belowB hb3 (by omega), (S2.out.2.2).belowB hb3 (by omega)⟩
    clear S2
    clear hb3
    go_wp2_with fail
    refine (alive_any _).mono ?_
    rintro e w_4 ⟨rfl, hb4⟩
    have hz4 : w_3.heap.size ≤ w_4.heap.size := by have := hb4.size; simpa using this
    replace hb4 : Below (w_3.heap.size) w_3 w_4 := by simpa using hb4
    have S4 : Hid (Below w0.heap.size w0 w_4 ∧ OwnI w_4 (w0.heap.size) (w1.heap.size) p (zp) ∧ OwnI w_4 (w0.heap.size) (w1.heap.size) q (zq)) := Lib.hid ⟨(S3.out.1).trans (hb4.mono (by omega)), (S3.out.2.1).belowB hb4 (by omega), (S3.out.2.2).belowB hb4 (by omega)⟩
    clear S3
    clear hb4
    -- at w_4: S4: base p q
    go_wp2
    go_ret
    exact ⟨rfl, S4.out.1⟩
  · skip
    go_wp2_with fail
    refine (SameShuffle_I _ zp _ zq _ ((S1.out.2.1).rd) (by omega) ((S1.out.2.2).rd) (by omega) true HS.out).mono ?_
    rintro e w_2 ⟨rfl, hb2⟩
    have hz2 : w1.heap.size ≤ w_2.heap.size := by have := hb2.size; simpa using this
    replace hb2 : Below (w1.heap.size) w1 w_2 := by simpa using hb2
    have S2 : Hid (Below w0.heap.size w0 w_2 ∧ OwnI w_2 (w0.heap.size) (w1.heap.size) p (zp) ∧ OwnI w_2 (w0.heap.size) (w1.heap.size) q (zq)) := Lib.hid ⟨(S1.out.1).trans (hb2.mono (by omega)), (S1.out.2.1).belowB hb2 (by omega), (S1.out.2.2).belowB hb2 (by omega)⟩
    clear S1
    clear hb2
    go_wp2_with fail
    refine (SameShuffle_S _ zp _ zq _ ((S2.out.2.1).rd) (by omega) ((S2.out.2.2).rd) (by omega) true HS.out).mono ?_
    rintro e w_3 ⟨rfl, hb3⟩
    have hz3 : w_2.heap.size ≤ w_3.heap.size := by have := hb3.size; simpa using this
    replace hb3 : Below (w_2.heap.size) w_2 w_3 := by simpa using hb3
    have S3 : Hid (Below w0.heap.size w0 w_3 ∧ OwnI w_3 (w0.heap.size) (w1.heap.size) p (zp) ∧ OwnI w_3 (w0.heap.size) (w1.heap.size) q (zq)) := Lib.hid ⟨(S2.out.1).trans (hb3.mono (by omega)), (S2.out.2.1).belowB hb3 (by omega), (S2.out.2.2).belowB hb3 (by omega)⟩
    clear S2
    clear hb3
    -- at w_3: S3: base p q
    have B0 : Below w_3.heap.size w_3 (w_3.alloc (.cells #[] 25)) := (Below.refl _ _).alloc (Nat.le_refl _) _
    have Y := Lib.hid (And.intro (litS_nil w_3) (And.intro (S3.out.1.trans (B0.mono (by omega))) (And.intro (S3.out.2.1.belowB B0 (by omega)) (S3.out.2.2.belowB B0 (by omega))))); clear B0 S3
    go_wp2
    go_loopw [8, 9] (fun v kv wr => ∃ (k : Nat) (zss : List (List Int)), kv = .int .i64 k ∧ k ≤ 5 ∧ zss.length = k ∧ w_3.heap.size + 1 ≤ wr.heap.size ∧ OwnS wr w_3.heap.size wr.heap.size v zss ∧ Below w0.heap.size w0 wr ∧ OwnI wr w0.heap.size w1.heap.size p zp ∧ OwnI wr w0.heap.size w1.heap.size q zq) (fun _ kv _ => 5 - (intOf kv).toNat)
    case atStart => exact ⟨0, [], rfl, by omega, rfl, by simp, by simpa using Y.out.1, Y.out.2⟩
    case round =>
      clear Y
      obtain ⟨k, zss, rfl, hk, hzk, hsz, q1, q2, q3, q4⟩ := hrel
      have X := Lib.hid (And.intro q1 (And.intro q2 (And.intro q3 q4))); clear q1 q2 q3 q4
      have HK := Lib.hid hzk; clear hzk
      by_cases hlt : k < 5
      · have hltI : (k : Int) < 5 := by omega
        obtain ⟨s, hs, hs0, hs1⟩ : ∃ s : Int, (k : Int) * (k : Int) = s ∧ 0 ≤ s ∧ s ≤ 16 := ⟨_, rfl, by rcases (show k = 0 ∨ k = 1 ∨ k = 2 ∨ k = 3 ∨ k = 4 by omega) with rfl | rfl | rfl | rfl | rfl <;> decide, by rcases (show k = 0 ∨ k = 1 ∨ k = 2 ∨ k = 3 ∨ k = 4 by omega) with rfl | rfl | rfl | rfl | rfl <;> decide⟩
        have hw1 : IntKind.i64.wrap s = s := IntWalk.i64_in _ (by omega)
        have hw2 : IntKind.i64.wrap (s * 37) = s * 37 := IntWalk.i64_in _ (by omega)
        have hw3 : IntKind.i64.wrap (s * 37 + (x1.length : Int)) = s * 37 + (x1.length : Int) := IntWalk.i64_in _ (by omega)
        obtain ⟨t, ht, ht0, ht1⟩ : ∃ t : Int, (s * 37 + (x1.length : Int)).tmod 1000 = t ∧ 0 ≤ t ∧ t ≤ 999 := ⟨_, rfl, by rw [Int.tmod_eq_emod_of_nonneg (by omega)]; omega, by rw [Int.tmod_eq_emod_of_nonneg (by omega)]; omega⟩
        have hw4 : IntKind.i64.wrap t = t := IntWalk.i64_in _ (by omega)
        have hzz : zss.length ≤ 1000000 := by have := HK.out; omega
        have V := Lib.hid (lit_facts (zs := [t]) X.out.1 (by simp) (by intro z hz; simp only [List.mem_cons, List.not_mem_nil, or_false] at hz; omega))
        simp only [List.map_nil, List.map_cons, List.length_nil, List.length_cons, Nat.zero_add] at V
        go_wp2_with (at_builtin; refine wpList_append_S rfl _ _ _ rfl Try.underlying23 rowInfo w_3.heap.size _ _ zss rfl V.out.1 (by omega) _ 1 _ [t] rfl V.out.2.2.1 (by simp; omega) V.out.2.1 (by omega) ?_)
        intro v4 w4 ho4 hb4
        have hs4 := hb4.size
        have hsz4 : w_3.heap.size + 1 ≤ w4.heap.size := by simp at hs4; omega
        have T := Lib.hid (And.intro ho4 (And.intro ((X.out.2.1.trans (V.out.2.2.2.mono (by omega))).trans (hb4.mono (by omega))) (And.intro ((X.out.2.2.1.belowB V.out.2.2.2 (by omega)).belowB hb4 (by omega)) ((X.out.2.2.2.belowB V.out.2.2.2 (by omega)).belowB hb4 (by omega))))); clear ho4 hb4 hs4
        go_wp2
        go_roundw
        case rel => exact ⟨k + 1, zss ++ [[t]], by first | rfl | go_num, by omega, by have := HK.out; simp; omega, hsz4, T.out⟩
        case measure => simp [intOf]; omega
      · have hk5 : zss.length = 5 := by have := HK.out; omega
        have hk5I : ¬ (k : Int) < 5 := by omega
        rcases hr1 : runOfR zp zss with ⟨l1, n1, b1⟩
        rcases hr2 : runOfR zq zss with ⟨l2, n2, b2⟩
        have HF := Lib.hid (fun h1 : b1 = true => fun h2 : b2 = true => same_leave HS.out hk5 (by rw [hr1, h1]) (by rw [hr2, h2]))
        have HR1 := Lib.hid hr1; clear hr1
        have HR2 := Lib.hid hr2; clear hr2
        have HW := Lib.hid (sameShufR_swap HS.out)
        have S10 : Hid (Below w0.heap.size w0 wr ∧ OwnI wr w0.heap.size w1.heap.size p zp ∧ OwnI wr w0.heap.size w1.heap.size q zq ∧ OwnS wr w_3.heap.size wr.heap.size u8 zss) := Lib.hid ⟨X.out.2.1, X.out.2.2.1, X.out.2.2.2, X.out.1⟩
        clear X hk5 hlt
        go_wp2_with fail
        refine (RunOf_I _ zp _ zss _ ((S10.out.2.1).rd) (by omega) ((S10.out.2.2.2).rd) l1 n1 b1 HR1.out).mono ?_
        rintro e w_11 ⟨a, rfl, ho11, hb11⟩
        have hz11 : wr.heap.size ≤ w_11.heap.size := by have := hb11.size; simpa using this
        replace hb11 : Below (wr.heap.size) wr w_11 := by simpa using hb11
        have S11 : Hid (Below w0.heap.size w0 w_11 ∧ OwnI w_11 (w0.heap.size) (w1.heap.size) p (zp) ∧ OwnI w_11 (w0.heap.size) (w1.heap.size) q (zq) ∧ OwnS w_11 (w_3.heap.size) (wr.heap.size) u8 (zss) ∧ OwnS w_11 (wr.heap.size) (w_11.heap.size) a (l1)) := Lib.hid ⟨(S10.out.1).trans (hb11.mono (by omega)), (S10.out.2.1).belowB hb11 (by omega), (S10.out.2.2.1).belowB hb11 (by omega), (S10.out.2.2.2).belowB hb11 (by omega), (by simpa using ho11)⟩
        clear S10
        clear ho11 hb11
        go_wp2_with fail
        refine (RunOf_I _ zq _ zss _ ((S11.out.2.2.1).rd) (by omega) ((S11.out.2.2.2.1).rd) l2 n2 b2 HR2.out).mono ?_
        rintro e w_12 ⟨b, rfl, ho12, hb12⟩
        have hz12 : w_11.heap.size ≤ w_12.heap.size := by have := hb12.size; simpa using this
        replace hb12 : Below (w_11.heap.size) w_11 w_12 := by simpa using hb12
        have S12 : Hid (Below w0.heap.size w0 w_12 ∧ OwnI w_12 (w0.heap.size) (w1.heap.size) p (zp) ∧ OwnI w_12 (w0.heap.size) (w1.heap.size) q (zq) ∧ OwnS w_12 (w_3.heap.size) (wr.heap.size) u8 (zss) ∧ OwnS w_12 (wr.heap.size) (w_11.heap.size) a (l1) ∧ OwnS w_12 (w_11.heap.size) (w_12.heap.size) b (l2)) := Lib.hid ⟨(S11.out.1).trans (hb12.mono (by omega)), (S11.out.2.1).belowB hb12 (by omega), (S11.out.2.2.1).belowB hb12 (by omega), (S11.out.2.2.2.1).belowB hb12 (by omega), (S11.out.2.2.2.2).belowB hb12 (by omega), (by simpa using ho12)⟩
        clear S11
        clear ho12 hb12
        go_wp2_with fail
        refine (SameShuffle_I _ zq _ zp _ ((S12.out.2.2.1).rd) (by omega) ((S12.out.2.1).rd) (by omega) true HW.out).mono ?_
        rintro e w_13 ⟨rfl, hb13⟩
        have hz13 : w_12.heap.size ≤ w_13.heap.size := by have := hb13.size; simpa using this
        replace hb13 : Below (w_12.heap.size) w_12 w_13 := by simpa using hb13
        have S13 : Hid (Below w0.heap.size w0 w_13 ∧ OwnI w_13 (w0.heap.size) (w1.heap.size) p (zp) ∧ OwnI w_13 (w0.heap.size) (w1.heap.size) q (zq) ∧ OwnS w_13 (w_3.heap.size) (wr.heap.size) u8 (zss) ∧ OwnS w_13 (wr.heap.size) (w_11.heap.size) a (l1) ∧ OwnS w_13 (w_11.heap.size) (w_12.heap.size) b (l2)) := Lib.hid ⟨(S12.out.1).trans (hb13.mono (by omega)), (S12.out.2.1).belowB hb13 (by omega), (S12.out.2.2.1).belowB hb13 (by omega), (S12.out.2.2.2.1).belowB hb13 (by omega), (S12.out.2.2.2.2.1).belowB hb13 (by omega), (S12.out.2.2.2.2.2).belowB hb13 (by omega)⟩
        clear S12
        clear hb13
        -- at w_13: S13: base p q s a b
        rcases b1 with _ | _
        · go_wp2
          go_ret
          exact ⟨rfl, S13.out.1⟩
        · rcases b2 with _ | _
          · go_wp2
            go_ret
            exact ⟨rfl, S13.out.1⟩
          · have HE := Lib.hid (HF.out rfl rfl)
            go_wp2_with fail
            refine (smS _ _ l1 l2 _ ((S13.out.2.2.2.2.1).rd) ((S13.out.2.2.2.2.2).rd) true (by rw [HE.out]; simp)).mono ?_
            rintro e w_14 ⟨rfl, hb14⟩
            have hz14 : w_13.heap.size ≤ w_14.heap.size := by have := hb14.size; simpa using this
            replace hb14 : Below (w_13.heap.size) w_13 w_14 := by simpa using hb14
            have S14 : Hid (Below w0.heap.size w0 w_14 ∧ OwnI w_14 (w0.heap.size) (w1.heap.size) p (zp) ∧ OwnI w_14 (w0.heap.size) (w1.heap.size) q (zq) ∧ OwnS w_14 (w_3.heap.size) (wr.heap.size) u8 (zss) ∧ OwnS w_14 (wr.heap.size) (w_11.heap.size) a (l1) ∧ OwnS w_14 (w_11.heap.size) (w_12.heap.size) b (l2)) := Lib.hid ⟨(S13.out.1).trans (hb14.mono (by omega)), (S13.out.2.1).belowB hb14 (by omega), (S13.out.2.2.1).belowB hb14 (by omega), (S13.out.2.2.2.1).belowB hb14 (by omega), (S13.out.2.2.2.2.1).belowB hb14 (by omega), (S13.out.2.2.2.2.2).belowB hb14 (by omega)⟩
            clear S13
            clear hb14
            -- at w_14: S14: base p q s a b
            go_wp2
            go_ret
            exact ⟨rfl, S14.out.1⟩

theorem fnSameShuffle_walk : LawWalk 7 Try.f7 := by
  intro H enc W base args ds ps hval hA
  rw [Try.params7] at hA hval
  obtain ⟨v0, v1, d0, d1, p0, p1, rfl, rfl, rfl, h0, h1⟩ := trodAll_two hA
  obtain ⟨A0, c0, zs0, rfl, hi0, hc0⟩ := ints_of_trod Try.underlying22 Try.underlying5 cells_byte (hval 0 _ _ rfl rfl) h0
  obtain ⟨A1, c1, zs1, rfl, hi1, hc1⟩ := ints_of_trod Try.underlying22 Try.underlying5 cells_byte (hval 1 _ _ rfl rfl) h1
  exact fnSameShuffle_any A0 c0 zs0 A1 c1 zs1 W (RdC.mk hi0 hc0) (RdC.mk hi1 hc1)

set_option maxRecDepth 100000 in
theorem fnSameShuffle_lifted (os : Os) (started : os.Started) (H : Type) (enc : TypeId × Value → H) :
    ReturnsInHanded {} Try.checked os 7 .any (Rows.fnSameShuffleSpec.pre6 enc Try.prog Try.f7 Rows.fnSameShuffleRow.domain false) (Rows.fnSameShuffleSpec.post enc Try.prog Try.f7 false true false false) := by
  refine returnsInHanded_of_change (C := Try.checked) own started (by kernel_rfl) Try.func7
    (ChangeSpec.witness6 (enc := enc) (C := Try.checked) false ⟨#[], #[.slice none 0 0, .slice none 0 0], []⟩ 8 (by kernel_rfl) (by kernel_rfl) (by kernel_rfl) (by kernel_rfl)) ?_
  intro W base args ds gs before hval hW _ _
  exact law_contract laidOut rfl (by kernel_rfl) rfl (fun H ds hd => by
    match ds, hd with
    | [d0, d1], _ => exact ⟨rfl, rfl, rfl⟩) fnSameShuffle_walk W base args ds gs before hval hW

/-- FnSameShuffle: the row as it is given. -/
theorem fnSameShuffle_holds : Rows.FnSameShuffleSaid :=
  OpenClaim.holds_of_wide 7 Try.f7 rfl rfl rfl rfl rfl rfl rfl ⟨rfl, rfl, rfl, rfl, rfl⟩ rfl rfl rfl rfl rfl (by kernel_rfl) Try.func7 (by unfold joinedFacts; rw [pf_enter, pf_lifts, pf_make]; kernel_rfl)
    (of_decide_eq_true (by kernel_rfl)) (by unfold Func.isWrapper; first | (rw [if_pos (by decide +kernel)]; kernel_rfl) | (rw [if_neg (by decide +kernel)]; exact ⟨rfl, rfl⟩))
    (fun os started H enc _ => fnSameShuffle_lifted os started H enc)

end Go.Proofs.Ytkdpfiaegimnlaa
