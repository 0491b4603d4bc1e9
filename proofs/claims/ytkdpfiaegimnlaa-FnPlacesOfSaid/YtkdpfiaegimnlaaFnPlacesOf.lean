/- FnPlacesOf: of every code and every other bytes: PlacesOf is its model at the drawn shuffle and number; what a run leaves lies at the places; with one more below, the places are one more. For every input. -/
import Derived.Test.YtkdpfiaegimnlaaI
import Derived.Test.YtkdpfiaegimnlaaJz
import Derived.Test.YtkdpfiaegimnlaaJr
import Derived.Test.YtkdpfiaegimnlaaJu
import Derived.Test.YtkdpfiaegimnlaaJn
import Derived.Test.YtkdpfiaegimnlaaJh
import Derived.Test.YtkdpfiaegimnlaaB6
import Derived.Test.YtkdpfiaegimnlaaRy
import Derived.Test.YtkdpfiaegimnlaaB5
import Derived.Test.YtkdpfiaegimnlaaLift
namespace Go.Proofs.Ytkdpfiaegimnlaa
set_option maxRecDepth 100000
open Go.RowKit Go.WideShapes Go.ChangeShapes Go.Deep

theorem told_at {zl : List Int} {s lf : List (List Int)} {M k : Nat} (hl : lf = zl.map fun z => s.getD z.toNat []) (hz : ∀ z ∈ zl, 0 ≤ z ∧ z < M) (hs : s.length = M) (hk : k < zl.length) : ∃ (q : Nat) (row : List Int), zl.getD k 0 = q ∧ q < M ∧ lf[k]? = some row ∧ s[q]? = some row := by
  have h := hz zl[k] (List.getElem_mem hk)
  have hq : (zl[k]).toNat < s.length := by omega
  refine ⟨(zl[k]).toNat, s.getD (zl[k]).toNat [], ?_, by omega, ?_, ?_⟩
  · simp [List.getD, List.getElem?_eq_getElem hk]; omega
  · rw [hl, List.getElem?_map, List.getElem?_eq_getElem hk]; rfl
  · rw [List.getElem?_eq_getElem hq]; simp [List.getD, List.getElem?_eq_getElem hq]
theorem take_up {zl : List Int} {k : Nat} (h : k < zl.length) : (0 :: (zl.take k).map (· + 1)) ++ [zl.getD k 0 + 1] = 0 :: (zl.take (k + 1)).map (· + 1) := by
  rw [List.take_add_one, List.getElem?_eq_getElem h, List.map_append]
  simp [List.getD, List.getElem?_eq_getElem h]

set_option maxHeartbeats 8000000 in
theorem fnPlacesOf_any (A0 : Option Addr) (c0 : Nat) (x0 : List Int) (A1 : Option Addr) (c1 : Nat) (x1 : List Int) (w0 : World) (h0 : RdC w0 (.slice A0 x0.length c0) x0) (h1 : RdC w0 (.slice A1 x1.length c1) x1) :
    Calls Try.prog 6 #[.slice A0 x0.length c0, .slice A1 x1.length c1] w0 fun e w' => e = .returned (.bool true) ∧ Below w0.heap.size w0 w' := by
  have hm := h0.len_le
  have hm1 := h1.len_le
  have HH := Lib.hid h0; clear h0 h1
  by_cases hl : x0.length ≤ 1048576
  case neg =>
    go_enter Try.func6, Try.ntmps6
    go_wp2
    go_ret
    exact ⟨rfl, Below.refl _ _⟩
  by_cases hl1 : x1.length ≤ 1048576
  case neg =>
    go_enter Try.func6, Try.ntmps6
    go_wp2
    go_ret
    exact ⟨rfl, Below.refl _ _⟩
  go_enter Try.func6, Try.ntmps6
  go_wp2_with fail
  refine (DrawPlacesOf_any _ x0 _ HH.out).mono ?_
  rintro e w1 ⟨p, zp, m, rfl, hop, hlp, hmn, hmx, hb⟩
  have S1 : Hid (Below w0.heap.size w0 w1 ∧ OwnI w1 w0.heap.size w1.heap.size p zp) := Lib.hid ⟨hb, hop⟩
  have hz1 : w0.heap.size ≤ w1.heap.size := hb.size
  clear hop hb HH
  rcases hpl : placesR zp m with ⟨zl, yl⟩
  have hll : zl.length ≤ 20 := by have := placesR_len zp m; rw [hpl] at this; exact this
  rcases yl with _ | _
  · have hy := placesR_no hpl
    have HS := Lib.hid hpl; clear hpl
    subst hy
    go_wp2_with fail
    refine (PlacesOf_I _ zp m _ ((S1.out.2).rd) (by omega) (wf_near _ (by omega)) [] false HS.out).mono ?_
    rintro e w_2 ⟨b, rfl, ho2, hb2⟩
    have hz2 : w1.heap.size ≤ w_2.heap.size := by have := hb2.size; simpa using this
    replace hb2 : Below (w1.heap.size) w1 w_2 := by simpa using hb2
    have S2 : Hid (Below w0.heap.size w0 w_2 ∧ OwnI w_2 (w0.heap.size) (w1.heap.size) p (zp) ∧ OwnI w_2 (w1.heap.size) (w_2.heap.size) b ([])) := Lib.hid ⟨(S1.out.1).trans (hb2.mono (by omega)), (S1.out.2).belowB hb2 (by omega), (by simpa using ho2)⟩
    clear S1
    clear ho2 hb2
    go_wp2_with fail
    refine (PlacesOf_S _ zp m _ ((S2.out.2.1).rd) (by omega) (wf_near _ (by omega)) [] false HS.out).mono ?_
    rintro e w_3 ⟨x, rfl, ho3, hb3⟩
    have hz3 : w_2.heap.size ≤ w_3.heap.size := by have := hb3.size; simpa using this
    replace hb3 : Below (w_2.heap.size) w_2 w_3 := by simpa using hb3
    have S3 : Hid (Below w0.heap.size w0 w_3 ∧ OwnI w_3 (w0.heap.size) (w1.heap.size) p (zp) ∧ OwnI w_3 (w1.heap.size) (w_2.heap.size) b ([]) ∧ OwnI w_3 (w_2.heap.size) (w_3.heap.size) x ([])) := Lib.hid ⟨(S2.out.1).trans (hb3.mono (by omega)), (S2.out.2.1).belowB hb3 (by omega), (S2.out.2.2).belowB hb3 (by omega), (by simpa using ho3)⟩
    clear S2
    clear ho3 hb3
    go_wp2_with fail
    refine (smI _ _ [] [] _ ((S3.out.2.2.1).rd) ((S3.out.2.2.2).rd) true (by simp)).mono ?_
    rintro e w_4 ⟨rfl, hb4⟩
    have hz4 : w_3.heap.size ≤ w_4.heap.size := by have := hb4.size; simpa using this
    replace hb4 : Below (w_3.heap.size) w_3 w_4 := by simpa using hb4
    have S4 : Hid (Below w0.heap.size w0 w_4 ∧ OwnI w_4 (w0.heap.size) (w1.heap.size) p (zp) ∧ OwnI w_4 (w1.heap.size) (w_2.heap.size) b ([]) ∧ OwnI w_4 (w_2.heap.size) (w_3.heap.size) x ([])) := Lib.hid ⟨(S3.out.1).trans (hb4.mono (by omega)), (S3.out.2.1).belowB hb4 (by omega), (S3.out.2.2.1).belowB hb4 (by omega), (S3.out.2.2.2).belowB hb4 (by omega)⟩
    clear S3
    clear hb4
    -- at w_4: S4: base p b x
    obtain ⟨Aq, cq, rfl, _⟩ := S4.out.2.2.1.rd
    go_wp2_with fail
    refine (alive_any _).mono ?_
    rintro e w_5 ⟨rfl, hb5⟩
    have hz5 : w_4.heap.size ≤ w_5.heap.size := by have := hb5.size; simpa using this
    replace hb5 : Below (w_4.heap.size) w_4 w_5 := by simpa using hb5
    have S5 : Hid (Below w0.heap.size w0 w_5 ∧ OwnI w_5 (w0.heap.size) (w1.heap.size) p (zp) ∧ OwnI w_5 (w1.heap.size) (w_2.heap.size) (.slice Aq [].length cq) ([]) ∧ OwnI w_5 (w_2.heap.size) (w_3.heap.size) x ([])) := Lib.hid ⟨(S4.out.1).trans (hb5.mono (by omega)), (S4.out.2.1).belowB hb5 (by omega), (S4.out.2.2.1).belowB hb5 (by omega), (S4.out.2.2.2).belowB hb5 (by omega)⟩
    clear S4
    clear hb5
    -- at w_5: S5: base p b x
    go_wp2
    go_ret
    exact ⟨rfl, S5.out.1⟩
  · obtain ⟨_, hM0, hM5, _, _⟩ := placesR_ok hpl
    obtain ⟨M, rfl⟩ := Int.eq_ofNat_of_zero_le hM0
    have HS := Lib.hid hpl; clear hpl hM0 hmn hmx
    have hM : M ≤ 5 := by omega
    clear hM5
    go_wp2_with fail
    refine (PlacesOf_I _ zp (M:Int) _ ((S1.out.2).rd) (by omega) (wf_near _ (by omega)) zl true HS.out).mono ?_
    rintro e w_2 ⟨b, rfl, ho2, hb2⟩
    have hz2 : w1.heap.size ≤ w_2.heap.size := by have := hb2.size; simpa using this
    replace hb2 : Below (w1.heap.size) w1 w_2 := by simpa using hb2
    have S2 : Hid (Below w0.heap.size w0 w_2 ∧ OwnI w_2 (w0.heap.size) (w1.heap.size) p (zp) ∧ OwnI w_2 (w1.heap.size) (w_2.heap.size) b (zl)) := Lib.hid ⟨(S1.out.1).trans (hb2.mono (by omega)), (S1.out.2).belowB hb2 (by omega), (by simpa using ho2)⟩
    clear S1
    clear ho2 hb2
    go_wp2_with fail
    refine (PlacesOf_S _ zp (M:Int) _ ((S2.out.2.1).rd) (by omega) (wf_near _ (by omega)) zl true HS.out).mono ?_
    rintro e w_3 ⟨x, rfl, ho3, hb3⟩
    have hz3 : w_2.heap.size ≤ w_3.heap.size := by have := hb3.size; simpa using this
    replace hb3 : Below (w_2.heap.size) w_2 w_3 := by simpa using hb3
    have S3 : Hid (Below w0.heap.size w0 w_3 ∧ OwnI w_3 (w0.heap.size) (w1.heap.size) p (zp) ∧ OwnI w_3 (w1.heap.size) (w_2.heap.size) b (zl) ∧ OwnI w_3 (w_2.heap.size) (w_3.heap.size) x (zl)) := Lib.hid ⟨(S2.out.1).trans (hb3.mono (by omega)), (S2.out.2.1).belowB hb3 (by omega), (S2.out.2.2).belowB hb3 (by omega), (by simpa using ho3)⟩
    clear S2
    clear ho3 hb3
    go_wp2_with fail
    refine (smI _ _ zl zl _ ((S3.out.2.2.1).rd) ((S3.out.2.2.2).rd) true (by simp)).mono ?_
    rintro e w_4 ⟨rfl, hb4⟩
    have hz4 : w_3.heap.size ≤ w_4.heap.size := by have := hb4.size; simpa using this
    replace hb4 : Below (w_3.heap.size) w_3 w_4 := by simpa using hb4
    have S4 : Hid (Below w0.heap.size w0 w_4 ∧ OwnI w_4 (w0.heap.size) (w1.heap.size) p (zp) ∧ OwnI w_4 (w1.heap.size) (w_2.heap.size) b (zl) ∧ OwnI w_4 (w_2.heap.size) (w_3.heap.size) x (zl)) := Lib.hid ⟨(S3.out.1).trans (hb4.mono (by omega)), (S3.out.2.1).belowB hb4 (by omega), (S3.out.2.2.1).belowB hb4 (by omega), (S3.out.2.2.2).belowB hb4 (by omega)⟩
    clear S3
    clear hb4
    -- at w_4: S4: base p b x
    obtain ⟨Ab, cb, rfl, _⟩ := S4.out.2.2.1.rd
    have B0 : Below w_4.heap.size w_4 (w_4.alloc (.cells #[] 25)) := (Below.refl _ _).alloc (Nat.le_refl _) _
    have Y := Lib.hid (And.intro (litS_nil w_4) (And.intro (S4.out.1.trans (B0.mono (by omega))) (And.intro (S4.out.2.1.belowB B0 (by omega)) (S4.out.2.2.1.belowB B0 (by omega))))); clear B0 S4
    go_wp2
    go_loopw [11, 12] (fun v kv wr => ∃ (k : Nat) (zss : List (List Int)), kv = .int .i64 k ∧ k ≤ M ∧ zss.length = k ∧ w_4.heap.size + 1 ≤ wr.heap.size ∧ OwnS wr w_4.heap.size wr.heap.size v zss ∧ Below w0.heap.size w0 wr ∧ OwnI wr w0.heap.size w1.heap.size p zp ∧ OwnI wr w1.heap.size w_2.heap.size (.slice Ab zl.length cb) zl) (fun _ kv _ => M - (intOf kv).toNat)
    case atStart => exact ⟨0, [], rfl, by omega, rfl, by simp, by simpa using Y.out.1, Y.out.2⟩
    case round =>
      clear Y
      obtain ⟨k, zss, rfl, hk, hzk, hsz, q1, q2, q3, q4⟩ := hrel
      have X := Lib.hid (And.intro q1 (And.intro q2 (And.intro q3 q4))); clear q1 q2 q3 q4
      have HK := Lib.hid hzk; clear hzk
      by_cases hlt : k < M
      · have hltI : (k : Int) < (M : Int) := by omega
        obtain ⟨s, hs, hs0, hs1⟩ : ∃ s : Int, (k : Int) * (k : Int) = s ∧ 0 ≤ s ∧ s ≤ 16 := ⟨_, rfl, by rcases (show k = 0 ∨ k = 1 ∨ k = 2 ∨ k = 3 ∨ k = 4 by omega) with rfl | rfl | rfl | rfl | rfl <;> decide, by rcases (show k = 0 ∨ k = 1 ∨ k = 2 ∨ k = 3 ∨ k = 4 by omega) with rfl | rfl | rfl | rfl | rfl <;> decide⟩
        have hw1 : IntKind.i64.wrap s = s := IntWalk.i64_in _ (by omega)
        have hw2 : IntKind.i64.wrap (s * 37) = s * 37 := IntWalk.i64_in _ (by omega)
        have hw3 : IntKind.i64.wrap (s * 37 + (x1.length : Int)) = s * 37 + (x1.length : Int) := IntWalk.i64_in _ (by omega)
        obtain ⟨t, ht, ht0, ht1⟩ : ∃ t : Int, (s * 37 + (x1.length : Int)).tmod 1000 = t ∧ 0 ≤ t ∧ t ≤ 999 := ⟨_, rfl, by rw [Int.tmod_eq_emod_of_nonneg (by omega)]; omega, by rw [Int.tmod_eq_emod_of_nonneg (by omega)]; omega⟩
        have hw4 : IntKind.i64.wrap t = t := IntWalk.i64_in _ (by omega)
        have hzz : zss.length ≤ 1000000 := by have := HK.out; omega
        have V := Lib.hid (lit_facts (zs := [t]) X.out.1 (by simp) (by intro z hz; simp only [List.mem_cons, List.not_mem_nil, or_false] at hz; omega))
        simp only [List.map_nil, List.map_cons, List.length_nil, List.length_cons, Nat.zero_add] at V
        go_wp2_with (at_builtin; refine wpList_append_S rfl _ _ _ rfl Try.underlying23 rowInfo w_4.heap.size _ _ zss rfl V.out.1 (by omega) _ 1 _ [t] rfl V.out.2.2.1 (by simp; omega) V.out.2.1 (by omega) ?_)
        intro v4 w4 ho4 hb4
        have hs4 := hb4.size
        have hsz4 : w_4.heap.size + 1 ≤ w4.heap.size := by simp at hs4; omega
        have T := Lib.hid (And.intro ho4 (And.intro ((X.out.2.1.trans (V.out.2.2.2.mono (by omega))).trans (hb4.mono (by omega))) (And.intro ((X.out.2.2.1.belowB V.out.2.2.2 (by omega)).belowB hb4 (by omega)) ((X.out.2.2.2.belowB V.out.2.2.2 (by omega)).belowB hb4 (by omega))))); clear ho4 hb4 hs4
        go_wp2
        go_roundw
        case rel => exact ⟨k + 1, zss ++ [[t]], by first | rfl | go_num, by omega, by have := HK.out; simp; omega, hsz4, T.out⟩
        case measure => simp [intOf]; omega
      · have hkM : zss.length = M := by have := HK.out; omega
        have hkI : ¬ (k : Int) < (M : Int) := by omega
        rcases hr : runOfR zp zss with ⟨lf, nn, tl⟩
        have HF := Lib.hid (fun h1 : tl = true => places_run (s := zss) HS.out (by omega) (show runOfR zp zss = (lf, nn, true) by rw [hr, h1]))
        have HR := Lib.hid hr; clear hr
        obtain ⟨As, cs, hus, _⟩ := X.out.1.rd
        have S10 : Hid (Below w0.heap.size w0 wr ∧ OwnI wr w0.heap.size w1.heap.size p zp ∧ OwnI wr w1.heap.size w_2.heap.size (.slice Ab zl.length cb) zl ∧ OwnS wr w_4.heap.size wr.heap.size (.slice As zss.length cs) zss) := Lib.hid ⟨X.out.2.1, X.out.2.2.1, X.out.2.2.2, hus ▸ X.out.1⟩
        subst hus
        clear X hlt
        have HkM := Lib.hid hkM; clear hkM HK
        go_wp2_with fail
        refine (RunOf_I _ zp _ zss _ ((S10.out.2.1).rd) (by omega) ((S10.out.2.2.2).rd) lf nn tl HR.out).mono ?_
        rintro e w_11 ⟨a, rfl, ho11, hb11⟩
        have hz11 : wr.heap.size ≤ w_11.heap.size := by have := hb11.size; simpa using this
        replace hb11 : Below (wr.heap.size) wr w_11 := by simpa using hb11
        have S11 : Hid (Below w0.heap.size w0 w_11 ∧ OwnI w_11 (w0.heap.size) (w1.heap.size) p (zp) ∧ OwnI w_11 (w1.heap.size) (w_2.heap.size) (.slice Ab zl.length cb) (zl) ∧ OwnS w_11 (w_4.heap.size) (wr.heap.size) (.slice As zss.length cs) (zss) ∧ OwnS w_11 (wr.heap.size) (w_11.heap.size) a (lf)) := Lib.hid ⟨(S10.out.1).trans (hb11.mono (by omega)), (S10.out.2.1).belowB hb11 (by omega), (S10.out.2.2.1).belowB hb11 (by omega), (S10.out.2.2.2).belowB hb11 (by omega), (by simpa using ho11)⟩
        clear S10
        clear ho11 hb11
        -- at w_11: S11: base p b s a
        obtain ⟨Af, cf, rfl, _⟩ := S11.out.2.2.2.2.rd
        have S12 := Lib.hid (And.intro S11.out.1 (And.intro S11.out.2.1 (And.intro S11.out.2.2.1 (And.intro S11.out.2.2.2.1.rd S11.out.2.2.2.2.rd))))
        clear S11
        go_wp2
        go_loopw [4, 16] (fun _ kv wr => ∃ k : Nat, kv = .int .i64 k ∧ k ≤ zl.length ∧ w_11.heap.size ≤ wr.heap.size ∧ Below w0.heap.size w0 wr ∧ OwnI wr w0.heap.size w1.heap.size p zp ∧ OwnI wr w1.heap.size w_2.heap.size (.slice Ab zl.length cb) zl ∧ RdBS wr w_11.heap.size (.slice As zss.length cs) zss ∧ RdBS wr w_11.heap.size (.slice Af lf.length cf) lf) (fun _ kv _ => zl.length - (intOf kv).toNat)
        case atStart => exact ⟨0, rfl, by omega, Nat.le_refl _, S12.out⟩
        case round =>
          clear S12
          obtain ⟨k, rfl, hk, hsw, q1, q2, q3, q4, q5⟩ := hrel
          have hz1r : w1.heap.size ≤ wr.heap.size := by omega
          have Z := Lib.hid (And.intro q1 (And.intro q2 (And.intro q3 (And.intro q4 q5)))); clear q1 q2 q3 q4 q5
          rcases tl with _ | _
          · by_cases hlt : k < zl.length
            · have hltI : (k : Int) < zl.length := by omega
              have S20 : Hid (Below w0.heap.size w0 wr ∧ OwnI wr w0.heap.size w1.heap.size p zp ∧ OwnI wr w1.heap.size w_2.heap.size (.slice Ab zl.length cb) zl) := Lib.hid ⟨Z.out.1, Z.out.2.1, Z.out.2.2.1⟩
              clear Z
              have hwM : IntKind.i64.wrap ((M : Int) + 1) = (M : Int) + 1 := IntWalk.i64_in _ (by omega)
              rcases hh : placesR zp ((M : Int) + 1) with ⟨zh, yh⟩
              have hlh : zh.length ≤ 20 := by have := placesR_len zp ((M : Int) + 1); rw [hh] at this; exact this
              have HU := Lib.hid (fun h1 : M < 5 => fun h2 : zl.length < 20 => show zh = 0 :: zl.map (· + 1) ∧ yh = true from by
                have h3 := placesR_up HS.out (by omega) h2
                rw [hh] at h3; cases h3; exact ⟨rfl, rfl⟩)
              have HHh := Lib.hid hh; clear hh
              go_wp2_with fail
              refine (PlacesOf_I _ zp ((M:Int)+1) _ ((S20.out.2.1).rd) (by omega) (wf_near _ (by omega)) zh yh HHh.out).mono ?_
              rintro e w_21 ⟨h, rfl, ho21, hb21⟩
              have hz21 : wr.heap.size ≤ w_21.heap.size := by have := hb21.size; simpa using this
              replace hb21 : Below (wr.heap.size) wr w_21 := by simpa using hb21
              have S21 : Hid (Below w0.heap.size w0 w_21 ∧ OwnI w_21 (w0.heap.size) (w1.heap.size) p (zp) ∧ OwnI w_21 (w1.heap.size) (w_2.heap.size) (.slice Ab zl.length cb) (zl) ∧ OwnI w_21 (wr.heap.size) (w_21.heap.size) h (zh)) := Lib.hid ⟨(S20.out.1).trans (hb21.mono (by omega)), (S20.out.2.1).belowB hb21 (by omega), (S20.out.2.2).belowB hb21 (by omega), (by simpa using ho21)⟩
              clear S20
              clear ho21 hb21
              -- at w_21: S21: base p b h
              by_cases hc : M < 5 ∧ zl.length < 20
              · obtain ⟨hc1, hc2⟩ := hc
                obtain ⟨hzh, rfl⟩ := HU.out hc1 hc2
                have HZH := Lib.hid hzh; clear hzh
                have hc1I : (M : Int) < 5 := by omega
                have hc2I : (zl.length : Int) < 20 := by omega
                have B1 : Below w_21.heap.size w_21 (w_21.alloc (.cells #[.int .i64 0] 3)) := (Below.refl _ _).alloc (Nat.le_refl _) _
                have L1 := lits_own w_21 [0] (by simp) (by intro z hz; simp only [List.mem_cons, List.not_mem_nil, or_false] at hz; apply wf_near; omega)
                have Y := Lib.hid (And.intro (show OwnI (w_21.alloc (.cells #[.int .i64 0] 3)) w_21.heap.size (w_21.alloc (.cells #[.int .i64 0] 3)).heap.size (.slice (some ⟨w_21.heap.size, 0, none⟩) 1 1) [0] from by simpa using L1) (And.intro (S21.out.1.trans (B1.mono (by omega))) (And.intro (show RdBI (w_21.alloc (.cells #[.int .i64 0] 3)) w_21.heap.size (.slice Ab zl.length cb) zl from RdBI.below S21.out.2.2.1.rd B1) (show RdBI (w_21.alloc (.cells #[.int .i64 0] 3)) w_21.heap.size h zh from RdBI.below S21.out.2.2.2.rd B1)))); clear B1 L1 S21
                go_wp2
                go_loopw [19, 20] (fun v kv wr => ∃ (k : Nat) (zs : List Int), kv = .int .i64 k ∧ k ≤ zl.length ∧ zs.length = k + 1 ∧ zs = 0 :: (zl.take k).map (· + 1) ∧ w_21.heap.size + 1 ≤ wr.heap.size ∧ OwnI wr w_21.heap.size wr.heap.size v zs ∧ Below w0.heap.size w0 wr ∧ RdBI wr w_21.heap.size (.slice Ab zl.length cb) zl ∧ RdBI wr w_21.heap.size h zh) (fun _ kv _ => zl.length - (intOf kv).toNat)
                case atStart => exact ⟨0, [0], rfl, by omega, rfl, rfl, by simp, Y.out⟩
                case round =>
                  clear Y
                  obtain ⟨k, zs, rfl, hk, hzs, hz, hsz, q1, q2, q3, q4⟩ := hrel
                  have X := Lib.hid (And.intro q1 (And.intro q2 (And.intro q3 q4))); clear q1 q2 q3 q4
                  have HZ := Lib.hid hz; clear hz
                  have HL := Lib.hid hzs; clear hzs
                  by_cases hlt : k < zl.length
                  · have hltI : (k : Int) < zl.length := by omega
                    obtain ⟨_, _, e, hi, _⟩ := X.out.2.2.1
                    cases e
                    obtain ⟨bb, off, rfl, hbb, hcc⟩ := hi.at_ (by omega)
                    have hcell := hcc k hlt
                    clear hcc hi
                    obtain ⟨z, hzq⟩ : ∃ z, zl.getD k 0 = z := ⟨_, rfl⟩
                    have hzr := placesR_mem HS.out z (by rw [← hzq, List.getD, List.getElem?_eq_getElem hlt]; exact List.getElem_mem hlt)
                    obtain ⟨hzr0, hzr1⟩ := hzr
                    rw [hzq] at hcell
                    have HQ := Lib.hid hzq; clear hzq
                    have hwz : IntKind.i64.wrap (z + 1) = z + 1 := IntWalk.i64_in _ (by omega)
                    have hz20 : zs.length ≤ 900000000 := by have := HL.out; omega
                    go_wp2_with (at_builtin; refine wpList_append_z rfl _ _ _ rfl Try.underlying25 intInfo (z + 1) rfl (wf_near _ (by omega)) w_21.heap.size wr.heap.size _ zs rfl X.out.1 (by omega) rfl hz20 ?_)
                    intro v4 w4 ho4 hb4 hw4
                    have hsz4 : w_21.heap.size + 1 ≤ w4.heap.size := by have := hb4.size; omega
                    have T := Lib.hid (And.intro ho4 (And.intro (X.out.2.1.trans (hb4.mono (by omega))) (And.intro (X.out.2.2.1.below hb4) (X.out.2.2.2.below hb4)))); clear ho4 hb4 hw4 X
                    go_wp2
                    go_roundw
                    case rel => exact ⟨k + 1, zs ++ [z + 1], by first | rfl | go_num, by omega, by have := HL.out; simp; omega, by rw [HZ.out, ← HQ.out]; exact take_up hlt, hsz4, T.out⟩
                    case measure => simp [intOf]; omega
                  · obtain rfl : k = zl.length := by omega
                    have hkI : ¬ (zl.length : Int) < zl.length := by omega
                    have hzz : zs = zh := by rw [HZ.out, HZH.out, List.take_length]
                    have HE := Lib.hid hzz; clear hzz
                    have hle : zs.length ≤ 1048576 := by have := HL.out; omega
                    go_wp2_with fail
                    refine (smI _ _ zh zs _ (X.out.2.2.2.mono (by omega)) X.out.1.rd true (by rw [HE.out]; simp)).mono ?_
                    rintro e w5 ⟨rfl, hb5⟩
                    have SS : Hid (Below w0.heap.size w0 w5 ∧ True) := Lib.hid ⟨X.out.2.1.trans (hb5.mono (by omega)), trivial⟩
                    clear X hb5
                    go_wp2
                    go_ret
                    exact ⟨rfl, SS.out.1⟩
              · by_cases hc1 : M < 5
                · have hc2I : ¬ (zl.length : Int) < 20 := by omega
                  have hc1I : (M : Int) < 5 := by omega
                  go_wp2
                  go_ret
                  exact ⟨rfl, S21.out.1⟩
                · have hc1I : ¬ (M : Int) < 5 := by omega
                  go_wp2
                  go_ret
                  exact ⟨rfl, S21.out.1⟩
            · have hkI : ¬ (k : Int) < zl.length := by omega
              have S20 : Hid (Below w0.heap.size w0 wr ∧ OwnI wr w0.heap.size w1.heap.size p zp ∧ OwnI wr w1.heap.size w_2.heap.size (.slice Ab zl.length cb) zl) := Lib.hid ⟨Z.out.1, Z.out.2.1, Z.out.2.2.1⟩
              clear Z
              have hwM : IntKind.i64.wrap ((M : Int) + 1) = (M : Int) + 1 := IntWalk.i64_in _ (by omega)
              rcases hh : placesR zp ((M : Int) + 1) with ⟨zh, yh⟩
              have hlh : zh.length ≤ 20 := by have := placesR_len zp ((M : Int) + 1); rw [hh] at this; exact this
              have HU := Lib.hid (fun h1 : M < 5 => fun h2 : zl.length < 20 => show zh = 0 :: zl.map (· + 1) ∧ yh = true from by
                have h3 := placesR_up HS.out (by omega) h2
                rw [hh] at h3; cases h3; exact ⟨rfl, rfl⟩)
              have HHh := Lib.hid hh; clear hh
              go_wp2_with fail
              refine (PlacesOf_I _ zp ((M:Int)+1) _ ((S20.out.2.1).rd) (by omega) (wf_near _ (by omega)) zh yh HHh.out).mono ?_
              rintro e w_21 ⟨h, rfl, ho21, hb21⟩
              have hz21 : wr.heap.size ≤ w_21.heap.size := by have := hb21.size; simpa using this
              replace hb21 : Below (wr.heap.size) wr w_21 := by simpa using hb21
              have S21 : Hid (Below w0.heap.size w0 w_21 ∧ OwnI w_21 (w0.heap.size) (w1.heap.size) p (zp) ∧ OwnI w_21 (w1.heap.size) (w_2.heap.size) (.slice Ab zl.length cb) (zl) ∧ OwnI w_21 (wr.heap.size) (w_21.heap.size) h (zh)) := Lib.hid ⟨(S20.out.1).trans (hb21.mono (by omega)), (S20.out.2.1).belowB hb21 (by omega), (S20.out.2.2).belowB hb21 (by omega), (by simpa using ho21)⟩
              clear S20
              clear ho21 hb21
              -- at w_21: S21: base p b h
              by_cases hc : M < 5 ∧ zl.length < 20
              · obtain ⟨hc1, hc2⟩ := hc
                obtain ⟨hzh, rfl⟩ := HU.out hc1 hc2
                have HZH := Lib.hid hzh; clear hzh
                have hc1I : (M : Int) < 5 := by omega
                have hc2I : (zl.length : Int) < 20 := by omega
                have B1 : Below w_21.heap.size w_21 (w_21.alloc (.cells #[.int .i64 0] 3)) := (Below.refl _ _).alloc (Nat.le_refl _) _
                have L1 := lits_own w_21 [0] (by simp) (by intro z hz; simp only [List.mem_cons, List.not_mem_nil, or_false] at hz; apply wf_near; omega)
                have Y := Lib.hid (And.intro (show OwnI (w_21.alloc (.cells #[.int .i64 0] 3)) w_21.heap.size (w_21.alloc (.cells #[.int .i64 0] 3)).heap.size (.slice (some ⟨w_21.heap.size, 0, none⟩) 1 1) [0] from by simpa using L1) (And.intro (S21.out.1.trans (B1.mono (by omega))) (And.intro (show RdBI (w_21.alloc (.cells #[.int .i64 0] 3)) w_21.heap.size (.slice Ab zl.length cb) zl from RdBI.below S21.out.2.2.1.rd B1) (show RdBI (w_21.alloc (.cells #[.int .i64 0] 3)) w_21.heap.size h zh from RdBI.below S21.out.2.2.2.rd B1)))); clear B1 L1 S21
                go_wp2
                go_loopw [19, 20] (fun v kv wr => ∃ (k : Nat) (zs : List Int), kv = .int .i64 k ∧ k ≤ zl.length ∧ zs.length = k + 1 ∧ zs = 0 :: (zl.take k).map (· + 1) ∧ w_21.heap.size + 1 ≤ wr.heap.size ∧ OwnI wr w_21.heap.size wr.heap.size v zs ∧ Below w0.heap.size w0 wr ∧ RdBI wr w_21.heap.size (.slice Ab zl.length cb) zl ∧ RdBI wr w_21.heap.size h zh) (fun _ kv _ => zl.length - (intOf kv).toNat)
                case atStart => exact ⟨0, [0], rfl, by omega, rfl, rfl, by simp, Y.out⟩
                case round =>
                  clear Y
                  obtain ⟨k, zs, rfl, hk, hzs, hz, hsz, q1, q2, q3, q4⟩ := hrel
                  have X := Lib.hid (And.intro q1 (And.intro q2 (And.intro q3 q4))); clear q1 q2 q3 q4
                  have HZ := Lib.hid hz; clear hz
                  have HL := Lib.hid hzs; clear hzs
                  by_cases hlt : k < zl.length
                  · have hltI : (k : Int) < zl.length := by omega
                    obtain ⟨_, _, e, hi, _⟩ := X.out.2.2.1
                    cases e
                    obtain ⟨bb, off, rfl, hbb, hcc⟩ := hi.at_ (by omega)
                    have hcell := hcc k hlt
                    clear hcc hi
                    obtain ⟨z, hzq⟩ : ∃ z, zl.getD k 0 = z := ⟨_, rfl⟩
                    have hzr := placesR_mem HS.out z (by rw [← hzq, List.getD, List.getElem?_eq_getElem hlt]; exact List.getElem_mem hlt)
                    obtain ⟨hzr0, hzr1⟩ := hzr
                    rw [hzq] at hcell
                    have HQ := Lib.hid hzq; clear hzq
                    have hwz : IntKind.i64.wrap (z + 1) = z + 1 := IntWalk.i64_in _ (by omega)
                    have hz20 : zs.length ≤ 900000000 := by have := HL.out; omega
                    go_wp2_with (at_builtin; refine wpList_append_z rfl _ _ _ rfl Try.underlying25 intInfo (z + 1) rfl (wf_near _ (by omega)) w_21.heap.size wr.heap.size _ zs rfl X.out.1 (by omega) rfl hz20 ?_)
                    intro v4 w4 ho4 hb4 hw4
                    have hsz4 : w_21.heap.size + 1 ≤ w4.heap.size := by have := hb4.size; omega
                    have T := Lib.hid (And.intro ho4 (And.intro (X.out.2.1.trans (hb4.mono (by omega))) (And.intro (X.out.2.2.1.below hb4) (X.out.2.2.2.below hb4)))); clear ho4 hb4 hw4 X
                    go_wp2
                    go_roundw
                    case rel => exact ⟨k + 1, zs ++ [z + 1], by first | rfl | go_num, by omega, by have := HL.out; simp; omega, by rw [HZ.out, ← HQ.out]; exact take_up hlt, hsz4, T.out⟩
                    case measure => simp [intOf]; omega
                  · obtain rfl : k = zl.length := by omega
                    have hkI : ¬ (zl.length : Int) < zl.length := by omega
                    have hzz : zs = zh := by rw [HZ.out, HZH.out, List.take_length]
                    have HE := Lib.hid hzz; clear hzz
                    have hle : zs.length ≤ 1048576 := by have := HL.out; omega
                    go_wp2_with fail
                    refine (smI _ _ zh zs _ (X.out.2.2.2.mono (by omega)) X.out.1.rd true (by rw [HE.out]; simp)).mono ?_
                    rintro e w5 ⟨rfl, hb5⟩
                    have SS : Hid (Below w0.heap.size w0 w5 ∧ True) := Lib.hid ⟨X.out.2.1.trans (hb5.mono (by omega)), trivial⟩
                    clear X hb5
                    go_wp2
                    go_ret
                    exact ⟨rfl, SS.out.1⟩
              · by_cases hc1 : M < 5
                · have hc2I : ¬ (zl.length : Int) < 20 := by omega
                  have hc1I : (M : Int) < 5 := by omega
                  go_wp2
                  go_ret
                  exact ⟨rfl, S21.out.1⟩
                · have hc1I : ¬ (M : Int) < 5 := by omega
                  go_wp2
                  go_ret
                  exact ⟨rfl, S21.out.1⟩
          · have hlen := Lib.hid (show lf.length = zl.length by rw [HF.out rfl]; simp)
            by_cases hlt : k < zl.length
            · have hltI : (k : Int) < zl.length := by omega
              obtain ⟨q, row, e1, hq, e2, e3⟩ := told_at (HF.out rfl) (fun z hz => placesR_mem HS.out z hz) HkM.out hlt
              obtain ⟨_, _, e, hi, _⟩ := Z.out.2.2.1.rd
              cases e
              obtain ⟨bb, off, rfl, hbb, hcc⟩ := hi.at_ (by omega)
              have hcell := hcc k hlt
              rw [e1] at hcell
              clear hcc hi
              obtain ⟨b2, o2, u2, rfl, hb2, hc2, hr2⟩ := RdBS.get Z.out.2.2.2.2 e2
              obtain ⟨b3, o3, u3, rfl, hb3, hc3, hr3⟩ := RdBS.get Z.out.2.2.2.1 e3
              have R1 := Lib.hid (hr2.rd (Nat.le_trans (Nat.le_refl _) hsw)); clear hr2
              have R2 := Lib.hid (hr3.rd (Nat.le_trans (Nat.le_refl _) hsw)); clear hr3
              have hqI : (q : Int) < zss.length := by have := HkM.out; omega
              have hkf : (k : Int) < lf.length := by have := hlen.out; omega
              have g1 : decide ((M : Int) ≤ (q : Int)) = false := decide_eq_false (by omega)
              have g2 : decide ((q : Int) < 0) = false := decide_eq_false (by omega)
              have g3 : ((lf.length : Int) != (zl.length : Int)) = false := by rw [hlen.out]; simp
              clear e1 e2 e3
              go_wp2
              go_quiet ((go_at_call 16; go_loud (exact Calls.quiet_of (smIQ u2 u3 row row _ (R1.out.step (below_drewN (Below.refl _ _) _)) (R2.out.step (below_drewN (Below.refl _ _) _)) true (by simp)))))
              go_wp2
              go_roundw
              case rel => exact ⟨k + 1, by first | rfl | go_num, by omega, hsw, below_drewN Z.out.1 _, Z.out.2.1.belowB (below_drewN (Below.refl w1.heap.size wr) _) (Nat.le_refl _), Z.out.2.2.1.belowB (below_drewN (Below.refl w_2.heap.size wr) _) (Nat.le_refl _), Z.out.2.2.2.1.below (below_drewN (Below.refl _ _) _), Z.out.2.2.2.2.below (below_drewN (Below.refl _ _) _)⟩
              case measure => simp [intOf]; omega
            · have hkI : ¬ (k : Int) < zl.length := by omega
              have hlenI : ((lf.length : Int) == (zl.length : Int)) = true := by rw [hlen.out]; simp
              have S20 : Hid (Below w0.heap.size w0 wr ∧ OwnI wr w0.heap.size w1.heap.size p zp ∧ OwnI wr w1.heap.size w_2.heap.size (.slice Ab zl.length cb) zl) := Lib.hid ⟨Z.out.1, Z.out.2.1, Z.out.2.2.1⟩
              clear Z
              have hwM : IntKind.i64.wrap ((M : Int) + 1) = (M : Int) + 1 := IntWalk.i64_in _ (by omega)
              rcases hh : placesR zp ((M : Int) + 1) with ⟨zh, yh⟩
              have hlh : zh.length ≤ 20 := by have := placesR_len zp ((M : Int) + 1); rw [hh] at this; exact this
              have HU := Lib.hid (fun h1 : M < 5 => fun h2 : zl.length < 20 => show zh = 0 :: zl.map (· + 1) ∧ yh = true from by
                have h3 := placesR_up HS.out (by omega) h2
                rw [hh] at h3; cases h3; exact ⟨rfl, rfl⟩)
              have HHh := Lib.hid hh; clear hh
              go_wp2_with fail
              refine (PlacesOf_I _ zp ((M:Int)+1) _ ((S20.out.2.1).rd) (by omega) (wf_near _ (by omega)) zh yh HHh.out).mono ?_
              rintro e w_21 ⟨h, rfl, ho21, hb21⟩
              have hz21 : wr.heap.size ≤ w_21.heap.size := by have := hb21.size; simpa using this
              replace hb21 : Below (wr.heap.size) wr w_21 := by simpa using hb21
              have S21 : Hid (Below w0.heap.size w0 w_21 ∧ OwnI w_21 (w0.heap.size) (w1.heap.size) p (zp) ∧ OwnI w_21 (w1.heap.size) (w_2.heap.size) (.slice Ab zl.length cb) (zl) ∧ OwnI w_21 (wr.heap.size) (w_21.heap.size) h (zh)) := Lib.hid ⟨(S20.out.1).trans (hb21.mono (by omega)), (S20.out.2.1).belowB hb21 (by omega), (S20.out.2.2).belowB hb21 (by omega), (by simpa using ho21)⟩
              clear S20
              clear ho21 hb21
              -- at w_21: S21: base p b h
              by_cases hc : M < 5 ∧ zl.length < 20
              · obtain ⟨hc1, hc2⟩ := hc
                obtain ⟨hzh, rfl⟩ := HU.out hc1 hc2
                have HZH := Lib.hid hzh; clear hzh
                have hc1I : (M : Int) < 5 := by omega
                have hc2I : (zl.length : Int) < 20 := by omega
                have B1 : Below w_21.heap.size w_21 (w_21.alloc (.cells #[.int .i64 0] 3)) := (Below.refl _ _).alloc (Nat.le_refl _) _
                have L1 := lits_own w_21 [0] (by simp) (by intro z hz; simp only [List.mem_cons, List.not_mem_nil, or_false] at hz; apply wf_near; omega)
                have Y := Lib.hid (And.intro (show OwnI (w_21.alloc (.cells #[.int .i64 0] 3)) w_21.heap.size (w_21.alloc (.cells #[.int .i64 0] 3)).heap.size (.slice (some ⟨w_21.heap.size, 0, none⟩) 1 1) [0] from by simpa using L1) (And.intro (S21.out.1.trans (B1.mono (by omega))) (And.intro (show RdBI (w_21.alloc (.cells #[.int .i64 0] 3)) w_21.heap.size (.slice Ab zl.length cb) zl from RdBI.below S21.out.2.2.1.rd B1) (show RdBI (w_21.alloc (.cells #[.int .i64 0] 3)) w_21.heap.size h zh from RdBI.below S21.out.2.2.2.rd B1)))); clear B1 L1 S21
                go_wp2
                go_loopw [19, 20] (fun v kv wr => ∃ (k : Nat) (zs : List Int), kv = .int .i64 k ∧ k ≤ zl.length ∧ zs.length = k + 1 ∧ zs = 0 :: (zl.take k).map (· + 1) ∧ w_21.heap.size + 1 ≤ wr.heap.size ∧ OwnI wr w_21.heap.size wr.heap.size v zs ∧ Below w0.heap.size w0 wr ∧ RdBI wr w_21.heap.size (.slice Ab zl.length cb) zl ∧ RdBI wr w_21.heap.size h zh) (fun _ kv _ => zl.length - (intOf kv).toNat)
                case atStart => exact ⟨0, [0], rfl, by omega, rfl, rfl, by simp, Y.out⟩
                case round =>
                  clear Y
                  obtain ⟨k, zs, rfl, hk, hzs, hz, hsz, q1, q2, q3, q4⟩ := hrel
                  have X := Lib.hid (And.intro q1 (And.intro q2 (And.intro q3 q4))); clear q1 q2 q3 q4
                  have HZ := Lib.hid hz; clear hz
                  have HL := Lib.hid hzs; clear hzs
                  by_cases hlt : k < zl.length
                  · have hltI : (k : Int) < zl.length := by omega
                    obtain ⟨_, _, e, hi, _⟩ := X.out.2.2.1
                    cases e
                    obtain ⟨bb, off, rfl, hbb, hcc⟩ := hi.at_ (by omega)
                    have hcell := hcc k hlt
                    clear hcc hi
                    obtain ⟨z, hzq⟩ : ∃ z, zl.getD k 0 = z := ⟨_, rfl⟩
                    have hzr := placesR_mem HS.out z (by rw [← hzq, List.getD, List.getElem?_eq_getElem hlt]; exact List.getElem_mem hlt)
                    obtain ⟨hzr0, hzr1⟩ := hzr
                    rw [hzq] at hcell
                    have HQ := Lib.hid hzq; clear hzq
                    have hwz : IntKind.i64.wrap (z + 1) = z + 1 := IntWalk.i64_in _ (by omega)
                    have hz20 : zs.length ≤ 900000000 := by have := HL.out; omega
                    go_wp2_with (at_builtin; refine wpList_append_z rfl _ _ _ rfl Try.underlying25 intInfo (z + 1) rfl (wf_near _ (by omega)) w_21.heap.size wr.heap.size _ zs rfl X.out.1 (by omega) rfl hz20 ?_)
                    intro v4 w4 ho4 hb4 hw4
                    have hsz4 : w_21.heap.size + 1 ≤ w4.heap.size := by have := hb4.size; omega
                    have T := Lib.hid (And.intro ho4 (And.intro (X.out.2.1.trans (hb4.mono (by omega))) (And.intro (X.out.2.2.1.below hb4) (X.out.2.2.2.below hb4)))); clear ho4 hb4 hw4 X
                    go_wp2
                    go_roundw
                    case rel => exact ⟨k + 1, zs ++ [z + 1], by first | rfl | go_num, by omega, by have := HL.out; simp; omega, by rw [HZ.out, ← HQ.out]; exact take_up hlt, hsz4, T.out⟩
                    case measure => simp [intOf]; omega
                  · obtain rfl : k = zl.length := by omega
                    have hkI : ¬ (zl.length : Int) < zl.length := by omega
                    have hzz : zs = zh := by rw [HZ.out, HZH.out, List.take_length]
                    have HE := Lib.hid hzz; clear hzz
                    have hle : zs.length ≤ 1048576 := by have := HL.out; omega
                    go_wp2_with fail
                    refine (smI _ _ zh zs _ (X.out.2.2.2.mono (by omega)) X.out.1.rd true (by rw [HE.out]; simp)).mono ?_
                    rintro e w5 ⟨rfl, hb5⟩
                    have SS : Hid (Below w0.heap.size w0 w5 ∧ True) := Lib.hid ⟨X.out.2.1.trans (hb5.mono (by omega)), trivial⟩
                    clear X hb5
                    go_wp2
                    go_ret
                    exact ⟨rfl, SS.out.1⟩
              · by_cases hc1 : M < 5
                · have hc2I : ¬ (zl.length : Int) < 20 := by omega
                  have hc1I : (M : Int) < 5 := by omega
                  go_wp2
                  go_ret
                  exact ⟨rfl, S21.out.1⟩
                · have hc1I : ¬ (M : Int) < 5 := by omega
                  go_wp2
                  go_ret
                  exact ⟨rfl, S21.out.1⟩
theorem fnPlacesOf_walk : LawWalk 6 Try.f6 := by
  intro H enc W base args ds ps hval hA
  rw [Try.params6] at hA hval
  obtain ⟨v0, v1, d0, d1, p0, p1, rfl, rfl, rfl, h0, h1⟩ := trodAll_two hA
  obtain ⟨A0, c0, zs0, rfl, hi0, hc0⟩ := ints_of_trod Try.underlying22 Try.underlying5 cells_byte (hval 0 _ _ rfl rfl) h0
  obtain ⟨A1, c1, zs1, rfl, hi1, hc1⟩ := ints_of_trod Try.underlying22 Try.underlying5 cells_byte (hval 1 _ _ rfl rfl) h1
  exact fnPlacesOf_any A0 c0 zs0 A1 c1 zs1 W (RdC.mk hi0 hc0) (RdC.mk hi1 hc1)

set_option maxRecDepth 100000 in
theorem fnPlacesOf_lifted (os : Os) (started : os.Started) (H : Type) (enc : TypeId × Value → H) :
    ReturnsInHanded {} Try.checked os 6 .any (Rows.fnPlacesOfSpec.pre6 enc Try.prog Try.f6 Rows.fnPlacesOfRow.domain false) (Rows.fnPlacesOfSpec.post enc Try.prog Try.f6 false true false false) := by
  refine returnsInHanded_of_change (C := Try.checked) own started (by kernel_rfl) Try.func6
    (ChangeSpec.witness6 (enc := enc) (C := Try.checked) false ⟨#[], #[.slice none 0 0, .slice none 0 0], []⟩ 8 (by kernel_rfl) (by kernel_rfl) (by kernel_rfl) (by kernel_rfl)) ?_
  intro W base args ds gs before hval hW _ _
  exact law_contract laidOut rfl (by kernel_rfl) rfl (fun H ds hd => by
    match ds, hd with
    | [d0, d1], _ => exact ⟨rfl, rfl, rfl⟩) fnPlacesOf_walk W base args ds gs before hval hW

/-- FnPlacesOf: the row as it is given. -/
theorem fnPlacesOf_holds : Rows.FnPlacesOfSaid :=
  OpenClaim.holds_of_wide 6 Try.f6 rfl rfl rfl rfl rfl rfl rfl ⟨rfl, rfl, rfl, rfl, rfl⟩ rfl rfl rfl rfl rfl (by kernel_rfl) Try.func6 (by unfold joinedFacts; rw [pf_enter, pf_lifts, pf_make]; kernel_rfl)
    (of_decide_eq_true (by kernel_rfl)) (by unfold Func.isWrapper; first | (rw [if_pos (by decide +kernel)]; kernel_rfl) | (rw [if_neg (by decide +kernel)]; exact ⟨rfl, rfl⟩))
    (fun os started H enc _ => fnPlacesOf_lifted os started H enc)

end Go.Proofs.Ytkdpfiaegimnlaa
