/- FnPlacesThen: of every code: PlacesThen is its model at the drawn rows; its shuffle is the first row's and then the second one's. For every input. -/
import Derived.Test.YtjbfpbajbjnifaaI
import Derived.Test.YtjbfpbajbjnifaaB2
import Derived.Test.YtjbfpbajbjnifaaJw
import Derived.Test.YtjbfpbajbjnifaaJt
import Derived.Test.YtjbfpbajbjnifaaJb
import Derived.Test.YtjbfpbajbjnifaaJi
import Derived.Test.YtjbfpbajbjnifaaJn
import Derived.Test.YtjbfpbajbjnifaaLift
namespace Go.Proofs.Ytjbfpbajbjnifaa
set_option maxRecDepth 100000
open Go.RowKit Go.WideShapes Go.ChangeShapes

theorem placesThenR_no {a b c : List Int} (h : placesThenR a b = (c, false)) : c = [] := by
  unfold placesThenR at h
  split at h <;> cases h
  rfl
theorem placesThenR_len5 (a b : List Int) : (placesThenR a b).1.length ≤ 5 := by
  unfold placesThenR
  split
  · rename_i h; simp; omega
  · simp
theorem thenR_len60' (p q : List Int) : (thenR p q).1.length ≤ 60 := by
  unfold thenR; split
  · rename_i h; simp; omega
  · simp
theorem then_told {m : Int} {a b c p q r pl : List Int} {t : Bool} (hc : placesThenR a b = (c, true)) (hp : shuffleForR m a = (p, true)) (hq : shuffleForR a.length b = (q, true)) (hr : thenR p q = (r, true)) (hpl : placesR r m = (pl, t)) : pl = c ∧ t = true := by
  unfold thenR at hr
  split at hr
  · rename_i h
    cases hr
    have := places_then hc hp hq (by simpa using h.2.2)
    rw [this] at hpl
    cases hpl
    exact ⟨rfl, rfl⟩
  · cases hr

set_option maxHeartbeats 4000000 in
theorem fnPlacesThen_any (A0 : Option Addr) (c0 : Nat) (x0 : List Int) (w0 : World) (h0 : RdC w0 (.slice A0 x0.length c0) x0) :
    Calls Try.prog 8 #[.slice A0 x0.length c0] w0 fun e w' => e = .returned (.bool true) ∧ Below w0.heap.size w0 w' := by
  have hm := h0.len_le
  have HH := Lib.hid h0; clear h0
  by_cases hl : x0.length ≤ 1048576
  case neg =>
    go_enter Try.func8, Try.ntmps8
    go_wp2
    go_ret
    exact ⟨rfl, Below.refl _ _⟩
  go_enter Try.func8, Try.ntmps8
  go_wp2_with fail
  refine (DrawPlacesThen_any _ x0 _ HH.out).mono ?_
  rintro e w1 ⟨a, za, b, zb, n, rfl, hn0, hn1, hoa, hob, hal, haz, hbl, hb⟩
  obtain ⟨Aa, ca, rfl, _⟩ := hoa.rd
  have S1 : Hid (Below w0.heap.size w0 w1 ∧ OwnI w1 w0.heap.size n (.slice Aa za.length ca) za ∧ OwnI w1 n w1.heap.size b zb) := Lib.hid ⟨hb, hoa, hob⟩
  have hz1 : w0.heap.size ≤ w1.heap.size := hb.size
  have HA := Lib.hid haz; clear haz
  clear hoa hob hb HH
  rcases hc : placesThenR za zb with ⟨zc, yc⟩
  have hcl : zc.length ≤ 5 := by have := placesThenR_len5 za zb; rw [hc] at this; exact this
  rcases yc with _ | _
  · have hy := placesThenR_no hc
    have HS := Lib.hid hc; clear hc
    subst hy
    go_wp2_with fail
    refine (PlacesThen_I _ za _ zb _ ((S1.out.2.1).rd) (by omega) ((S1.out.2.2).rd) (by omega) [] false HS.out).mono ?_
    rintro e w_2 ⟨c, rfl, ho2, hb2⟩
    have hz2 : w1.heap.size ≤ w_2.heap.size := by have := hb2.size; simpa using this
    replace hb2 : Below (w1.heap.size) w1 w_2 := by simpa using hb2
    have S2 : Hid (Below w0.heap.size w0 w_2 ∧ OwnI w_2 (w0.heap.size) (n) (.slice Aa za.length ca) (za) ∧ OwnI w_2 (n) (w1.heap.size) b (zb) ∧ OwnI w_2 (w1.heap.size) (w_2.heap.size) c ([])) := Lib.hid ⟨(S1.out.1).trans (hb2.mono (by omega)), (S1.out.2.1).belowB hb2 (by omega), (S1.out.2.2).belowB hb2 (by omega), (by simpa using ho2)⟩
    clear S1
    clear ho2 hb2
    go_wp2_with fail
    refine (PlacesThen_S _ za _ zb _ ((S2.out.2.1).rd) (by omega) ((S2.out.2.2.1).rd) (by omega) [] false HS.out).mono ?_
    rintro e w_3 ⟨x, rfl, ho3, hb3⟩
    have hz3 : w_2.heap.size ≤ w_3.heap.size := by have := hb3.size; simpa using this
    replace hb3 : Below (w_2.heap.size) w_2 w_3 := by simpa using hb3
    have S3 : Hid (Below w0.heap.size w0 w_3 ∧ OwnI w_3 (w0.heap.size) (n) (.slice Aa za.length ca) (za) ∧ OwnI w_3 (n) (w1.heap.size) b (zb) ∧ OwnI w_3 (w1.heap.size) (w_2.heap.size) c ([]) ∧ OwnI w_3 (w_2.heap.size) (w_3.heap.size) x ([])) := Lib.hid ⟨(S2.out.1).trans (hb3.mono (by omega)), (S2.out.2.1).belowB hb3 (by omega), (S2.out.2.2.1).belowB hb3 (by omega), (S2.out.2.2.2).belowB hb3 (by omega), (by simpa using ho3)⟩
    clear S2
    clear ho3 hb3
    go_wp2_with fail
    refine (smI _ _ [] [] _ ((S3.out.2.2.2.1).rd) ((S3.out.2.2.2.2).rd) true (by simp)).mono ?_
    rintro e w_4 ⟨rfl, hb4⟩
    have hz4 : w_3.heap.size ≤ w_4.heap.size := by have := hb4.size; simpa using this
    replace hb4 : Below (w_3.heap.size) w_3 w_4 := by simpa using hb4
    have S4 : Hid (Below w0.heap.size w0 w_4 ∧ OwnI w_4 (w0.heap.size) (n) (.slice Aa za.length ca) (za) ∧ OwnI w_4 (n) (w1.heap.size) b (zb) ∧ OwnI w_4 (w1.heap.size) (w_2.heap.size) c ([]) ∧ OwnI w_4 (w_2.heap.size) (w_3.heap.size) x ([])) := Lib.hid ⟨(S3.out.1).trans (hb4.mono (by omega)), (S3.out.2.1).belowB hb4 (by omega), (S3.out.2.2.1).belowB hb4 (by omega), (S3.out.2.2.2.1).belowB hb4 (by omega), (S3.out.2.2.2.2).belowB hb4 (by omega)⟩
    clear S3
    clear hb4
    -- at w_4: S4: base a b c x
    obtain ⟨Aq, cq, rfl, _⟩ := S4.out.2.2.2.1.rd
    go_wp2_with fail
    refine (alive_any _).mono ?_
    rintro e w_5 ⟨rfl, hb5⟩
    have hz5 : w_4.heap.size ≤ w_5.heap.size := by have := hb5.size; simpa using this
    replace hb5 : Below (w_4.heap.size) w_4 w_5 := by simpa using hb5
    have S5 : Hid (Below w0.heap.size w0 w_5 ∧ OwnI w_5 (w0.heap.size) (n) (.slice Aa za.length ca) (za) ∧ OwnI w_5 (n) (w1.heap.size) b (zb) ∧ OwnI w_5 (w1.heap.size) (w_2.heap.size) (.slice Aq [].length cq) ([]) ∧ OwnI w_5 (w_2.heap.size) (w_3.heap.size) x ([])) := Lib.hid ⟨(S4.out.1).trans (hb5.mono (by omega)), (S4.out.2.1).belowB hb5 (by omega), (S4.out.2.2.1).belowB hb5 (by omega), (S4.out.2.2.2.1).belowB hb5 (by omega), (S4.out.2.2.2.2).belowB hb5 (by omega)⟩
    clear S4
    clear hb5
    -- at w_5: S5: base a b c x
    go_wp2
    go_ret
    exact ⟨rfl, S5.out.1⟩
  · have HS := Lib.hid hc; clear hc
    go_wp2_with fail
    refine (PlacesThen_I _ za _ zb _ ((S1.out.2.1).rd) (by omega) ((S1.out.2.2).rd) (by omega) zc true HS.out).mono ?_
    rintro e w_2 ⟨c, rfl, ho2, hb2⟩
    have hz2 : w1.heap.size ≤ w_2.heap.size := by have := hb2.size; simpa using this
    replace hb2 : Below (w1.heap.size) w1 w_2 := by simpa using hb2
    have S2 : Hid (Below w0.heap.size w0 w_2 ∧ OwnI w_2 (w0.heap.size) (n) (.slice Aa za.length ca) (za) ∧ OwnI w_2 (n) (w1.heap.size) b (zb) ∧ OwnI w_2 (w1.heap.size) (w_2.heap.size) c (zc)) := Lib.hid ⟨(S1.out.1).trans (hb2.mono (by omega)), (S1.out.2.1).belowB hb2 (by omega), (S1.out.2.2).belowB hb2 (by omega), (by simpa using ho2)⟩
    clear S1
    clear ho2 hb2
    go_wp2_with fail
    refine (PlacesThen_S _ za _ zb _ ((S2.out.2.1).rd) (by omega) ((S2.out.2.2.1).rd) (by omega) zc true HS.out).mono ?_
    rintro e w_3 ⟨x, rfl, ho3, hb3⟩
    have hz3 : w_2.heap.size ≤ w_3.heap.size := by have := hb3.size; simpa using this
    replace hb3 : Below (w_2.heap.size) w_2 w_3 := by simpa using hb3
    have S3 : Hid (Below w0.heap.size w0 w_3 ∧ OwnI w_3 (w0.heap.size) (n) (.slice Aa za.length ca) (za) ∧ OwnI w_3 (n) (w1.heap.size) b (zb) ∧ OwnI w_3 (w1.heap.size) (w_2.heap.size) c (zc) ∧ OwnI w_3 (w_2.heap.size) (w_3.heap.size) x (zc)) := Lib.hid ⟨(S2.out.1).trans (hb3.mono (by omega)), (S2.out.2.1).belowB hb3 (by omega), (S2.out.2.2.1).belowB hb3 (by omega), (S2.out.2.2.2).belowB hb3 (by omega), (by simpa using ho3)⟩
    clear S2
    clear ho3 hb3
    go_wp2_with fail
    refine (smI _ _ zc zc _ ((S3.out.2.2.2.1).rd) ((S3.out.2.2.2.2).rd) true (by simp)).mono ?_
    rintro e w_4 ⟨rfl, hb4⟩
    have hz4 : w_3.heap.size ≤ w_4.heap.size := by have := hb4.size; simpa using this
    replace hb4 : Below (w_3.heap.size) w_3 w_4 := by simpa using hb4
    have S4 : Hid (Below w0.heap.size w0 w_4 ∧ OwnI w_4 (w0.heap.size) (n) (.slice Aa za.length ca) (za) ∧ OwnI w_4 (n) (w1.heap.size) b (zb) ∧ OwnI w_4 (w1.heap.size) (w_2.heap.size) c (zc) ∧ OwnI w_4 (w_2.heap.size) (w_3.heap.size) x (zc)) := Lib.hid ⟨(S3.out.1).trans (hb4.mono (by omega)), (S3.out.2.1).belowB hb4 (by omega), (S3.out.2.2.1).belowB hb4 (by omega), (S3.out.2.2.2.1).belowB hb4 (by omega), (S3.out.2.2.2.2).belowB hb4 (by omega)⟩
    clear S3
    clear hb4
    -- at w_4: S4: base a b c x
    go_wp2
    go_loop [9, 10] (fun mv kv => ∃ (k : Nat) (mm : Int), mv = .int .i64 mm ∧ kv = .int .i64 k ∧ k ≤ za.length ∧ 0 ≤ mm ∧ mm ≤ 10) (fun _ kv => za.length - (intOf kv).toNat)
    case atStart => exact ⟨0, 0, rfl, rfl, by omega, by omega, by omega⟩
    case round =>
      obtain ⟨k, mm, rfl, rfl, hk, hm0, hm1⟩ := hrel
      by_cases hlt : k < za.length
      · have hltI : (k : Int) < za.length := by omega
        obtain ⟨_, _, e, hi, _⟩ := S4.out.2.1.rd
        cases e
        obtain ⟨bb, off, rfl, hbb, hcc⟩ := hi.at_ (by omega)
        have hcell := hcc k hlt
        clear hcc hi
        obtain ⟨z, hz⟩ : ∃ z, za.getD k 0 = z := ⟨_, rfl⟩
        have hzr : -1 ≤ z ∧ z ≤ 9 := by rw [← hz, List.getD, List.getElem?_eq_getElem hlt]; exact HA.out _ (List.getElem_mem hlt)
        rw [hz] at hcell
        have HZ := Lib.hid hz; clear hz
        obtain ⟨hzr0, hzr1⟩ := hzr
        have hwz : IntKind.i64.wrap (z + 1) = z + 1 := IntWalk.i64_in _ (by omega)
        by_cases hmx : mm < z + 1
        · go_wp2
          go_round
          case rel => exact ⟨k + 1, z + 1, rfl, by go_num, by omega, by omega, by omega⟩
          case measure => simp [intOf]; omega
        · go_wp2
          go_round
          case rel => exact ⟨k + 1, mm, rfl, by go_num, by omega, by omega, by omega⟩
          case measure => simp [intOf]; omega
      · obtain rfl : k = za.length := by omega
        clear hlt hk
        have hbz : (za.length : Int) ≤ 5 := by omega
        rcases hp : shuffleForR mm za with ⟨zp, yp⟩
        rcases hq : shuffleForR za.length zb with ⟨zq, yq⟩
        rcases hr : thenR zp zq with ⟨zr, yr⟩
        rcases hpl : placesR zr mm with ⟨zl, yl⟩
        have hlp : zp.length ≤ 60 := by have := shuffleForR_len mm za; rw [hp] at this; exact this
        have hlq : zq.length ≤ 60 := by have := shuffleForR_len za.length zb; rw [hq] at this; exact this
        have hlr : zr.length ≤ 60 := by have := thenR_len60' zp zq; rw [hr] at this; exact this
        have HF := Lib.hid (fun h1 : yp = true => fun h2 : yq = true => fun h3 : yr = true => then_told HS.out (by rw [hp, h1]) (by rw [hq, h2]) (by rw [hr, h3]) hpl)
        have HP := Lib.hid hp; clear hp
        have HQ := Lib.hid hq; clear hq
        have HR := Lib.hid hr; clear hr
        have HL := Lib.hid hpl; clear hpl
        go_wp2_with fail
        refine (ShuffleFor_I mm _ za _ (wf_near _ (by omega)) ((S4.out.2.1).rd) (by omega) zp yp HP.out).mono ?_
        rintro e w_5 ⟨p, rfl, ho5, hb5⟩
        have hz5 : w_4.heap.size ≤ w_5.heap.size := by have := hb5.size; simpa using this
        replace hb5 : Below (w_4.heap.size) w_4 w_5 := by simpa using hb5
        have S5 : Hid (Below w0.heap.size w0 w_5 ∧ OwnI w_5 (w0.heap.size) (n) (.slice Aa za.length ca) (za) ∧ OwnI w_5 (n) (w1.heap.size) b (zb) ∧ OwnI w_5 (w1.heap.size) (w_2.heap.size) c (zc) ∧ OwnI w_5 (w_2.heap.size) (w_3.heap.size) x (zc) ∧ OwnI w_5 (w_4.heap.size) (w_5.heap.size) p (zp)) := Lib.hid ⟨(S4.out.1).trans (hb5.mono (by omega)), (S4.out.2.1).belowB hb5 (by omega), (S4.out.2.2.1).belowB hb5 (by omega), (S4.out.2.2.2.1).belowB hb5 (by omega), (S4.out.2.2.2.2).belowB hb5 (by omega), (by simpa using ho5)⟩
        clear S4
        clear ho5 hb5
        go_wp2_with fail
        refine (ShuffleFor_I (za.length:Int) _ zb _ (wf_near _ (by omega)) ((S5.out.2.2.1).rd) (by omega) zq yq HQ.out).mono ?_
        rintro e w_6 ⟨q, rfl, ho6, hb6⟩
        have hz6 : w_5.heap.size ≤ w_6.heap.size := by have := hb6.size; simpa using this
        replace hb6 : Below (w_5.heap.size) w_5 w_6 := by simpa using hb6
        have S6 : Hid (Below w0.heap.size w0 w_6 ∧ OwnI w_6 (w0.heap.size) (n) (.slice Aa za.length ca) (za) ∧ OwnI w_6 (n) (w1.heap.size) b (zb) ∧ OwnI w_6 (w1.heap.size) (w_2.heap.size) c (zc) ∧ OwnI w_6 (w_2.heap.size) (w_3.heap.size) x (zc) ∧ OwnI w_6 (w_4.heap.size) (w_5.heap.size) p (zp) ∧ OwnI w_6 (w_5.heap.size) (w_6.heap.size) q (zq)) := Lib.hid ⟨(S5.out.1).trans (hb6.mono (by omega)), (S5.out.2.1).belowB hb6 (by omega), (S5.out.2.2.1).belowB hb6 (by omega), (S5.out.2.2.2.1).belowB hb6 (by omega), (S5.out.2.2.2.2.1).belowB hb6 (by omega), (S5.out.2.2.2.2.2).belowB hb6 (by omega), (by simpa using ho6)⟩
        clear S5
        clear ho6 hb6
        go_wp2_with fail
        refine (ProgThen_I _ zp _ zq _ ((S6.out.2.2.2.2.2.1).rd) (by omega) ((S6.out.2.2.2.2.2.2).rd) (by omega) zr yr HR.out).mono ?_
        rintro e w_7 ⟨r, rfl, ho7, hb7⟩
        have hz7 : w_6.heap.size ≤ w_7.heap.size := by have := hb7.size; simpa using this
        replace hb7 : Below (w_6.heap.size) w_6 w_7 := by simpa using hb7
        have S7 : Hid (Below w0.heap.size w0 w_7 ∧ OwnI w_7 (w0.heap.size) (n) (.slice Aa za.length ca) (za) ∧ OwnI w_7 (n) (w1.heap.size) b (zb) ∧ OwnI w_7 (w1.heap.size) (w_2.heap.size) c (zc) ∧ OwnI w_7 (w_2.heap.size) (w_3.heap.size) x (zc) ∧ OwnI w_7 (w_4.heap.size) (w_5.heap.size) p (zp) ∧ OwnI w_7 (w_5.heap.size) (w_6.heap.size) q (zq) ∧ OwnI w_7 (w_6.heap.size) (w_7.heap.size) r (zr)) := Lib.hid ⟨(S6.out.1).trans (hb7.mono (by omega)), (S6.out.2.1).belowB hb7 (by omega), (S6.out.2.2.1).belowB hb7 (by omega), (S6.out.2.2.2.1).belowB hb7 (by omega), (S6.out.2.2.2.2.1).belowB hb7 (by omega), (S6.out.2.2.2.2.2.1).belowB hb7 (by omega), (S6.out.2.2.2.2.2.2).belowB hb7 (by omega), (by simpa using ho7)⟩
        clear S6
        clear ho7 hb7
        go_wp2_with fail
        refine (PlacesOf_I _ zr mm _ ((S7.out.2.2.2.2.2.2.2).rd) (by omega) (wf_near _ (by omega)) zl yl HL.out).mono ?_
        rintro e w_8 ⟨l, rfl, ho8, hb8⟩
        have hz8 : w_7.heap.size ≤ w_8.heap.size := by have := hb8.size; simpa using this
        replace hb8 : Below (w_7.heap.size) w_7 w_8 := by simpa using hb8
        have S8 : Hid (Below w0.heap.size w0 w_8 ∧ OwnI w_8 (w0.heap.size) (n) (.slice Aa za.length ca) (za) ∧ OwnI w_8 (n) (w1.heap.size) b (zb) ∧ OwnI w_8 (w1.heap.size) (w_2.heap.size) c (zc) ∧ OwnI w_8 (w_2.heap.size) (w_3.heap.size) x (zc) ∧ OwnI w_8 (w_4.heap.size) (w_5.heap.size) p (zp) ∧ OwnI w_8 (w_5.heap.size) (w_6.heap.size) q (zq) ∧ OwnI w_8 (w_6.heap.size) (w_7.heap.size) r (zr) ∧ OwnI w_8 (w_7.heap.size) (w_8.heap.size) l (zl)) := Lib.hid ⟨(S7.out.1).trans (hb8.mono (by omega)), (S7.out.2.1).belowB hb8 (by omega), (S7.out.2.2.1).belowB hb8 (by omega), (S7.out.2.2.2.1).belowB hb8 (by omega), (S7.out.2.2.2.2.1).belowB hb8 (by omega), (S7.out.2.2.2.2.2.1).belowB hb8 (by omega), (S7.out.2.2.2.2.2.2.1).belowB hb8 (by omega), (S7.out.2.2.2.2.2.2.2).belowB hb8 (by omega), (by simpa using ho8)⟩
        clear S7
        clear ho8 hb8
        -- at w_8: S8: base a b c x p q r l
        rcases yp with _ | _
        · go_wp2
          go_ret
          exact ⟨rfl, S8.out.1⟩
        · rcases yq with _ | _
          · go_wp2
            go_ret
            exact ⟨rfl, S8.out.1⟩
          · rcases yr with _ | _
            · go_wp2
              go_ret
              exact ⟨rfl, S8.out.1⟩
            · obtain ⟨hf, rfl⟩ := HF.out rfl rfl rfl
              have HE := Lib.hid hf; clear hf
              go_wp2_with fail
              refine (smI _ _ zl zc _ ((S8.out.2.2.2.2.2.2.2.2).rd) ((S8.out.2.2.2.1).rd) true (by rw [HE.out]; simp)).mono ?_
              rintro e w_9 ⟨rfl, hb9⟩
              have hz9 : w_8.heap.size ≤ w_9.heap.size := by have := hb9.size; simpa using this
              replace hb9 : Below (w_8.heap.size) w_8 w_9 := by simpa using hb9
              have S9 : Hid (Below w0.heap.size w0 w_9 ∧ OwnI w_9 (w0.heap.size) (n) (.slice Aa za.length ca) (za) ∧ OwnI w_9 (n) (w1.heap.size) b (zb) ∧ OwnI w_9 (w1.heap.size) (w_2.heap.size) c (zc) ∧ OwnI w_9 (w_2.heap.size) (w_3.heap.size) x (zc) ∧ OwnI w_9 (w_4.heap.size) (w_5.heap.size) p (zp) ∧ OwnI w_9 (w_5.heap.size) (w_6.heap.size) q (zq) ∧ OwnI w_9 (w_6.heap.size) (w_7.heap.size) r (zr) ∧ OwnI w_9 (w_7.heap.size) (w_8.heap.size) l (zl)) := Lib.hid ⟨(S8.out.1).trans (hb9.mono (by omega)), (S8.out.2.1).belowB hb9 (by omega), (S8.out.2.2.1).belowB hb9 (by omega), (S8.out.2.2.2.1).belowB hb9 (by omega), (S8.out.2.2.2.2.1).belowB hb9 (by omega), (S8.out.2.2.2.2.2.1).belowB hb9 (by omega), (S8.out.2.2.2.2.2.2.1).belowB hb9 (by omega), (S8.out.2.2.2.2.2.2.2.1).belowB hb9 (by omega), (S8.out.2.2.2.2.2.2.2.2).belowB hb9 (by omega)⟩
              clear S8
              clear hb9
              -- at w_9: S9: base a b c x p q r l
              go_wp2
              go_ret
              exact ⟨rfl, S9.out.1⟩

theorem fnPlacesThen_walk : LawWalk 8 Try.f8 := by
  intro H enc W base args ds ps hval hA
  rw [Try.params8] at hA hval
  obtain ⟨v0, d0, rfl, rfl, h0⟩ := trodAll_one hA
  obtain ⟨A0, c0, zs0, rfl, hi0, hc0⟩ := ints_of_trod Try.underlying22 Try.underlying5 cells_byte (hval 0 _ _ rfl rfl) h0
  exact fnPlacesThen_any A0 c0 zs0 W (RdC.mk hi0 hc0)

set_option maxRecDepth 100000 in
theorem fnPlacesThen_lifted (os : Os) (started : os.Started) (H : Type) (enc : TypeId × Value → H) :
    ReturnsInHanded {} Try.checked os 8 .any (Rows.fnPlacesThenSpec.pre6 enc Try.prog Try.f8 Rows.fnPlacesThenRow.domain false) (Rows.fnPlacesThenSpec.post enc Try.prog Try.f8 false true false false) := by
  refine returnsInHanded_of_change (C := Try.checked) own started (by kernel_rfl) Try.func8
    (ChangeSpec.witness6 (enc := enc) (C := Try.checked) false ⟨#[], #[.slice none 0 0], []⟩ 8 (by kernel_rfl) (by kernel_rfl) (by kernel_rfl) (by kernel_rfl)) ?_
  intro W base args ds gs before hval hW _ _
  exact law_contract laidOut rfl (by kernel_rfl) rfl (fun H ds hd => by
    match ds, hd with
    | [d0], _ => exact ⟨rfl, rfl, rfl⟩) fnPlacesThen_walk W base args ds gs before hval hW

/-- FnPlacesThen: the row as it is given. -/
theorem fnPlacesThen_holds : Rows.FnPlacesThenSaid :=
  OpenClaim.holds_of_wide 8 Try.f8 rfl rfl rfl rfl rfl rfl rfl ⟨rfl, rfl, rfl, rfl, rfl⟩ rfl rfl rfl rfl rfl (by kernel_rfl) Try.func8 (by unfold joinedFacts; rw [pf_enter, pf_lifts, pf_make]; kernel_rfl)
    (of_decide_eq_true (by kernel_rfl)) (by unfold Func.isWrapper; first | (rw [if_pos (by decide +kernel)]; kernel_rfl) | (rw [if_neg (by decide +kernel)]; exact ⟨rfl, rfl⟩))
    (fun os started H enc _ => fnPlacesThen_lifted os started H enc)

end Go.Proofs.Ytjbfpbajbjnifaa
