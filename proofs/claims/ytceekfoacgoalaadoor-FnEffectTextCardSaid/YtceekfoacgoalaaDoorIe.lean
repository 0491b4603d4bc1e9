/- The draws of rows once more: what l20Type and l20RowOf draw are types and rows (for l20Effect). -/
import Derived.Test.YtceekfoacgoalaaDoorB3
import Derived.Test.YtceekfoacgoalaaDoorI
import Derived.Test.YtceekfoacgoalaaDoorBq
namespace Go.Proofs.YtceekfoacgoalaaDoor
set_option maxRecDepth 100000
open Go.RowKit Go.WideShapes

theorem eat_put {zs t : List Int} (h1 : eat zs.length true zs = some []) (h2 : eat t.length false t = some []) : eat ([4] ++ zs ++ t).length true ([4] ++ zs ++ t) = some [] := by
  obtain ⟨p, hp, _, hs, _⟩ := eat_pre h1
  rw [List.append_nil] at hp
  subst hp
  have e1 := hs t
  have hl : ([4] ++ zs ++ t).length = zs.length + t.length + 1 := by simp
  rw [hl]
  show eat (zs.length + t.length + 1) true (4 :: (zs ++ t)) = some []
  rw [eat_t, if_neg (by decide), if_pos rfl, eat_mono e1 (by omega)]
  exact eat_mono h2 (by omega)
theorem eat_two {zs t : List Int} (h1 : eat zs.length true zs = some []) (h2 : eat t.length true t = some []) : eat ([2] ++ zs ++ t).length false ([2] ++ zs ++ t) = some [] := by
  obtain ⟨p, hp, _, hs, _⟩ := eat_pre h1
  rw [List.append_nil] at hp
  subst hp
  have e1 := hs t
  have hl : ([2] ++ zs ++ t).length = zs.length + t.length + 1 := by simp
  rw [hl]
  show eat (zs.length + t.length + 1) false (2 :: (zs ++ t)) = some []
  rw [eat_f, if_neg (by decide), if_neg (by decide), if_pos rfl, eat_mono e1 (by omega)]
  exact eat_mono h2 (by omega)
theorem eat_num : eat ([0] : List Int).length false [0] = some [] := rfl
theorem eat_any {x : Int} (h : 0 ≤ x ∧ x ≤ 999) : eat ([1, x] : List Int).length false [1, x] = some [] := by
  show eat 2 false (1 :: [x]) = some []
  rw [eat_f, if_neg (by decide), if_pos rfl, if_pos (by simpa using h)]; rfl
theorem eat_rest {x : Int} (h : 0 ≤ x ∧ x ≤ 999) : eat ([3, x] : List Int).length true [3, x] = some [] := by
  show eat 2 true (3 :: [x]) = some []
  rw [eat_t, if_pos rfl, if_pos (by simpa using h)]; rfl
def PvPost (b : Bool) (w0 : World) (g p : Nat) (bs : List Int) (w : World) (L C : Nat) (e : Ending) (w' : World) : Prop :=
  ∃ v zs p', e = .returned v ∧ OwnI w' w.heap.size w'.heap.size v zs ∧ zs.length ≤ L ∧ RS w0 w' g bs p' ∧ p' ≤ p + C ∧ Within g (g + 1) w w' ∧ eat zs.length b zs = some []
theorem pv_lit (b : Bool) (w0 w w1 : World) (g p p1 L C : Nat) (bs zs : List Int) (hr : RS w0 w1 g bs p1) (hg : Within g (g + 1) w w1) (h0 : w0.heap.size ≤ w.heap.size) (hz : ∀ z ∈ zs, -1000000 ≤ z ∧ z ≤ 1000000) (hl : zs.length ≤ L ∧ L ≤ 1000) (hp : p1 ≤ p + C) (hv : eat zs.length b zs = some []) :
    PvPost b w0 g p bs w L C (.returned (.slice (some ⟨w1.heap.size, 0, none⟩) zs.length zs.length)) (w1.alloc (.cells (zs.map (Value.int .i64)).toArray 3)) := by
  have hb : Below w1.heap.size w1 (w1.alloc (.cells (zs.map (Value.int .i64)).toArray 3)) := (Below.refl _ _).alloc (Nat.le_refl _) _
  have ho := lits_own w1 zs (by omega) (fun z h => wf_near z (hz z h))
  have hs := hg.size
  refine ⟨_, zs, p1, rfl, ⟨ho.own.mono hs, fun g hg => by have := ho.lt g hg; simpa using this⟩, hl.1, hr.below hb (by omega), hp, hg.then_below hb hs, hv⟩
def TvOk (deep : Int) (L C M : Nat) : Prop := ∀ (w0 : World) (g p : Nat) (bs : List Int) (w : World), RS w0 w g bs p → p ≤ M → Calls Tryd.prog 43 #[.pointer (some ⟨g, 0, none⟩), .int .i64 deep] w (PvPost false w0 g p bs w L C)
def RvOk (most deep : Int) (L C M : Nat) : Prop := ∀ (w0 : World) (g p : Nat) (bs : List Int) (w : World), RS w0 w g bs p → p ≤ M → Calls Tryd.prog 33 #[.pointer (some ⟨g, 0, none⟩), .int .i64 most, .int .i64 deep] w (PvPost true w0 g p bs w L C)
set_option maxHeartbeats 4000000 in
theorem typeV_step (deep : Int) (L C M : Nat) (hd : 0 ≤ deep ∧ deep ≤ 5) (hL : L ≤ 300) (hC : C ≤ 10000) (hM : M ≤ 700000000000) (hR : 0 < deep → RvOk 2 (deep - 1) L C (M + (10 + 2 * C))) : TvOk deep (2 + 2 * L) (10 + 2 * C) M := by
  intro w0 g p bs w h hp
  have hgw := h.rdr.lt
  show Calls _ _ _ _ (PvPost false w0 g p bs w (2 + 2 * L) (10 + 2 * C))
  have H := Lib.hid h; clear h
  have HR := Lib.hid hR; clear hR
  have hs0 : w0.heap.size ≤ w.heap.size := H.out.size
  go_enter Tryd.func43, Tryd.ntmps43
  go_wp2_with fail
  refine (pick w0 g p 5 bs _ H.out (by omega) (by omega)).mono ?_
  rintro e w1 ⟨x, rfl, hx0, hx1, hr1, hg1⟩
  have hs1 := hg1.size
  have X1 := Lib.hid (And.intro hr1 hg1); clear hr1 hg1 H
  have hcases : x = 0 ∨ x = 1 ∨ (x = 2 ∧ 0 < deep) ∨ (x = 2 ∧ ¬ 0 < deep) ∨ x = 3 ∨ x = 4 := by omega
  clear hx0 hx1
  rcases hcases with rfl | rfl | ⟨rfl, hdp⟩ | ⟨rfl, hdp⟩ | rfl | rfl
  · go_wp2
    go_ret
    exact pv_lit _ w0 w _ g p _ _ _ bs [0] X1.out.1 X1.out.2 hs0 (by intro z hz; simp only [List.mem_cons, List.not_mem_nil, or_false] at hz; omega) ⟨by first | omega | (simp; done) | (simp; omega), by omega⟩ (by omega) eat_num
  · go_wp2
    go_ret
    exact pv_lit _ w0 w _ g p _ _ _ bs [0] X1.out.1 X1.out.2 hs0 (by intro z hz; simp only [List.mem_cons, List.not_mem_nil, or_false] at hz; omega) ⟨by first | omega | (simp; done) | (simp; omega), by omega⟩ (by omega) eat_num
  · have HR2 := Lib.hid (HR.out hdp)
    have hwd : IntKind.i64.wrap (deep - 1) = deep - 1 := IntWalk.i64_in _ (by omega)
    have hb2 : Below (w1.heap.size) w1 (w1.alloc (.cells #[.int .i64 (2)] 3)) := (Below.refl _ _).alloc (by simp) _
    have ho2 := lits_own w1 [2] (by simp) (by intro z hz; simp only [List.mem_cons, List.not_mem_nil, or_false] at hz; apply wf_near; omega)
    have S2 : Hid (RS w0 (w1.alloc (.cells #[.int .i64 (2)] 3)) g bs (p+1) ∧ Within g (g + 1) w (w1.alloc (.cells #[.int .i64 (2)] 3)) ∧ OwnI (w1.alloc (.cells #[.int .i64 (2)] 3)) (w1.heap.size) (w1.heap.size + 1) (.slice (some ⟨w1.heap.size, 0, none⟩) 1 1) ([2])) := Lib.hid ⟨(X1.out.1).below hb2 (by omega), (X1.out.2).then_below hb2 (by omega), (by simpa using ho2)⟩
    clear hb2 ho2
    go_wp2_with fail
    refine (HR2.out w0 g (p+1) bs _ (S2.out.1) (by omega)).mono ?_
    rintro e w_3 ⟨b, zb, p3, rfl, ho3, hl3, hr3, hp3, hg3, hf_b⟩
    have hz3 : w1.heap.size + 1 ≤ w_3.heap.size := by have := hg3.size; simpa using this
    have S3 : Hid (RS w0 w_3 g bs (p3) ∧ Within g (g + 1) w w_3 ∧ OwnI w_3 (w1.heap.size) (w1.heap.size + 1) (.slice (some ⟨w1.heap.size, 0, none⟩) 1 1) ([2]) ∧ OwnI w_3 (w1.heap.size + 1) (w_3.heap.size) b (zb)) := Lib.hid ⟨hr3, (S2.out.2.1).trans hg3, (S2.out.2.2).apart hg3 (by omega), (by simpa using ho3)⟩
    clear S2
    clear ho3 hr3 hg3
    go_wp2_with (at_builtin; (refine wpList_append_V rfl _ _ _ rfl Tryd.underlying22 intInfo (w1.heap.size) (w1.heap.size + 1) (.slice (some ⟨w1.heap.size, 0, none⟩) 1 1) ([2]) rfl (S3.out.2.2.1) (by first | omega | (simp <;> omega)) b (zb) rfl (S3.out.2.2.2).rd (by first | omega | (simp <;> omega)) ?_))
    intro c w_4 ho4 hb4
    have hz4 : w_3.heap.size ≤ w_4.heap.size := by have := hb4.size; simpa using this
    have S4 : Hid (RS w0 w_4 g bs (p3) ∧ Within g (g + 1) w w_4 ∧ OwnI w_4 (w1.heap.size) (w_4.heap.size) c (([2]) ++ (zb))) := Lib.hid ⟨(S3.out.1).below hb4 (by omega), (S3.out.2.1).then_below hb4 (by omega), (by simpa using ho4)⟩
    clear S3
    clear ho4 hb4
    go_wp2_with fail
    refine (HR2.out w0 g (p3) bs _ (S4.out.1) (by omega)).mono ?_
    rintro e w_5 ⟨q, zq, p5, rfl, ho5, hl5, hr5, hp5, hg5, hf_q⟩
    have hz5 : w_4.heap.size ≤ w_5.heap.size := by have := hg5.size; simpa using this
    have S5 : Hid (RS w0 w_5 g bs (p5) ∧ Within g (g + 1) w w_5 ∧ OwnI w_5 (w1.heap.size) (w_4.heap.size) c (([2]) ++ (zb)) ∧ OwnI w_5 (w_4.heap.size) (w_5.heap.size) q (zq)) := Lib.hid ⟨hr5, (S4.out.2.1).trans hg5, (S4.out.2.2).apart hg5 (by omega), (by simpa using ho5)⟩
    clear S4
    clear ho5 hr5 hg5
    go_wp2_with (at_builtin; (refine wpList_append_V rfl _ _ _ rfl Tryd.underlying22 intInfo (w1.heap.size) (w_4.heap.size) c (([2]) ++ (zb)) rfl (S5.out.2.2.1) (by first | omega | (simp <;> omega)) q (zq) rfl (S5.out.2.2.2).rd (by first | omega | (simp <;> omega)) ?_))
    intro r w_6 ho6 hb6
    have hz6 : w_5.heap.size ≤ w_6.heap.size := by have := hb6.size; simpa using this
    have S6 : Hid (RS w0 w_6 g bs (p5) ∧ Within g (g + 1) w w_6 ∧ OwnI w_6 (w1.heap.size) (w_6.heap.size) r ((([2]) ++ (zb)) ++ (zq))) := Lib.hid ⟨(S5.out.1).below hb6 (by omega), (S5.out.2.1).then_below hb6 (by omega), (by simpa using ho6)⟩
    clear S5
    clear ho6 hb6
    go_wp2_with fail
    go_ret
    exact ⟨r, _, _, rfl, ⟨(S6.out.2.2).own.mono (by omega), fun q hq => by have := (S6.out.2.2).lt q hq; first | omega | (simp; omega)⟩, by first | omega | (simp; done) | (simp; omega), S6.out.1, by omega, S6.out.2.1, (eat_two hf_b hf_q)⟩
  · skip
    go_wp2_with fail
    refine (pick w0 g (p+1) (3) bs _ (X1.out.1) (by omega) (by omega)).mono ?_
    rintro e w_2 ⟨x, rfl, hx0, hx1, hr2, hg2⟩
    have hz2 : w1.heap.size ≤ w_2.heap.size := by have := hg2.size; simpa using this
    have S2 : Hid (RS w0 w_2 g bs (p+1 + 1) ∧ Within g (g + 1) w w_2) := Lib.hid ⟨hr2, (X1.out.2).trans hg2⟩
    clear hr2 hg2
    go_wp2
    go_ret
    exact pv_lit _ w0 w _ g p _ _ _ bs [1, x] S2.out.1 S2.out.2 hs0 (by intro z hz; simp only [List.mem_cons, List.not_mem_nil, or_false] at hz; omega) ⟨by first | omega | (simp; done) | (simp; omega), by omega⟩ (by omega) (eat_any (by omega))
  · skip
    go_wp2_with fail
    refine (pick w0 g (p+1) (3) bs _ (X1.out.1) (by omega) (by omega)).mono ?_
    rintro e w_2 ⟨x, rfl, hx0, hx1, hr2, hg2⟩
    have hz2 : w1.heap.size ≤ w_2.heap.size := by have := hg2.size; simpa using this
    have S2 : Hid (RS w0 w_2 g bs (p+1 + 1) ∧ Within g (g + 1) w w_2) := Lib.hid ⟨hr2, (X1.out.2).trans hg2⟩
    clear hr2 hg2
    go_wp2
    go_ret
    exact pv_lit _ w0 w _ g p _ _ _ bs [1, x] S2.out.1 S2.out.2 hs0 (by intro z hz; simp only [List.mem_cons, List.not_mem_nil, or_false] at hz; omega) ⟨by first | omega | (simp; done) | (simp; omega), by omega⟩ (by omega) (eat_any (by omega))
  · skip
    go_wp2_with fail
    refine (pick w0 g (p+1) (3) bs _ (X1.out.1) (by omega) (by omega)).mono ?_
    rintro e w_2 ⟨x, rfl, hx0, hx1, hr2, hg2⟩
    have hz2 : w1.heap.size ≤ w_2.heap.size := by have := hg2.size; simpa using this
    have S2 : Hid (RS w0 w_2 g bs (p+1 + 1) ∧ Within g (g + 1) w w_2) := Lib.hid ⟨hr2, (X1.out.2).trans hg2⟩
    clear hr2 hg2
    go_wp2
    go_ret
    exact pv_lit _ w0 w _ g p _ _ _ bs [1, x] S2.out.1 S2.out.2 hs0 (by intro z hz; simp only [List.mem_cons, List.not_mem_nil, or_false] at hz; omega) ⟨by first | omega | (simp; done) | (simp; omega), by omega⟩ (by omega) (eat_any (by omega))
set_option maxHeartbeats 4000000 in
theorem rowV_step (m : Nat) (deep : Int) (L C M : Nat) (hm : m ≤ 5) (hL : L ≤ 300) (hC : C ≤ 10000) (hM : M ≤ 700000000000) (hT : TvOk deep L C (M + (10 + (m + 1) * (C + 2)))) : RvOk m deep (2 + m * (L + 1)) (10 + m * (C + 2)) M := by
  intro w0 g p bs w h hp
  have hgw := h.rdr.lt
  show Calls _ _ _ _ (PvPost true w0 g p bs w (2 + m * (L + 1)) (10 + m * (C + 2)))
  have H := Lib.hid h; clear h
  have HT := Lib.hid hT; clear hT
  have hs0 : w0.heap.size ≤ w.heap.size := H.out.size
  go_enter Tryd.func33, Tryd.ntmps33
  go_wp2_with fail
  refine (pick w0 g p 5 bs _ H.out (by omega) (by omega)).mono ?_
  rintro e w1 ⟨x, rfl, hx0, hx1, hr1, hg1⟩
  have hs1 := hg1.size
  obtain ⟨y, hy, hy0, hy1⟩ : ∃ y : Int, x.tdiv 3 = y ∧ 0 ≤ y ∧ y ≤ 1 := ⟨_, rfl, by rw [Int.tdiv_eq_ediv_of_nonneg hx0]; omega, by rw [Int.tdiv_eq_ediv_of_nonneg hx0]; omega⟩
  have hwy : IntKind.i64.wrap y = y := IntWalk.i64_in _ (by omega)
  have hwm : IntKind.i64.wrap ((m : Int) + 1) = (m : Int) + 1 := IntWalk.i64_in _ (by omega)
  have hbl : Below w1.heap.size w1 (w1.alloc (.cells #[.int .i64 3, .int .i64 y] 3)) := (Below.refl _ _).alloc (Nat.le_refl _) _
  have ho1 := lits_own w1 [3, y] (by simp) (by intro z hz; simp only [List.mem_cons, List.not_mem_nil, or_false] at hz; apply wf_near; omega)
  have hzw : (w1.alloc (.cells #[.int .i64 3, .int .i64 y] 3)).heap.size = w1.heap.size + 1 := by simp
  have X1 := Lib.hid (And.intro (hr1.below hbl (by omega)) (And.intro (hg1.trans (Within.of_below hbl)) (show OwnI (w1.alloc (.cells #[.int .i64 3, .int .i64 y] 3)) w1.heap.size (w1.alloc (.cells #[.int .i64 3, .int .i64 y] 3)).heap.size (.slice (some ⟨w1.heap.size, 0, none⟩) 2 2) [3, y] by simpa using ho1))); clear hr1 hg1 H hbl ho1
  go_wp2_with fail
  refine (pick w0 g (p + 1) ((m : Int) + 1) bs _ X1.out.1 (by omega) (by omega)).mono ?_
  rintro e w2 ⟨k, rfl, hk0, hk1, hr2, hg2⟩
  obtain ⟨jx, rfl⟩ := Int.eq_ofNat_of_zero_le hk0
  have hjx : jx ≤ m := by omega
  have hz2 := hg2.size
  have X2 := Lib.hid (And.intro hr2 (And.intro (X1.out.2.1.trans hg2) (show OwnI w2 w1.heap.size w2.heap.size (.slice (some ⟨w1.heap.size, 0, none⟩) 2 2) [3, y] from ⟨(X1.out.2.2.apart hg2 (.inr (by omega))).own, fun q hq => by have := X1.out.2.2.lt q hq; omega⟩))); clear hr2 hg2 X1 hk0 hk1
  have hmul : (m - jx) * (C + 2) + jx * (C + 2) = m * (C + 2) := by rw [← Nat.add_mul]; congr 1; omega
  have hmulL : (m - jx) * (L + 1) + jx * (L + 1) = m * (L + 1) := by rw [← Nat.add_mul]; congr 1; omega
  have HMUL := Lib.hid (And.intro hmul hmulL); clear hmul hmulL
  go_wp2
  go_loopw [7, 8] (fun v k wr => ∃ (j p' : Nat) (zs : List Int), k = .int .i64 j ∧ j ≤ m ∧ w1.heap.size + 1 ≤ wr.heap.size ∧ eat zs.length true zs = some [] ∧ zs.length + j * (L + 1) ≤ 2 + m * (L + 1) ∧ p' + j * (C + 2) ≤ p + 2 + m * (C + 2) ∧ OwnI wr w1.heap.size wr.heap.size v zs ∧ RS w0 wr g bs p' ∧ Within g (g + 1) w wr) (fun _ k _ => (intOf k).toNat)
  case atStart => exact ⟨jx, p + 1 + 1, [3, y], rfl, hjx, by omega, eat_rest (by omega), by have := HMUL.out.2; simp only [List.length_cons, List.length_nil]; have := Nat.zero_le ((m - jx) * (L + 1)); omega, by have := HMUL.out.1; have := Nat.zero_le ((m - jx) * (C + 2)); omega, X2.out.2.2, X2.out.1, X2.out.2.1⟩
  case round =>
    clear X2 HMUL hjx
    obtain ⟨j, p', zs, rfl, hj, hsz, hev, hlz, hpc, hown, hrs, hw⟩ := hrel
    obtain ⟨Av, cv, rfl, _⟩ := hown.rd
    have K := Lib.hid (And.intro hrs (And.intro hw hown)); clear hrs hw hown
    have HEV := Lib.hid hev; clear hev
    have hmC : m * (C + 2) ≤ 60000 := by
      have := Nat.mul_le_mul hm (show C + 2 ≤ 10002 by omega)
      omega
    have hmL : m * (L + 1) ≤ 2000 := by
      have := Nat.mul_le_mul hm (show L + 1 ≤ 301 by omega)
      omega
    rcases j with _ | j
    · go_wp2
      go_ret
      exact ⟨_, zs, p', rfl, ⟨K.out.2.2.own.mono (by omega), K.out.2.2.lt⟩, by omega, K.out.1, by omega, K.out.2.1, HEV.out⟩
    · have hjp : (0 : Int) < ((j + 1 : Nat) : Int) := by omega
      have e1 : (j + 1) * (L + 1) = j * (L + 1) + L + 1 := by rw [Nat.add_mul]; omega
      have e2 : (j + 1) * (C + 2) = j * (C + 2) + C + 2 := by rw [Nat.add_mul]; omega
      have hl3 : zs.length + 1 + L + j * (L + 1) ≤ 2 + m * (L + 1) := by omega
      have hp3 : p' + C + 2 + j * (C + 2) ≤ p + 2 + m * (C + 2) := by omega
      have hmm : (m + 1) * (C + 2) = m * (C + 2) + (C + 2) := by rw [Nat.add_mul]; omega
      have hpb : p' ≤ M + (10 + (m + 1) * (C + 2)) := by omega
      have HPB := Lib.hid hpb
      clear e1 e2 hlz hpc hmm hpb
      have hb2 : Below (wr.heap.size) wr (wr.alloc (.cells #[.int .i64 (4)] 3)) := (Below.refl _ _).alloc (by simp) _
      have ho2 := lits_own wr [4] (by simp) (by intro z hz; simp only [List.mem_cons, List.not_mem_nil, or_false] at hz; apply wf_near; omega)
      have S2 : Hid (RS w0 (wr.alloc (.cells #[.int .i64 (4)] 3)) g bs (p') ∧ Within g (g + 1) w (wr.alloc (.cells #[.int .i64 (4)] 3)) ∧ OwnI (wr.alloc (.cells #[.int .i64 (4)] 3)) (w1.heap.size) (wr.heap.size) (.slice Av zs.length cv) (zs) ∧ OwnI (wr.alloc (.cells #[.int .i64 (4)] 3)) (wr.heap.size) (wr.heap.size + 1) (.slice (some ⟨wr.heap.size, 0, none⟩) 1 1) ([4])) := Lib.hid ⟨(K.out.1).below hb2 (by omega), (K.out.2.1).then_below hb2 (by omega), (K.out.2.2).belowB hb2 (by omega), (by simpa using ho2)⟩
      clear K
      clear hb2 ho2
      go_wp2_with (at_builtin; (refine wpList_append_V rfl _ _ _ rfl Tryd.underlying22 intInfo (wr.heap.size) (wr.heap.size + 1) (.slice (some ⟨wr.heap.size, 0, none⟩) 1 1) ([4]) rfl (S2.out.2.2.2) (by first | omega | (simp <;> omega)) (.slice Av zs.length cv) (zs) rfl (S2.out.2.2.1).rd (by first | omega | (simp <;> omega)) ?_))
      intro c w_3 ho3 hb3
      have hz3 : wr.heap.size + 1 ≤ w_3.heap.size := by have := hb3.size; simpa using this
      have S3 : Hid (RS w0 w_3 g bs (p') ∧ Within g (g + 1) w w_3 ∧ OwnI w_3 (wr.heap.size) (w_3.heap.size) c (([4]) ++ (zs))) := Lib.hid ⟨(S2.out.1).below hb3 (by omega), (S2.out.2.1).then_below hb3 (by omega), (by simpa using ho3)⟩
      clear S2
      clear ho3 hb3
      go_wp2_with fail
      refine (HT.out w0 g (p') bs _ (S3.out.1) HPB.out).mono ?_
      rintro e w_4 ⟨b, zb, p4, rfl, ho4, hl4, hr4, hp4, hg4, hf_b⟩
      have hz4 : w_3.heap.size ≤ w_4.heap.size := by have := hg4.size; simpa using this
      have S4 : Hid (RS w0 w_4 g bs (p4) ∧ Within g (g + 1) w w_4 ∧ OwnI w_4 (wr.heap.size) (w_3.heap.size) c (([4]) ++ (zs)) ∧ OwnI w_4 (w_3.heap.size) (w_4.heap.size) b (zb)) := Lib.hid ⟨hr4, (S3.out.2.1).trans hg4, (S3.out.2.2).apart hg4 (by omega), (by simpa using ho4)⟩
      clear S3
      clear ho4 hr4 hg4
      go_wp2_with (at_builtin; (refine wpList_append_V rfl _ _ _ rfl Tryd.underlying22 intInfo (wr.heap.size) (w_3.heap.size) c (([4]) ++ (zs)) rfl (S4.out.2.2.1) (by first | omega | (simp <;> omega)) b (zb) rfl (S4.out.2.2.2).rd (by first | omega | (simp <;> omega)) ?_))
      intro r w_5 ho5 hb5
      have hz5 : w_4.heap.size ≤ w_5.heap.size := by have := hb5.size; simpa using this
      have S5 : Hid (RS w0 w_5 g bs (p4) ∧ Within g (g + 1) w w_5 ∧ OwnI w_5 (wr.heap.size) (w_5.heap.size) r ((([4]) ++ (zs)) ++ (zb))) := Lib.hid ⟨(S4.out.1).below hb5 (by omega), (S4.out.2.1).then_below hb5 (by omega), (by simpa using ho5)⟩
      clear S4
      clear ho5 hb5
      have HEP := Lib.hid (eat_put HEV.out hf_b)
      clear hf_b
      obtain ⟨Ar, cr, rfl, _⟩ := (S5.out.2.2).rd
      go_wp2
      go_roundw
      case rel => exact ⟨j, p4, ([4] ++ zs ++ zb), by first | rfl | go_num, by omega, by omega, HEP.out, by simp only [List.length_append, List.length_cons, List.length_nil]; omega, by omega, ⟨S5.out.2.2.own.mono (by omega), S5.out.2.2.lt⟩, S5.out.1, S5.out.2.1⟩
      case measure => simp [intOf]
theorem typeV0 (M : Nat) (hM : M ≤ 600000000000) : TvOk 0 2 10 M := by
  have h := typeV_step 0 0 0 M (by omega) (by omega) (by omega) (by omega) (fun h => absurd h (by omega))
  simpa using h
theorem rowV0 (m M : Nat) (hm : m ≤ 5) (hM : M ≤ 500000000000) : RvOk m 0 (2 + m * 3) (10 + m * 12) M := rowV_step m 0 2 10 M hm (by omega) (by omega) (by omega) (typeV0 _ (by have := Nat.mul_le_mul (show m + 1 ≤ 6 by omega) (Nat.le_refl (10 + 2)); omega))
theorem typeV1 (M : Nat) (hM : M ≤ 400000000000) : TvOk 1 18 78 M := by
  have h := typeV_step 1 8 34 M (by omega) (by omega) (by omega) (by omega) (fun _ => (rowV0 2 _ (by omega) (by omega)))
  exact h
theorem rowV1 (m M : Nat) (hm : m ≤ 5) (hM : M ≤ 300000000000) : RvOk m 1 (2 + m * 19) (10 + m * 80) M := rowV_step m 1 18 78 M hm (by omega) (by omega) (by omega) (typeV1 _ (by have := Nat.mul_le_mul (show m + 1 ≤ 6 by omega) (Nat.le_refl (78 + 2)); omega))
theorem typeV2 (M : Nat) (hM : M ≤ 200000000000) : TvOk 2 82 350 M := by
  have h := typeV_step 2 40 170 M (by omega) (by omega) (by omega) (by omega) (fun _ => (rowV1 2 _ (by omega) (by omega)))
  exact h
theorem rowV2 (m M : Nat) (hm : m ≤ 5) (hM : M ≤ 100000000000) : RvOk m 2 (2 + m * 83) (10 + m * 352) M := rowV_step m 2 82 350 M hm (by omega) (by omega) (by omega) (typeV2 _ (by have := Nat.mul_le_mul (show m + 1 ≤ 6 by omega) (Nat.le_refl (350 + 2)); omega))
theorem whole_of {zs : List Int} (h : eat zs.length true zs = some []) (hl : zs.length ≤ 150) (ls : List (Int × Int)) : wholeR zs ls = some (lets zs.length true zs ls) := by
  rw [wholeR, if_pos ⟨hl, h⟩]
end Go.Proofs.YtceekfoacgoalaaDoor
