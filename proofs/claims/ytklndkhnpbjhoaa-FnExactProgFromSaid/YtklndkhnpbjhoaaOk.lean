/- The maker of programs: put and do. -/
import Derived.Test.YtklndkhnpbjhoaaOj
namespace Go.Proofs.Ytklndkhnpbjhoaa
set_option maxRecDepth 100000
open Go.RowKit Go.WideShapes Go.Deep

theorem MkV.there {w : World} {lo g : Nat} {t m : Int} {v : Value} {zs : List Int} (h : MkV w lo g t m v zs) (m' : Int) : MkV (w.setCell ⟨g, 2, none⟩ (.int .i64 m')) lo g t m' v zs ∧ Kp g v v w (w.setCell ⟨g, 2, none⟩ (.int .i64 m')) := by
  refine ⟨⟨h.blk.set 2 _, h.ge, ⟨ownsRow_keep h.row.own fun k hk => Below.heap_setCell _ _ _ _ (by intro e; exact h.ne (by rw [hk]; simp at e; rw [e])), h.row.wf⟩⟩, ?_⟩
  have hb : Below 0 w (w.setCell ⟨g, 2, none⟩ (.int .i64 m')) := (Below.refl 0 w).setCell (Nat.zero_le _) _
  exact ⟨hb.os, hb.tape, hb.output, hb.size, fun k _ hkg _ => Below.heap_setCell _ _ _ _ (by simpa using hkg), fun k hk => .inl hk⟩
theorem placeOfR_eq {t a : Int} {n : Nat} (hk : knownB t n a = true) (hn : ¬ a ≤ 999) (ht : 0 ≤ t ∧ t ≤ 20) (hn2 : n ≤ 60) : (if 3000 ≤ a then t + a - 3000 else a - 2000) = (placeOfR t a : Int) ∧ (placeOfR t a : Int) < t + n ∧ 2000 ≤ a ∧ a ≤ 1000000 := by
  unfold knownB at hk
  rw [decide_eq_true_eq] at hk
  unfold placeOfR
  by_cases h : 3000 ≤ a
  · rw [if_pos h, if_pos h]; omega
  · rw [if_neg h, if_neg h]; omega

theorem lift_at (lo g : Nat) (t m x : Int) (v : Value) (zs : List Int) (n : Nat) (w : World) (h : MkV w lo g t m v zs) (hx : x = (n : Int)) (hn : n ≤ 200) (hl : zs.length ≤ 1000) :
    Calls Try.prog 87 #[.pointer (some ⟨g, 0, none⟩), .int .i64 x] w (MkP lo g t m (liftW zs n) v w) := by
  subst hx; exact lift_any lo g t m v zs n w h hn hl
set_option maxHeartbeats 2000000 in
theorem put_any (lo g : Nat) (t m m1 a : Int) (many n : Nat) (v : Value) (zs : List Int) (w : World) (h : MkV w lo g t m v zs) (ht : 0 ≤ t ∧ t ≤ 20) (hn : n ≤ 60) (hk : knownB t n a = true) (hm : m = many) (hm1 : m + 1 = m1) (hmn : t + n ≤ m) (hm2 : m ≤ 190) (hl : zs.length ≤ 1000) :
    Calls Try.prog 65 #[.pointer (some ⟨g, 0, none⟩), .int .i64 a] w (MkP lo g t m1 (putW t a many zs) v w) := by
  have H := Lib.hid h
  have hg := h.blk.lt
  obtain ⟨c0, c1, c2, f0, f1, f2⟩ := blkThree h.blk
  clear h
  have hb1 : 0 ≤ m1 := by omega
  have hb2 : m1 ≤ 1000 := by omega
  by_cases h0 : a ≤ 999
  · have ha0 : 0 ≤ a := by unfold knownB at hk; rw [decide_eq_true_eq] at hk; omega
    have hq := Lib.hid (show isNumB a = true by simp [isNumB, ha0, h0])
    have HP := Lib.hid (show putW t a many zs = addR zs 0 a by rw [putW, if_pos h0])
    have hza : InK .i64 a := wf_near _ (by omega)
    have HZ := Lib.hid hza
    have HC := Lib.hid (And.intro hm (And.intro hmn hk)); clear hza hm hmn hk ha0 h0
    go_enter Try.func65, Try.ntmps65
    go_wp2_with fail
    refine (isNum_any a _).mono ?_
    rw [hq.out]
    rintro e w' ⟨rfl, rfl⟩
    go_wp2_with fail
    refine (add_any lo g t m v zs 0 a _ H.out HZ.out (by omega) hl).mono ?_
    rintro e w1 ⟨rfl, v1, h1, k1⟩
    have hg1 := h1.blk.lt
    obtain ⟨d0, d1, d2, e0, e1, e2⟩ := blkThree h1.blk
    have X := Lib.hid (And.intro (h1.there m1).1 (k1.trans (h1.there m1).2)); clear h1 k1
    go_wp2
    go_end0
    exact ⟨rfl, v1, by rw [HP.out]; exact X.out.1, X.out.2⟩
  · have hq := Lib.hid (show isNumB a = false by simp [isNumB]; omega)
    obtain ⟨hp, hp2, ha1, ha2⟩ := placeOfR_eq hk h0 ht hn
    have HP := Lib.hid (show putW t a many zs = liftW zs (many - 1 - placeOfR t a) by rw [putW, if_neg h0])
    obtain ⟨q, hqq⟩ : ∃ q, placeOfR t a = q := ⟨_, rfl⟩
    rw [hqq] at hp hp2 HP
    obtain ⟨d, hd0⟩ : ∃ d, many - 1 - q = d := ⟨_, rfl⟩
    rw [hd0] at HP
    have hdd : m - 1 - (q : Int) = (d : Int) := by omega
    have HPL := Lib.hid hp
    have HWR := Lib.hid (show IntKind.i64.wrap (IntKind.i64.wrap (m - 1) - (q : Int)) = (d : Int) by rw [show IntKind.i64.wrap (m - 1) = m - 1 from IntWalk.i64_in _ (by omega), IntWalk.i64_in _ (by omega)]; omega)
    have hd2 : d ≤ 200 := by omega
    have hqb : (0 : Int) ≤ q ∧ (q : Int) ≤ 190 := by omega
    obtain ⟨hqb1, hqb2⟩ := hqb
    have hmb : (0 : Int) ≤ m := by omega
    have hd : Below w.heap.size w w.drew := (Below.refl _ _).drew
    have HD := Lib.hid (And.intro hd (H.out.step hd))
    have HC := Lib.hid (And.intro hm (And.intro hmn (And.intro hk (And.intro hd0 hqq)))); clear hm hmn hk h0 hp hp2 hd0 hqq hd
    go_enter Try.func65, Try.ntmps65
    go_wp2_with fail
    refine (isNum_any a _).mono ?_
    rw [hq.out]
    rintro e w' ⟨rfl, rfl⟩
    go_wp2
    go_region_held3 (fun w' => w'.cell? ⟨g, 1, none⟩ = some (.int .i64 t) ∧ w'.cell? ⟨g, 2, none⟩ = some (.int .i64 m)) (repeat' (first | exact c1 | exact c2 | exact d1 | exact d2 | apply And.intro | rw [World.cell?_drew])) (first
      | (go_at_call 72; refine (placeOf_any a t _ ⟨ha1, ha2⟩ (by omega)).mono ?_; rw [HPL.out]; rintro e w' ⟨rfl, rfl⟩)
      | (go_at_call 87; refine (lift_at lo g t m _ v zs d _ HD.out.2 (by first | exact HWR.out | omega) hd2 hl).mono ?_; rintro e w1 ⟨rfl, v1, h1, k1⟩; have hg1 := h1.blk.lt; obtain ⟨d0, d1, d2, e0, e1, e2⟩ := blkThree h1.blk; have X := Lib.hid (And.intro (h1.there m1).1 (((Kp.of_below HD.out.1).trans k1).trans (h1.there m1).2)); clear h1 k1))
    go_wp2
    go_end0
    exact ⟨rfl, v1, by rw [HP.out]; exact X.out.1, X.out.2⟩

set_option maxHeartbeats 2000000 in
theorem do_any (lo g : Nat) (t m m1 m2 z a a' : Int) (many n : Nat) (v : Value) (zs : List Int) (w : World) (h : MkV w lo g t m v zs) (ht : 0 ≤ t ∧ t ≤ 20) (hn : n ≤ 60) (hk : opOkB t n (z, a, a') = true) (hm : m = many) (hm1 : m + 1 = m1) (hm2 : m1 + 1 = m2) (hmn : t + n ≤ m) (hm3 : m ≤ 180) (hl : zs.length ≤ 1000) :
    Calls Try.prog 64 #[.pointer (some ⟨g, 0, none⟩), .agg #[.int .i64 z, .int .i64 a, .int .i64 a']] w (MkP lo g t m1 (doW t many (z, a, a') zs) v w) := by
  rw [opOkB, Bool.and_eq_true, Bool.and_eq_true, decide_eq_true_eq] at hk
  obtain ⟨hz, ha, ha'⟩ := hk
  dsimp only at hz ha ha'
  have hba : Below w.heap.size w (w.alloc (.cells #[.int .i64 z, .int .i64 a, .int .i64 a'] 55)) := (Below.refl _ _).alloc (Nat.le_refl _) _
  have hob := Blk.new w #[.int .i64 z, .int .i64 a, .int .i64 a'] 55
  have hvl := h.row.ge
  have hg := h.blk.lt
  have H := Lib.hid (And.intro (h.step hba) (And.intro hba (And.intro hob hvl)))
  have HK := Lib.hid (And.intro ha (And.intro ha' (And.intro hm hmn)))
  have hzk : InK .i64 z := wf_near _ (by omega)
  have HZ := Lib.hid hzk
  have hm2' : m2 - 1 = m1 := by omega
  have hb1 : 0 ≤ m1 := by omega
  have hb2 : m1 ≤ 1000 := by omega
  have HM := Lib.hid (And.intro hm1 hm2)
  clear h hba hob hvl ha ha' hm hmn hzk hm1 hm2
  go_enter Try.func64, Try.ntmps64
  go_wp2_with fail
  refine (put_any lo g t m m1 a many n v zs _ H.out.1 ht hn HK.out.1 HK.out.2.2.1 HM.out.1 HK.out.2.2.2 (by omega) hl).mono ?_
  rintro e w1 ⟨rfl, v1, h1, k1⟩
  have hz1 : w.heap.size + 1 ≤ w1.heap.size := by have := k1.size; simpa using this
  have hob1 := (k1.block w.heap.size (by simp) (by omega) (fun e => by have := (H.out.2.2.2 _ e).2; omega)).trans H.out.2.2.1
  obtain ⟨_, _, b2, _, _, _⟩ := blkThree (show Blk w1 w.heap.size _ 55 from hob1)
  have hnb : v1.ownBlock ≠ some w.heap.size := by
    intro e
    rcases k1.own _ e with h | h
    · have := (H.out.2.2.2 _ h).2; omega
    · simp at h; omega
  have HNB := Lib.hid hnb
  have X := Lib.hid (And.intro h1 (And.intro ((Kp.of_below H.out.2.1).trans k1) hob1)); clear h1 k1 hob1 hnb
  go_wp2_with fail
  refine (put_any lo g t m1 m2 a' (many + 1) n v1 _ _ X.out.1 ht hn HK.out.2.1 (by have h1 := HK.out.2.2.1; have h2 := HM.out.1; omega) HM.out.2 (by have h1 := HK.out.2.2.2; have h2 := HM.out.1; omega) (by have h2 := HM.out.1; omega) (putW_len hl (by have h1 := HK.out.2.2.1; omega))).mono ?_
  rintro e w2 ⟨rfl, v2, h2, k2⟩
  have hz2 : w.heap.size + 1 ≤ w2.heap.size := by have := k2.size; omega
  have hob2 := (k2.block w.heap.size (by omega) (by omega) HNB.out).trans X.out.2.2
  obtain ⟨b0, _, _, _, _, _⟩ := blkThree (show Blk w2 w.heap.size _ 55 from hob2)
  have Y := Lib.hid (And.intro h2 (X.out.2.1.trans k2)); clear h2 k2 hob2
  go_wp2_with fail
  refine (add_any lo g t m2 v2 _ 0 z _ Y.out.1 HZ.out (by omega) (putW_len (putW_len hl (by have h1 := HK.out.2.2.1; omega)) (by have h1 := HK.out.2.2.1; omega))).mono ?_
  rintro e w3 ⟨rfl, v3, h3, k3⟩
  have hg3 := h3.blk.lt
  obtain ⟨d0, d1, d2, e0, e1, e2⟩ := blkThree h3.blk
  have Z := Lib.hid (And.intro (h3.there m1).1 ((Y.out.2.trans k3).trans (h3.there m1).2)); clear h3 k3
  have HDW := Lib.hid (show addR (putW t a' (many + 1) (putW t a many zs)) 0 z = doW t many (z, a, a') zs from rfl)
  go_wp2
  go_end0
  exact ⟨rfl, v3, by rw [← HDW.out]; exact Z.out.1, Z.out.2⟩
end Go.Proofs.Ytklndkhnpbjhoaa
