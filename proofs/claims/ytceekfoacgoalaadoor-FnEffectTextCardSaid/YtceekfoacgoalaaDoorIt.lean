/- EffectText of both sides. -/
import Derived.Test.YtceekfoacgoalaaDoorIs
import Derived.Test.YtceekfoacgoalaaDoorNd
namespace Go.Proofs.YtceekfoacgoalaaDoor
set_option maxRecDepth 100000
open Go.RowKit Go.WideShapes Go.Deep
open Lib (decDigits)

/-- The text of the row (true) or type that begins here. -/
def tx : Nat → Bool → List Int → List UInt8
  | 0, _, _ => []
  | n + 1, true, zs => if zs.headD (-1) = 3 then 114 :: decDigits (zs.tail.headD 0).toNat else tx n true zs.tail ++ 32 :: tx n false ((eat n true zs.tail).getD [])
  | n + 1, false, zs => if zs.headD (-1) = 0 then [110] else if zs.headD (-1) = 1 then 116 :: decDigits (zs.tail.headD 0).toNat else 40 :: (tx n true zs.tail ++ ([32, 45, 62, 32] ++ (tx n true ((eat n true zs.tail).getD []) ++ [41])))
theorem tx_ty {T : Ty} {b : Bool} (h : T.ok b) (r : List Int) {n : Nat} (hn : T.nums.length ≤ n) : tx n b (T.nums ++ r) = T.txt := by
  induction T generalizing b r n with
  | num =>
    obtain ⟨n, rfl⟩ : ∃ q, n = q + 1 := ⟨n - 1, by simp [Ty.nums] at hn; omega⟩
    rcases b with _ | _
    · simp [tx, Ty.nums, Ty.txt]
    · cases h
  | any x =>
    obtain ⟨n, rfl⟩ : ∃ q, n = q + 1 := ⟨n - 1, by simp [Ty.nums] at hn; omega⟩
    rcases b with _ | _
    · simp [tx, Ty.nums, Ty.txt]
    · cases h
  | rest x =>
    obtain ⟨n, rfl⟩ : ∃ q, n = q + 1 := ⟨n - 1, by simp [Ty.nums] at hn; omega⟩
    rcases b with _ | _
    · cases h
    · simp [tx, Ty.nums, Ty.txt]
  | prog A B iha ihb =>
    obtain ⟨n, rfl⟩ : ∃ q, n = q + 1 := ⟨n - 1, by simp [Ty.nums] at hn; omega⟩
    rcases b with _ | _
    · obtain ⟨h1, h2⟩ : A.ok true ∧ B.ok true := h
      have hl : A.nums.length + B.nums.length ≤ n := by simp [Ty.nums] at hn; omega
      have e1 := iha h1 (B.nums ++ r) (n := n) (by omega)
      have e2 := ihb h2 r (n := n) (by omega)
      have e3 := ty_eat h1 (B.nums ++ r) (n := n) (by omega)
      simp [tx, Ty.nums, Ty.txt, e1, e2, e3]
    · cases h
  | put A B iha ihb =>
    obtain ⟨n, rfl⟩ : ∃ q, n = q + 1 := ⟨n - 1, by simp [Ty.nums] at hn; omega⟩
    rcases b with _ | _
    · cases h
    · obtain ⟨h1, h2⟩ : A.ok true ∧ B.ok false := h
      have hl : A.nums.length + B.nums.length ≤ n := by simp [Ty.nums] at hn; omega
      have e1 := iha h1 (B.nums ++ r) (n := n) (by omega)
      have e2 := ihb h2 r (n := n) (by omega)
      have e3 := ty_eat h1 (B.nums ++ r) (n := n) (by omega)
      simp [tx, Ty.nums, Ty.txt, e1, e2, e3]
theorem blk_pairT {w : World} {g : Nat} {a b : Value} {T : TypeId} (h : Blk w g #[a, b] T) : w.cell? ⟨g, 0, none⟩ = some a ∧ w.cell? ⟨g, 1, none⟩ = some b ∧ w.frozen? ⟨g, 0, none⟩ = false ∧ w.frozen? ⟨g, 1, none⟩ = false :=
  ⟨h.cell 0, h.cell 1, h.free 0, h.free 1⟩
def effTextR (a b : List Int) : List UInt8 := if effB a b = true then tx a.length true a ++ ([32, 45, 62, 32] ++ tx b.length true b) else []
theorem effText_ty {A B : Ty} (hA : A.ok true) (hB : B.ok true) (h : effB A.nums B.nums = true) : effTextR A.nums B.nums = A.txt ++ ([32, 45, 62, 32] ++ B.txt) := by
  have e1 := tx_ty hA [] (Nat.le_refl _)
  have e2 := tx_ty hB [] (Nat.le_refl _)
  rw [List.append_nil] at e1 e2
  rw [effTextR, if_pos h, e1, e2]
set_option maxHeartbeats 1000000 in
theorem EffectText_I (v0 v1 : Value) (a b : List Int) (w : World) (h0 : RdI w v0 a) (h1 : RdI w v1 b) (hp : Pow w) (t : List UInt8) (hR : effTextR a b = t) :
    Calls Tryd.prog 8 #[.agg #[v0, v1]] w fun e w' => e = .returned (.string ⟨t.toArray⟩) ∧ Below w.heap.size w w' := by
  have hal : Below w.heap.size w (w.alloc (.cells #[v0, v1] 27)) := (Below.refl _ _).alloc (Nat.le_refl _) _
  rcases he : effB a b with _ | _
  · obtain rfl : [] = t := by rw [← hR, effTextR, if_neg (by rw [he]; simp)]
    have S0 := Lib.hid (And.intro (h0.step hal) (And.intro (h1.step hal) hal)); clear hal hR hp
    obtain ⟨A0, c0, rfl, _⟩ := h0
    obtain ⟨A1, c1, rfl, _⟩ := h1
    have He := Lib.hid he; clear he
    go_enter Tryd.func8, Tryd.ntmps8
    go_wp2_with fail
    refine (readEffect_any _ _ a b _ S0.out.1 S0.out.2.1).mono ?_
    rintro e w1 ⟨p, q, A, n, c, he, hb⟩
    rw [He.out] at he
    subst he
    have hs1 : w.heap.size + 1 ≤ w1.heap.size := by have := hb.size; simpa using this
    have X := Lib.hid ((S0.out.2.2.trans (hb.mono (by simp))).alloc (by omega) (.cells #[.pointer p, .pointer q, .slice A n c] 42)); clear hb S0
    go_wp2
    go_ret
    exact ⟨rfl, X.out⟩
  · obtain ⟨A, B, hA, hB, rfl, rfl, la, lb, hN⟩ := eff_ty he
    have ht := effText_ty hA hB he
    rw [hR] at ht
    have HT := Lib.hid ht
    have t1 := txt_len hA
    have t2 := txt_len hB
    have S0 := Lib.hid (And.intro (h0.step hal) (And.intro (h1.step hal) (And.intro hal (hp.below hal)))); clear hal hR hp he ht
    have HO := Lib.hid (And.intro hA (And.intro hB hN)); clear hA hB hN
    obtain ⟨A0, c0, rfl, _⟩ := h0
    obtain ⟨A1, c1, rfl, _⟩ := h1
    go_enter Tryd.func8, Tryd.ntmps8
    go_wp2_with fail
    refine (readEffect_ty _ _ A B _ S0.out.1 S0.out.2.1 HO.out.1 HO.out.2.1 la lb HO.out.2.2).mono ?_
    rintro e w1 ⟨p, q, v, M, rfl, ⟨x, n, c, rfl⟩, h2, hb⟩
    have hs1 : w.heap.size + 1 ≤ w1.heap.size := by have := hb.size; simpa using this
    have ha : Below w1.heap.size w1 (w1.alloc (.cells #[.pointer p, .pointer q, .slice x n c] 42)) := (Below.refl _ _).alloc (Nat.le_refl _) _
    have X := Lib.hid (And.intro (h2.step ha) (And.intro ((S0.out.2.2.1.trans (hb.mono (by simp))).trans (ha.mono (by omega))) ((S0.out.2.2.2.below hb).below ha))); clear hb S0 ha h2
    go_wp2_with fail
    refine (rows_text A B p q _ (by omega) (text_ty A true p _ HO.out.1 X.out.1.txa X.out.2.2 (by omega)) fun Y hY => text_ty B true q Y HO.out.2.1 (X.out.1.txb.step hY) (X.out.2.2.below hY) (by omega)).mono ?_
    rw [← HT.out]
    rintro e w2 ⟨rfl, hb⟩
    have Z := Lib.hid (X.out.2.1.trans (hb.mono (by simp; omega))); clear hb X
    go_wp2
    go_ret
    exact ⟨rfl, Z.out⟩
theorem int_sizeT (W : World) : (sizeOf (Tryd.prog.elem 22)).run Tryd.prog W = .ok 1 W := by
  have h : (Tryd.prog.info? (Tryd.prog.elem 22)).map (·.size) = some 1 := by kernel_rfl
  obtain ⟨i, hi, hs⟩ := Option.map_eq_some_iff.1 h
  simp [sizeOf, typeInfo, hi, hs]
theorem cut_mid (A : Option Addr) (n c : Nat) (m : Nat) (h1 : 1 ≤ m) (hk : m ≤ c) (W : World) : (Instr.slice 22 (.slice A n c) (some (.int .i64 1)) (some (.int .i64 (m : Int))) none).run Tryd.prog W = .ok (sliced A 1 m c 1) W := by
  rw [run_slice_lh W 22 A n c (by kernel_rfl) .i64 .i64 1 m (by omega) (by omega) (by omega), int_sizeT]; rfl
theorem cut_from (A : Option Addr) (n c : Nat) (m : Nat) (hk : m ≤ n) (W : World) : (Instr.slice 22 (.slice A n c) (some (.int .i64 (m : Int))) none none).run Tryd.prog W = .ok (sliced A m n c 1) W := by
  rw [run_slice_l W 22 A n c (by kernel_rfl) .i64 (m : Int) (by omega) (by omega), int_sizeT]; rfl
theorem ints_part {w : World} {A : Option Addr} {c : Nat} {z : Int} {xs ys : List Int} (h : RdI w (.slice A (z :: (xs ++ ys)).length c) (z :: (xs ++ ys))) (hx : xs ≠ []) (hy : ys ≠ []) : RdI w (sliced A 1 (1 + xs.length) c 1) xs ∧ RdI w (sliced A (1 + xs.length) (z :: (xs ++ ys)).length c 1) ys := by
  obtain ⟨A', c', e, hi, hc⟩ := h
  cases e
  have hx0 : 0 < xs.length := List.length_pos_iff.2 hx
  have hy0 : 0 < ys.length := List.length_pos_iff.2 hy
  have hl : (z :: (xs ++ ys)).length = 1 + xs.length + ys.length := by simp; omega
  obtain ⟨b, off, rfl, hb, hcc⟩ := hi.at_ (by omega)
  have hm := hi.len
  constructor
  · refine ⟨(some ⟨b, off, none⟩ : Option Addr).map (·.add (1 * 1)), c - 1, ?_, ⟨by omega, fun y hy => hi.wf y (by simp [hy]), fun _ => ⟨b, off + 1, ?_, hb, fun j hj => ?_⟩⟩, by omega⟩
    · unfold sliced; rw [if_neg (by omega)]; congr 1; omega
    · show some ((⟨b, off, none⟩ : Addr).add (1 * 1)) = _
      rw [add_plain]
    · have := hcc (j + 1) (by omega)
      rw [show off + 1 + j = off + (j + 1) by omega, this]
      simp [List.getD, List.getElem?_append_left hj]
  · refine ⟨(some ⟨b, off, none⟩ : Option Addr).map (·.add ((1 + xs.length) * 1)), c - (1 + xs.length), ?_, ⟨by omega, fun y hy => hi.wf y (by simp [hy]), fun _ => ⟨b, off + (1 + xs.length), ?_, hb, fun j hj => ?_⟩⟩, by omega⟩
    · unfold sliced; rw [if_neg (by omega)]; congr 1; omega
    · show some ((⟨b, off, none⟩ : Addr).add ((1 + xs.length) * 1)) = _
      rw [add_plain, Nat.mul_one]
    · have := hcc (xs.length + 1 + j) (by omega)
      rw [show off + (1 + xs.length) + j = off + (xs.length + 1 + j) by omega, this]
      congr 2
      rw [show xs.length + 1 + j = (xs.length + j) + 1 by omega]
      simp only [List.getD, List.getElem?_cons_succ]
      rw [List.getElem?_append_right (by omega), show xs.length + j - xs.length = j by omega]
theorem end_two (z : Int) {S T : Ty} (hS : S.ok true) : endAt (z :: (S.nums ++ T.nums)).length true (z :: (S.nums ++ T.nums)) 1 = ((1 + S.nums.length : Nat) : Int) := by
  have h : eat (S.nums.length) true ((z :: (S.nums ++ T.nums)).drop 1) = some T.nums := ty_eat hS T.nums (Nat.le_refl _)
  rw [(end_ok h).1]
  congr 1
  simp; omega
set_option maxHeartbeats 2000000 in
theorem l3Text_ty (T : Ty) (b : Bool) (v : Value) (w : World) (hok : T.ok b) (h : RdI w v T.nums) (hl : T.nums.length ≤ 1000) : Calls Tryd.prog 16 #[v, .bool b] w (TextPost T w) := by
  induction T generalizing b v w with
  | num =>
    obtain ⟨A, c, rfl, hi, _⟩ := h
    obtain ⟨d, off, rfl, hb, hcc⟩ := hi.at_ (by simp [Ty.nums])
    have c0 : w.cell? ⟨d, off, none⟩ = some (.int .i64 0) := hcc 0 (by simp [Ty.nums])
    clear hi hcc hok
    show Calls Tryd.prog 16 #[.slice (some ⟨d, off, none⟩) 1 c, .bool b] w _
    go_enter Tryd.func16, Tryd.ntmps16
    go_wp2
    go_ret
    exact ⟨rfl, Below.refl _ _⟩
  | any n =>
    have hn : 0 ≤ n ∧ n ≤ 999 := by cases b with | false => exact hok | true => cases hok
    obtain ⟨A, c, rfl, hi, _⟩ := h
    obtain ⟨d, off, rfl, hb, hcc⟩ := hi.at_ (by simp [Ty.nums])
    have c0 : w.cell? ⟨d, off, none⟩ = some (.int .i64 1) := hcc 0 (by simp [Ty.nums])
    have c1 : w.cell? ⟨d, off + 1, none⟩ = some (.int .i64 n) := hcc 1 (by simp [Ty.nums])
    obtain ⟨k, rfl⟩ := Int.eq_ofNat_of_zero_le hn.1
    have e1 := add_ll [116] (decDigits k) (by have := (dec_len (n := k) (by omega)).2; simp; omega)
    clear hi hcc hok
    show Calls Tryd.prog 16 #[.slice (some ⟨d, off, none⟩) 2 c, .bool b] w _
    go_enter Tryd.func16, Tryd.ntmps16
    go_wp2_with fail
    refine (l1Number_any k _ (by omega)).mono ?_
    rintro e w1 ⟨rfl, hb⟩
    have B := Lib.hid hb; clear hb
    go_wp2
    go_ret
    exact ⟨rfl, B.out⟩
  | rest n =>
    have hn : 0 ≤ n ∧ n ≤ 999 := by cases b with | false => cases hok | true => exact hok
    obtain ⟨A, c, rfl, hi, _⟩ := h
    obtain ⟨d, off, rfl, hb, hcc⟩ := hi.at_ (by simp [Ty.nums])
    have c0 : w.cell? ⟨d, off, none⟩ = some (.int .i64 3) := hcc 0 (by simp [Ty.nums])
    have c1 : w.cell? ⟨d, off + 1, none⟩ = some (.int .i64 n) := hcc 1 (by simp [Ty.nums])
    obtain ⟨k, rfl⟩ := Int.eq_ofNat_of_zero_le hn.1
    have e1 := add_ll [114] (decDigits k) (by have := (dec_len (n := k) (by omega)).2; simp; omega)
    clear hi hcc hok
    show Calls Tryd.prog 16 #[.slice (some ⟨d, off, none⟩) 2 c, .bool b] w _
    go_enter Tryd.func16, Tryd.ntmps16
    go_wp2_with fail
    refine (l1Number_any k _ (by omega)).mono ?_
    rintro e w1 ⟨rfl, hb⟩
    have B := Lib.hid hb; clear hb
    go_wp2
    go_ret
    exact ⟨rfl, B.out⟩
  | prog S T ihs iht =>
    obtain ⟨hS, hT2⟩ : S.ok true ∧ T.ok true := by cases b with | false => exact hok | true => cases hok
    obtain rfl : b = false := by cases b with | false => rfl | true => cases hok
    have hll : S.nums.length + T.nums.length ≤ 999 := by simp [Ty.nums] at hl; omega
    have t1 := txt_len hS
    have t2 := txt_len hT2
    have hs0 := nums_pos S
    have ht0 := nums_pos T
    have h : RdI w v (2 :: (S.nums ++ T.nums)) := h
    have hE := Lib.hid (And.intro (end_two (T := T) 2 hS) h)
    obtain ⟨A, c, rfl, hi, hcl⟩ := h
    obtain ⟨d, off, rfl, hb, hcc⟩ := hi.at_ (by simp)
    have c0 : w.cell? ⟨d, off, none⟩ = some (.int .i64 2) := hcc 0 (by simp)
    obtain ⟨p1, p2⟩ := ints_part (z := 2) (xs := S.nums) (ys := T.nums) hE.out.2 (by intro h; rw [h] at hs0; simp at hs0) (by intro h; rw [h] at ht0; simp at ht0)
    obtain ⟨L, hL⟩ : ∃ L, (2 :: (S.nums ++ T.nums)).length = L := ⟨_, rfl⟩
    have hLs : L = S.nums.length + T.nums.length + 1 := by rw [← hL]; simp
    obtain ⟨m, hm⟩ : ∃ m, 1 + S.nums.length = m := ⟨_, rfl⟩
    obtain ⟨v1, hv1⟩ : ∃ v, sliced (some ⟨d, off, none⟩) 1 m c 1 = v := ⟨_, rfl⟩
    obtain ⟨v2, hv2⟩ : ∃ v, sliced (some ⟨d, off, none⟩) m L c 1 = v := ⟨_, rfl⟩
    have hcl2 : L ≤ c := by rw [← hL]; exact hcl
    rw [hm, hv1] at p1
    rw [hm, hL, hv2] at p2
    have hsl1 : ∀ W, (Instr.slice 22 (.slice (some ⟨d, off, none⟩) L c) (some (.int .i64 1)) (some (.int .i64 (m : Int))) none).run Tryd.prog W = .ok v1 W := fun W => by rw [← hv1]; exact cut_mid _ _ _ _ (by omega) (by omega) W
    have hsl2 : ∀ W, (Instr.slice 22 (.slice (some ⟨d, off, none⟩) L c) (some (.int .i64 (m : Int))) none none).run Tryd.prog W = .ok v2 W := fun W => by rw [← hv2]; exact cut_from _ _ _ _ (by omega) W
    have H1 : Hid (∀ X, Below w.heap.size w X → Calls Tryd.prog 16 #[v1, .bool true] X (TextPost S X)) := Lib.hid fun X hX => ihs true v1 X hS (p1.step hX) (by omega)
    have H2 : Hid (∀ X, Below w.heap.size w X → Calls Tryd.prog 16 #[v2, .bool true] X (TextPost T X)) := Lib.hid fun X hX => iht true v2 X hT2 (p2.step hX) (by omega)
    obtain ⟨m1, hm1⟩ : ∃ m, [40] ++ S.txt = m := ⟨_, rfl⟩
    obtain ⟨m2, hm2⟩ : ∃ m, m1 ++ [32, 45, 62, 32] = m := ⟨_, rfl⟩
    obtain ⟨m3, hm3⟩ : ∃ m, m2 ++ T.txt = m := ⟨_, rfl⟩
    obtain ⟨m4, hm4⟩ : ∃ m, m3 ++ [41] = m := ⟨_, rfl⟩
    have l1 : m1.length = S.txt.length + 1 := by rw [← hm1]; first | (simp; done) | (simp; omega)
    have l2 : m2.length = S.txt.length + 5 := by rw [← hm2]; first | (simp; done) | (simp; omega)
    have l3 : m3.length = S.txt.length + T.txt.length + 5 := by rw [← hm3]; first | (simp; done) | (simp; omega)
    have e1 := add_ll [40] S.txt (by simp; omega)
    have e2 := add_ll m1 [32, 45, 62, 32] (by simp; omega)
    have e3 := add_ll m2 T.txt (by omega)
    have e4 := add_ll m3 [41] (by simp; omega)
    rw [hm1] at e1
    rw [hm2] at e2
    rw [hm3] at e3
    rw [hm4] at e4
    have hfin : Hid (m4 = (Ty.prog S T).txt) := Lib.hid (by rw [← hm4, ← hm3, ← hm2, ← hm1]; simp [Ty.txt])
    have hend := l3End_any (2 :: (S.nums ++ T.nums)).length _ true 1 _ w hE.out.2 (by rw [hL]; omega) (by omega) (by rw [hL]; omega)
    rw [hE.out.1, hm] at hend
    have hEnd : Hid (Calls Tryd.prog 29 #[.slice (some ⟨d, off, none⟩) L c, .int .i64 1, .bool true] w fun e w' => e = .returned (.int .i64 m) ∧ w = w') := Lib.hid (by rw [← hL]; exact hend)
    rw [hL]
    have hL0 : 0 < L := by omega
    have hL0I : (0 : Int) < (L : Int) := by omega
    have bD : Below w.heap.size w w.drew := (Below.refl _ _).drew
    clear ihs iht hS hT2 hok hi hcc hE p1 p2 hv1 hv2 hm1 hm2 hm3 hm4 hend hL hm t1 t2 l1 l2 l3 hLs hll hl
    go_enter Tryd.func16, Tryd.ntmps16
    go_wp2_with fail
    refine hEnd.out.mono ?_
    rintro e w' ⟨rfl, rfl⟩
    clear hEnd
    go_wp2
    go_region_held3 (fun w' => w'.cell? ⟨d, off, none⟩ = some (.int .i64 2)) (repeat' (first | with_reducible exact c0 | with_reducible exact l0 | apply And.intro | rw [World.cell?_drew])) (first
      | (have h9 := F1; clear h9; go_at_call 16; refine (H2.out _ F1.out).mono ?_; rintro e w2 ⟨rfl, hb2⟩; have b9 : Below w.heap.size w w2 := F1.out.trans (hb2.mono F1.out.size); clear l0; have l0 := (b9.cell (p := ⟨d, off, none⟩) hb).trans c0; have B := Lib.hid b9; clear hb2 b9)
      | (go_at_call 16; refine (H1.out _ (by first | exact bD | exact Below.refl _ _)).mono ?_; rintro e w1 ⟨rfl, hb1⟩; have b9 : Below w.heap.size w w1 := (by first | exact bD.trans hb1 | exact hb1); have l0 := (b9.cell (p := ⟨d, off, none⟩) hb).trans c0; have F1 := Lib.hid b9; clear hb1 b9)
      | fail)
    go_wp2
    go_ret
    exact ⟨congrArg (fun l : List UInt8 => Ending.returned (.string ⟨l.toArray⟩)) hfin.out, B.out⟩
  | put S T ihs iht =>
    obtain ⟨hS, hT2⟩ : S.ok true ∧ T.ok false := by cases b with | false => cases hok | true => exact hok
    obtain rfl : b = true := by cases b with | false => cases hok | true => rfl
    have hll : S.nums.length + T.nums.length ≤ 999 := by simp [Ty.nums] at hl; omega
    have t1 := txt_len hS
    have t2 := txt_len hT2
    have hs0 := nums_pos S
    have ht0 := nums_pos T
    have h : RdI w v (4 :: (S.nums ++ T.nums)) := h
    have hE := Lib.hid (And.intro (end_two (T := T) 4 hS) h)
    obtain ⟨A, c, rfl, hi, hcl⟩ := h
    obtain ⟨d, off, rfl, hb, hcc⟩ := hi.at_ (by simp)
    have c0 : w.cell? ⟨d, off, none⟩ = some (.int .i64 4) := hcc 0 (by simp)
    obtain ⟨p1, p2⟩ := ints_part (z := 4) (xs := S.nums) (ys := T.nums) hE.out.2 (by intro h; rw [h] at hs0; simp at hs0) (by intro h; rw [h] at ht0; simp at ht0)
    obtain ⟨L, hL⟩ : ∃ L, (4 :: (S.nums ++ T.nums)).length = L := ⟨_, rfl⟩
    have hLs : L = S.nums.length + T.nums.length + 1 := by rw [← hL]; simp
    obtain ⟨m, hm⟩ : ∃ m, 1 + S.nums.length = m := ⟨_, rfl⟩
    obtain ⟨v1, hv1⟩ : ∃ v, sliced (some ⟨d, off, none⟩) 1 m c 1 = v := ⟨_, rfl⟩
    obtain ⟨v2, hv2⟩ : ∃ v, sliced (some ⟨d, off, none⟩) m L c 1 = v := ⟨_, rfl⟩
    have hcl2 : L ≤ c := by rw [← hL]; exact hcl
    rw [hm, hv1] at p1
    rw [hm, hL, hv2] at p2
    have hsl1 : ∀ W, (Instr.slice 22 (.slice (some ⟨d, off, none⟩) L c) (some (.int .i64 1)) (some (.int .i64 (m : Int))) none).run Tryd.prog W = .ok v1 W := fun W => by rw [← hv1]; exact cut_mid _ _ _ _ (by omega) (by omega) W
    have hsl2 : ∀ W, (Instr.slice 22 (.slice (some ⟨d, off, none⟩) L c) (some (.int .i64 (m : Int))) none none).run Tryd.prog W = .ok v2 W := fun W => by rw [← hv2]; exact cut_from _ _ _ _ (by omega) W
    have H1 : Hid (∀ X, Below w.heap.size w X → Calls Tryd.prog 16 #[v1, .bool true] X (TextPost S X)) := Lib.hid fun X hX => ihs true v1 X hS (p1.step hX) (by omega)
    have H2 : Hid (∀ X, Below w.heap.size w X → Calls Tryd.prog 16 #[v2, .bool false] X (TextPost T X)) := Lib.hid fun X hX => iht false v2 X hT2 (p2.step hX) (by omega)
    obtain ⟨m1, hm1⟩ : ∃ m, S.txt ++ [32] = m := ⟨_, rfl⟩
    obtain ⟨m2, hm2⟩ : ∃ m, m1 ++ T.txt = m := ⟨_, rfl⟩
    have l1 : m1.length = S.txt.length + 1 := by rw [← hm1]; first | (simp; done) | (simp; omega)
    have e1 := add_ll S.txt [32] (by simp; omega)
    have e2 := add_ll m1 T.txt (by omega)
    rw [hm1] at e1
    rw [hm2] at e2
    have hfin : Hid (m2 = (Ty.put S T).txt) := Lib.hid (by rw [← hm2, ← hm1]; simp [Ty.txt])
    have hend := l3End_any (4 :: (S.nums ++ T.nums)).length _ true 1 _ w hE.out.2 (by rw [hL]; omega) (by omega) (by rw [hL]; omega)
    rw [hE.out.1, hm] at hend
    have hEnd : Hid (Calls Tryd.prog 29 #[.slice (some ⟨d, off, none⟩) L c, .int .i64 1, .bool true] w fun e w' => e = .returned (.int .i64 m) ∧ w = w') := Lib.hid (by rw [← hL]; exact hend)
    rw [hL]
    have hL0 : 0 < L := by omega
    have hL0I : (0 : Int) < (L : Int) := by omega
    have bD : Below w.heap.size w w.drew := (Below.refl _ _).drew
    clear ihs iht hS hT2 hok hi hcc hE p1 p2 hv1 hv2 hm1 hm2 hend hL hm t1 t2 l1 hLs hll hl
    go_enter Tryd.func16, Tryd.ntmps16
    go_wp2_with fail
    refine hEnd.out.mono ?_
    rintro e w' ⟨rfl, rfl⟩
    clear hEnd
    go_wp2
    go_region_held3 (fun w' => w'.cell? ⟨d, off, none⟩ = some (.int .i64 4)) (repeat' (first | with_reducible exact c0 | with_reducible exact l0 | apply And.intro | rw [World.cell?_drew])) (first
      | (have h9 := F1; clear h9; go_at_call 16; refine (H2.out _ F1.out).mono ?_; rintro e w2 ⟨rfl, hb2⟩; have b9 : Below w.heap.size w w2 := F1.out.trans (hb2.mono F1.out.size); clear l0; have l0 := (b9.cell (p := ⟨d, off, none⟩) hb).trans c0; have B := Lib.hid b9; clear hb2 b9)
      | (go_at_call 16; refine (H1.out _ (by first | exact bD | exact Below.refl _ _)).mono ?_; rintro e w1 ⟨rfl, hb1⟩; have b9 : Below w.heap.size w w1 := (by first | exact bD.trans hb1 | exact hb1); have l0 := (b9.cell (p := ⟨d, off, none⟩) hb).trans c0; have F1 := Lib.hid b9; clear hb1 b9)
      | fail)
    go_wp2
    go_ret
    exact ⟨congrArg (fun l : List UInt8 => Ending.returned (.string ⟨l.toArray⟩)) hfin.out, B.out⟩
set_option maxHeartbeats 2000000 in
theorem EffectText_S (v0 v1 : Value) (a b : List Int) (w : World) (h0 : RdI w v0 a) (h1 : RdI w v1 b) (hl0 : a.length ≤ 1048576) (hl1 : b.length ≤ 1048576) (t : List UInt8) (hR : effTextR a b = t) :
    Calls Tryd.prog 6 #[.agg #[v0, v1]] w fun e w' => e = .returned (.string ⟨t.toArray⟩) ∧ Below w.heap.size w w' := by
  have hal : Below w.heap.size w (w.alloc (.cells #[v0, v1] 27)) := (Below.refl _ _).alloc (Nat.le_refl _) _
  have bp := Blk.new w #[v0, v1] 27
  have S0 := Lib.hid (And.intro (h0.step hal) (And.intro (h1.step hal) (And.intro hal bp))); clear hal bp
  obtain ⟨A0, c0, rfl, _⟩ := h0
  obtain ⟨A1, c1, rfl, _⟩ := h1
  rcases he : effB a b with _ | _
  · obtain rfl : [] = t := by rw [← hR, effTextR, if_neg (by rw [he]; simp)]
    have He := Lib.hid he; clear he hR
    obtain ⟨g0, g1, _, _⟩ := blk_pairT S0.out.2.2.2
    go_enter Tryd.func6, Tryd.ntmps6
    go_wp2_with fail
    refine (EffectOk_S _ _ a b _ S0.out.1 S0.out.2.1 hl0 hl1 false He.out).mono ?_
    rintro e w1 ⟨rfl, hb⟩
    have X := Lib.hid (S0.out.2.2.1.trans (hb.mono (by simp))); clear hb S0
    go_wp2
    go_ret
    exact ⟨rfl, X.out⟩
  · have He := Lib.hid he
    obtain ⟨A, B, hA, hB, ha, hb, la, lb, _⟩ := eff_ty he
    have ht : A.txt ++ ([32, 45, 62, 32] ++ B.txt) = t := by rw [← hR, ha, hb]; rw [ha, hb] at he; exact (effText_ty hA hB he).symm
    have t1 := txt_len hA
    have t2 := txt_len hB
    obtain ⟨m1, hm1⟩ : ∃ m, A.txt ++ [32, 45, 62, 32] = m := ⟨_, rfl⟩
    have l1 : m1.length = A.txt.length + 4 := by rw [← hm1]; simp
    have e1 := add_ll A.txt [32, 45, 62, 32] (by simp; omega)
    rw [hm1] at e1
    have e2 := add_ll m1 B.txt (by omega)
    have e3 : m1 ++ B.txt = t := by rw [← ht, ← hm1, List.append_assoc]
    rw [e3] at e2
    have HAB := Lib.hid (And.intro ha hb)
    clear e3 hm1 ht l1 t1 t2 hR he ha hb
    obtain ⟨g0, g1, _, _⟩ := blk_pairT S0.out.2.2.2
    go_enter Tryd.func6, Tryd.ntmps6
    go_wp2_with fail
    refine (EffectOk_S _ _ a b _ S0.out.1 S0.out.2.1 hl0 hl1 true He.out).mono ?_
    rintro e w1 ⟨rfl, hb9⟩
    have hs1 : w.heap.size + 1 ≤ w1.heap.size := by have := hb9.size; simpa using this
    have k1 := S0.out.2.2.2.below hb9 (by simp)
    have X := Lib.hid (And.intro (S0.out.1.step hb9) (And.intro (S0.out.2.1.step hb9) (S0.out.2.2.1.trans (hb9.mono (by simp))))); clear hb9 S0
    clear g0 g1
    obtain ⟨g0, g1, _, _⟩ := blk_pairT k1
    have hk := k1.lt
    have HA := Lib.hid (show RdI w1 (.slice A0 a.length c0) A.nums by rw [← HAB.out.1]; exact X.out.1)
    have HB := Lib.hid (show RdI w1 (.slice A1 b.length c1) B.nums by rw [← HAB.out.2]; exact X.out.2.1)
    have H1 : Hid (∀ Y, Below w1.heap.size w1 Y → Calls Tryd.prog 16 #[.slice A0 a.length c0, .bool true] Y (TextPost A Y)) := Lib.hid fun Y hY => l3Text_ty A true _ Y hA (HA.out.step hY) (by omega)
    have H2 : Hid (∀ Y, Below w1.heap.size w1 Y → Calls Tryd.prog 16 #[.slice A1 b.length c1, .bool true] Y (TextPost B Y)) := Lib.hid fun Y hY => l3Text_ty B true _ Y hB (HB.out.step hY) (by omega)
    have bD : Below w1.heap.size w1 w1.drew := (Below.refl _ _).drew
    clear HA HB hA hB HAB He k1 la lb
    go_wp2
    go_region_held3 (fun w' => w'.cell? ⟨w.heap.size, 0, none⟩ = some (.slice A0 a.length c0) ∧ w'.cell? ⟨w.heap.size, 1, none⟩ = some (.slice A1 b.length c1)) (repeat' (first | with_reducible exact g0 | with_reducible exact g1 | with_reducible exact l0 | with_reducible exact l1 | apply And.intro | rw [World.cell?_drew])) (first
      | (have h9 := F1; clear h9; go_at_call 16; refine (H2.out _ F1.out).mono ?_; rintro e w3 ⟨rfl, hb2⟩; have b9 : Below w1.heap.size w1 w3 := F1.out.trans (hb2.mono F1.out.size); clear l0 l1; have l0 := (b9.cell (p := ⟨w.heap.size, 0, none⟩) hk).trans g0; have l1 := (b9.cell (p := ⟨w.heap.size, 1, none⟩) hk).trans g1; have B := Lib.hid b9; clear hb2 b9)
      | (go_at_call 16; refine (H1.out _ (by first | exact bD | exact Below.refl _ _)).mono ?_; rintro e w2 ⟨rfl, hb1⟩; have b9 : Below w1.heap.size w1 w2 := (by first | exact bD.trans hb1 | exact hb1); have l0 := (b9.cell (p := ⟨w.heap.size, 0, none⟩) hk).trans g0; have l1 := (b9.cell (p := ⟨w.heap.size, 1, none⟩) hk).trans g1; have F1 := Lib.hid b9; clear hb1 b9)
      | fail)
    have B9 := Lib.hid (X.out.2.2.trans (B.out.mono (by omega)))
    go_wp2
    go_ret
    exact ⟨rfl, B9.out⟩
end Go.Proofs.YtceekfoacgoalaaDoor
