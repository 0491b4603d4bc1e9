/- The program's reader of effects: the terms that it makes of both rows. -/
import Derived.Test.YtceekfoacgoalaaIq
namespace Go.Proofs.Ytceekfoacgoalaa
set_option maxRecDepth 100000
open Go.RowKit Go.WideShapes

theorem RTy.set0 {w : World} {lo g : Nat} {rv lv v : Value} {us : List Value} {rest zs : List Int} {ls : List (Int × Int)} (h : RTy w lo g rv lv us rest ls) (hv : RdBI w lo v zs) : RTy (w.setCell ⟨g, 0, none⟩ v) lo g v lv us zs ls ∧ Mov lo g w (w.setCell ⟨g, 0, none⟩ v) lv lv us us ls ls := by
  have hge := h.rd.ge
  have hB : Below lo w (w.setCell ⟨g, 0, none⟩ v) := (Below.refl lo w).setCell (by simpa using hge) _
  have hk : ∀ k, k ≠ g → (w.setCell ⟨g, 0, none⟩ v).heap[k]? = w.heap[k]? := fun k hne => Below.heap_setCell _ _ _ _ (by simpa using hne)
  exact ⟨⟨h.rd.keep (fun k _ hne => hk k hne) (h.rd.blk.set 0 _) (hv.below hB), fun kn q hq => ⟨(h.lb kn q hq).1, (hk q (h.av (h.lb kn q hq).2).1).trans (h.lb kn q hq).2⟩⟩, hB, fun k _ ha => hk k ha.1, fun _ _ ha => ha, ⟨[], by simp⟩, ⟨[], by simp⟩⟩
theorem whole_ty (lo g : Nat) (v rv lv : Value) (us : List Value) (T : Ty) (rest : List Int) (ls : List (Int × Int)) (w : World) (h : RTy w lo g rv lv us rest ls) (hv : RdBI w lo v T.nums) (hl : ls.length ≤ 900000) (hok : T.ok true) (h150 : T.nums.length ≤ 150) :
    Calls Try.prog 35 #[.pointer (some ⟨g, 0, none⟩), v] w (TyPost T lo g lv us [] ls w) := by
  have c0 := h.rd.blk.cell 0
  have f0 := h.rd.blk.free 0
  simp only [List.getElem?_toArray, List.getElem?_cons_zero] at c0
  have X := Lib.hid (h.set0 hv)
  obtain ⟨A, c, rfl, _⟩ := hv
  clear h
  have h150b : ¬ ((150 : Int) < T.nums.length) := by omega
  have HT := Lib.hid hok; clear hok
  go_enter Try.func35, Try.ntmps35
  go_wp2_with fail
  refine ((row_ty lo g T).1 HT.out [] ls _ _ lv us (by simpa using X.out.1) (by omega)).mono ?_
  rintro e w1 ⟨p, rv1, lv1, us1, rfl, q1, q2, q3⟩
  obtain ⟨A1, k1, hrv, _⟩ := q1.rd.rd
  have c1 := q1.rd.blk.cell 0
  simp only [List.getElem?_toArray, List.getElem?_cons_zero] at c1
  rw [hrv] at c1
  rw [List.length_nil] at c1
  have HQ := Lib.hid (And.intro q1 (And.intro (X.out.2.trans q2) q3)); clear q1 q2 q3 X hrv
  go_wp2
  go_ret
  exact ⟨_, _, _, _, rfl, HQ.out⟩
theorem RTy.new (w : World) : RTy (w.alloc (.cells #[.slice none 0 0, .slice none 0 0] 59)) w.heap.size w.heap.size (.slice none 0 0) (.slice none 0 0) [] [] [] :=
  ⟨⟨Blk.new w _ _, Nat.le_refl _, ⟨none, 0, rfl, IntsK.nil _ _ _ _, Nat.le_refl _⟩, World.ownsRow_nil _ _ _ _, rfl, by simp⟩, fun kn b ⟨j, h, _⟩ => by simp at h⟩
theorem Sk.off {w w' : World} {A : Nat → Prop} {M : Int × Int → Nat → Prop} {T : Ty} {p : Option Addr} {x : Nat} {cs : Array Value} {U : TypeId} (h : Sk w A M T p) (hx : Blk w x cs U) (h1 : 86 ≠ U) (h2 : 49 ≠ U) (hk : ∀ k, k < w.heap.size → k ≠ x → w'.heap[k]? = w.heap[k]?) : Sk w' (fun _ => True) M T p := by
  have off : ∀ {b : Nat} {ds : Array Value} {V : TypeId}, Blk w b ds V → V ≠ U → Blk w' b ds V := fun hb hv => (hk _ hb.lt (blk_kind hb hx hv)).trans hb
  induction T generalizing p with
  | num => obtain ⟨b, e, _, h4⟩ := h; exact ⟨b, e, trivial, off h4 h1⟩
  | any n => exact h
  | rest n => exact h
  | prog S T ihs iht => obtain ⟨b, g, q, r, e, _, _, h3, h4, h5, h6⟩ := h; exact ⟨b, g, q, r, e, trivial, trivial, off h3 h1, off h4 h2, ihs h5, iht h6⟩
  | put S T ihs iht => obtain ⟨b, g, q, r, e, _, _, h3, h4, h5, h6⟩ := h; exact ⟨b, g, q, r, e, trivial, trivial, off h3 h1, off h4 h2, ihs h5, iht h6⟩
/-- Both rows of an effect in memory: the letters' terms are M's, each of its own. -/
structure Two (X : World) (lo : Nat) (M : Int × Int → Nat → Prop) (A B : Ty) (p q : Option Addr) : Prop where
  sa : Sk X (fun _ => True) M A p
  sb : Sk X (fun _ => True) M B q
  lt : ∀ kn b, M kn b → lo ≤ b ∧ LtB X b kn
  fn : ∀ kn b b', M kn b → M kn b' → b = b'
  kd : ∀ kn b, M kn b → kn.1 = 1 ∨ kn.1 = 3
theorem Two.step {X Y : World} {lo : Nat} {M : Int × Int → Nat → Prop} {A B : Ty} {p q : Option Addr} (h : Two X lo M A B p q) (hb : Below X.heap.size X Y) : Two Y lo M A B p q :=
  ⟨h.sa.keep (fun k _ hk => ⟨hb.block k hk, trivial⟩) fun _ _ h => h, h.sb.keep (fun k _ hk => ⟨hb.block k hk, trivial⟩) fun _ _ h => h, fun kn b hm => ⟨(h.lt kn b hm).1, (h.lt kn b hm).2.below hb (h.lt kn b hm).2.lt⟩, h.fn, h.kd⟩
def ReadTy (A B : Ty) (w : World) (e : Ending) (w' : World) : Prop := ∃ p q v M, e = .returned (.tuple #[.agg #[.pointer p, .pointer q, v], .bool true]) ∧ (∃ a n c, v = .slice a n c) ∧ Two w' w.heap.size M A B p q ∧ Below w.heap.size w w'
theorem lets_ty_nodup (T : Ty) (ls : List (Int × Int)) (h : ls.Nodup) : (T.lets ls).Nodup := by
  induction T generalizing ls with
  | num => exact h
  | any n => exact addL_nodup h
  | rest n => exact addL_nodup h
  | prog S T ihs iht => exact iht _ (ihs _ h)
  | put S T ihs iht => exact iht _ (ihs _ h)
theorem lets_ty_kinds (T : Ty) (ls : List (Int × Int)) (h : ∀ x ∈ ls, x.1 = 1 ∨ x.1 = 3) : ∀ x ∈ T.lets ls, x.1 = 1 ∨ x.1 = 3 := by
  induction T generalizing ls with
  | num => exact h
  | any n => exact addL_kinds h (.inl rfl)
  | rest n => exact addL_kinds h (.inr rfl)
  | prog S T ihs iht => exact iht _ (ihs _ h)
  | put S T ihs iht => exact iht _ (ihs _ h)
theorem Lm.fn {us : List Value} {ls : List (Int × Int)} (hn : ls.Nodup) {kn : Int × Int} {b b' : Nat} (h : Lm us ls kn b) (h' : Lm us ls kn b') : b = b' := by
  obtain ⟨j, h1, h2⟩ := h
  obtain ⟨k, h3, h4⟩ := h'
  have l1 := (List.getElem?_eq_some_iff.1 h1).1
  have : j = k := (List.getElem?_inj l1 hn).1 (h1.trans h3.symm)
  subst this
  rw [h2] at h4
  simpa using h4
set_option maxHeartbeats 2000000 in
theorem readEffect_ty (v0 v1 : Value) (A B : Ty) (w : World) (h0 : RdI w v0 A.nums) (h1 : RdI w v1 B.nums) (hA : A.ok true) (hB : B.ok true) (la : A.nums.length ≤ 150) (lb : B.nums.length ≤ 150) (hN : nameB 0 0 (B.lets (A.lets [])) = true) :
    Calls Try.prog 29 #[.agg #[v0, v1]] w (ReadTy A B w) := by
  have b0 : Below w.heap.size w (w.alloc (.cells #[v0, v1] 25)) := (Below.refl _ _).alloc (Nat.le_refl _) _
  have b1 : Below w.heap.size w ((w.alloc (.cells #[v0, v1] 25)).alloc (.cells #[.pointer none, .pointer none, .slice none 0 0] 52)) := b0.alloc (by simp) _
  have b2 : Below w.heap.size w (((w.alloc (.cells #[v0, v1] 25)).alloc (.cells #[.pointer none, .pointer none, .slice none 0 0] 52)).alloc (.cells #[.slice none 0 0, .slice none 0 0] 59)) := b1.alloc (by simp; omega) _
  have hr := RTy.new ((w.alloc (.cells #[v0, v1] 25)).alloc (.cells #[.pointer none, .pointer none, .slice none 0 0] 52))
  have k1 := Blk.new w #[v0, v1] 25
  have k2 := Blk.new (w.alloc (.cells #[v0, v1] 25)) #[.pointer none, .pointer none, .slice none 0 0] 52
  simp only [World.size_alloc] at hr k2
  have l1 : Below (w.heap.size + 1) (w.alloc (.cells #[v0, v1] 25)) ((w.alloc (.cells #[v0, v1] 25)).alloc (.cells #[.pointer none, .pointer none, .slice none 0 0] 52)) := (Below.refl _ _).alloc (by simp) _
  have l2 : Below (w.heap.size + 1 + 1) ((w.alloc (.cells #[v0, v1] 25)).alloc (.cells #[.pointer none, .pointer none, .slice none 0 0] 52)) (((w.alloc (.cells #[v0, v1] 25)).alloc (.cells #[.pointer none, .pointer none, .slice none 0 0] 52)).alloc (.cells #[.slice none 0 0, .slice none 0 0] 59)) := (Below.refl _ _).alloc (by simp) _
  have hR0 : RdBI (((w.alloc (.cells #[v0, v1] 25)).alloc (.cells #[.pointer none, .pointer none, .slice none 0 0] 52)).alloc (.cells #[.slice none 0 0, .slice none 0 0] 59)) (w.heap.size + 1 + 1) v0 A.nums := by
    obtain ⟨A, c, e, hi, hc⟩ := (RdI.at_ h0).below b2
    exact ⟨A, c, e, hi.mono (by omega), hc⟩
  have hR1 : RdBI (((w.alloc (.cells #[v0, v1] 25)).alloc (.cells #[.pointer none, .pointer none, .slice none 0 0] 52)).alloc (.cells #[.slice none 0 0, .slice none 0 0] 59)) (w.heap.size + 1 + 1) v1 B.nums := by
    obtain ⟨A, c, e, hi, hc⟩ := (RdI.at_ h1).below b2
    exact ⟨A, c, e, hi.mono (by omega), hc⟩
  have S0 := Lib.hid (And.intro hr (And.intro hR0 (And.intro hR1 (And.intro b2 (And.intro ((k1.below l1 (by omega)).below l2 (by omega)) (k2.below l2 (by omega))))))); clear hr hR0 hR1 b0 b1 b2 k1 k2 l1 l2
  obtain ⟨A0, c0, rfl, _⟩ := h0
  obtain ⟨A1, c1, rfl, _⟩ := h1
  have HOK := Lib.hid (And.intro hA hB); clear hA hB
  have hl1 := A.lets_len []
  have HN := Lib.hid hN; clear hN
  go_enter Try.func29, Try.ntmps29
  go_wp2_with fail
  refine (whole_ty _ _ _ _ _ [] A [] [] _ S0.out.1 S0.out.2.1 (by simp) HOK.out.1 la).mono ?_
  rintro e w1 ⟨p, rv1, lv1, us1, rfl, q1, q2, q3⟩
  have hs1 : w.heap.size + 1 + 1 + 1 ≤ w1.heap.size := by have := q2.low.size; simpa using this
  have hlt1 := q1.rd.blk.lt
  have kE := S0.out.2.2.2.2.1.below q2.low (by omega)
  obtain ⟨x0, x1⟩ := blk_two2 kE
  have hpn := q3.some
  have S1 := Lib.hid (And.intro q1 (And.intro (S0.out.2.2.1.below q2.low) (And.intro (S0.out.2.2.2.1.trans (q2.low.mono (by omega))) (And.intro (S0.out.2.2.2.2.2.below q2.low (by omega)) q3)))); clear q1 q2 q3 kE S0
  rw [List.length_nil] at hl1
  go_wp2_with fail
  refine (whole_ty _ _ _ _ _ us1 B [] (A.lets []) _ S1.out.1 S1.out.2.1 (by omega) HOK.out.2 lb).mono ?_
  rintro e w2 ⟨q, rv2, lv2, us2, rfl, q1, q2, q3⟩
  have hs2 := q2.low.size
  have hlt2 := q1.rd.blk.lt
  have hqn := q3.some
  obtain ⟨AL, cL, rfl⟩ := ownsRow_form q1.rd.row
  have z1 := q1.rd.blk.cell 1
  simp only [List.getElem?_toArray, List.getElem?_cons_zero, List.getElem?_cons_succ] at z1
  have S2 := Lib.hid (And.intro q1 (And.intro (S1.out.2.2.1.trans (q2.low.mono (by omega))) (And.intro (S1.out.2.2.2.1.below q2.low (by omega)) (And.intro (S1.out.2.2.2.2.mov q2) q3)))); clear q1 q2 q3 S1 x0 x1
  obtain ⟨pa, rfl⟩ := Option.ne_none_iff_exists'.1 hpn
  obtain ⟨qa, rfl⟩ := Option.ne_none_iff_exists'.1 hqn
  clear hpn hqn
  have hl2 := B.lets_len (A.lets [])
  obtain ⟨L, hL⟩ : ∃ L, B.lets (A.lets []) = L := ⟨_, rfl⟩
  have hk := lets_ty_kinds B _ (lets_ty_kinds A [] (by simp))
  have hnd := lets_ty_nodup B _ (lets_ty_nodup A [] (by simp))
  have hN := HN.out
  rw [hL] at S2 z1 hl2 hk hnd hN
  have HK := Lib.hid (And.intro hk (And.intro hnd hN)); clear hk hnd hN HN hL
  go_wp2_with fail
  refine (named_any _ _ _ _ us2 [] L _ S2.out.1.rd HK.out.1 (by omega)).mono ?_
  rw [HK.out.2.2]
  rintro e w3 ⟨rfl, hb⟩
  have hs3 := hb.size
  have kR := S2.out.2.2.1.below hb (by omega)
  have kB := S2.out.2.1.trans (hb.mono (by omega))
  have kz : w3.cell? ⟨w.heap.size + 1 + 1, 1, none⟩ = some (.slice AL L.length cL) := (hb.cell (p := ⟨w.heap.size + 1 + 1, 1, none⟩) (by omega)).trans z1
  obtain ⟨m0, m1, m2, g0, g1, g2⟩ := blk_three kR
  obtain ⟨e0, e1, e2⟩ := blk_three_out kR (x := .pointer (some pa)) (y := .pointer (some qa)) (z := .slice AL L.length cL)
  have hoff : ∀ k, k ≠ w.heap.size + 1 → (((w3.setCell ⟨w.heap.size + 1, 0, none⟩ (.pointer (some pa))).setCell ⟨w.heap.size + 1, 1, none⟩ (.pointer (some qa))).setCell ⟨w.heap.size + 1, 2, none⟩ (.slice AL L.length cL)).heap[k]? = w3.heap[k]? := fun k hk => (Below.heap_setCell _ _ _ _ hk).trans ((Below.heap_setCell _ _ _ _ hk).trans (Below.heap_setCell _ _ _ _ hk))
  have hT := (S2.out.1.step hb)
  have R := Lib.hid (And.intro (show Two (((w3.setCell ⟨w.heap.size + 1, 0, none⟩ (.pointer (some pa))).setCell ⟨w.heap.size + 1, 1, none⟩ (.pointer (some qa))).setCell ⟨w.heap.size + 1, 2, none⟩ (.slice AL L.length cL)) w.heap.size (Lm us2 L) A B (some pa) (some qa) from
    ⟨(S2.out.2.2.2.1.keep (A' := fun _ => True) (fun k _ hk => ⟨hb.block k hk, trivial⟩) fun _ _ h => h).off kR (by decide) (by decide) fun k _ hk => hoff k hk,
     (S2.out.2.2.2.2.keep (A' := fun _ => True) (fun k _ hk => ⟨hb.block k hk, trivial⟩) fun _ _ h => h).off kR (by decide) (by decide) fun k _ hk => hoff k hk,
     fun kn b hm => ⟨by have := (hT.lb kn b hm).1; omega, (hoff b (blk_kind (hT.lb kn b hm).2 kR (by decide))).trans (hT.lb kn b hm).2⟩, fun kn b b' h h' => Lm.fn HK.out.2.1 h h', fun kn b ⟨j, h, _⟩ => HK.out.1 kn (List.mem_of_getElem? h)⟩)
    (((kB.setCell (p := ⟨w.heap.size + 1, 0, none⟩) (by simp) (.pointer (some pa))).setCell (p := ⟨w.heap.size + 1, 1, none⟩) (by simp) (.pointer (some qa))).setCell (p := ⟨w.heap.size + 1, 2, none⟩) (by simp) (.slice AL L.length cL))); clear S2 hb kR kB HK hoff hT
  go_wp2
  refine bodyPost_ret (v := .tuple #[.agg #[.pointer (some pa), .pointer (some qa), .slice AL L.length cL], .bool true]) (by simp [results, Try.results29, go_sem, e0, e1, e2]) rfl ?_
  exact ⟨some pa, some qa, _, _, rfl, ⟨_, _, _, rfl⟩, R.out⟩
/-- A term that can be read: with its letters. -/
def Tx (X : World) (T : Ty) (p : Option Addr) : Prop := ∃ M, Sk X (fun _ => True) M T p ∧ ∀ kn b, M kn b → LtB X b kn
theorem Tx.step {X Y : World} {T : Ty} {p : Option Addr} (h : Tx X T p) (hb : Below X.heap.size X Y) : Tx Y T p := by
  obtain ⟨M, h1, h2⟩ := h
  exact ⟨M, h1.keep (fun k _ hk => ⟨hb.block k hk, trivial⟩) fun _ _ h => h, fun kn b hm => (h2 kn b hm).below hb (h2 kn b hm).lt⟩
theorem Two.txa {X : World} {lo : Nat} {M : Int × Int → Nat → Prop} {A B : Ty} {p q : Option Addr} (h : Two X lo M A B p q) : Tx X A p := ⟨M, h.sa, fun kn b hm => (h.lt kn b hm).2⟩
theorem Two.txb {X : World} {lo : Nat} {M : Int × Int → Nat → Prop} {A B : Ty} {p q : Option Addr} (h : Two X lo M A B p q) : Tx X B q := ⟨M, h.sb, fun kn b hm => (h.lt kn b hm).2⟩
theorem eff_ty {a b : List Int} (h : effB a b = true) : ∃ A B : Ty, A.ok true ∧ B.ok true ∧ a = A.nums ∧ b = B.nums ∧ A.nums.length ≤ 150 ∧ B.nums.length ≤ 150 ∧ nameB 0 0 (B.lets (A.lets [])) = true := by
  have hr : ∀ {a : List Int}, rowB a = true → ∃ A : Ty, A.ok true ∧ a = A.nums ∧ a.length ≤ 150 ∧ ∀ ls, lets a.length true a ls = A.lets ls := fun {a} ha => by
    obtain ⟨h1, h2, _⟩ := wholeR_some (wholeR_of_row ha [])
    obtain ⟨A, k1, k2, k3⟩ := eat_ty h2
    exact ⟨A, k1, by simpa using k2, h1, k3⟩
  have ha : rowB a = true := by
    rcases ha : rowB a with _ | _
    · rw [effB_no (.inl ha)] at h; cases h
    · rfl
  have hb : rowB b = true := by
    rcases hb : rowB b with _ | _
    · rw [effB_no (.inr hb)] at h; cases h
    · rfl
  obtain ⟨la, lb, h1, h2, h3⟩ := effB_yes ha hb
  obtain ⟨_, _, rfl⟩ := wholeR_some h1
  obtain ⟨_, _, rfl⟩ := wholeR_some h2
  obtain ⟨A, a1, a2, a3, a4⟩ := hr ha
  obtain ⟨B, b1, b2, b3, b4⟩ := hr hb
  exact ⟨A, B, a1, b1, a2, b2, by rw [← a2]; exact a3, by rw [← b2]; exact b3, by rw [← b4, ← a4, ← h3]; exact h⟩
theorem int_sizeT (W : World) : (sizeOf (Try.prog.elem 23)).run Try.prog W = .ok 1 W := by
  have h : (Try.prog.info? (Try.prog.elem 23)).map (·.size) = some 1 := by kernel_rfl
  obtain ⟨i, hi, hs⟩ := Option.map_eq_some_iff.1 h
  simp [sizeOf, typeInfo, hi, hs]
theorem cut_mid (A : Option Addr) (n c : Nat) (m : Nat) (h1 : 1 ≤ m) (hk : m ≤ c) (W : World) : (Instr.slice 23 (.slice A n c) (some (.int .i64 1)) (some (.int .i64 (m : Int))) none).run Try.prog W = .ok (sliced A 1 m c 1) W := by
  rw [run_slice_lh W 23 A n c (by kernel_rfl) .i64 .i64 1 m (by omega) (by omega) (by omega), int_sizeT]; rfl
theorem cut_from (A : Option Addr) (n c : Nat) (m : Nat) (hk : m ≤ n) (W : World) : (Instr.slice 23 (.slice A n c) (some (.int .i64 (m : Int))) none none).run Try.prog W = .ok (sliced A m n c 1) W := by
  rw [run_slice_l W 23 A n c (by kernel_rfl) .i64 (m : Int) (by omega) (by omega), int_sizeT]; rfl
theorem ints_part {w : World} {A : Option Addr} {c : Nat} {z : Int} {xs ys : List Int} (h : RdI w (.slice A (z :: (xs ++ ys)).length c) (z :: (xs ++ ys))) (hx : xs ≠ []) (hy : ys ≠ []) : RdI w (sliced A 1 (1 + xs.length) c 1) xs ∧ RdI w (sliced A (1 + xs.length) (z :: (xs ++ ys)).length c 1) ys := by
  obtain ⟨A', c', e, hi, hc⟩ := h
  cases e
  have hx0 : 0 < xs.length := List.length_pos_iff.2 hx
  have hy0 : 0 < ys.length := List.length_pos_iff.2 hy
  have hl : (z :: (xs ++ ys)).length = 1 + xs.length + ys.length := by simp; omega
  obtain ⟨b, off, rfl, hb, hcc⟩ := hi.at_ (by omega)
  have hm := hi.len
  constructor
  · refine ⟨(some ⟨b, off, none⟩ : Option Addr).map (·.add (1 * 1)), c - 1, ?_, ⟨by omega, fun y hy => hi.wf y (by simp [hy]), fun _ => ⟨b, off + 1, ?_, hb, fun j hj => ?_⟩⟩, by omega⟩
    · unfold sliced; rw [if_neg (by omega)]; congr 1; omega
    · show some ((⟨b, off, none⟩ : Addr).add (1 * 1)) = _
      rw [add_plain]
    · have := hcc (j + 1) (by omega)
      rw [show off + 1 + j = off + (j + 1) by omega, this]
      simp [List.getD, List.getElem?_append_left hj]
  · refine ⟨(some ⟨b, off, none⟩ : Option Addr).map (·.add ((1 + xs.length) * 1)), c - (1 + xs.length), ?_, ⟨by omega, fun y hy => hi.wf y (by simp [hy]), fun _ => ⟨b, off + (1 + xs.length), ?_, hb, fun j hj => ?_⟩⟩, by omega⟩
    · unfold sliced; rw [if_neg (by omega)]; congr 1; omega
    · show some ((⟨b, off, none⟩ : Addr).add ((1 + xs.length) * 1)) = _
      rw [add_plain, Nat.mul_one]
    · have := hcc (xs.length + 1 + j) (by omega)
      rw [show off + (1 + xs.length) + j = off + (xs.length + 1 + j) by omega, this]
      congr 2
      rw [show xs.length + 1 + j = (xs.length + j) + 1 by omega]
      simp only [List.getD, List.getElem?_cons_succ]
      rw [List.getElem?_append_right (by omega), show xs.length + j - xs.length = j by omega]
theorem end_two (z : Int) {S T : Ty} (hS : S.ok true) : endAt (z :: (S.nums ++ T.nums)).length true (z :: (S.nums ++ T.nums)) 1 = ((1 + S.nums.length : Nat) : Int) := by
  have h : eat (S.nums.length) true ((z :: (S.nums ++ T.nums)).drop 1) = some T.nums := ty_eat hS T.nums (Nat.le_refl _)
  rw [(end_ok h).1]
  congr 1
  simp; omega
end Go.Proofs.Ytceekfoacgoalaa
