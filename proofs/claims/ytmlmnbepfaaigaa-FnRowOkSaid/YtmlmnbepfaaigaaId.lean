/- The draw of a row that may be spoiled: DrawRowOk. -/
import Derived.Test.YtmlmnbepfaaigaaIc
import Derived.Test.YtmlmnbepfaaigaaSa
import Derived.Deep.RegionLaw
namespace Go.Proofs.Ytmlmnbepfaaigaa
set_option maxRecDepth 100000
open Go.RowKit Go.WideShapes

theorem step_append_W9 {P : Program} {w : World} {ops : Array Oper} {o : Oper} {a : Act} {K : Act → World → Prop} {Q : Exit → Act → World → Prop} {E : Prop} (hgd : o.guard = none) (s x : Operand) (t : TypeId)
    (ho : o.op = .call { callee := .builtin .append, args := #[s, x], argTypes := #[t, t] })
    (ht : P.underlying t = some (.slice 3)) (hinfo : (P.info? 3).map (fun i => (i.zero, i.size, i.bytes)) = some (some (.int .i64 0), 1, 8))
    (lo hi : Nat) (v : Value) (zs : List Int) (hs : a.eval s = v) (hown : OwnI w lo hi v zs) (hlo : lo ≤ w.heap.size)
    (u : Value) (ys : List Int) (hx : a.eval x = u) (hr : RdI w u ys) (hlen : zs.length + ys.length ≤ 1000000000)
    (h : ∀ v' w', OwnI w' lo w'.heap.size v' (zs ++ ys) → Within lo hi w w' → K (a.put o.dst v') w') : if Region.wanted o (yielded ops a.tmps) = true then Oper.wp P o a w K Q else E := by
  rw [if_pos (by simp [Region.wanted, hgd])]
  obtain ⟨A, c, rfl, hi', _⟩ := hr
  refine wp_append_ints s x t ho lo 3 .i64 8 ht hinfo (Nat.le_refl _) v zs hs hown.own.own w.heap.size A ys c hx hi' hlen hlo ?_
  intro v' w' h1 h2 _
  refine h v' w' (Own.within ⟨h1, fun z hz => ?_⟩) (Within.of_only h2 (fun k hk => ⟨(hown.own.ge k hk).1, hown.lt k hk⟩))
  rcases List.mem_append.1 hz with h | h
  · exact hown.own.wf z h
  · exact hi'.wf z h
theorem ints_front {w : World} {B : Nat} {A : Option Addr} {c : Nat} {zs : List Int} (h : RdBI w B (.slice A zs.length c) zs) (k : Nat) (hk : k ≤ zs.length) : RdBI w B (sliced A 0 k c 1) (zs.take k) := by
  obtain ⟨A', c', e, hi, hc⟩ := h
  cases e
  have hl : (zs.take k).length = k := by rw [List.length_take]; omega
  refine ⟨if c = 0 then A else A.map (·.add (0 * 1)), c - 0, by rw [hl]; rfl, ⟨by have := hi.len; rw [hl]; omega, fun z hz => hi.wf z (List.mem_of_mem_take hz), fun h0 => ?_⟩, by rw [hl]; omega⟩
  rw [hl] at h0
  obtain ⟨b, off, rfl, hb, hcc⟩ := hi.at_ (by omega)
  refine ⟨b, off, ?_, hb, fun j hj => ?_⟩
  · split
    · rfl
    · show some ((⟨b, off, none⟩ : Addr).add (0 * 1)) = _
      rw [add_plain]; rfl
  · have hj' : j < k := by omega
    rw [hcc j (by omega)]; simp [hj']
theorem ints_back {w : World} {B : Nat} {A : Option Addr} {c : Nat} {zs : List Int} (h : RdBI w B (.slice A zs.length c) zs) (k : Nat) (hk : k ≤ zs.length) : RdBI w B (sliced A k zs.length c 1) (zs.drop k) := by
  obtain ⟨A', c', e, hi, hc⟩ := h
  cases e
  have hl : (zs.drop k).length = zs.length - k := List.length_drop
  refine ⟨if c = k then A else A.map (·.add (k * 1)), c - k, by rw [hl]; rfl, ⟨by have := hi.len; rw [hl]; omega, fun z hz => hi.wf z (List.mem_of_mem_drop hz), fun h0 => ?_⟩, by rw [hl]; omega⟩
  rw [hl] at h0
  obtain ⟨b, off, rfl, hb, hcc⟩ := hi.at_ (by omega)
  refine ⟨b, off + k, ?_, hb, fun j hj => ?_⟩
  · rw [if_neg (by omega)]
    show some ((⟨b, off, none⟩ : Addr).add (k * 1)) = _
    rw [add_plain, Nat.mul_one]
  · rw [show off + k + j = off + (k + j) by omega, hcc (k + j) (by omega)]; simp
theorem int_size (W : World) : (sizeOf (Try.prog.elem 23)).run Try.prog W = .ok 1 W := by
  have h : (Try.prog.info? (Try.prog.elem 23)).map (·.size) = some 1 := by kernel_rfl
  obtain ⟨i, hi, hs⟩ := Option.map_eq_some_iff.1 h
  simp [sizeOf, typeInfo, hi, hs]
theorem cut_front (A : Option Addr) (n c : Nat) (k : Nat) (hk : k ≤ c) (W : World) : (Instr.slice 23 (.slice A n c) none (some (.int .i64 (k : Int))) none).run Try.prog W = .ok (sliced A 0 k c 1) W := by
  rw [run_slice_h W 23 A n c (by kernel_rfl) .i64 k (by omega) (by omega), int_size]; rfl
theorem cut_back (A : Option Addr) (n c : Nat) (k : Nat) (hk : k + 1 ≤ n) (W : World) : (Instr.slice 23 (.slice A n c) (some (.int .i64 ((k : Int) + 1))) none none).run Try.prog W = .ok (sliced A (k + 1) n c 1) W := by
  rw [run_slice_l W 23 A n c (by kernel_rfl) .i64 ((k : Int) + 1) (by omega) (by omega), int_size, show ((k : Int) + 1).toNat = k + 1 by omega]; rfl
theorem spoilOf (k : Nat) (hk : k < 4) : ∃ z : Int, -1 ≤ z ∧ z ≤ 1000 ∧ ∀ (X : World) (L : Nat), Blk X L #[.int .i64 (-1), .int .i64 0, .int .i64 4, .int .i64 1000] 3 → X.cell? ⟨L, k, none⟩ = some (.int .i64 z) := by
  rcases k with _ | _ | _ | _ | k
  · exact ⟨-1, by omega, by omega, fun X L h => h.cell 0⟩
  · exact ⟨0, by omega, by omega, fun X L h => h.cell 1⟩
  · exact ⟨4, by omega, by omega, fun X L h => h.cell 2⟩
  · exact ⟨1000, by omega, by omega, fun X L h => h.cell 3⟩
  · omega
structure Sq (w1 w2 w4 : World) (g p : Nat) (bs : List Int) (tv : Value) (ts : List Int) (X : World) (v : Value) (ys : List Int) (hl : Option Nat) : Prop where
  rs : RS w1 X g bs p
  wi : Within g (g + 1) w1 X
  sz : w4.heap.size ≤ X.heap.size
  tt : OwnI X w1.heap.size w2.heap.size tv ts
  ow : OwnI X w4.heap.size X.heap.size v ys
  fl : ∀ L, hl = some L → w4.heap.size ≤ L ∧ Blk X L #[.int .i64 (-1), .int .i64 0, .int .i64 4, .int .i64 1000] 3
section
variable {w1 w2 w4 : World} {g p : Nat} {bs : List Int} {tv : Value} {ts : List Int} {X X' : World} {v v' : Value} {ys ys' : List Int} {hl : Option Nat}
theorem Sq.lit (h : Sq w1 w2 w4 g p bs tv ts X v ys none) : Sq w1 w2 w4 g p bs tv ts (X.alloc (.cells #[.int .i64 (-1), .int .i64 0, .int .i64 4, .int .i64 1000] 3)) v ys (some X.heap.size) := by
  have hb : Below X.heap.size X (X.alloc (.cells #[.int .i64 (-1), .int .i64 0, .int .i64 4, .int .i64 1000] 3)) := (Below.refl _ _).alloc (Nat.le_refl _) _
  exact ⟨h.rs.below hb h.rs.size, h.wi.trans (Within.of_below hb), Nat.le_trans h.sz hb.size, h.tt.below hb, ⟨(h.ow.below hb).own, fun k hk => Nat.lt_of_lt_of_le (h.ow.lt k hk) hb.size⟩, fun L e => (by cases e; exact ⟨h.sz, Blk.new X _ _⟩)⟩
theorem Sq.pick {p' : Nat} (h : Sq w1 w2 w4 g p bs tv ts X v ys hl) (hg : g < w1.heap.size) (h14 : w1.heap.size ≤ w4.heap.size) (hr : RS w1 X' g bs p') (hw : Within g (g + 1) X X') : Sq w1 w2 w4 g p' bs tv ts X' v ys hl :=
  ⟨hr, h.wi.trans hw, Nat.le_trans h.sz hw.size, h.tt.apart hw (.inr hg), ⟨(h.ow.apart hw (.inr (by omega))).own, fun k hk => Nat.lt_of_lt_of_le (h.ow.lt k hk) hw.size⟩, fun L e => ⟨(h.fl L e).1, (hw.block L (h.fl L e).2.lt (by have := (h.fl L e).1; omega)).trans (h.fl L e).2⟩⟩
theorem Sq.app {lo hi : Nat} (h : Sq w1 w2 w4 g p bs tv ts X v ys hl) (h24 : w2.heap.size ≤ w4.heap.size) (h14 : w1.heap.size ≤ w4.heap.size) (hlo : w4.heap.size ≤ lo) (ho : OwnI X' lo X'.heap.size v' ys') (hw : Within lo hi X X') (hs : ∀ L, hl = some L → L < lo ∨ hi ≤ L) : Sq w1 w2 w4 g p bs tv ts X' v' ys' hl := by
  have hb : Below w4.heap.size X X' := hw.below hlo h.sz
  exact ⟨h.rs.below hb (show w1.heap.size ≤ w4.heap.size from h14), h.wi.then_below hb h14, Nat.le_trans h.sz hw.size, h.tt.belowB hb h24, ⟨ho.own.mono hlo, ho.lt⟩, fun L e => ⟨(h.fl L e).1, (hw.block L (h.fl L e).2.lt (by have := hs L e; omega)).trans (h.fl L e).2⟩⟩
theorem Sq.cell {L k : Nat} {z : Int} (h : Sq w1 w2 w4 g p bs tv ts X v ys (some L)) (HL : ∀ (X : World) (L : Nat), Blk X L #[.int .i64 (-1), .int .i64 0, .int .i64 4, .int .i64 1000] 3 → X.cell? ⟨L, k, none⟩ = some (.int .i64 z)) : X.cell? ⟨L, k, none⟩ = some (.int .i64 z) := HL _ _ (h.fl L rfl).2
theorem Sq.some_ {L : Nat} (h : Sq w1 w2 w4 g p bs tv ts X v ys (some L)) : Sq w1 w2 w4 g p bs tv ts X v ys (some L) := h
theorem Sq.none_ (h : Sq w1 w2 w4 g p bs tv ts X v ys none) : Sq w1 w2 w4 g p bs tv ts X v ys none := h
theorem Sq.named (h : Sq w1 w2 w4 g p bs tv ts X v ys none) : ∃ V, X.alloc (.cells #[.int .i64 (-1), .int .i64 0, .int .i64 4, .int .i64 1000] 3) = V ∧ Sq w1 w2 w4 g p bs tv ts V v ys (some X.heap.size) := ⟨_, rfl, h.lit⟩
theorem Sq.one (z : Int) (hz : -1 ≤ z ∧ z ≤ 1000) (h : Sq w1 w2 w4 g p bs tv ts X v ys hl) : ∃ N, X.alloc (.cells #[.int .i64 z] 3) = N ∧ Sq w1 w2 w4 g p bs tv ts N v ys hl ∧ RdI N (.slice (some ⟨X.heap.size, 0, none⟩) 1 1) [z] := by
  have hb : Below X.heap.size X (X.alloc (.cells #[.int .i64 z] 3)) := (Below.refl _ _).alloc (Nat.le_refl _) _
  have ho := lits_own X [z] (by simp) (by intro y hy; simp only [List.mem_cons, List.not_mem_nil, or_false] at hy; apply wf_near; omega)
  exact ⟨_, rfl, ⟨h.rs.below hb h.rs.size, h.wi.trans (Within.of_below hb), Nat.le_trans h.sz hb.size, h.tt.below hb, ⟨(h.ow.below hb).own, fun k hk => Nat.lt_of_lt_of_le (h.ow.lt k hk) hb.size⟩, fun L e => ⟨(h.fl L e).1, (h.fl L e).2.below hb (h.fl L e).2.lt⟩⟩, ho.rd⟩
theorem Sq.app0 {hi : Nat} (h : Sq w1 w2 w4 g p bs tv ts X v ys hl) (h24 : w2.heap.size ≤ w4.heap.size) (h14 : w1.heap.size ≤ w4.heap.size) (ho : OwnI X' w4.heap.size X'.heap.size v' ys') (hw : Within w4.heap.size hi X X') : Sq w1 w2 w4 g p bs tv ts X' v' ys' none := by
  have hb : Below w4.heap.size X X' := hw.below (Nat.le_refl _) h.sz
  exact ⟨h.rs.below hb h14, h.wi.then_below hb h14, Nat.le_trans h.sz hw.size, h.tt.belowB hb h24, ho, fun L e => by cases e⟩
theorem Sq.sz2 (h : Sq w1 w2 w4 g p bs tv ts X v ys hl) : w4.heap.size ≤ X.heap.size := h.sz
theorem Sq.front {A : Option Addr} {c k : Nat} {v1 : Value} (h : Sq w1 w2 w4 g p bs (.slice A ts.length c) ts X v ys hl) (hv : sliced A 0 k c 1 = v1) (hk : k < ts.length) : RdI X v1 (ts.take k) := by rw [← hv]; exact (ints_front h.tt.rd.at_ k (by omega)).rd (Nat.le_refl _)
theorem Sq.back {A : Option Addr} {c k : Nat} {v2 : Value} (h : Sq w1 w2 w4 g p bs (.slice A ts.length c) ts X v ys hl) (hv : sliced A (k + 1) ts.length c 1 = v2) (hk : k < ts.length) : RdI X v2 (ts.drop (k + 1)) := by rw [← hv]; exact (ints_back h.tt.rd.at_ (k + 1) (by omega)).rd (Nat.le_refl _)
end
def DrawnR (w : World) (e : Ending) (w' : World) : Prop := ∃ (v : Value) (zs : List Int), e = .returned v ∧ OwnI w' w.heap.size w'.heap.size v zs ∧ zs.length ≤ 400 ∧ Below w.heap.size w w'
set_option maxHeartbeats 8000000 in
theorem DrawRowOk_any (v : Value) (zs : List Int) (w : World) (h : RdC w v zs) : Calls Try.prog 6 #[v] w (DrawnR w) := by
  have H := Lib.hid h; clear h
  go_enter Try.func6, Try.ntmps6
  go_wp2_with fail
  refine (l20Open_any v zs w H.out).mono ?_
  rintro e w1 ⟨g, bs, rfl, hr, hg, hb⟩
  have hgl := hr.lt
  have hz1 := hb.size
  have X := Lib.hid (And.intro hr hb); clear hr hb
  go_wp2_with fail
  refine (row2 4 10 (by omega) (by omega) w1 g 0 bs w1 (RS.refl X.out.1) (by omega)).mono ?_
  rintro e w2 ⟨t, ts, p2, rfl, ho, hl, hr2, hp2, hg2, h2t⟩
  have hz2 := hg2.size
  obtain ⟨Av, cv, rfl, hiv, hcv⟩ := ho.rd
  have Y := Lib.hid (And.intro hr2 (And.intro hg2 ho)); clear hr2 hg2 ho hiv
  go_wp2_with fail
  refine (odd w1 g p2 3 bs w2 Y.out.1 (by omega) (by omega)).mono ?_
  rintro e w3 ⟨b, rfl, hr3, hg3⟩
  have hz3 := hg3.size
  have Z := Lib.hid (And.intro hr3 (And.intro (Y.out.2.1.trans hg3) (Y.out.2.2.apart hg3 (.inr hgl)))); clear hr3 hg3 Y
  rcases b with _ | _
  · have Q := Lib.hid (below_of_within X.out.2 hg Z.out.2.1)
    go_wp2
    go_ret
    exact ⟨_, ts, rfl, ⟨Z.out.2.2.own.mono (by omega), fun k hk => by have := Z.out.2.2.lt k hk; omega⟩, by omega, Q.out⟩
  go_wp2_with fail
  refine (pick w1 g (p2 + 1) ts.length bs w3 Z.out.1 (by omega) (by omega)).mono ?_
  rintro e w4 ⟨k, rfl, hk0, hk1, hr4, hg4⟩
  have hz4 := hg4.size
  obtain ⟨k, rfl⟩ := Int.eq_ofNat_of_zero_le hk0
  have hkl : k < ts.length := by omega
  have U := Lib.hid (And.intro hr4 (And.intro (Z.out.2.1.trans hg4) (Z.out.2.2.apart hg4 (.inr hgl)))); clear hr4 hg4 Z
  have hw1 : IntKind.i64.wrap ((k : Int) + 1) = (k : Int) + 1 := IntWalk.i64_in _ (by omega)
  obtain ⟨v1, hv1⟩ : ∃ v, sliced Av 0 k cv 1 = v := ⟨_, rfl⟩
  obtain ⟨v2, hv2⟩ : ∃ v, sliced Av (k + 1) ts.length cv 1 = v := ⟨_, rfl⟩
  have hsl1 : ∀ W, (Instr.slice 23 (.slice Av ts.length cv) none (some (.int .i64 (k : Int))) none).run Try.prog W = .ok v1 W := fun W => by rw [← hv1]; exact cut_front _ _ _ _ (by omega) W
  have hsl2 : ∀ W, (Instr.slice 23 (.slice Av ts.length cv) (some (.int .i64 ((k : Int) + 1))) none none).run Try.prog W = .ok v2 W := fun W => by rw [← hv2]; exact cut_back _ _ _ _ (by omega) W
  have h24 : w2.heap.size ≤ w4.heap.size := by omega
  have h14 : w1.heap.size ≤ w4.heap.size := by omega
  have h4 : (1 : Int) ≤ 4 ∧ (4 : Int) ≤ 1000000 := by omega
  have hpp : p2 + 1 + 1 ≤ 1000000000000 := by omega
  have base : ∀ Y : World, Below w4.heap.size w4 Y → ∀ (lo hi : Nat) (b : Nat), OwnI Y lo hi (.slice (some ⟨b, 0, none⟩) 0 0) [] → w4.heap.size ≤ lo → hi ≤ Y.heap.size → ∀ hl : Option Nat, (∀ L, hl = some L → w4.heap.size ≤ L ∧ Blk Y L #[.int .i64 (-1), .int .i64 0, .int .i64 4, .int .i64 1000] 3) → Sq w1 w2 w4 g (p2 + 1 + 1) bs (.slice Av ts.length cv) ts Y (.slice (some ⟨b, 0, none⟩) 0 0) [] hl := fun Y hY lo hi b ho h1 h2 hl hf =>
    ⟨U.out.1.below hY h14, U.out.2.1.then_below hY h14, hY.size, U.out.2.2.belowB hY h24, ⟨ho.own.mono h1, fun k hk => Nat.lt_of_lt_of_le (ho.lt k hk) h2⟩, hf⟩
  obtain ⟨Z0, hZ0⟩ : ∃ V, w4.alloc (.cells #[] 3) = V := ⟨_, rfl⟩
  obtain ⟨Zf, hZf⟩ : ∃ V, w4.alloc (.cells #[.int .i64 (-1), .int .i64 0, .int .i64 4, .int .i64 1000] 3) = V := ⟨_, rfl⟩
  obtain ⟨Z04, hZ04⟩ : ∃ V, Z0.alloc (.cells #[.int .i64 (-1), .int .i64 0, .int .i64 4, .int .i64 1000] 3) = V := ⟨_, rfl⟩
  obtain ⟨Z40, hZ40⟩ : ∃ V, Zf.alloc (.cells #[] 3) = V := ⟨_, rfl⟩
  have b0 : Below w4.heap.size w4 Z0 := by rw [← hZ0]; exact (Below.refl _ _).alloc (Nat.le_refl _) _
  have bf : Below w4.heap.size w4 Zf := by rw [← hZf]; exact (Below.refl _ _).alloc (Nat.le_refl _) _
  have z0 : w4.heap.size < Z0.heap.size := by rw [← hZ0]; simp
  have zf : w4.heap.size < Zf.heap.size := by rw [← hZf]; simp
  have b04 : Below Z0.heap.size Z0 Z04 := by rw [← hZ04]; exact (Below.refl _ _).alloc (Nat.le_refl _) _
  have b40 : Below Zf.heap.size Zf Z40 := by rw [← hZ40]; exact (Below.refl _ _).alloc (Nat.le_refl _) _
  have o0 : OwnI Z0 w4.heap.size (w4.heap.size + 1) (.slice (some ⟨w4.heap.size, 0, none⟩) 0 0) [] := by rw [← hZ0]; exact lits_own w4 [] (by simp) (by simp)
  have o40 : OwnI Z40 Zf.heap.size (Zf.heap.size + 1) (.slice (some ⟨Zf.heap.size, 0, none⟩) 0 0) [] := by rw [← hZ40]; exact lits_own Zf [] (by simp) (by simp)
  have o04 := o0.belowB b04 (by omega)
  have k04 : Blk Z04 Z0.heap.size #[.int .i64 (-1), .int .i64 0, .int .i64 4, .int .i64 1000] 3 := by rw [← hZ04]; exact Blk.new Z0 _ _
  have kf : Blk Zf w4.heap.size #[.int .i64 (-1), .int .i64 0, .int .i64 4, .int .i64 1000] 3 := by rw [← hZf]; exact Blk.new w4 _ _
  have k40 := kf.below b40 (by omega)
  have bd : ∀ Y : World, Below Y.heap.size Y Y.drew := fun Y => (Below.refl _ _).drew
  have s04 := b04.size
  have s40 : Zf.heap.size ≤ Z40.drew.heap.size := b40.size
  have P0 := Lib.hid (And.intro (base Z0.drew b0.drew w4.heap.size (w4.heap.size + 1) _ (o0.below (bd _)) (Nat.le_refl _) (show w4.heap.size + 1 ≤ Z0.heap.size by omega) none (fun L e => by cases e)) (o0.below (bd _)))
  have P04 := Lib.hid (And.intro (base Z04.drew (b0.trans (b04.mono (by omega))).drew w4.heap.size (w4.heap.size + 1) _ (o04.below (bd _)) (Nat.le_refl _) (show w4.heap.size + 1 ≤ Z04.heap.size by omega) (some Z0.heap.size) (fun L e => by cases e; exact ⟨by omega, k04⟩)) (o04.below (bd _)))
  have P40 := Lib.hid (And.intro (base Z40.drew (bf.trans (b40.mono (by omega))).drew Zf.heap.size (Zf.heap.size + 1) _ (o40.below (bd _)) (by omega) (show Zf.heap.size + 1 ≤ Z40.heap.size by rw [← hZ40]; simp) (some w4.heap.size) (fun L e => by cases e; exact ⟨Nat.le_refl _, k40⟩)) (o40.below (bd _)))
  clear base b0 bf b04 b40 o0 o40 o04 k04 kf k40 bd s04
  go_wp2
  go_region_law (first
    | (have h9 := Fc; clear h9; refine step_append_W9 rfl _ _ _ rfl Try.underlying23 intInfo w4.heap.size wc.heap.size vc _ rfl Fc.out.ow Fc.out.sz v2 (ts.drop (k + 1)) rfl (Fc.out.back hv2 hkl) (by simp; omega) ?_; intro vd wd hod hwd; have Fd := Lib.hid (Fc.out.app0 h24 h14 hod hwd); clear hod hwd)
    | (have h9 := FNb; clear h9; refine step_append_W9 rfl _ _ _ rfl Try.underlying23 intInfo w4.heap.size Nb.heap.size va _ rfl FNb.out.ow FNb.out.sz _ [z] rfl FRb.out (by simp; omega) ?_; intro vc wc hoc hwc; have Fc := Lib.hid (FNb.out.app0 h24 h14 hoc hwc); clear hoc hwc)
    | (have h9 := F0a; clear h9; go_simp; go_at_call 20; (refine (pick w1 g (p2 + 1 + 1) 4 bs _ ?_ h4 hpp).mono ?_; (first | with_reducible exact F0a.out.rs | with_reducible exact FVa.out.rs); rintro e wb ⟨y, rfl, hy0, hy1, hrb, hgb⟩; obtain ⟨j, rfl⟩ := Int.eq_ofNat_of_zero_le hy0; obtain ⟨z, hz0, hz1, hzl⟩ := spoilOf j (by omega); have hz : -1 ≤ z ∧ z ≤ 1000 := ⟨hz0, hz1⟩; have HL := Lib.hid hzl; clear hzl hz0 hz1; (first | (have Fb := Lib.hid (Sq.pick FVa.out hgl h14 hrb hgb)) | (have Fb := Lib.hid (Sq.pick F0a.out hgl h14 hrb hgb))); clear hrb hgb; (first | (have F0b := Lib.hid (Sq.some_ Fb.out); clear Fb; have clb := F0b.out.cell HL.out; (obtain ⟨Nb, hNb, GNb, GRb⟩ := F0b.out.one z hz; have FNb := Lib.hid GNb; have FRb := Lib.hid GRb; clear GNb GRb)) | (obtain ⟨Vb, hVb, GVb⟩ := Fb.out.named; have FVb := Lib.hid GVb; clear GVb Fb; have clb := FVb.out.cell HL.out; (obtain ⟨Nb, hNb, GNb, GRb⟩ := FVb.out.one z hz; have FNb := Lib.hid GNb; have FRb := Lib.hid GRb; clear GNb GRb)))))
    | (refine step_append_W9 rfl _ _ _ rfl Try.underlying23 intInfo w4.heap.size (w4.heap.size + 1) (.slice (some ⟨w4.heap.size, 0, none⟩) 0 0) [] rfl P0.out.2 P0.out.1.sz2 v1 (ts.take k) rfl (P0.out.1.front hv1 hkl) (by simp; omega) ?_; intro va wa hoa hwa; have Ga := P0.out.1.app h24 h14 (by omega) hoa hwa (fun L e => by cases e); have hza := hwa.size; have Fa := Lib.hid Ga; clear Ga hoa hwa; (first | (have F0a := Lib.hid (Sq.some_ Fa.out); clear Fa) | (obtain ⟨Va, hVa, GVa⟩ := Fa.out.named; have FVa := Lib.hid GVa; have F0a := Lib.hid (Sq.none_ Fa.out); clear GVa Fa)))
    | (refine step_append_W9 rfl _ _ _ rfl Try.underlying23 intInfo w4.heap.size (w4.heap.size + 1) (.slice (some ⟨w4.heap.size, 0, none⟩) 0 0) [] rfl P04.out.2 P04.out.1.sz2 v1 (ts.take k) rfl (P04.out.1.front hv1 hkl) (by simp; omega) ?_; intro va wa hoa hwa; have Ga := P04.out.1.app h24 h14 (by omega) hoa hwa (fun L e => by cases e; omega); have hza := hwa.size; have Fa := Lib.hid Ga; clear Ga hoa hwa; (first | (have F0a := Lib.hid (Sq.some_ Fa.out); clear Fa) | (obtain ⟨Va, hVa, GVa⟩ := Fa.out.named; have FVa := Lib.hid GVa; have F0a := Lib.hid (Sq.none_ Fa.out); clear GVa Fa)))
    | (refine step_append_W9 rfl _ _ _ rfl Try.underlying23 intInfo Zf.heap.size (Zf.heap.size + 1) (.slice (some ⟨Zf.heap.size, 0, none⟩) 0 0) [] rfl P40.out.2 s40 v1 (ts.take k) rfl (P40.out.1.front hv1 hkl) (by simp; omega) ?_; intro va wa hoa hwa; have Ga := P40.out.1.app h24 h14 (by omega) hoa hwa (fun L e => by cases e; omega); have hza := hwa.size; have Fa := Lib.hid Ga; clear Ga hoa hwa; (first | (have F0a := Lib.hid (Sq.some_ Fa.out); clear Fa) | (obtain ⟨Va, hVa, GVa⟩ := Fa.out.named; have FVa := Lib.hid GVa; have F0a := Lib.hid (Sq.none_ Fa.out); clear GVa Fa)))
    | fail)
  all_goals (
    have B := Lib.hid (below_of_within X.out.2 hg Fd.out.wi)
    go_wp2
    go_ret
    exact ⟨_, _, rfl, ⟨Fd.out.ow.own.mono (by omega), Fd.out.ow.lt⟩, by first | omega | (simp; done) | (simp; omega), B.out⟩)
end Go.Proofs.Ytmlmnbepfaaigaa
