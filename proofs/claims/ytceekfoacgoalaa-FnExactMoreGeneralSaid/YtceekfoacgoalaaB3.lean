/- Several texts in one. -/
import Derived.Test.YtceekfoacgoalaaB1
import Derived.Deep.DeepCutAuto
import Derived.Test.YtceekfoacgoalaaB2
/- The reader of the laws' codes: pick and odd. -/
namespace Go.Proofs.Ytceekfoacgoalaa
set_option maxRecDepth 100000
open Go.RowKit Go.WideShapes

/-- Block g is a reader over the bytes bs, at place p. -/
structure Rdr (w : World) (g : Nat) (bs : List Int) (p : Nat) : Prop where
  blk : ∃ A c, w.heap[g]? = some (.cells #[.slice A bs.length c, .int .i64 p] 77 (0, 0)) ∧ IntsK .u8 w g A bs

section
variable {w w' : World} {g p : Nat} {bs : List Int}
theorem Rdr.lt (h : Rdr w g bs p) : g < w.heap.size := by
  obtain ⟨A, c, hh, _⟩ := h.blk
  rcases Nat.lt_or_ge g w.heap.size with h | h
  · exact h
  · rw [Array.getElem?_eq_none h] at hh; cases hh
theorem Rdr.keep (h : Rdr w g bs p) (hb : Below w.heap.size w w') : Rdr w' g bs p := by
  have hlt := h.lt
  obtain ⟨A, c, hh, hi⟩ := h.blk
  exact ⟨A, c, (hb.block g hlt).trans hh, hi.below (hb.mono (Nat.le_of_lt hlt))⟩
theorem only_trans {a b c : World} {r : Option Nat} (h : a.grownBy b r) (k : b.grownBy c r) : a.grownBy c r := World.grownBy.trans h k
end

theorem byte_bd {z : Int} (h : InK .u8 z) : 0 ≤ z ∧ z ≤ 255 := by
  simpa [InK, Lit.wf, IntKind.min, IntKind.max, IntKind.signed, IntKind.bits] using h

theorem xor_nonneg (a b : Int) (ha : 0 ≤ a ∧ a < 9223372036854775808) (hb : 0 ≤ b ∧ b < 9223372036854775808) : 0 ≤ bits .xor .i64 a b := by
  obtain ⟨m, rfl⟩ := Int.eq_ofNat_of_zero_le ha.1
  obtain ⟨k, rfl⟩ := Int.eq_ofNat_of_zero_le hb.1
  have hm : (BitVec.ofInt 64 (m : Int)).toNat = m := by rw [BitVec.ofInt_natCast, BitVec.toNat_ofNat]; exact Nat.mod_eq_of_lt (by omega)
  have hk : (BitVec.ofInt 64 (k : Int)).toNat = k := by rw [BitVec.ofInt_natCast, BitVec.toNat_ofNat]; exact Nat.mod_eq_of_lt (by omega)
  have hx : m ^^^ k < 2 ^ 63 := Nat.xor_lt_two_pow (by omega) (by omega)
  show 0 ≤ IntKind.i64.wrap ((BitVec.ofInt 64 (m : Int) ^^^ BitVec.ofInt 64 (k : Int)).toNat : Int)
  rw [BitVec.toNat_xor, hm, hk, IntKind.wrap_i64]
  omega

theorem pick_any (g p : Nat) (n : Int) (bs : List Int) (w : World) (h : Rdr w g bs p) (hn : 1 ≤ n ∧ n ≤ 1000000) (hp : p ≤ 1000000000000) :
    Calls Try.prog 26 #[.pointer (some ⟨g, 0, none⟩), .int .i64 n] w fun e w' => ∃ x : Int, e = .returned (.int .i64 x) ∧ 0 ≤ x ∧ x < n ∧ Rdr w' g bs (p + 1) ∧ w.grownBy w' (some g) := by
  obtain ⟨A, c, hh, hi⟩ := h.blk
  have hlt := h.lt
  have hm := hi.len
  have c0 : w.cell? ⟨g, 0, none⟩ = some (.slice A bs.length c) := by rw [cell_of_row _ _ _ _ _ _ hh]; rfl
  have c1 : w.cell? ⟨g, 1, none⟩ = some (.int .i64 p) := by rw [cell_of_row _ _ _ _ _ _ hh]; rfl
  have f1 : w.frozen? ⟨g, 1, none⟩ = false := by simp [World.frozen?, hh]
  have hw' : Rdr (w.setCell ⟨g, 1, none⟩ (.int .i64 ((p : Int) + 1))) g bs (p + 1) ∧ w.grownBy (w.setCell ⟨g, 1, none⟩ (.int .i64 ((p : Int) + 1))) (some g) := by
    refine ⟨⟨A, c, ?_, hi.keep fun q hq => World.cell?_setCell_other w _ q _ (fun e => by subst e; simp at hq)⟩, ?_⟩
    · simp [World.setCell, Array.getElem?_modify, hh]
    · refine ⟨rfl, rfl, rfl, by simp [World.setCell], fun i hi hne => Below.heap_setCell w _ _ i (fun e => hne (by rw [e]))⟩
  have Hw := Lib.hid hw'; clear hw'
  have Hi := Lib.hid hi; clear hi
  clear hh h
  by_cases hb0 : bs.length = 0
  · have hb1 : ((bs.length : Int) == 0) = true := by simp [hb0]
    have Hb0 := Lib.hid hb0; clear hb0
    go_enter Try.func26, Try.ntmps26
    go_wp2
    go_ret
    exact ⟨_, rfl, by omega, by omega, Hw.out⟩
  · have hb1 : ((bs.length : Int) == 0) = false := by simp [hb0]
    obtain ⟨b, off, rfl, hbg, hc⟩ := Hi.out.at_ (by omega)
    have hpos : 1 ≤ bs.length := by omega
    clear hb0
    by_cases hk : p < bs.length
    · have hcell := hc p hk
      have hbd := byte_bd (Hi.out.wf (bs.getD p 0) (by simp [List.getD, List.getElem?_eq_getElem hk]))
      clear hc
      generalize bs.getD p 0 = z at *
      go_enter Try.func26, Try.ntmps26
      go_wp2
      go_ret
      refine ⟨_, rfl, ?_, ?_, Hw.out⟩
      · exact Int.emod_nonneg _ (by omega)
      · exact Int.emod_lt_of_pos _ (by omega)
    · have h1 := hc (p % bs.length) (Nat.mod_lt _ (by omega))
      have h2 := hc ((p * 7 + 3) % bs.length) (Nat.mod_lt _ (by omega))
      have hi1 := Nat.mod_lt p (show 0 < bs.length by omega)
      have hi2 := Nat.mod_lt (p * 7 + 3) (show 0 < bs.length by omega)
      have hy1 := byte_bd (Hi.out.wf (bs.getD (p % bs.length) 0) (by simp [List.getD, List.getElem?_eq_getElem hi1]))
      have hy2 := byte_bd (Hi.out.wf (bs.getD ((p * 7 + 3) % bs.length) 0) (by simp [List.getD, List.getElem?_eq_getElem hi2]))
      clear hc
      generalize bs.getD (p % bs.length) 0 = y1 at *
      generalize bs.getD ((p * 7 + 3) % bs.length) 0 = y2 at *
      have hj1 : 0 ≤ (p : Int) % bs.length ∧ (p : Int) % bs.length < bs.length := ⟨Int.emod_nonneg _ (by omega), Int.emod_lt_of_pos _ (by omega)⟩
      have hj2 : 0 ≤ ((p : Int) * 7 + 3) % bs.length ∧ ((p : Int) * 7 + 3) % bs.length < bs.length := ⟨Int.emod_nonneg _ (by omega), Int.emod_lt_of_pos _ (by omega)⟩
      have hq : 0 ≤ (p : Int) / bs.length ∧ (p : Int) / bs.length ≤ p := ⟨Int.ediv_nonneg (by omega) (by omega), Int.ediv_le_self _ (by omega)⟩
      go_enter Try.func26, Try.ntmps26
      go_wp2
      go_quiet (fail)
      go_wp2
      go_ret
      have hX : 0 ≤ y1 * 131 + y2 * 1117 + (p : Int) * 29 + (p : Int) / bs.length * 53 ∧ y1 * 131 + y2 * 1117 + (p : Int) * 29 + (p : Int) / bs.length * 53 < 9223372036854775808 := by omega
      generalize y1 * 131 + y2 * 1117 + (p : Int) * 29 + (p : Int) / bs.length * 53 = X at *
      have hb := xor_nonneg X (X / 64) hX ⟨by omega, by omega⟩
      generalize bits BinOp.xor IntKind.i64 X (X / 64) = Y at *
      refine ⟨_, rfl, ?_, ?_, ?_, ?_⟩
      · rw [Int.tmod_eq_emod_of_nonneg hb]; exact Int.emod_nonneg _ (by omega)
      · rw [Int.tmod_eq_emod_of_nonneg hb]; exact Int.emod_lt_of_pos _ (by omega)
      · obtain ⟨A', c', hh', hi'⟩ := Hw.out.1.blk
        exact ⟨A', c', hh', hi'.drewN _⟩
      · exact ⟨Hw.out.2.os, Hw.out.2.tape, Hw.out.2.output, Hw.out.2.size, Hw.out.2.block⟩

theorem Rdr.below {w w' : World} {g p B : Nat} {bs : List Int} (h : Rdr w g bs p) (hb : Below B w w') (hg : g < B) : Rdr w' g bs p := by
  obtain ⟨A, c, hh, hi⟩ := h.blk
  exact ⟨A, c, (hb.block g hg).trans hh, hi.below (hb.mono (Nat.le_of_lt hg))⟩

/-- The reader since w0: it lies at g, and nothing else of w0 has changed. -/
structure RS (w0 w : World) (g : Nat) (bs : List Int) (p : Nat) : Prop where
  rdr : Rdr w g bs p
  old : g < w0.heap.size
  within : Within g (g + 1) w0 w
theorem RS.refl {w : World} {g p : Nat} {bs : List Int} (h : Rdr w g bs p) : RS w w g bs p := ⟨h, h.lt, Within.of_below (Below.refl _ _)⟩
theorem Within.trans {lo hi : Nat} {a b c : World} (h : Within lo hi a b) (k : Within lo hi b c) : Within lo hi a c :=
  ⟨k.os.trans h.os, k.tape.trans h.tape, k.output.trans h.output, Nat.le_trans h.size k.size, fun q hq hn => (k.block q (Nat.lt_of_lt_of_le hq h.size) hn).trans (h.block q hq hn)⟩
theorem Within.then_below {lo hi B : Nat} {a b c : World} (h : Within lo hi a b) (k : Below B b c) (hB : a.heap.size ≤ B) : Within lo hi a c :=
  ⟨k.os.trans h.os, k.tape.trans h.tape, k.output.trans h.output, Nat.le_trans h.size k.size, fun q hq hn => (k.block q (by omega)).trans (h.block q hq hn)⟩
theorem RS.below {w0 w w' : World} {g p B : Nat} {bs : List Int} (h : RS w0 w g bs p) (hb : Below B w w') (hB : w0.heap.size ≤ B) : RS w0 w' g bs p :=
  ⟨h.rdr.below hb (Nat.lt_of_lt_of_le h.old hB), h.old, h.within.then_below hb hB⟩
theorem RS.size {w0 w : World} {g p : Nat} {bs : List Int} (h : RS w0 w g bs p) : w0.heap.size ≤ w.heap.size := h.within.size

/-- pick, in these words. -/
theorem pick (w0 : World) (g p : Nat) (n : Int) (bs : List Int) (w : World) (h : RS w0 w g bs p) (hn : 1 ≤ n ∧ n ≤ 1000000) (hp : p ≤ 1000000000000) :
    Calls Try.prog 26 #[.pointer (some ⟨g, 0, none⟩), .int .i64 n] w fun e w' => ∃ x : Int, e = .returned (.int .i64 x) ∧ 0 ≤ x ∧ x < n ∧ RS w0 w' g bs (p + 1) ∧ Within g (g + 1) w w' := by
  refine (pick_any g p n bs w h.rdr hn hp).mono ?_
  rintro e w' ⟨x, rfl, h0, h1, hr, hg⟩
  have hw : Within g (g + 1) w w' := Within.of_only hg (fun k hk => by cases hk; omega)
  exact ⟨x, rfl, h0, h1, ⟨hr, h.old, h.within.trans hw⟩, hw⟩

/-- odd: some truth. -/
theorem odd (w0 : World) (g p : Nat) (n : Int) (bs : List Int) (w : World) (h : RS w0 w g bs p) (hn : 1 ≤ n ∧ n ≤ 1000000) (hp : p ≤ 1000000000000) :
    Calls Try.prog 48 #[.pointer (some ⟨g, 0, none⟩), .int .i64 n] w fun e w' => ∃ b : Bool, e = .returned (.bool b) ∧ RS w0 w' g bs (p + 1) ∧ Within g (g + 1) w w' := by
  have H := Lib.hid h; clear h
  go_enter Try.func48, Try.ntmps48
  go_wp2_with fail
  refine (pick w0 g p n bs _ H.out hn hp).mono ?_
  rintro e w' ⟨x, rfl, h0, h1, hr, hg⟩
  have X := Lib.hid (And.intro hr hg); clear hr hg
  go_wp2
  all_goals go_ret
  all_goals exact ⟨_, rfl, X.out.1, X.out.2⟩
end Go.Proofs.Ytceekfoacgoalaa

/- What the laws draw: numbers, parts of programs, words, programs. Only that something comes, in memory of its own, not too long. -/
namespace Go.Proofs.Ytceekfoacgoalaa
set_option maxRecDepth 100000
open Go.RowKit Go.WideShapes

theorem lits_own (w : World) (zs : List Int) (hn : zs.length ≤ 1000) (hw : ∀ z ∈ zs, InK .i64 z) : OwnI (w.alloc (.cells (zs.map (Value.int .i64)).toArray 3)) w.heap.size (w.heap.size + 1) (.slice (some ⟨w.heap.size, 0, none⟩) zs.length zs.length) zs :=
  ⟨⟨lit_own w zs hn, hw⟩, fun g hg => by simp [Value.ownBlock] at hg; omega⟩
theorem wf_near (z : Int) (h : -1000000 ≤ z ∧ z ≤ 1000000) : InK .i64 z := WalkArith.wf_i64 (by omega)

/-- append(s, x...) in the words of OwnI and RdI. -/
theorem wp_append_V {P : Program} {w : World} {o : Oper} {a : Act} {K : Act → World → Prop} {Q : Exit → Act → World → Prop} (s x : Operand) (t : TypeId)
    (ho : o.op = .call { callee := .builtin .append, args := #[s, x], argTypes := #[t, t] })
    (ht : P.underlying t = some (.slice 3)) (hinfo : (P.info? 3).map (fun i => (i.zero, i.size, i.bytes)) = some (some (.int .i64 0), 1, 8))
    (lo hi : Nat) (v : Value) (zs : List Int) (hs : a.eval s = v) (hown : OwnI w lo hi v zs) (hlo : lo ≤ w.heap.size)
    (u : Value) (ys : List Int) (hx : a.eval x = u) (hr : RdI w u ys) (hlen : zs.length + ys.length ≤ 1000000000)
    (h : ∀ v' w', OwnI w' lo w'.heap.size v' (zs ++ ys) → Below lo w w' → K (a.put o.dst v') w') : o.wp P a w K Q := by
  obtain ⟨A, c, rfl, hi', _⟩ := hr
  refine wp_append_ints s x t ho lo 3 .i64 8 ht hinfo (Nat.le_refl _) v zs hs hown.own.own w.heap.size A ys c hx hi' hlen hlo ?_
  intro v' w' h1 h2 _
  refine h v' w' (Own.within ⟨h1, fun z hz => ?_⟩) (below_of_only h2 hlo (fun k hk => (hown.own.ge k hk).1))
  rcases List.mem_append.1 hz with h | h
  · exact hown.own.wf z h
  · exact hi'.wf z h
theorem wpList_append_V {P : Program} {w : World} {ops : Array Oper} {rest : List Oper} {o : Oper} {a : Act} {Q : Exit → Act → World → Prop} (hgd : o.guard = none) (s x : Operand) (t : TypeId)
    (ho : o.op = .call { callee := .builtin .append, args := #[s, x], argTypes := #[t, t] })
    (ht : P.underlying t = some (.slice 3)) (hinfo : (P.info? 3).map (fun i => (i.zero, i.size, i.bytes)) = some (some (.int .i64 0), 1, 8))
    (lo hi : Nat) (v : Value) (zs : List Int) (hs : a.eval s = v) (hown : OwnI w lo hi v zs) (hlo : lo ≤ w.heap.size)
    (u : Value) (ys : List Int) (hx : a.eval x = u) (hr : RdI w u ys) (hlen : zs.length + ys.length ≤ 1000000000)
    (h : ∀ v' w', OwnI w' lo w'.heap.size v' (zs ++ ys) → Below lo w w' → wpList P ops Q rest (a.put o.dst v') w') : wpList P ops Q (o :: rest) a w :=
  wpList_plain hgd fun _ hK => wp_append_V s x t ho ht hinfo lo hi v zs hs hown hlo u ys hx hr hlen fun v' w' h1 h2 => hK _ _ (h v' w' h1 h2)
/-- The same where the append is guarded, and is done. -/
theorem wpList_append_G {P : Program} {w : World} {ops : Array Oper} {rest : List Oper} {o : Oper} {a : Act} {Q : Exit → Act → World → Prop} (hwant : Region.wanted o (yielded ops a.tmps) = true) (s x : Operand) (t : TypeId)
    (ho : o.op = .call { callee := .builtin .append, args := #[s, x], argTypes := #[t, t] })
    (ht : P.underlying t = some (.slice 3)) (hinfo : (P.info? 3).map (fun i => (i.zero, i.size, i.bytes)) = some (some (.int .i64 0), 1, 8))
    (lo hi : Nat) (v : Value) (zs : List Int) (hs : a.eval s = v) (hown : OwnI w lo hi v zs) (hlo : lo ≤ w.heap.size)
    (u : Value) (ys : List Int) (hx : a.eval x = u) (hr : RdI w u ys) (hlen : zs.length + ys.length ≤ 1000000000)
    (h : ∀ v' w', OwnI w' lo w'.heap.size v' (zs ++ ys) → Below lo w w' → wpList P ops Q rest (a.put o.dst v') w') : wpList P ops Q (o :: rest) a w :=
  wpList_step fun _ hK => by
    rw [if_pos hwant]
    exact wp_append_V s x t ho ht hinfo lo hi v zs hs hown hlo u ys hx hr hlen fun v' w' h1 h2 => hK _ _ (h v' w' h1 h2)

/-- What a part gives back. -/
def PartPost (w0 : World) (g p : Nat) (bs : List Int) (w : World) (L C : Nat) (e : Ending) (w' : World) : Prop :=
  ∃ v zs p', e = .returned v ∧ OwnI w' w.heap.size w'.heap.size v zs ∧ zs.length ≤ L ∧ RS w0 w' g bs p' ∧ p' ≤ p + C ∧ Within g (g + 1) w w'
theorem part_lit (w0 w w1 : World) (g p p1 L C : Nat) (bs zs : List Int) (hr : RS w0 w1 g bs p1) (hg : Within g (g + 1) w w1) (h0 : w0.heap.size ≤ w.heap.size) (hz : ∀ z ∈ zs, -1000000 ≤ z ∧ z ≤ 1000000) (hl : zs.length ≤ L ∧ L ≤ 1000) (hp : p1 ≤ p + C) :
    PartPost w0 g p bs w L C (.returned (.slice (some ⟨w1.heap.size, 0, none⟩) zs.length zs.length)) (w1.alloc (.cells (zs.map (Value.int .i64)).toArray 3)) := by
  have hb : Below w1.heap.size w1 (w1.alloc (.cells (zs.map (Value.int .i64)).toArray 3)) := (Below.refl _ _).alloc (Nat.le_refl _) _
  have ho := lits_own w1 zs (by omega) (fun z h => wf_near z (hz z h))
  have hs := hg.size
  refine ⟨_, zs, p1, rfl, ⟨ho.own.mono hs, fun g hg => by have := ho.lt g hg; simpa using this⟩, hl.1, hr.below hb (by omega), hp, hg.then_below hb hs⟩

end Go.Proofs.Ytceekfoacgoalaa
