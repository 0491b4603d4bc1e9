/- Several texts in one. -/
import Derived.Test.YtenaeiedoiepdaaB1
import Derived.Deep.DeepCutAuto
import Derived.Test.YtenaeiedoiepdaaB2
/- The reader of the laws' codes: pick and odd. -/
namespace Go.Proofs.Ytenaeiedoiepdaa
set_option maxRecDepth 100000
open Go.RowKit Go.WideShapes

/-- Block g is a reader over the bytes bs, at place p. -/
structure Rdr (w : World) (g : Nat) (bs : List Int) (p : Nat) : Prop where
  blk : ∃ A c, w.heap[g]? = some (.cells #[.slice A bs.length c, .int .i64 p] 50 (0, 0)) ∧ IntsK .u8 w g A bs

section
variable {w w' : World} {g p : Nat} {bs : List Int}
theorem Rdr.lt (h : Rdr w g bs p) : g < w.heap.size := by
  obtain ⟨A, c, hh, _⟩ := h.blk
  rcases Nat.lt_or_ge g w.heap.size with h | h
  · exact h
  · rw [Array.getElem?_eq_none h] at hh; cases hh
theorem Rdr.keep (h : Rdr w g bs p) (hb : Below w.heap.size w w') : Rdr w' g bs p := by
  have hlt := h.lt
  obtain ⟨A, c, hh, hi⟩ := h.blk
  exact ⟨A, c, (hb.block g hlt).trans hh, hi.below (hb.mono (Nat.le_of_lt hlt))⟩
theorem only_trans {a b c : World} {r : Option Nat} (h : a.grownBy b r) (k : b.grownBy c r) : a.grownBy c r := World.grownBy.trans h k
end

theorem byte_bd {z : Int} (h : InK .u8 z) : 0 ≤ z ∧ z ≤ 255 := by
  simpa [InK, Lit.wf, IntKind.min, IntKind.max, IntKind.signed, IntKind.bits] using h

theorem xor_nonneg (a b : Int) (ha : 0 ≤ a ∧ a < 9223372036854775808) (hb : 0 ≤ b ∧ b < 9223372036854775808) : 0 ≤ bits .xor .i64 a b := by
  obtain ⟨m, rfl⟩ := Int.eq_ofNat_of_zero_le ha.1
  obtain ⟨k, rfl⟩ := Int.eq_ofNat_of_zero_le hb.1
  have hm : (BitVec.ofInt 64 (m : Int)).toNat = m := by rw [BitVec.ofInt_natCast, BitVec.toNat_ofNat]; exact Nat.mod_eq_of_lt (by omega)
  have hk : (BitVec.ofInt 64 (k : Int)).toNat = k := by rw [BitVec.ofInt_natCast, BitVec.toNat_ofNat]; exact Nat.mod_eq_of_lt (by omega)
  have hx : m ^^^ k < 2 ^ 63 := Nat.xor_lt_two_pow (by omega) (by omega)
  show 0 ≤ IntKind.i64.wrap ((BitVec.ofInt 64 (m : Int) ^^^ BitVec.ofInt 64 (k : Int)).toNat : Int)
  rw [BitVec.toNat_xor, hm, hk, IntKind.wrap_i64]
  omega

theorem pick_any (g p : Nat) (n : Int) (bs : List Int) (w : World) (h : Rdr w g bs p) (hn : 1 ≤ n ∧ n ≤ 1000000) (hp : p ≤ 1000000000000) :
    Calls Try.prog 56 #[.pointer (some ⟨g, 0, none⟩), .int .i64 n] w fun e w' => ∃ x : Int, e = .returned (.int .i64 x) ∧ 0 ≤ x ∧ x < n ∧ Rdr w' g bs (p + 1) ∧ w.grownBy w' (some g) := by
  obtain ⟨A, c, hh, hi⟩ := h.blk
  have hlt := h.lt
  have hm := hi.len
  have c0 : w.cell? ⟨g, 0, none⟩ = some (.slice A bs.length c) := by rw [cell_of_row _ _ _ _ _ _ hh]; rfl
  have c1 : w.cell? ⟨g, 1, none⟩ = some (.int .i64 p) := by rw [cell_of_row _ _ _ _ _ _ hh]; rfl
  have f1 : w.frozen? ⟨g, 1, none⟩ = false := by simp [World.frozen?, hh]
  have hw' : Rdr (w.setCell ⟨g, 1, none⟩ (.int .i64 ((p : Int) + 1))) g bs (p + 1) ∧ w.grownBy (w.setCell ⟨g, 1, none⟩ (.int .i64 ((p : Int) + 1))) (some g) := by
    refine ⟨⟨A, c, ?_, hi.keep fun q hq => World.cell?_setCell_other w _ q _ (fun e => by subst e; simp at hq)⟩, ?_⟩
    · simp [World.setCell, Array.getElem?_modify, hh]
    · refine ⟨rfl, rfl, rfl, by simp [World.setCell], fun i hi hne => Below.heap_setCell w _ _ i (fun e => hne (by rw [e]))⟩
  have Hw := Lib.hid hw'; clear hw'
  have Hi := Lib.hid hi; clear hi
  clear hh h
  by_cases hb0 : bs.length = 0
  · have hb1 : ((bs.length : Int) == 0) = true := by simp [hb0]
    have Hb0 := Lib.hid hb0; clear hb0
    go_enter Try.func56, Try.ntmps56
    go_wp2
    go_ret
    exact ⟨_, rfl, by omega, by omega, Hw.out⟩
  · have hb1 : ((bs.length : Int) == 0) = false := by simp [hb0]
    obtain ⟨b, off, rfl, hbg, hc⟩ := Hi.out.at_ (by omega)
    have hpos : 1 ≤ bs.length := by omega
    clear hb0
    by_cases hk : p < bs.length
    · have hcell := hc p hk
      have hbd := byte_bd (Hi.out.wf (bs.getD p 0) (by simp [List.getD, List.getElem?_eq_getElem hk]))
      clear hc
      generalize bs.getD p 0 = z at *
      go_enter Try.func56, Try.ntmps56
      go_wp2
      go_ret
      refine ⟨_, rfl, ?_, ?_, Hw.out⟩
      · exact Int.emod_nonneg _ (by omega)
      · exact Int.emod_lt_of_pos _ (by omega)
    · have h1 := hc (p % bs.length) (Nat.mod_lt _ (by omega))
      have h2 := hc ((p * 7 + 3) % bs.length) (Nat.mod_lt _ (by omega))
      have hi1 := Nat.mod_lt p (show 0 < bs.length by omega)
      have hi2 := Nat.mod_lt (p * 7 + 3) (show 0 < bs.length by omega)
      have hy1 := byte_bd (Hi.out.wf (bs.getD (p % bs.length) 0) (by simp [List.getD, List.getElem?_eq_getElem hi1]))
      have hy2 := byte_bd (Hi.out.wf (bs.getD ((p * 7 + 3) % bs.length) 0) (by simp [List.getD, List.getElem?_eq_getElem hi2]))
      clear hc
      generalize bs.getD (p % bs.length) 0 = y1 at *
      generalize bs.getD ((p * 7 + 3) % bs.length) 0 = y2 at *
      have hj1 : 0 ≤ (p : Int) % bs.length ∧ (p : Int) % bs.length < bs.length := ⟨Int.emod_nonneg _ (by omega), Int.emod_lt_of_pos _ (by omega)⟩
      have hj2 : 0 ≤ ((p : Int) * 7 + 3) % bs.length ∧ ((p : Int) * 7 + 3) % bs.length < bs.length := ⟨Int.emod_nonneg _ (by omega), Int.emod_lt_of_pos _ (by omega)⟩
      have hq : 0 ≤ (p : Int) / bs.length ∧ (p : Int) / bs.length ≤ p := ⟨Int.ediv_nonneg (by omega) (by omega), Int.ediv_le_self _ (by omega)⟩
      go_enter Try.func56, Try.ntmps56
      go_wp2
      go_quiet (fail)
      go_wp2
      go_ret
      have hX : 0 ≤ y1 * 131 + y2 * 1117 + (p : Int) * 29 + (p : Int) / bs.length * 53 ∧ y1 * 131 + y2 * 1117 + (p : Int) * 29 + (p : Int) / bs.length * 53 < 9223372036854775808 := by omega
      generalize y1 * 131 + y2 * 1117 + (p : Int) * 29 + (p : Int) / bs.length * 53 = X at *
      have hb := xor_nonneg X (X / 64) hX ⟨by omega, by omega⟩
      generalize bits BinOp.xor IntKind.i64 X (X / 64) = Y at *
      refine ⟨_, rfl, ?_, ?_, ?_, ?_⟩
      · rw [Int.tmod_eq_emod_of_nonneg hb]; exact Int.emod_nonneg _ (by omega)
      · rw [Int.tmod_eq_emod_of_nonneg hb]; exact Int.emod_lt_of_pos _ (by omega)
      · obtain ⟨A', c', hh', hi'⟩ := Hw.out.1.blk
        exact ⟨A', c', hh', hi'.drewN _⟩
      · exact ⟨Hw.out.2.os, Hw.out.2.tape, Hw.out.2.output, Hw.out.2.size, Hw.out.2.block⟩

theorem Rdr.below {w w' : World} {g p B : Nat} {bs : List Int} (h : Rdr w g bs p) (hb : Below B w w') (hg : g < B) : Rdr w' g bs p := by
  obtain ⟨A, c, hh, hi⟩ := h.blk
  exact ⟨A, c, (hb.block g hg).trans hh, hi.below (hb.mono (Nat.le_of_lt hg))⟩

/-- The reader since w0: it lies at g, and nothing else of w0 has changed. -/
structure RS (w0 w : World) (g : Nat) (bs : List Int) (p : Nat) : Prop where
  rdr : Rdr w g bs p
  old : g < w0.heap.size
  within : Within g (g + 1) w0 w
theorem RS.refl {w : World} {g p : Nat} {bs : List Int} (h : Rdr w g bs p) : RS w w g bs p := ⟨h, h.lt, Within.of_below (Below.refl _ _)⟩
theorem Within.trans {lo hi : Nat} {a b c : World} (h : Within lo hi a b) (k : Within lo hi b c) : Within lo hi a c :=
  ⟨k.os.trans h.os, k.tape.trans h.tape, k.output.trans h.output, Nat.le_trans h.size k.size, fun q hq hn => (k.block q (Nat.lt_of_lt_of_le hq h.size) hn).trans (h.block q hq hn)⟩
theorem Within.then_below {lo hi B : Nat} {a b c : World} (h : Within lo hi a b) (k : Below B b c) (hB : a.heap.size ≤ B) : Within lo hi a c :=
  ⟨k.os.trans h.os, k.tape.trans h.tape, k.output.trans h.output, Nat.le_trans h.size k.size, fun q hq hn => (k.block q (by omega)).trans (h.block q hq hn)⟩
theorem RS.below {w0 w w' : World} {g p B : Nat} {bs : List Int} (h : RS w0 w g bs p) (hb : Below B w w') (hB : w0.heap.size ≤ B) : RS w0 w' g bs p :=
  ⟨h.rdr.below hb (Nat.lt_of_lt_of_le h.old hB), h.old, h.within.then_below hb hB⟩
theorem RS.size {w0 w : World} {g p : Nat} {bs : List Int} (h : RS w0 w g bs p) : w0.heap.size ≤ w.heap.size := h.within.size

/-- pick, in these words. -/
theorem pick (w0 : World) (g p : Nat) (n : Int) (bs : List Int) (w : World) (h : RS w0 w g bs p) (hn : 1 ≤ n ∧ n ≤ 1000000) (hp : p ≤ 1000000000000) :
    Calls Try.prog 56 #[.pointer (some ⟨g, 0, none⟩), .int .i64 n] w fun e w' => ∃ x : Int, e = .returned (.int .i64 x) ∧ 0 ≤ x ∧ x < n ∧ RS w0 w' g bs (p + 1) ∧ Within g (g + 1) w w' := by
  refine (pick_any g p n bs w h.rdr hn hp).mono ?_
  rintro e w' ⟨x, rfl, h0, h1, hr, hg⟩
  have hw : Within g (g + 1) w w' := Within.of_only hg (fun k hk => by cases hk; omega)
  exact ⟨x, rfl, h0, h1, ⟨hr, h.old, h.within.trans hw⟩, hw⟩

/-- odd: some truth. -/
theorem odd (w0 : World) (g p : Nat) (n : Int) (bs : List Int) (w : World) (h : RS w0 w g bs p) (hn : 1 ≤ n ∧ n ≤ 1000000) (hp : p ≤ 1000000000000) :
    Calls Try.prog 27 #[.pointer (some ⟨g, 0, none⟩), .int .i64 n] w fun e w' => ∃ b : Bool, e = .returned (.bool b) ∧ RS w0 w' g bs (p + 1) ∧ Within g (g + 1) w w' := by
  have H := Lib.hid h; clear h
  go_enter Try.func27, Try.ntmps27
  go_wp2_with fail
  refine (pick w0 g p n bs _ H.out hn hp).mono ?_
  rintro e w' ⟨x, rfl, h0, h1, hr, hg⟩
  have X := Lib.hid (And.intro hr hg); clear hr hg
  go_wp2
  all_goals go_ret
  all_goals exact ⟨_, rfl, X.out.1, X.out.2⟩
end Go.Proofs.Ytenaeiedoiepdaa

/- What the laws draw: numbers, parts of programs, words, programs. Only that something comes, in memory of its own, not too long. -/
namespace Go.Proofs.Ytenaeiedoiepdaa
set_option maxRecDepth 100000
open Go.RowKit Go.WideShapes

theorem lits_own (w : World) (zs : List Int) (hn : zs.length ≤ 1000) (hw : ∀ z ∈ zs, InK .i64 z) : OwnI (w.alloc (.cells (zs.map (Value.int .i64)).toArray 3)) w.heap.size (w.heap.size + 1) (.slice (some ⟨w.heap.size, 0, none⟩) zs.length zs.length) zs :=
  ⟨⟨lit_own w zs hn, hw⟩, fun g hg => by simp [Value.ownBlock] at hg; omega⟩
theorem wf_near (z : Int) (h : -1000000 ≤ z ∧ z ≤ 1000000) : InK .i64 z := WalkArith.wf_i64 (by omega)

theorem num (w0 : World) (g p : Nat) (bs : List Int) (w : World) (h : RS w0 w g bs p) (hp : p ≤ 900000000000) :
    Calls Try.prog 73 #[.pointer (some ⟨g, 0, none⟩)] w fun e w' => ∃ x : Int, e = .returned (.int .i64 x) ∧ 0 ≤ x ∧ x ≤ 999 ∧ RS w0 w' g bs (p + 4) ∧ Within g (g + 1) w w' := by
  have hgw := h.rdr.lt
  have H := Lib.hid h; clear h
  go_enter Try.func73, Try.ntmps73
  go_wp2_with fail
  refine (pick w0 g p 10 bs _ H.out (by omega) (by omega)).mono ?_
  rintro e w1 ⟨x1, rfl, h10, h11, hr1, hg1⟩
  have H1 := Lib.hid hr1; have G1 := Lib.hid hg1; clear hr1 hg1 H
  go_wp2_with fail
  refine (pick w0 g (p + 1) 10 bs _ H1.out (by omega) (by omega)).mono ?_
  rintro e w2 ⟨x2, rfl, h20, h21, hr2, hg2⟩
  have H2 := Lib.hid hr2; have G2 := Lib.hid (G1.out.trans hg2); clear hr2 hg2 H1 G1
  go_wp2_with fail
  refine (pick w0 g (p + 1 + 1) 250 bs _ H2.out (by omega) (by omega)).mono ?_
  rintro e w3 ⟨x3, rfl, h30, h31, hr3, hg3⟩
  have H3 := Lib.hid hr3; have G3 := Lib.hid (G2.out.trans hg3); clear hr3 hg3 H2 G2
  have hgs := H3.out.rdr.lt
  go_wp2_with fail
  have hbl : Below w3.heap.size w3 (w3.alloc (.cells #[.int .i64 0, .int .i64 1, .int .i64 2, .int .i64 3, .int .i64 x1, .int .i64 x2, .int .i64 999, .int .i64 (x3 * 4)] 3)) := (Below.refl _ _).alloc (Nat.le_refl _) _
  have H3' := Lib.hid (H3.out.below hbl H3.out.size)
  have G3' := Lib.hid (G3.out.then_below hbl G3.out.size)
  clear H3 G3 hbl
  refine (pick w0 g (p + 1 + 1 + 1) 8 bs _ H3'.out (by omega) (by omega)).mono ?_
  rintro e w4 ⟨x4, rfl, h40, h41, hr4, hg4⟩
  have hblk : w4.heap[w3.heap.size]? = some (.cells #[.int .i64 0, .int .i64 1, .int .i64 2, .int .i64 3, .int .i64 x1, .int .i64 x2, .int .i64 999, .int .i64 (x3 * 4)] 3 (0, 0)) := (hg4.block _ (by simp) (by omega)).trans (heap_alloc_new w3 _)
  obtain ⟨k, rfl⟩ := Int.eq_ofNat_of_zero_le h40
  obtain ⟨z, hz, hz0, hz1⟩ : ∃ z : Int, w4.cell? ⟨w3.heap.size, k, none⟩ = some (.int .i64 z) ∧ 0 ≤ z ∧ z ≤ 999 := by
    rw [cell_of_row _ _ _ _ _ _ hblk]
    rcases k with _ | _ | _ | _ | _ | _ | _ | _ | k
    · exact ⟨0, rfl, by omega, by omega⟩
    · exact ⟨1, rfl, by omega, by omega⟩
    · exact ⟨2, rfl, by omega, by omega⟩
    · exact ⟨3, rfl, by omega, by omega⟩
    · exact ⟨x1, rfl, by omega, by omega⟩
    · exact ⟨x2, rfl, by omega, by omega⟩
    · exact ⟨999, rfl, by omega, by omega⟩
    · exact ⟨x3 * 4, rfl, by omega, by omega⟩
    · omega
  have H4 := Lib.hid hr4; have G4 := Lib.hid (G3'.out.trans hg4); clear hr4 hg4 H3' G3' hblk
  go_wp2
  go_ret
  exact ⟨_, rfl, hz0, hz1, H4.out, G4.out⟩

/-- append(s, x...) in the words of OwnI and RdI. -/
theorem wp_append_V {P : Program} {w : World} {o : Oper} {a : Act} {K : Act → World → Prop} {Q : Exit → Act → World → Prop} (s x : Operand) (t : TypeId)
    (ho : o.op = .call { callee := .builtin .append, args := #[s, x], argTypes := #[t, t] })
    (ht : P.underlying t = some (.slice 3)) (hinfo : (P.info? 3).map (fun i => (i.zero, i.size, i.bytes)) = some (some (.int .i64 0), 1, 8))
    (lo hi : Nat) (v : Value) (zs : List Int) (hs : a.eval s = v) (hown : OwnI w lo hi v zs) (hlo : lo ≤ w.heap.size)
    (u : Value) (ys : List Int) (hx : a.eval x = u) (hr : RdI w u ys) (hlen : zs.length + ys.length ≤ 1000000000)
    (h : ∀ v' w', OwnI w' lo w'.heap.size v' (zs ++ ys) → Below lo w w' → K (a.put o.dst v') w') : o.wp P a w K Q := by
  obtain ⟨A, c, rfl, hi', _⟩ := hr
  refine wp_append_ints s x t ho lo 3 .i64 8 ht hinfo (Nat.le_refl _) v zs hs hown.own.own w.heap.size A ys c hx hi' hlen hlo ?_
  intro v' w' h1 h2 _
  refine h v' w' (Own.within ⟨h1, fun z hz => ?_⟩) (below_of_only h2 hlo (fun k hk => (hown.own.ge k hk).1))
  rcases List.mem_append.1 hz with h | h
  · exact hown.own.wf z h
  · exact hi'.wf z h
theorem wpList_append_V {P : Program} {w : World} {ops : Array Oper} {rest : List Oper} {o : Oper} {a : Act} {Q : Exit → Act → World → Prop} (hgd : o.guard = none) (s x : Operand) (t : TypeId)
    (ho : o.op = .call { callee := .builtin .append, args := #[s, x], argTypes := #[t, t] })
    (ht : P.underlying t = some (.slice 3)) (hinfo : (P.info? 3).map (fun i => (i.zero, i.size, i.bytes)) = some (some (.int .i64 0), 1, 8))
    (lo hi : Nat) (v : Value) (zs : List Int) (hs : a.eval s = v) (hown : OwnI w lo hi v zs) (hlo : lo ≤ w.heap.size)
    (u : Value) (ys : List Int) (hx : a.eval x = u) (hr : RdI w u ys) (hlen : zs.length + ys.length ≤ 1000000000)
    (h : ∀ v' w', OwnI w' lo w'.heap.size v' (zs ++ ys) → Below lo w w' → wpList P ops Q rest (a.put o.dst v') w') : wpList P ops Q (o :: rest) a w :=
  wpList_plain hgd fun _ hK => wp_append_V s x t ho ht hinfo lo hi v zs hs hown hlo u ys hx hr hlen fun v' w' h1 h2 => hK _ _ (h v' w' h1 h2)
/-- The same where the append is guarded, and is done. -/
theorem wpList_append_G {P : Program} {w : World} {ops : Array Oper} {rest : List Oper} {o : Oper} {a : Act} {Q : Exit → Act → World → Prop} (hwant : Region.wanted o (yielded ops a.tmps) = true) (s x : Operand) (t : TypeId)
    (ho : o.op = .call { callee := .builtin .append, args := #[s, x], argTypes := #[t, t] })
    (ht : P.underlying t = some (.slice 3)) (hinfo : (P.info? 3).map (fun i => (i.zero, i.size, i.bytes)) = some (some (.int .i64 0), 1, 8))
    (lo hi : Nat) (v : Value) (zs : List Int) (hs : a.eval s = v) (hown : OwnI w lo hi v zs) (hlo : lo ≤ w.heap.size)
    (u : Value) (ys : List Int) (hx : a.eval x = u) (hr : RdI w u ys) (hlen : zs.length + ys.length ≤ 1000000000)
    (h : ∀ v' w', OwnI w' lo w'.heap.size v' (zs ++ ys) → Below lo w w' → wpList P ops Q rest (a.put o.dst v') w') : wpList P ops Q (o :: rest) a w :=
  wpList_step fun _ hK => by
    rw [if_pos hwant]
    exact wp_append_V s x t ho ht hinfo lo hi v zs hs hown hlo u ys hx hr hlen fun v' w' h1 h2 => hK _ _ (h v' w' h1 h2)

def PartOk (d : Int) (L C M : Nat) : Prop := ∀ (w0 : World) (g p : Nat) (bs : List Int) (w : World), RS w0 w g bs p → p ≤ M →
  Calls Try.prog 77 #[.pointer (some ⟨g, 0, none⟩), .int .i64 d] w fun e w' => ∃ v zs p', e = .returned v ∧ OwnI w' w.heap.size w'.heap.size v zs ∧ zs.length ≤ L ∧ RS w0 w' g bs p' ∧ p' ≤ p + C ∧ Within g (g + 1) w w'
def WordsOk (d : Int) (L C M : Nat) : Prop := ∀ (n : Int) (w0 : World) (g p : Nat) (bs : List Int) (w : World), 0 ≤ n ∧ n ≤ 7 → RS w0 w g bs p → p ≤ M →
  Calls Try.prog 71 #[.pointer (some ⟨g, 0, none⟩), .int .i64 n, .int .i64 d] w fun e w' => ∃ v zs p', e = .returned v ∧ OwnI w' w.heap.size w'.heap.size v zs ∧ zs.length ≤ 7 * L ∧ RS w0 w' g bs p' ∧ p' ≤ p + (1 + 7 * C) ∧ Within g (g + 1) w w'

theorem words_step (d : Int) (L C M : Nat) (hL : L ≤ 1000) (hC : C ≤ 100000) (hM : M ≤ 700000000000) (hP : PartOk d L C (M + (1 + 7 * C))) : WordsOk d L C M := by
  intro n w0 g p bs w hn h hp
  have hgw := h.rdr.lt
  have H := Lib.hid h; clear h
  have HP := Lib.hid hP; clear hP
  have L0 := Lib.hid (lits_own w [] (by simp) (by simp))
  have B0 : Below w.heap.size w (w.alloc (.cells #[] 3)) := (Below.refl _ _).alloc (Nat.le_refl _) _
  have H0 := Lib.hid (H.out.below B0 H.out.size)
  have hs0 : w0.heap.size ≤ w.heap.size := H.out.size
  have G0 : Hid (Within g (g + 1) w (w.alloc (.cells #[] 3))) := Lib.hid (Within.of_below B0)
  clear B0 H
  go_enter Try.func71, Try.ntmps71
  go_wp2_with fail
  refine (pick w0 g p (n + 1) bs _ H0.out (by omega) (by omega)).mono ?_
  rintro e w1 ⟨x, rfl, hx0, hx1, hr1, hg1⟩
  have hsz1 : w.heap.size + 1 ≤ w1.heap.size := by have := hg1.size; simpa using this
  have L1 := Lib.hid (L0.out.apart hg1 (by omega))
  have H1 := Lib.hid hr1
  have G1 := Lib.hid (G0.out.trans hg1)
  clear hr1 hg1 L0 H0 G0
  obtain ⟨j0, rfl⟩ := Int.eq_ofNat_of_zero_le hx0
  go_wp2
  go_loopw [7, 8] (fun v k wr => ∃ (j p' : Nat) (zs : List Int), k = .int .i64 j ∧ j ≤ 7 ∧ w.heap.size + 1 ≤ wr.heap.size ∧ OwnI wr w.heap.size wr.heap.size v zs ∧ zs.length + j * L ≤ 7 * L ∧ RS w0 wr g bs p' ∧ p' + j * C ≤ p + (1 + 7 * C) ∧ Within g (g + 1) w wr) (fun _ k _ => (intOf k).toNat)
  case atStart => exact ⟨j0, p + 1, [], rfl, by omega, hsz1, ⟨L1.out.own, fun g hg => by have := L1.out.lt g hg; omega⟩, by have := Nat.mul_le_mul_right L (show j0 ≤ 7 by omega); simp; omega, H1.out, by have := Nat.mul_le_mul_right C (show j0 ≤ 7 by omega); omega, G1.out⟩
  case round =>
    clear L1 H1 G1 hsz1 hx0 hx1
    obtain ⟨j, p', zs, rfl, hj, hsz, hown, hlen, hrs, hpc, hgw2⟩ := hrel
    have X := Lib.hid (And.intro hown (And.intro hrs hgw2)); clear hown hrs hgw2
    rcases j with _ | j
    · go_wp2
      go_ret
      exact ⟨_, zs, p', rfl, X.out.1, by omega, X.out.2.1, by omega, X.out.2.2⟩
    · rw [Nat.succ_mul] at hlen hpc
      have hjp : (0 : Int) < ((j + 1 : Nat) : Int) := by omega
      have hpb : p' ≤ M + (1 + 7 * C) := by omega
      go_wp2_with fail
      refine (HP.out w0 g p' bs _ X.out.2.1 hpb).mono ?_
      rintro e w2 ⟨u, ys, p2, rfl, hou, hyl, hrs2, hp2, hg2⟩
      have hs2 := hg2.size
      have Y := Lib.hid (And.intro (X.out.1.apart hg2 (by omega)) (And.intro hou.rd (And.intro hrs2 (X.out.2.2.trans hg2))))
      clear hou hrs2 hg2 X
      go_wp2_with (at_builtin; refine wpList_append_V rfl _ _ _ rfl Try.underlying23 intInfo w.heap.size _ _ zs rfl Y.out.1 (by omega) u ys rfl Y.out.2.1 (by omega) ?_)
      intro v3 w3 hown3 hb3
      have hs3 := hb3.size
      have Z := Lib.hid (And.intro hown3 (And.intro (Y.out.2.2.1.below hb3 hs0) (Y.out.2.2.2.then_below hb3 (Nat.le_refl _))))
      clear hown3 hb3 Y
      go_wp2
      go_roundw
      case rel => exact ⟨j, p2, zs ++ ys, by first | rfl | go_num, by omega, by omega, Z.out.1, by simp; omega, Z.out.2.1, by omega, Z.out.2.2⟩
      case measure => simp [intOf]

/-- What a part gives back. -/
def PartPost (w0 : World) (g p : Nat) (bs : List Int) (w : World) (L C : Nat) (e : Ending) (w' : World) : Prop :=
  ∃ v zs p', e = .returned v ∧ OwnI w' w.heap.size w'.heap.size v zs ∧ zs.length ≤ L ∧ RS w0 w' g bs p' ∧ p' ≤ p + C ∧ Within g (g + 1) w w'
theorem part_lit (w0 w w1 : World) (g p p1 L C : Nat) (bs zs : List Int) (hr : RS w0 w1 g bs p1) (hg : Within g (g + 1) w w1) (h0 : w0.heap.size ≤ w.heap.size) (hz : ∀ z ∈ zs, -1000000 ≤ z ∧ z ≤ 1000000) (hl : zs.length ≤ L ∧ L ≤ 1000) (hp : p1 ≤ p + C) :
    PartPost w0 g p bs w L C (.returned (.slice (some ⟨w1.heap.size, 0, none⟩) zs.length zs.length)) (w1.alloc (.cells (zs.map (Value.int .i64)).toArray 3)) := by
  have hb : Below w1.heap.size w1 (w1.alloc (.cells (zs.map (Value.int .i64)).toArray 3)) := (Below.refl _ _).alloc (Nat.le_refl _) _
  have ho := lits_own w1 zs (by omega) (fun z h => wf_near z (hz z h))
  have hs := hg.size
  refine ⟨_, zs, p1, rfl, ⟨ho.own.mono hs, fun g hg => by have := ho.lt g hg; simpa using this⟩, hl.1, hr.below hb (by omega), hp, hg.then_below hb hs⟩

theorem part_step (d : Int) (L C M : Nat) (hd : 1 ≤ d ∧ d ≤ 5) (hL : L ≤ 30) (hC : C ≤ 10000) (hM : M ≤ 700000000000) (hW : WordsOk (d - 1) L C (M + (20 + 14 * C))) : PartOk d (6 + 14 * L) (20 + 14 * C) M := by
  intro w0 g p bs w h hp
  have hgw := h.rdr.lt
  show Calls _ _ _ _ (PartPost w0 g p bs w (6 + 14 * L) (20 + 14 * C))
  have H := Lib.hid h; clear h
  have HW := Lib.hid hW; clear hW
  have hs0 : w0.heap.size ≤ w.heap.size := H.out.size
  go_enter Try.func77, Try.ntmps77
  go_wp2_with fail
  refine (pick w0 g p 9 bs _ H.out (by omega) (by omega)).mono ?_
  rintro e w1 ⟨x, rfl, hx0, hx1, hr1, hg1⟩
  have hs1 := hg1.size
  have X1 := Lib.hid (And.intro hr1 hg1); clear hr1 hg1 H
  have hcases : x = 0 ∨ x = 1 ∨ x = 2 ∨ x = 3 ∨ x = 4 ∨ x = 5 ∨ x = 6 ∨ x = 7 ∨ x = 8 := by omega
  clear hx0 hx1
  rcases hcases with rfl | rfl | rfl | rfl | rfl | rfl | rfl | rfl | rfl
  · skip
    go_wp2_with fail
    refine (num w0 g (p+1) bs _ (X1.out.1) (by omega)).mono ?_
    rintro e w_2 ⟨x, rfl, hx0, hx1, hr2, hg2⟩
    have hz2 : w1.heap.size ≤ w_2.heap.size := by have := hg2.size; simpa using this
    have S2 : Hid (RS w0 w_2 g bs (p+1 + 4) ∧ Within g (g + 1) w w_2) := Lib.hid ⟨hr2, (X1.out.2).trans hg2⟩
    clear hr2 hg2
    go_wp2
    go_ret
    exact part_lit w0 w _ g p _ _ _ bs [x] S2.out.1 S2.out.2 hs0 (by intro z hz; simp only [List.mem_cons, List.not_mem_nil, or_false] at hz; omega) ⟨by simp; omega, by omega⟩ (by omega)
  · skip
    go_wp2_with fail
    refine (num w0 g (p+1) bs _ (X1.out.1) (by omega)).mono ?_
    rintro e w_2 ⟨x, rfl, hx0, hx1, hr2, hg2⟩
    have hz2 : w1.heap.size ≤ w_2.heap.size := by have := hg2.size; simpa using this
    have S2 : Hid (RS w0 w_2 g bs (p+1 + 4) ∧ Within g (g + 1) w w_2) := Lib.hid ⟨hr2, (X1.out.2).trans hg2⟩
    clear hr2 hg2
    go_wp2
    go_ret
    exact part_lit w0 w _ g p _ _ _ bs [x] S2.out.1 S2.out.2 hs0 (by intro z hz; simp only [List.mem_cons, List.not_mem_nil, or_false] at hz; omega) ⟨by simp; omega, by omega⟩ (by omega)
  · skip
    go_wp2_with fail
    refine (pick w0 g (p+1) (4) bs _ (X1.out.1) (by omega) (by omega)).mono ?_
    rintro e w_2 ⟨x, rfl, hx0, hx1, hr2, hg2⟩
    have hz2 : w1.heap.size ≤ w_2.heap.size := by have := hg2.size; simpa using this
    have S2 : Hid (RS w0 w_2 g bs (p+1 + 1) ∧ Within g (g + 1) w w_2) := Lib.hid ⟨hr2, (X1.out.2).trans hg2⟩
    clear hr2 hg2
    go_wp2
    go_ret
    exact part_lit w0 w _ g p _ _ _ bs [1006 + x] S2.out.1 S2.out.2 hs0 (by intro z hz; simp only [List.mem_cons, List.not_mem_nil, or_false] at hz; omega) ⟨by simp; omega, by omega⟩ (by omega)
  · skip
    go_wp2_with fail
    refine (pick w0 g (p+1) (3) bs _ (X1.out.1) (by omega) (by omega)).mono ?_
    rintro e w_2 ⟨x, rfl, hx0, hx1, hr2, hg2⟩
    have hz2 : w1.heap.size ≤ w_2.heap.size := by have := hg2.size; simpa using this
    have S2 : Hid (RS w0 w_2 g bs (p+1 + 1) ∧ Within g (g + 1) w w_2) := Lib.hid ⟨hr2, (X1.out.2).trans hg2⟩
    clear hr2 hg2
    go_wp2
    go_ret
    exact part_lit w0 w _ g p _ _ _ bs [1001 + x] S2.out.1 S2.out.2 hs0 (by intro z hz; simp only [List.mem_cons, List.not_mem_nil, or_false] at hz; omega) ⟨by simp; omega, by omega⟩ (by omega)
  · skip
    go_wp2_with fail
    refine (pick w0 g (p+1) (3) bs _ (X1.out.1) (by omega) (by omega)).mono ?_
    rintro e w_2 ⟨x, rfl, hx0, hx1, hr2, hg2⟩
    have hz2 : w1.heap.size ≤ w_2.heap.size := by have := hg2.size; simpa using this
    have S2 : Hid (RS w0 w_2 g bs (p+1 + 1) ∧ Within g (g + 1) w w_2) := Lib.hid ⟨hr2, (X1.out.2).trans hg2⟩
    clear hr2 hg2
    go_wp2
    go_ret
    exact part_lit w0 w _ g p _ _ _ bs [1001 + x] S2.out.1 S2.out.2 hs0 (by intro z hz; simp only [List.mem_cons, List.not_mem_nil, or_false] at hz; omega) ⟨by simp; omega, by omega⟩ (by omega)
  · skip
    have hb2 : Below (w1.heap.size) w1 (w1.alloc (.cells #[.int .i64 (1012)] 3)) := (Below.refl _ _).alloc (by simp) _
    have ho2 := lits_own w1 [1012] (by simp) (by intro z hz; simp only [List.mem_cons, List.not_mem_nil, or_false] at hz; apply wf_near; omega)
    have S2 : Hid (RS w0 (w1.alloc (.cells #[.int .i64 (1012)] 3)) g bs (p+1) ∧ Within g (g + 1) w (w1.alloc (.cells #[.int .i64 (1012)] 3)) ∧ OwnI (w1.alloc (.cells #[.int .i64 (1012)] 3)) (w1.heap.size) (w1.heap.size + 1) (.slice (some ⟨w1.heap.size, 0, none⟩) 1 1) ([1012])) := Lib.hid ⟨(X1.out.1).below hb2 (by omega), (X1.out.2).then_below hb2 (by omega), (by simpa using ho2)⟩
    clear hb2 ho2
    go_wp2_with fail
    refine (HW.out 3 w0 g (p+1) bs _ (by omega) (S2.out.1) (by omega)).mono ?_
    rintro e w_3 ⟨b, zb, p3, rfl, ho3, hl3, hr3, hp3, hg3⟩
    have hz3 : w1.heap.size + 1 ≤ w_3.heap.size := by have := hg3.size; simpa using this
    have S3 : Hid (RS w0 w_3 g bs (p3) ∧ Within g (g + 1) w w_3 ∧ OwnI w_3 (w1.heap.size) (w1.heap.size + 1) (.slice (some ⟨w1.heap.size, 0, none⟩) 1 1) ([1012]) ∧ OwnI w_3 (w1.heap.size + 1) (w_3.heap.size) b (zb)) := Lib.hid ⟨hr3, (S2.out.2.1).trans hg3, (S2.out.2.2).apart hg3 (by omega), (by simpa using ho3)⟩
    clear S2
    clear ho3 hr3 hg3
    go_wp2_with (at_builtin; (refine wpList_append_V rfl _ _ _ rfl Try.underlying23 intInfo (w1.heap.size) (w1.heap.size + 1) (.slice (some ⟨w1.heap.size, 0, none⟩) 1 1) ([1012]) rfl (S3.out.2.2.1) (by first | omega | (simp <;> omega)) b (zb) rfl (S3.out.2.2.2).rd (by first | omega | (simp <;> omega)) ?_))
    intro c w_4 ho4 hb4
    have hz4 : w_3.heap.size ≤ w_4.heap.size := by have := hb4.size; simpa using this
    have S4 : Hid (RS w0 w_4 g bs (p3) ∧ Within g (g + 1) w w_4 ∧ OwnI w_4 (w1.heap.size) (w_4.heap.size) c (([1012]) ++ (zb))) := Lib.hid ⟨(S3.out.1).below hb4 (by omega), (S3.out.2.1).then_below hb4 (by omega), (by simpa using ho4)⟩
    clear S3
    clear ho4 hb4
    go_wp2_with fail
    refine (pick w0 g (p3) (2) bs _ (S4.out.1) (by omega) (by omega)).mono ?_
    rintro e w_5 ⟨x, rfl, hx0, hx1, hr5, hg5⟩
    have hz5 : w_4.heap.size ≤ w_5.heap.size := by have := hg5.size; simpa using this
    have S5 : Hid (RS w0 w_5 g bs (p3 + 1) ∧ Within g (g + 1) w w_5 ∧ OwnI w_5 (w1.heap.size) (w_4.heap.size) c (([1012]) ++ (zb))) := Lib.hid ⟨hr5, (S4.out.2.1).trans hg5, (S4.out.2.2).apart hg5 (by omega)⟩
    clear S4
    clear hr5 hg5
    have hb6 : Below (w_5.heap.size) w_5 (w_5.alloc (.cells #[.int .i64 (1013), .int .i64 (1004+x)] 3)) := (Below.refl _ _).alloc (by simp) _
    have ho6 := lits_own w_5 [1013, 1004+x] (by simp) (by intro z hz; simp only [List.mem_cons, List.not_mem_nil, or_false] at hz; apply wf_near; omega)
    have S6 : Hid (RS w0 (w_5.alloc (.cells #[.int .i64 (1013), .int .i64 (1004+x)] 3)) g bs (p3 + 1) ∧ Within g (g + 1) w (w_5.alloc (.cells #[.int .i64 (1013), .int .i64 (1004+x)] 3)) ∧ OwnI (w_5.alloc (.cells #[.int .i64 (1013), .int .i64 (1004+x)] 3)) (w1.heap.size) (w_4.heap.size) c (([1012]) ++ (zb)) ∧ OwnI (w_5.alloc (.cells #[.int .i64 (1013), .int .i64 (1004+x)] 3)) (w_5.heap.size) (w_5.heap.size + 1) (.slice (some ⟨w_5.heap.size, 0, none⟩) 2 2) ([1013, 1004+x])) := Lib.hid ⟨(S5.out.1).below hb6 (by omega), (S5.out.2.1).then_below hb6 (by omega), (S5.out.2.2).belowB hb6 (by omega), (by simpa using ho6)⟩
    clear S5
    clear hb6 ho6
    go_wp2_with (at_builtin; (refine wpList_append_V rfl _ _ _ rfl Try.underlying23 intInfo (w1.heap.size) (w_4.heap.size) c (([1012]) ++ (zb)) rfl (S6.out.2.2.1) (by first | omega | (simp <;> omega)) (.slice (some ⟨w_5.heap.size, 0, none⟩) 2 2) ([1013, 1004+x]) rfl (S6.out.2.2.2).rd (by first | omega | (simp <;> omega)) ?_))
    intro f w_7 ho7 hb7
    have hz7 : w_5.heap.size + 1 ≤ w_7.heap.size := by have := hb7.size; simpa using this
    have S7 : Hid (RS w0 w_7 g bs (p3 + 1) ∧ Within g (g + 1) w w_7 ∧ OwnI w_7 (w1.heap.size) (w_7.heap.size) f ((([1012]) ++ (zb)) ++ ([1013, 1004+x]))) := Lib.hid ⟨(S6.out.1).below hb7 (by omega), (S6.out.2.1).then_below hb7 (by omega), (by simpa using ho7)⟩
    clear S6
    clear ho7 hb7
    go_wp2_with fail
    go_ret
    exact ⟨f, _, _, rfl, ⟨(S7.out.2.2).own.mono (by omega), fun q hq => by have := (S7.out.2.2).lt q hq; first | omega | (simp; omega)⟩, by first | omega | (simp; done) | (simp; omega), S7.out.1, by omega, S7.out.2.1⟩
  · skip
    have hb2 : Below (w1.heap.size) w1 (w1.alloc (.cells #[.int .i64 (1012)] 3)) := (Below.refl _ _).alloc (by simp) _
    have ho2 := lits_own w1 [1012] (by simp) (by intro z hz; simp only [List.mem_cons, List.not_mem_nil, or_false] at hz; apply wf_near; omega)
    have S2 : Hid (RS w0 (w1.alloc (.cells #[.int .i64 (1012)] 3)) g bs (p+1) ∧ Within g (g + 1) w (w1.alloc (.cells #[.int .i64 (1012)] 3)) ∧ OwnI (w1.alloc (.cells #[.int .i64 (1012)] 3)) (w1.heap.size) (w1.heap.size + 1) (.slice (some ⟨w1.heap.size, 0, none⟩) 1 1) ([1012])) := Lib.hid ⟨(X1.out.1).below hb2 (by omega), (X1.out.2).then_below hb2 (by omega), (by simpa using ho2)⟩
    clear hb2 ho2
    go_wp2_with fail
    refine (HW.out 3 w0 g (p+1) bs _ (by omega) (S2.out.1) (by omega)).mono ?_
    rintro e w_3 ⟨b, zb, p3, rfl, ho3, hl3, hr3, hp3, hg3⟩
    have hz3 : w1.heap.size + 1 ≤ w_3.heap.size := by have := hg3.size; simpa using this
    have S3 : Hid (RS w0 w_3 g bs (p3) ∧ Within g (g + 1) w w_3 ∧ OwnI w_3 (w1.heap.size) (w1.heap.size + 1) (.slice (some ⟨w1.heap.size, 0, none⟩) 1 1) ([1012]) ∧ OwnI w_3 (w1.heap.size + 1) (w_3.heap.size) b (zb)) := Lib.hid ⟨hr3, (S2.out.2.1).trans hg3, (S2.out.2.2).apart hg3 (by omega), (by simpa using ho3)⟩
    clear S2
    clear ho3 hr3 hg3
    go_wp2_with (at_builtin; (refine wpList_append_V rfl _ _ _ rfl Try.underlying23 intInfo (w1.heap.size) (w1.heap.size + 1) (.slice (some ⟨w1.heap.size, 0, none⟩) 1 1) ([1012]) rfl (S3.out.2.2.1) (by first | omega | (simp <;> omega)) b (zb) rfl (S3.out.2.2.2).rd (by first | omega | (simp <;> omega)) ?_))
    intro c w_4 ho4 hb4
    have hz4 : w_3.heap.size ≤ w_4.heap.size := by have := hb4.size; simpa using this
    have S4 : Hid (RS w0 w_4 g bs (p3) ∧ Within g (g + 1) w w_4 ∧ OwnI w_4 (w1.heap.size) (w_4.heap.size) c (([1012]) ++ (zb))) := Lib.hid ⟨(S3.out.1).below hb4 (by omega), (S3.out.2.1).then_below hb4 (by omega), (by simpa using ho4)⟩
    clear S3
    clear ho4 hb4
    have hb5 : Below (w_4.heap.size) w_4 (w_4.alloc (.cells #[.int .i64 (1013)] 3)) := (Below.refl _ _).alloc (by simp) _
    have ho5 := lits_own w_4 [1013] (by simp) (by intro z hz; simp only [List.mem_cons, List.not_mem_nil, or_false] at hz; apply wf_near; omega)
    have S5 : Hid (RS w0 (w_4.alloc (.cells #[.int .i64 (1013)] 3)) g bs (p3) ∧ Within g (g + 1) w (w_4.alloc (.cells #[.int .i64 (1013)] 3)) ∧ OwnI (w_4.alloc (.cells #[.int .i64 (1013)] 3)) (w1.heap.size) (w_4.heap.size) c (([1012]) ++ (zb)) ∧ OwnI (w_4.alloc (.cells #[.int .i64 (1013)] 3)) (w_4.heap.size) (w_4.heap.size + 1) (.slice (some ⟨w_4.heap.size, 0, none⟩) 1 1) ([1013])) := Lib.hid ⟨(S4.out.1).below hb5 (by omega), (S4.out.2.1).then_below hb5 (by omega), (S4.out.2.2).belowB hb5 (by omega), (by simpa using ho5)⟩
    clear S4
    clear hb5 ho5
    go_wp2_with (at_builtin; (refine wpList_append_V rfl _ _ _ rfl Try.underlying23 intInfo (w1.heap.size) (w_4.heap.size) c (([1012]) ++ (zb)) rfl (S5.out.2.2.1) (by first | omega | (simp <;> omega)) (.slice (some ⟨w_4.heap.size, 0, none⟩) 1 1) ([1013]) rfl (S5.out.2.2.2).rd (by first | omega | (simp <;> omega)) ?_))
    intro f w_6 ho6 hb6
    have hz6 : w_4.heap.size + 1 ≤ w_6.heap.size := by have := hb6.size; simpa using this
    have S6 : Hid (RS w0 w_6 g bs (p3) ∧ Within g (g + 1) w w_6 ∧ OwnI w_6 (w1.heap.size) (w_6.heap.size) f ((([1012]) ++ (zb)) ++ ([1013]))) := Lib.hid ⟨(S5.out.1).below hb6 (by omega), (S5.out.2.1).then_below hb6 (by omega), (by simpa using ho6)⟩
    clear S5
    clear ho6 hb6
    go_wp2_with fail
    go_ret
    exact ⟨f, _, _, rfl, ⟨(S6.out.2.2).own.mono (by omega), fun q hq => by have := (S6.out.2.2).lt q hq; first | omega | (simp; omega)⟩, by first | omega | (simp; done) | (simp; omega), S6.out.1, by omega, S6.out.2.1⟩
  · skip
    go_wp2_with fail
    refine (num w0 g (p+1) bs _ (X1.out.1) (by omega)).mono ?_
    rintro e w_2 ⟨x, rfl, hx0, hx1, hr2, hg2⟩
    have hz2 : w1.heap.size ≤ w_2.heap.size := by have := hg2.size; simpa using this
    have S2 : Hid (RS w0 w_2 g bs (p+1 + 4) ∧ Within g (g + 1) w w_2) := Lib.hid ⟨hr2, (X1.out.2).trans hg2⟩
    clear hr2 hg2
    have hb3 : Below (w_2.heap.size) w_2 (w_2.alloc (.cells #[.int .i64 (x), .int .i64 (1012)] 3)) := (Below.refl _ _).alloc (by simp) _
    have ho3 := lits_own w_2 [x, 1012] (by simp) (by intro z hz; simp only [List.mem_cons, List.not_mem_nil, or_false] at hz; apply wf_near; omega)
    have S3 : Hid (RS w0 (w_2.alloc (.cells #[.int .i64 (x), .int .i64 (1012)] 3)) g bs (p+1 + 4) ∧ Within g (g + 1) w (w_2.alloc (.cells #[.int .i64 (x), .int .i64 (1012)] 3)) ∧ OwnI (w_2.alloc (.cells #[.int .i64 (x), .int .i64 (1012)] 3)) (w_2.heap.size) (w_2.heap.size + 1) (.slice (some ⟨w_2.heap.size, 0, none⟩) 2 2) ([x, 1012])) := Lib.hid ⟨(S2.out.1).below hb3 (by omega), (S2.out.2).then_below hb3 (by omega), (by simpa using ho3)⟩
    clear S2
    clear hb3 ho3
    go_wp2_with fail
    refine (HW.out 2 w0 g (p+1 + 4) bs _ (by omega) (S3.out.1) (by omega)).mono ?_
    rintro e w_4 ⟨b, zb, p4, rfl, ho4, hl4, hr4, hp4, hg4⟩
    have hz4 : w_2.heap.size + 1 ≤ w_4.heap.size := by have := hg4.size; simpa using this
    have S4 : Hid (RS w0 w_4 g bs (p4) ∧ Within g (g + 1) w w_4 ∧ OwnI w_4 (w_2.heap.size) (w_2.heap.size + 1) (.slice (some ⟨w_2.heap.size, 0, none⟩) 2 2) ([x, 1012]) ∧ OwnI w_4 (w_2.heap.size + 1) (w_4.heap.size) b (zb)) := Lib.hid ⟨hr4, (S3.out.2.1).trans hg4, (S3.out.2.2).apart hg4 (by omega), (by simpa using ho4)⟩
    clear S3
    clear ho4 hr4 hg4
    go_wp2_with (at_builtin; (refine wpList_append_V rfl _ _ _ rfl Try.underlying23 intInfo (w_2.heap.size) (w_2.heap.size + 1) (.slice (some ⟨w_2.heap.size, 0, none⟩) 2 2) ([x, 1012]) rfl (S4.out.2.2.1) (by first | omega | (simp <;> omega)) b (zb) rfl (S4.out.2.2.2).rd (by first | omega | (simp <;> omega)) ?_))
    intro c w_5 ho5 hb5
    have hz5 : w_4.heap.size ≤ w_5.heap.size := by have := hb5.size; simpa using this
    have S5 : Hid (RS w0 w_5 g bs (p4) ∧ Within g (g + 1) w w_5 ∧ OwnI w_5 (w_2.heap.size) (w_5.heap.size) c (([x, 1012]) ++ (zb))) := Lib.hid ⟨(S4.out.1).below hb5 (by omega), (S4.out.2.1).then_below hb5 (by omega), (by simpa using ho5)⟩
    clear S4
    clear ho5 hb5
    have hb6 : Below (w_5.heap.size) w_5 (w_5.alloc (.cells #[.int .i64 (1013), .int .i64 (1012)] 3)) := (Below.refl _ _).alloc (by simp) _
    have ho6 := lits_own w_5 [1013, 1012] (by simp) (by intro z hz; simp only [List.mem_cons, List.not_mem_nil, or_false] at hz; apply wf_near; omega)
    have S6 : Hid (RS w0 (w_5.alloc (.cells #[.int .i64 (1013), .int .i64 (1012)] 3)) g bs (p4) ∧ Within g (g + 1) w (w_5.alloc (.cells #[.int .i64 (1013), .int .i64 (1012)] 3)) ∧ OwnI (w_5.alloc (.cells #[.int .i64 (1013), .int .i64 (1012)] 3)) (w_2.heap.size) (w_5.heap.size) c (([x, 1012]) ++ (zb)) ∧ OwnI (w_5.alloc (.cells #[.int .i64 (1013), .int .i64 (1012)] 3)) (w_5.heap.size) (w_5.heap.size + 1) (.slice (some ⟨w_5.heap.size, 0, none⟩) 2 2) ([1013, 1012])) := Lib.hid ⟨(S5.out.1).below hb6 (by omega), (S5.out.2.1).then_below hb6 (by omega), (S5.out.2.2).belowB hb6 (by omega), (by simpa using ho6)⟩
    clear S5
    clear hb6 ho6
    go_wp2_with (at_builtin; (refine wpList_append_V rfl _ _ _ rfl Try.underlying23 intInfo (w_2.heap.size) (w_5.heap.size) c (([x, 1012]) ++ (zb)) rfl (S6.out.2.2.1) (by first | omega | (simp <;> omega)) (.slice (some ⟨w_5.heap.size, 0, none⟩) 2 2) ([1013, 1012]) rfl (S6.out.2.2.2).rd (by first | omega | (simp <;> omega)) ?_))
    intro f w_7 ho7 hb7
    have hz7 : w_5.heap.size + 1 ≤ w_7.heap.size := by have := hb7.size; simpa using this
    have S7 : Hid (RS w0 w_7 g bs (p4) ∧ Within g (g + 1) w w_7 ∧ OwnI w_7 (w_2.heap.size) (w_7.heap.size) f ((([x, 1012]) ++ (zb)) ++ ([1013, 1012]))) := Lib.hid ⟨(S6.out.1).below hb7 (by omega), (S6.out.2.1).then_below hb7 (by omega), (by simpa using ho7)⟩
    clear S6
    clear ho7 hb7
    go_wp2_with fail
    refine (HW.out 2 w0 g (p4) bs _ (by omega) (S7.out.1) (by omega)).mono ?_
    rintro e w_8 ⟨q, zq, p8, rfl, ho8, hl8, hr8, hp8, hg8⟩
    have hz8 : w_7.heap.size ≤ w_8.heap.size := by have := hg8.size; simpa using this
    have S8 : Hid (RS w0 w_8 g bs (p8) ∧ Within g (g + 1) w w_8 ∧ OwnI w_8 (w_2.heap.size) (w_7.heap.size) f ((([x, 1012]) ++ (zb)) ++ ([1013, 1012])) ∧ OwnI w_8 (w_7.heap.size) (w_8.heap.size) q (zq)) := Lib.hid ⟨hr8, (S7.out.2.1).trans hg8, (S7.out.2.2).apart hg8 (by omega), (by simpa using ho8)⟩
    clear S7
    clear ho8 hr8 hg8
    go_wp2_with (at_builtin; (refine wpList_append_V rfl _ _ _ rfl Try.underlying23 intInfo (w_2.heap.size) (w_7.heap.size) f ((([x, 1012]) ++ (zb)) ++ ([1013, 1012])) rfl (S8.out.2.2.1) (by first | omega | (simp <;> omega)) q (zq) rfl (S8.out.2.2.2).rd (by first | omega | (simp <;> omega)) ?_))
    intro r w_9 ho9 hb9
    have hz9 : w_8.heap.size ≤ w_9.heap.size := by have := hb9.size; simpa using this
    have S9 : Hid (RS w0 w_9 g bs (p8) ∧ Within g (g + 1) w w_9 ∧ OwnI w_9 (w_2.heap.size) (w_9.heap.size) r (((([x, 1012]) ++ (zb)) ++ ([1013, 1012])) ++ (zq))) := Lib.hid ⟨(S8.out.1).below hb9 (by omega), (S8.out.2.1).then_below hb9 (by omega), (by simpa using ho9)⟩
    clear S8
    clear ho9 hb9
    have hb10 : Below (w_9.heap.size) w_9 (w_9.alloc (.cells #[.int .i64 (1013), .int .i64 (1010)] 3)) := (Below.refl _ _).alloc (by simp) _
    have ho10 := lits_own w_9 [1013, 1010] (by simp) (by intro z hz; simp only [List.mem_cons, List.not_mem_nil, or_false] at hz; apply wf_near; omega)
    have S10 : Hid (RS w0 (w_9.alloc (.cells #[.int .i64 (1013), .int .i64 (1010)] 3)) g bs (p8) ∧ Within g (g + 1) w (w_9.alloc (.cells #[.int .i64 (1013), .int .i64 (1010)] 3)) ∧ OwnI (w_9.alloc (.cells #[.int .i64 (1013), .int .i64 (1010)] 3)) (w_2.heap.size) (w_9.heap.size) r (((([x, 1012]) ++ (zb)) ++ ([1013, 1012])) ++ (zq)) ∧ OwnI (w_9.alloc (.cells #[.int .i64 (1013), .int .i64 (1010)] 3)) (w_9.heap.size) (w_9.heap.size + 1) (.slice (some ⟨w_9.heap.size, 0, none⟩) 2 2) ([1013, 1010])) := Lib.hid ⟨(S9.out.1).below hb10 (by omega), (S9.out.2.1).then_below hb10 (by omega), (S9.out.2.2).belowB hb10 (by omega), (by simpa using ho10)⟩
    clear S9
    clear hb10 ho10
    go_wp2_with (at_builtin; (refine wpList_append_V rfl _ _ _ rfl Try.underlying23 intInfo (w_2.heap.size) (w_9.heap.size) r (((([x, 1012]) ++ (zb)) ++ ([1013, 1012])) ++ (zq)) rfl (S10.out.2.2.1) (by first | omega | (simp <;> omega)) (.slice (some ⟨w_9.heap.size, 0, none⟩) 2 2) ([1013, 1010]) rfl (S10.out.2.2.2).rd (by first | omega | (simp <;> omega)) ?_))
    intro t w_11 ho11 hb11
    have hz11 : w_9.heap.size + 1 ≤ w_11.heap.size := by have := hb11.size; simpa using this
    have S11 : Hid (RS w0 w_11 g bs (p8) ∧ Within g (g + 1) w w_11 ∧ OwnI w_11 (w_2.heap.size) (w_11.heap.size) t ((((([x, 1012]) ++ (zb)) ++ ([1013, 1012])) ++ (zq)) ++ ([1013, 1010]))) := Lib.hid ⟨(S10.out.1).below hb11 (by omega), (S10.out.2.1).then_below hb11 (by omega), (by simpa using ho11)⟩
    clear S10
    clear ho11 hb11
    go_wp2_with fail
    go_ret
    exact ⟨t, _, _, rfl, ⟨(S11.out.2.2).own.mono (by omega), fun q hq => by have := (S11.out.2.2).lt q hq; first | omega | (simp; omega)⟩, by first | omega | (simp; done) | (simp; omega), S11.out.1, by omega, S11.out.2.1⟩
  · skip
    go_wp2_with fail
    refine (pick w0 g (p+1) (5) bs _ (X1.out.1) (by omega) (by omega)).mono ?_
    rintro e w_2 ⟨x, rfl, hx0, hx1, hr2, hg2⟩
    have hz2 : w1.heap.size ≤ w_2.heap.size := by have := hg2.size; simpa using this
    have S2 : Hid (RS w0 w_2 g bs (p+1 + 1) ∧ Within g (g + 1) w w_2) := Lib.hid ⟨hr2, (X1.out.2).trans hg2⟩
    clear hr2 hg2
    have hb3 : Below (w_2.heap.size) w_2 (w_2.alloc (.cells #[.int .i64 (x), .int .i64 (1012)] 3)) := (Below.refl _ _).alloc (by simp) _
    have ho3 := lits_own w_2 [x, 1012] (by simp) (by intro z hz; simp only [List.mem_cons, List.not_mem_nil, or_false] at hz; apply wf_near; omega)
    have S3 : Hid (RS w0 (w_2.alloc (.cells #[.int .i64 (x), .int .i64 (1012)] 3)) g bs (p+1 + 1) ∧ Within g (g + 1) w (w_2.alloc (.cells #[.int .i64 (x), .int .i64 (1012)] 3)) ∧ OwnI (w_2.alloc (.cells #[.int .i64 (x), .int .i64 (1012)] 3)) (w_2.heap.size) (w_2.heap.size + 1) (.slice (some ⟨w_2.heap.size, 0, none⟩) 2 2) ([x, 1012])) := Lib.hid ⟨(S2.out.1).below hb3 (by omega), (S2.out.2).then_below hb3 (by omega), (by simpa using ho3)⟩
    clear S2
    clear hb3 ho3
    go_wp2_with fail
    refine (HW.out 2 w0 g (p+1 + 1) bs _ (by omega) (S3.out.1) (by omega)).mono ?_
    rintro e w_4 ⟨b, zb, p4, rfl, ho4, hl4, hr4, hp4, hg4⟩
    have hz4 : w_2.heap.size + 1 ≤ w_4.heap.size := by have := hg4.size; simpa using this
    have S4 : Hid (RS w0 w_4 g bs (p4) ∧ Within g (g + 1) w w_4 ∧ OwnI w_4 (w_2.heap.size) (w_2.heap.size + 1) (.slice (some ⟨w_2.heap.size, 0, none⟩) 2 2) ([x, 1012]) ∧ OwnI w_4 (w_2.heap.size + 1) (w_4.heap.size) b (zb)) := Lib.hid ⟨hr4, (S3.out.2.1).trans hg4, (S3.out.2.2).apart hg4 (by omega), (by simpa using ho4)⟩
    clear S3
    clear ho4 hr4 hg4
    go_wp2_with (at_builtin; (refine wpList_append_V rfl _ _ _ rfl Try.underlying23 intInfo (w_2.heap.size) (w_2.heap.size + 1) (.slice (some ⟨w_2.heap.size, 0, none⟩) 2 2) ([x, 1012]) rfl (S4.out.2.2.1) (by first | omega | (simp <;> omega)) b (zb) rfl (S4.out.2.2.2).rd (by first | omega | (simp <;> omega)) ?_))
    intro c w_5 ho5 hb5
    have hz5 : w_4.heap.size ≤ w_5.heap.size := by have := hb5.size; simpa using this
    have S5 : Hid (RS w0 w_5 g bs (p4) ∧ Within g (g + 1) w w_5 ∧ OwnI w_5 (w_2.heap.size) (w_5.heap.size) c (([x, 1012]) ++ (zb))) := Lib.hid ⟨(S4.out.1).below hb5 (by omega), (S4.out.2.1).then_below hb5 (by omega), (by simpa using ho5)⟩
    clear S4
    clear ho5 hb5
    have hb6 : Below (w_5.heap.size) w_5 (w_5.alloc (.cells #[.int .i64 (1013), .int .i64 (1011)] 3)) := (Below.refl _ _).alloc (by simp) _
    have ho6 := lits_own w_5 [1013, 1011] (by simp) (by intro z hz; simp only [List.mem_cons, List.not_mem_nil, or_false] at hz; apply wf_near; omega)
    have S6 : Hid (RS w0 (w_5.alloc (.cells #[.int .i64 (1013), .int .i64 (1011)] 3)) g bs (p4) ∧ Within g (g + 1) w (w_5.alloc (.cells #[.int .i64 (1013), .int .i64 (1011)] 3)) ∧ OwnI (w_5.alloc (.cells #[.int .i64 (1013), .int .i64 (1011)] 3)) (w_2.heap.size) (w_5.heap.size) c (([x, 1012]) ++ (zb)) ∧ OwnI (w_5.alloc (.cells #[.int .i64 (1013), .int .i64 (1011)] 3)) (w_5.heap.size) (w_5.heap.size + 1) (.slice (some ⟨w_5.heap.size, 0, none⟩) 2 2) ([1013, 1011])) := Lib.hid ⟨(S5.out.1).below hb6 (by omega), (S5.out.2.1).then_below hb6 (by omega), (S5.out.2.2).belowB hb6 (by omega), (by simpa using ho6)⟩
    clear S5
    clear hb6 ho6
    go_wp2_with (at_builtin; (refine wpList_append_V rfl _ _ _ rfl Try.underlying23 intInfo (w_2.heap.size) (w_5.heap.size) c (([x, 1012]) ++ (zb)) rfl (S6.out.2.2.1) (by first | omega | (simp <;> omega)) (.slice (some ⟨w_5.heap.size, 0, none⟩) 2 2) ([1013, 1011]) rfl (S6.out.2.2.2).rd (by first | omega | (simp <;> omega)) ?_))
    intro f w_7 ho7 hb7
    have hz7 : w_5.heap.size + 1 ≤ w_7.heap.size := by have := hb7.size; simpa using this
    have S7 : Hid (RS w0 w_7 g bs (p4) ∧ Within g (g + 1) w w_7 ∧ OwnI w_7 (w_2.heap.size) (w_7.heap.size) f ((([x, 1012]) ++ (zb)) ++ ([1013, 1011]))) := Lib.hid ⟨(S6.out.1).below hb7 (by omega), (S6.out.2.1).then_below hb7 (by omega), (by simpa using ho7)⟩
    clear S6
    clear ho7 hb7
    go_wp2_with fail
    go_ret
    exact ⟨f, _, _, rfl, ⟨(S7.out.2.2).own.mono (by omega), fun q hq => by have := (S7.out.2.2).lt q hq; first | omega | (simp; omega)⟩, by first | omega | (simp; done) | (simp; omega), S7.out.1, by omega, S7.out.2.1⟩

theorem part_zero (M : Nat) (hM : M ≤ 800000000000) : PartOk 0 1 6 M := by
  intro w0 g p bs w h hp
  have hgw := h.rdr.lt
  show Calls _ _ _ _ (PartPost w0 g p bs w 1 6)
  have H := Lib.hid h; clear h
  have hs0 : w0.heap.size ≤ w.heap.size := H.out.size
  go_enter Try.func77, Try.ntmps77
  go_wp2_with fail
  refine (pick w0 g p 9 bs _ H.out (by omega) (by omega)).mono ?_
  rintro e w1 ⟨x, rfl, hx0, hx1, hr1, hg1⟩
  have hs1 := hg1.size
  have X1 := Lib.hid (And.intro hr1 hg1); clear hr1 hg1 H
  have hcases : x = 0 ∨ x = 1 ∨ x = 2 ∨ x = 3 ∨ x = 4 ∨ x = 5 ∨ x = 6 ∨ x = 7 ∨ x = 8 := by omega
  clear hx0 hx1
  rcases hcases with rfl | rfl | rfl | rfl | rfl | rfl | rfl | rfl | rfl
  · skip
    go_wp2_with fail
    refine (num w0 g (p+1) bs _ (X1.out.1) (by omega)).mono ?_
    rintro e w_2 ⟨x, rfl, hx0, hx1, hr2, hg2⟩
    have hz2 : w1.heap.size ≤ w_2.heap.size := by have := hg2.size; simpa using this
    have S2 : Hid (RS w0 w_2 g bs (p+1 + 4) ∧ Within g (g + 1) w w_2) := Lib.hid ⟨hr2, (X1.out.2).trans hg2⟩
    clear hr2 hg2
    go_wp2
    go_ret
    exact part_lit w0 w _ g p _ _ _ bs [x] S2.out.1 S2.out.2 hs0 (by intro z hz; simp only [List.mem_cons, List.not_mem_nil, or_false] at hz; omega) ⟨by simp, by omega⟩ (by omega)
  · skip
    go_wp2_with fail
    refine (num w0 g (p+1) bs _ (X1.out.1) (by omega)).mono ?_
    rintro e w_2 ⟨x, rfl, hx0, hx1, hr2, hg2⟩
    have hz2 : w1.heap.size ≤ w_2.heap.size := by have := hg2.size; simpa using this
    have S2 : Hid (RS w0 w_2 g bs (p+1 + 4) ∧ Within g (g + 1) w w_2) := Lib.hid ⟨hr2, (X1.out.2).trans hg2⟩
    clear hr2 hg2
    go_wp2
    go_ret
    exact part_lit w0 w _ g p _ _ _ bs [x] S2.out.1 S2.out.2 hs0 (by intro z hz; simp only [List.mem_cons, List.not_mem_nil, or_false] at hz; omega) ⟨by simp, by omega⟩ (by omega)
  · skip
    go_wp2_with fail
    refine (pick w0 g (p+1) (4) bs _ (X1.out.1) (by omega) (by omega)).mono ?_
    rintro e w_2 ⟨x, rfl, hx0, hx1, hr2, hg2⟩
    have hz2 : w1.heap.size ≤ w_2.heap.size := by have := hg2.size; simpa using this
    have S2 : Hid (RS w0 w_2 g bs (p+1 + 1) ∧ Within g (g + 1) w w_2) := Lib.hid ⟨hr2, (X1.out.2).trans hg2⟩
    clear hr2 hg2
    go_wp2
    go_ret
    exact part_lit w0 w _ g p _ _ _ bs [1006 + x] S2.out.1 S2.out.2 hs0 (by intro z hz; simp only [List.mem_cons, List.not_mem_nil, or_false] at hz; omega) ⟨by simp, by omega⟩ (by omega)
  · skip
    go_wp2_with fail
    refine (pick w0 g (p+1) (3) bs _ (X1.out.1) (by omega) (by omega)).mono ?_
    rintro e w_2 ⟨x, rfl, hx0, hx1, hr2, hg2⟩
    have hz2 : w1.heap.size ≤ w_2.heap.size := by have := hg2.size; simpa using this
    have S2 : Hid (RS w0 w_2 g bs (p+1 + 1) ∧ Within g (g + 1) w w_2) := Lib.hid ⟨hr2, (X1.out.2).trans hg2⟩
    clear hr2 hg2
    go_wp2
    go_ret
    exact part_lit w0 w _ g p _ _ _ bs [1001 + x] S2.out.1 S2.out.2 hs0 (by intro z hz; simp only [List.mem_cons, List.not_mem_nil, or_false] at hz; omega) ⟨by simp, by omega⟩ (by omega)
  · skip
    go_wp2_with fail
    refine (pick w0 g (p+1) (3) bs _ (X1.out.1) (by omega) (by omega)).mono ?_
    rintro e w_2 ⟨x, rfl, hx0, hx1, hr2, hg2⟩
    have hz2 : w1.heap.size ≤ w_2.heap.size := by have := hg2.size; simpa using this
    have S2 : Hid (RS w0 w_2 g bs (p+1 + 1) ∧ Within g (g + 1) w w_2) := Lib.hid ⟨hr2, (X1.out.2).trans hg2⟩
    clear hr2 hg2
    go_wp2
    go_ret
    exact part_lit w0 w _ g p _ _ _ bs [1001 + x] S2.out.1 S2.out.2 hs0 (by intro z hz; simp only [List.mem_cons, List.not_mem_nil, or_false] at hz; omega) ⟨by simp, by omega⟩ (by omega)
  · skip
    go_wp2
    go_ret
    exact part_lit w0 w _ g p _ _ _ bs [1001] X1.out.1 X1.out.2 hs0 (by intro z hz; simp only [List.mem_cons, List.not_mem_nil, or_false] at hz; omega) ⟨by simp, by omega⟩ (by omega)
  · skip
    go_wp2
    go_ret
    exact part_lit w0 w _ g p _ _ _ bs [1001] X1.out.1 X1.out.2 hs0 (by intro z hz; simp only [List.mem_cons, List.not_mem_nil, or_false] at hz; omega) ⟨by simp, by omega⟩ (by omega)
  · skip
    go_wp2
    go_ret
    exact part_lit w0 w _ g p _ _ _ bs [1001] X1.out.1 X1.out.2 hs0 (by intro z hz; simp only [List.mem_cons, List.not_mem_nil, or_false] at hz; omega) ⟨by simp, by omega⟩ (by omega)
  · skip
    go_wp2
    go_ret
    exact part_lit w0 w _ g p _ _ _ bs [1001] X1.out.1 X1.out.2 hs0 (by intro z hz; simp only [List.mem_cons, List.not_mem_nil, or_false] at hz; omega) ⟨by simp, by omega⟩ (by omega)

theorem words0 (M : Nat) (hM : M ≤ 690000000000) : WordsOk 0 1 6 M := words_step 0 1 6 M (by omega) (by omega) (by omega) (part_zero _ (by omega))
theorem part1 (M : Nat) (hM : M ≤ 680000000000) : PartOk 1 20 104 M := part_step 1 1 6 M (by omega) (by omega) (by omega) (by omega) (words0 _ (by omega))
theorem words1 (M : Nat) (hM : M ≤ 670000000000) : WordsOk 1 20 104 M := words_step 1 20 104 M (by omega) (by omega) (by omega) (part1 _ (by omega))
theorem part2 (M : Nat) (hM : M ≤ 660000000000) : PartOk 2 286 1476 M := part_step 2 20 104 M (by omega) (by omega) (by omega) (by omega) (words1 _ (by omega))
theorem words2 (M : Nat) (hM : M ≤ 600000000000) : WordsOk 2 286 1476 M := words_step 2 286 1476 M (by omega) (by omega) (by omega) (part2 _ (by omega))

/-- A program that is drawn: some words of its own, at most 61. -/
theorem prog (n k : Int) (w0 : World) (g p : Nat) (bs : List Int) (w : World) (hn : 0 ≤ n ∧ n ≤ 7) (hk : 1 ≤ k ∧ k ≤ 1000000) (h : RS w0 w g bs p) (hp : p ≤ 500000000000) :
    Calls Try.prog 57 #[.pointer (some ⟨g, 0, none⟩), .int .i64 n, .int .i64 k] w fun e w' => ∃ v zs p', e = .returned v ∧ OwnI w' w.heap.size w'.heap.size v zs ∧ zs.length ≤ 61 ∧ RS w0 w' g bs p' ∧ p' ≤ p + 12000 ∧ Within g (g + 1) w w' := by
  have hgw := h.rdr.lt
  show Calls _ _ _ _ (PartPost w0 g p bs w 61 12000)
  have hs0 : w0.heap.size ≤ w.heap.size := h.size
  have H := Lib.hid (And.intro h (Within.of_below (lo := g) (hi := g + 1) (Below.refl w.heap.size w))); clear h
  go_enter Try.func57, Try.ntmps57
  go_wp2_with fail
  refine (words2 600000000000 (Nat.le_refl _) n w0 g (p) bs _ hn (H.out.1) (by omega)).mono ?_
  rintro e w_2 ⟨b, zb, p2, rfl, ho2, hl2, hr2, hp2, hg2⟩
  have hz2 : w.heap.size ≤ w_2.heap.size := by have := hg2.size; simpa using this
  have S2 : Hid (RS w0 w_2 g bs (p2) ∧ Within g (g + 1) w w_2 ∧ OwnI w_2 (w.heap.size) (w_2.heap.size) b (zb)) := Lib.hid ⟨hr2, (H.out.2).trans hg2, (by simpa using ho2)⟩
  clear ho2 hr2 hg2
  obtain ⟨A, c, rfl, _⟩ := (S2.out.2.2).own.ints
  obtain ⟨i0, hi0, hz0, hz1, hz2⟩ := info_parts intInfo
  by_cases hl : (26 : Int) < zb.length
  · go_wp2_with fail
    have hb3 : Below (w_2.heap.size) w_2 (w_2.alloc (.cells #[.int .i64 (3), .int .i64 (4), .int .i64 (1006), .int .i64 (1001)] 3)) := (Below.refl _ _).alloc (by simp) _
    have ho3 := lits_own w_2 [3, 4, 1006, 1001] (by simp) (by intro z hz; simp only [List.mem_cons, List.not_mem_nil, or_false] at hz; apply wf_near; omega)
    have S3 : Hid (RS w0 (w_2.alloc (.cells #[.int .i64 (3), .int .i64 (4), .int .i64 (1006), .int .i64 (1001)] 3)) g bs (p2) ∧ Within g (g + 1) w (w_2.alloc (.cells #[.int .i64 (3), .int .i64 (4), .int .i64 (1006), .int .i64 (1001)] 3)) ∧ OwnI (w_2.alloc (.cells #[.int .i64 (3), .int .i64 (4), .int .i64 (1006), .int .i64 (1001)] 3)) (w.heap.size) (w_2.heap.size) (.slice A zb.length c) (zb) ∧ OwnI (w_2.alloc (.cells #[.int .i64 (3), .int .i64 (4), .int .i64 (1006), .int .i64 (1001)] 3)) (w_2.heap.size) (w_2.heap.size + 1) (.slice (some ⟨w_2.heap.size, 0, none⟩) 4 4) ([3, 4, 1006, 1001])) := Lib.hid ⟨(S2.out.1).below hb3 (by omega), (S2.out.2.1).then_below hb3 (by omega), (S2.out.2.2).belowB hb3 (by omega), (by simpa using ho3)⟩
    clear S2
    clear hb3 ho3
    have S3x := Lib.hid (And.intro S3.out.1 (And.intro S3.out.2.1 S3.out.2.2.2))
    clear S3
    go_wp2_with fail
    refine (odd w0 g (p2) (k) bs _ (S3x.out.1) (by omega) (by omega)).mono ?_
    rintro e w_4 ⟨d, rfl, hr4, hg4⟩
    have hz4 : w_2.heap.size + 1 ≤ w_4.heap.size := by have := hg4.size; simpa using this
    have S4 : Hid (RS w0 w_4 g bs (p2 + 1) ∧ Within g (g + 1) w w_4 ∧ OwnI w_4 (w_2.heap.size) (w_2.heap.size + 1) (.slice (some ⟨w_2.heap.size, 0, none⟩) 4 4) ([3, 4, 1006, 1001])) := Lib.hid ⟨hr4, (S3x.out.2.1).trans hg4, (S3x.out.2.2).apart hg4 (by omega)⟩
    clear S3x
    clear hr4 hg4
    rcases d with _ | _
    go_wp2_with fail
    go_ret
    exact ⟨(.slice (some ⟨w_2.heap.size, 0, none⟩) 4 4), _, _, rfl, ⟨(S4.out.2.2).own.mono (by omega), fun q hq => by have := (S4.out.2.2).lt q hq; first | omega | (simp; omega)⟩, by first | omega | (simp; done) | (simp; omega), S4.out.1, by omega, S4.out.2.1⟩
    go_wp2_with fail
    refine (pick w0 g (p2+1) (4) bs _ (S4.out.1) (by omega) (by omega)).mono ?_
    rintro e w_5 ⟨x, rfl, hx0, hx1, hr5, hg5⟩
    have hz5 : w_4.heap.size ≤ w_5.heap.size := by have := hg5.size; simpa using this
    have S5 : Hid (RS w0 w_5 g bs (p2+1 + 1) ∧ Within g (g + 1) w w_5 ∧ OwnI w_5 (w_2.heap.size) (w_2.heap.size + 1) (.slice (some ⟨w_2.heap.size, 0, none⟩) 4 4) ([3, 4, 1006, 1001])) := Lib.hid ⟨hr5, (S4.out.2.1).trans hg5, (S4.out.2.2).apart hg5 (by omega)⟩
    clear S4
    clear hr5 hg5
    have hcases : x = 0 ∨ x = 1 ∨ x = 2 ∨ x = 3 := by omega
    clear hx0 hx1
    rcases hcases with rfl | rfl | rfl | rfl
    · skip
      have hb6 : Below (w_5.heap.size) w_5 (w_5.alloc (.cells #[.int .i64 (1013)] 3)) := (Below.refl _ _).alloc (by simp) _
      have ho6 := lits_own w_5 [1013] (by simp) (by intro z hz; simp only [List.mem_cons, List.not_mem_nil, or_false] at hz; apply wf_near; omega)
      have S6 : Hid (RS w0 (w_5.alloc (.cells #[.int .i64 (1013)] 3)) g bs (p2+1+1) ∧ Within g (g + 1) w (w_5.alloc (.cells #[.int .i64 (1013)] 3)) ∧ OwnI (w_5.alloc (.cells #[.int .i64 (1013)] 3)) (w_2.heap.size) (w_2.heap.size + 1) (.slice (some ⟨w_2.heap.size, 0, none⟩) 4 4) ([3, 4, 1006, 1001]) ∧ OwnI (w_5.alloc (.cells #[.int .i64 (1013)] 3)) (w_5.heap.size) (w_5.heap.size + 1) (.slice (some ⟨w_5.heap.size, 0, none⟩) 1 1) ([1013])) := Lib.hid ⟨(S5.out.1).below hb6 (by omega), (S5.out.2.1).then_below hb6 (by omega), (S5.out.2.2).belowB hb6 (by omega), (by simpa using ho6)⟩
      clear S5
      clear hb6 ho6
      go_wp2_with (at_builtin; (refine wpList_append_V rfl _ _ _ rfl Try.underlying23 intInfo (w_2.heap.size) (w_2.heap.size + 1) (.slice (some ⟨w_2.heap.size, 0, none⟩) 4 4) ([3, 4, 1006, 1001]) rfl (S6.out.2.2.1) (by first | omega | (simp <;> omega)) (.slice (some ⟨w_5.heap.size, 0, none⟩) 1 1) ([1013]) rfl (S6.out.2.2.2).rd (by first | omega | (simp <;> omega)) ?_))
      intro f w_7 ho7 hb7
      have hz7 : w_5.heap.size + 1 ≤ w_7.heap.size := by have := hb7.size; simpa using this
      have S7 : Hid (RS w0 w_7 g bs (p2+1+1) ∧ Within g (g + 1) w w_7 ∧ OwnI w_7 (w_2.heap.size) (w_7.heap.size) f (([3, 4, 1006, 1001]) ++ ([1013]))) := Lib.hid ⟨(S6.out.1).below hb7 (by omega), (S6.out.2.1).then_below hb7 (by omega), (by simpa using ho7)⟩
      clear S6
      clear ho7 hb7
      go_wp2_with fail
      go_ret
      exact ⟨f, _, _, rfl, ⟨(S7.out.2.2).own.mono (by omega), fun q hq => by have := (S7.out.2.2).lt q hq; first | omega | (simp; omega)⟩, by first | omega | (simp; done) | (simp; omega), S7.out.1, by omega, S7.out.2.1⟩
    · skip
      have hb6 : Below (w_5.heap.size) w_5 (w_5.alloc (.cells #[.int .i64 (1012)] 3)) := (Below.refl _ _).alloc (by simp) _
      have ho6 := lits_own w_5 [1012] (by simp) (by intro z hz; simp only [List.mem_cons, List.not_mem_nil, or_false] at hz; apply wf_near; omega)
      have S6 : Hid (RS w0 (w_5.alloc (.cells #[.int .i64 (1012)] 3)) g bs (p2+1+1) ∧ Within g (g + 1) w (w_5.alloc (.cells #[.int .i64 (1012)] 3)) ∧ OwnI (w_5.alloc (.cells #[.int .i64 (1012)] 3)) (w_2.heap.size) (w_2.heap.size + 1) (.slice (some ⟨w_2.heap.size, 0, none⟩) 4 4) ([3, 4, 1006, 1001]) ∧ OwnI (w_5.alloc (.cells #[.int .i64 (1012)] 3)) (w_5.heap.size) (w_5.heap.size + 1) (.slice (some ⟨w_5.heap.size, 0, none⟩) 1 1) ([1012])) := Lib.hid ⟨(S5.out.1).below hb6 (by omega), (S5.out.2.1).then_below hb6 (by omega), (S5.out.2.2).belowB hb6 (by omega), (by simpa using ho6)⟩
      clear S5
      clear hb6 ho6
      go_wp2_with (at_builtin; (refine wpList_append_V rfl _ _ _ rfl Try.underlying23 intInfo (w_5.heap.size) (w_5.heap.size + 1) (.slice (some ⟨w_5.heap.size, 0, none⟩) 1 1) ([1012]) rfl (S6.out.2.2.2) (by first | omega | (simp <;> omega)) (.slice (some ⟨w_2.heap.size, 0, none⟩) 4 4) ([3, 4, 1006, 1001]) rfl (S6.out.2.2.1).rd (by first | omega | (simp <;> omega)) ?_))
      intro f w_7 ho7 hb7
      have hz7 : w_5.heap.size + 1 ≤ w_7.heap.size := by have := hb7.size; simpa using this
      have S7 : Hid (RS w0 w_7 g bs (p2+1+1) ∧ Within g (g + 1) w w_7 ∧ OwnI w_7 (w_5.heap.size) (w_7.heap.size) f (([1012]) ++ ([3, 4, 1006, 1001]))) := Lib.hid ⟨(S6.out.1).below hb7 (by omega), (S6.out.2.1).then_below hb7 (by omega), (by simpa using ho7)⟩
      clear S6
      clear ho7 hb7
      go_wp2_with fail
      go_ret
      exact ⟨f, _, _, rfl, ⟨(S7.out.2.2).own.mono (by omega), fun q hq => by have := (S7.out.2.2).lt q hq; first | omega | (simp; omega)⟩, by first | omega | (simp; done) | (simp; omega), S7.out.1, by omega, S7.out.2.1⟩
    · skip
      have hb6 : Below (w_5.heap.size) w_5 (w_5.alloc (.cells #[.int .i64 (-1), .int .i64 (1000), .int .i64 (1014)] 3)) := (Below.refl _ _).alloc (by simp) _
      have ho6 := lits_own w_5 [-1, 1000, 1014] (by simp) (by intro z hz; simp only [List.mem_cons, List.not_mem_nil, or_false] at hz; apply wf_near; omega)
      have S6 : Hid (RS w0 (w_5.alloc (.cells #[.int .i64 (-1), .int .i64 (1000), .int .i64 (1014)] 3)) g bs (p2+1+1) ∧ Within g (g + 1) w (w_5.alloc (.cells #[.int .i64 (-1), .int .i64 (1000), .int .i64 (1014)] 3)) ∧ OwnI (w_5.alloc (.cells #[.int .i64 (-1), .int .i64 (1000), .int .i64 (1014)] 3)) (w_2.heap.size) (w_2.heap.size + 1) (.slice (some ⟨w_2.heap.size, 0, none⟩) 4 4) ([3, 4, 1006, 1001]) ∧ OwnI (w_5.alloc (.cells #[.int .i64 (-1), .int .i64 (1000), .int .i64 (1014)] 3)) (w_5.heap.size) (w_5.heap.size + 1) (.slice (some ⟨w_5.heap.size, 0, none⟩) 3 3) ([-1, 1000, 1014])) := Lib.hid ⟨(S5.out.1).below hb6 (by omega), (S5.out.2.1).then_below hb6 (by omega), (S5.out.2.2).belowB hb6 (by omega), (by simpa using ho6)⟩
      clear S5
      clear hb6 ho6
      go_wp2_with fail
      refine (pick w0 g (p2+1+1) (3) bs _ (S6.out.1) (by omega) (by omega)).mono ?_
      rintro e w_7 ⟨y, rfl, hy0, hy1, hr7, hg7⟩
      have hz7 : w_5.heap.size + 1 ≤ w_7.heap.size := by have := hg7.size; simpa using this
      have S7 : Hid (RS w0 w_7 g bs (p2+1+1 + 1) ∧ Within g (g + 1) w w_7 ∧ OwnI w_7 (w_2.heap.size) (w_2.heap.size + 1) (.slice (some ⟨w_2.heap.size, 0, none⟩) 4 4) ([3, 4, 1006, 1001]) ∧ OwnI w_7 (w_5.heap.size) (w_5.heap.size + 1) (.slice (some ⟨w_5.heap.size, 0, none⟩) 3 3) ([-1, 1000, 1014])) := Lib.hid ⟨hr7, (S6.out.2.1).trans hg7, (S6.out.2.2.1).apart hg7 (by omega), (S6.out.2.2.2).apart hg7 (by omega)⟩
      clear S6
      clear hr7 hg7
      obtain ⟨j, rfl⟩ := Int.eq_ofNat_of_zero_le hy0
      obtain ⟨z, hz, hz0, hz1⟩ : ∃ z : Int, w_7.cell? ⟨w_5.heap.size, j, none⟩ = some (.int .i64 z) ∧ -1 ≤ z ∧ z ≤ 1014 := by
        rw [(S7.out.2.2.2).own.own.cellAt j (by simp; omega)]
        rcases j with _ | _ | _ | j
        · exact ⟨-1, rfl, by omega, by omega⟩
        · exact ⟨1000, rfl, by omega, by omega⟩
        · exact ⟨1014, rfl, by omega, by omega⟩
        · omega
      have hb8 : Below (w_7.heap.size) w_7 (w_7.alloc (.cells #[.int .i64 (z)] 3)) := (Below.refl _ _).alloc (by simp) _
      have ho8 := lits_own w_7 [z] (by simp) (by intro z hz; simp only [List.mem_cons, List.not_mem_nil, or_false] at hz; apply wf_near; omega)
      have S8 : Hid (RS w0 (w_7.alloc (.cells #[.int .i64 (z)] 3)) g bs (p2+1+1+1) ∧ Within g (g + 1) w (w_7.alloc (.cells #[.int .i64 (z)] 3)) ∧ OwnI (w_7.alloc (.cells #[.int .i64 (z)] 3)) (w_2.heap.size) (w_2.heap.size + 1) (.slice (some ⟨w_2.heap.size, 0, none⟩) 4 4) ([3, 4, 1006, 1001]) ∧ OwnI (w_7.alloc (.cells #[.int .i64 (z)] 3)) (w_5.heap.size) (w_5.heap.size + 1) (.slice (some ⟨w_5.heap.size, 0, none⟩) 3 3) ([-1, 1000, 1014]) ∧ OwnI (w_7.alloc (.cells #[.int .i64 (z)] 3)) (w_7.heap.size) (w_7.heap.size + 1) (.slice (some ⟨w_7.heap.size, 0, none⟩) 1 1) ([z])) := Lib.hid ⟨(S7.out.1).below hb8 (by omega), (S7.out.2.1).then_below hb8 (by omega), (S7.out.2.2.1).belowB hb8 (by omega), (S7.out.2.2.2).belowB hb8 (by omega), (by simpa using ho8)⟩
      clear S7
      clear hb8 ho8
      go_wp2_with (at_builtin; (refine wpList_append_V rfl _ _ _ rfl Try.underlying23 intInfo (w_2.heap.size) (w_2.heap.size + 1) (.slice (some ⟨w_2.heap.size, 0, none⟩) 4 4) ([3, 4, 1006, 1001]) rfl (S8.out.2.2.1) (by first | omega | (simp <;> omega)) (.slice (some ⟨w_7.heap.size, 0, none⟩) 1 1) ([z]) rfl (S8.out.2.2.2.2).rd (by first | omega | (simp <;> omega)) ?_))
      intro f w_9 ho9 hb9
      have hz9 : w_7.heap.size + 1 ≤ w_9.heap.size := by have := hb9.size; simpa using this
      have S9 : Hid (RS w0 w_9 g bs (p2+1+1+1) ∧ Within g (g + 1) w w_9 ∧ OwnI w_9 (w_2.heap.size) (w_9.heap.size) f (([3, 4, 1006, 1001]) ++ ([z]))) := Lib.hid ⟨(S8.out.1).below hb9 (by omega), (S8.out.2.1).then_below hb9 (by omega), (by simpa using ho9)⟩
      clear S8
      clear ho9 hb9
      go_wp2_with fail
      go_ret
      exact ⟨f, _, _, rfl, ⟨(S9.out.2.2).own.mono (by omega), fun q hq => by have := (S9.out.2.2).lt q hq; first | omega | (simp; omega)⟩, by first | omega | (simp; done) | (simp; omega), S9.out.1, by omega, S9.out.2.1⟩
    · go_wp2_with (at_make; refine wpList_make_full _ rfl _ _ _ rfl w_5.heap.size 3 i0 (.int .i64 0) 1 Try.underlying23 hi0 hz0 hz1 _ _ _ _ 61 rfl rfl rfl rfl (by rw [hz2]; omega) (by unfold maxLen; omega) (Nat.le_refl _) ?_)
      intro wm hownm hgm
      rw [toList_madeCells_one] at hownm
      have hbm : Below w_5.heap.size w_5 wm := below_of_only hgm (Nat.le_refl _) (by simp)
      have hom : Own wm w_5.heap.size (.slice (some ⟨w_5.heap.size, 0, none⟩) 61 61) (List.replicate 61 0) := ⟨by simpa using hownm, by intro z hz; rw [List.eq_of_mem_replicate hz]; exact wf_near 0 (by omega)⟩
      have hwz : w.heap.size ≤ w_5.heap.size := by omega
      have Y := Lib.hid (And.intro (hom.mono hwz).within (And.intro (S5.out.1.below hbm (by omega)) (S5.out.2.1.then_below hbm hwz)))
      clear hownm hgm hbm hom
      go_wp2
      go_ret
      exact ⟨_, _, _, rfl, Y.out.1, by simp, Y.out.2.1, by omega, Y.out.2.2⟩
  · have hl' : zb.length ≤ 26 := by omega
    clear hl
    go_wp2_with fail
    refine (odd w0 g (p2) (k) bs _ (S2.out.1) (by omega) (by omega)).mono ?_
    rintro e w_4 ⟨d, rfl, hr4, hg4⟩
    have hz4 : w_2.heap.size ≤ w_4.heap.size := by have := hg4.size; simpa using this
    have S4 : Hid (RS w0 w_4 g bs (p2 + 1) ∧ Within g (g + 1) w w_4 ∧ OwnI w_4 (w.heap.size) (w_2.heap.size) (.slice A zb.length c) (zb)) := Lib.hid ⟨hr4, (S2.out.2.1).trans hg4, (S2.out.2.2).apart hg4 (by omega)⟩
    clear S2
    clear hr4 hg4
    rcases d with _ | _
    go_wp2_with fail
    go_ret
    exact ⟨(.slice A zb.length c), _, _, rfl, ⟨(S4.out.2.2).own.mono (by omega), fun q hq => by have := (S4.out.2.2).lt q hq; first | omega | (simp; omega)⟩, by first | omega | (simp; done) | (simp; omega), S4.out.1, by omega, S4.out.2.1⟩
    go_wp2_with fail
    refine (pick w0 g (p2+1) (4) bs _ (S4.out.1) (by omega) (by omega)).mono ?_
    rintro e w_5 ⟨x, rfl, hx0, hx1, hr5, hg5⟩
    have hz5 : w_4.heap.size ≤ w_5.heap.size := by have := hg5.size; simpa using this
    have S5 : Hid (RS w0 w_5 g bs (p2+1 + 1) ∧ Within g (g + 1) w w_5 ∧ OwnI w_5 (w.heap.size) (w_2.heap.size) (.slice A zb.length c) (zb)) := Lib.hid ⟨hr5, (S4.out.2.1).trans hg5, (S4.out.2.2).apart hg5 (by omega)⟩
    clear S4
    clear hr5 hg5
    have hcases : x = 0 ∨ x = 1 ∨ x = 2 ∨ x = 3 := by omega
    clear hx0 hx1
    rcases hcases with rfl | rfl | rfl | rfl
    · skip
      have hb6 : Below (w_5.heap.size) w_5 (w_5.alloc (.cells #[.int .i64 (1013)] 3)) := (Below.refl _ _).alloc (by simp) _
      have ho6 := lits_own w_5 [1013] (by simp) (by intro z hz; simp only [List.mem_cons, List.not_mem_nil, or_false] at hz; apply wf_near; omega)
      have S6 : Hid (RS w0 (w_5.alloc (.cells #[.int .i64 (1013)] 3)) g bs (p2+1+1) ∧ Within g (g + 1) w (w_5.alloc (.cells #[.int .i64 (1013)] 3)) ∧ OwnI (w_5.alloc (.cells #[.int .i64 (1013)] 3)) (w.heap.size) (w_2.heap.size) (.slice A zb.length c) (zb) ∧ OwnI (w_5.alloc (.cells #[.int .i64 (1013)] 3)) (w_5.heap.size) (w_5.heap.size + 1) (.slice (some ⟨w_5.heap.size, 0, none⟩) 1 1) ([1013])) := Lib.hid ⟨(S5.out.1).below hb6 (by omega), (S5.out.2.1).then_below hb6 (by omega), (S5.out.2.2).belowB hb6 (by omega), (by simpa using ho6)⟩
      clear S5
      clear hb6 ho6
      go_wp2_with (at_builtin; (refine wpList_append_V rfl _ _ _ rfl Try.underlying23 intInfo (w.heap.size) (w_2.heap.size) (.slice A zb.length c) (zb) rfl (S6.out.2.2.1) (by first | omega | (simp <;> omega)) (.slice (some ⟨w_5.heap.size, 0, none⟩) 1 1) ([1013]) rfl (S6.out.2.2.2).rd (by first | omega | (simp <;> omega)) ?_))
      intro f w_7 ho7 hb7
      have hz7 : w_5.heap.size + 1 ≤ w_7.heap.size := by have := hb7.size; simpa using this
      have S7 : Hid (RS w0 w_7 g bs (p2+1+1) ∧ Within g (g + 1) w w_7 ∧ OwnI w_7 (w.heap.size) (w_7.heap.size) f ((zb) ++ ([1013]))) := Lib.hid ⟨(S6.out.1).below hb7 (by omega), (S6.out.2.1).then_below hb7 (by omega), (by simpa using ho7)⟩
      clear S6
      clear ho7 hb7
      go_wp2_with fail
      go_ret
      exact ⟨f, _, _, rfl, ⟨(S7.out.2.2).own.mono (by omega), fun q hq => by have := (S7.out.2.2).lt q hq; first | omega | (simp; omega)⟩, by first | omega | (simp; done) | (simp; omega), S7.out.1, by omega, S7.out.2.1⟩
    · skip
      have hb6 : Below (w_5.heap.size) w_5 (w_5.alloc (.cells #[.int .i64 (1012)] 3)) := (Below.refl _ _).alloc (by simp) _
      have ho6 := lits_own w_5 [1012] (by simp) (by intro z hz; simp only [List.mem_cons, List.not_mem_nil, or_false] at hz; apply wf_near; omega)
      have S6 : Hid (RS w0 (w_5.alloc (.cells #[.int .i64 (1012)] 3)) g bs (p2+1+1) ∧ Within g (g + 1) w (w_5.alloc (.cells #[.int .i64 (1012)] 3)) ∧ OwnI (w_5.alloc (.cells #[.int .i64 (1012)] 3)) (w.heap.size) (w_2.heap.size) (.slice A zb.length c) (zb) ∧ OwnI (w_5.alloc (.cells #[.int .i64 (1012)] 3)) (w_5.heap.size) (w_5.heap.size + 1) (.slice (some ⟨w_5.heap.size, 0, none⟩) 1 1) ([1012])) := Lib.hid ⟨(S5.out.1).below hb6 (by omega), (S5.out.2.1).then_below hb6 (by omega), (S5.out.2.2).belowB hb6 (by omega), (by simpa using ho6)⟩
      clear S5
      clear hb6 ho6
      go_wp2_with (at_builtin; (refine wpList_append_V rfl _ _ _ rfl Try.underlying23 intInfo (w_5.heap.size) (w_5.heap.size + 1) (.slice (some ⟨w_5.heap.size, 0, none⟩) 1 1) ([1012]) rfl (S6.out.2.2.2) (by first | omega | (simp <;> omega)) (.slice A zb.length c) (zb) rfl (S6.out.2.2.1).rd (by first | omega | (simp <;> omega)) ?_))
      intro f w_7 ho7 hb7
      have hz7 : w_5.heap.size + 1 ≤ w_7.heap.size := by have := hb7.size; simpa using this
      have S7 : Hid (RS w0 w_7 g bs (p2+1+1) ∧ Within g (g + 1) w w_7 ∧ OwnI w_7 (w_5.heap.size) (w_7.heap.size) f (([1012]) ++ (zb))) := Lib.hid ⟨(S6.out.1).below hb7 (by omega), (S6.out.2.1).then_below hb7 (by omega), (by simpa using ho7)⟩
      clear S6
      clear ho7 hb7
      go_wp2_with fail
      go_ret
      exact ⟨f, _, _, rfl, ⟨(S7.out.2.2).own.mono (by omega), fun q hq => by have := (S7.out.2.2).lt q hq; first | omega | (simp; omega)⟩, by first | omega | (simp; done) | (simp; omega), S7.out.1, by omega, S7.out.2.1⟩
    · skip
      have hb6 : Below (w_5.heap.size) w_5 (w_5.alloc (.cells #[.int .i64 (-1), .int .i64 (1000), .int .i64 (1014)] 3)) := (Below.refl _ _).alloc (by simp) _
      have ho6 := lits_own w_5 [-1, 1000, 1014] (by simp) (by intro z hz; simp only [List.mem_cons, List.not_mem_nil, or_false] at hz; apply wf_near; omega)
      have S6 : Hid (RS w0 (w_5.alloc (.cells #[.int .i64 (-1), .int .i64 (1000), .int .i64 (1014)] 3)) g bs (p2+1+1) ∧ Within g (g + 1) w (w_5.alloc (.cells #[.int .i64 (-1), .int .i64 (1000), .int .i64 (1014)] 3)) ∧ OwnI (w_5.alloc (.cells #[.int .i64 (-1), .int .i64 (1000), .int .i64 (1014)] 3)) (w.heap.size) (w_2.heap.size) (.slice A zb.length c) (zb) ∧ OwnI (w_5.alloc (.cells #[.int .i64 (-1), .int .i64 (1000), .int .i64 (1014)] 3)) (w_5.heap.size) (w_5.heap.size + 1) (.slice (some ⟨w_5.heap.size, 0, none⟩) 3 3) ([-1, 1000, 1014])) := Lib.hid ⟨(S5.out.1).below hb6 (by omega), (S5.out.2.1).then_below hb6 (by omega), (S5.out.2.2).belowB hb6 (by omega), (by simpa using ho6)⟩
      clear S5
      clear hb6 ho6
      go_wp2_with fail
      refine (pick w0 g (p2+1+1) (3) bs _ (S6.out.1) (by omega) (by omega)).mono ?_
      rintro e w_7 ⟨y, rfl, hy0, hy1, hr7, hg7⟩
      have hz7 : w_5.heap.size + 1 ≤ w_7.heap.size := by have := hg7.size; simpa using this
      have S7 : Hid (RS w0 w_7 g bs (p2+1+1 + 1) ∧ Within g (g + 1) w w_7 ∧ OwnI w_7 (w.heap.size) (w_2.heap.size) (.slice A zb.length c) (zb) ∧ OwnI w_7 (w_5.heap.size) (w_5.heap.size + 1) (.slice (some ⟨w_5.heap.size, 0, none⟩) 3 3) ([-1, 1000, 1014])) := Lib.hid ⟨hr7, (S6.out.2.1).trans hg7, (S6.out.2.2.1).apart hg7 (by omega), (S6.out.2.2.2).apart hg7 (by omega)⟩
      clear S6
      clear hr7 hg7
      obtain ⟨j, rfl⟩ := Int.eq_ofNat_of_zero_le hy0
      obtain ⟨z, hz, hz0, hz1⟩ : ∃ z : Int, w_7.cell? ⟨w_5.heap.size, j, none⟩ = some (.int .i64 z) ∧ -1 ≤ z ∧ z ≤ 1014 := by
        rw [(S7.out.2.2.2).own.own.cellAt j (by simp; omega)]
        rcases j with _ | _ | _ | j
        · exact ⟨-1, rfl, by omega, by omega⟩
        · exact ⟨1000, rfl, by omega, by omega⟩
        · exact ⟨1014, rfl, by omega, by omega⟩
        · omega
      have hb8 : Below (w_7.heap.size) w_7 (w_7.alloc (.cells #[.int .i64 (z)] 3)) := (Below.refl _ _).alloc (by simp) _
      have ho8 := lits_own w_7 [z] (by simp) (by intro z hz; simp only [List.mem_cons, List.not_mem_nil, or_false] at hz; apply wf_near; omega)
      have S8 : Hid (RS w0 (w_7.alloc (.cells #[.int .i64 (z)] 3)) g bs (p2+1+1+1) ∧ Within g (g + 1) w (w_7.alloc (.cells #[.int .i64 (z)] 3)) ∧ OwnI (w_7.alloc (.cells #[.int .i64 (z)] 3)) (w.heap.size) (w_2.heap.size) (.slice A zb.length c) (zb) ∧ OwnI (w_7.alloc (.cells #[.int .i64 (z)] 3)) (w_5.heap.size) (w_5.heap.size + 1) (.slice (some ⟨w_5.heap.size, 0, none⟩) 3 3) ([-1, 1000, 1014]) ∧ OwnI (w_7.alloc (.cells #[.int .i64 (z)] 3)) (w_7.heap.size) (w_7.heap.size + 1) (.slice (some ⟨w_7.heap.size, 0, none⟩) 1 1) ([z])) := Lib.hid ⟨(S7.out.1).below hb8 (by omega), (S7.out.2.1).then_below hb8 (by omega), (S7.out.2.2.1).belowB hb8 (by omega), (S7.out.2.2.2).belowB hb8 (by omega), (by simpa using ho8)⟩
      clear S7
      clear hb8 ho8
      go_wp2_with (at_builtin; (refine wpList_append_V rfl _ _ _ rfl Try.underlying23 intInfo (w.heap.size) (w_2.heap.size) (.slice A zb.length c) (zb) rfl (S8.out.2.2.1) (by first | omega | (simp <;> omega)) (.slice (some ⟨w_7.heap.size, 0, none⟩) 1 1) ([z]) rfl (S8.out.2.2.2.2).rd (by first | omega | (simp <;> omega)) ?_))
      intro f w_9 ho9 hb9
      have hz9 : w_7.heap.size + 1 ≤ w_9.heap.size := by have := hb9.size; simpa using this
      have S9 : Hid (RS w0 w_9 g bs (p2+1+1+1) ∧ Within g (g + 1) w w_9 ∧ OwnI w_9 (w.heap.size) (w_9.heap.size) f ((zb) ++ ([z]))) := Lib.hid ⟨(S8.out.1).below hb9 (by omega), (S8.out.2.1).then_below hb9 (by omega), (by simpa using ho9)⟩
      clear S8
      clear ho9 hb9
      go_wp2_with fail
      go_ret
      exact ⟨f, _, _, rfl, ⟨(S9.out.2.2).own.mono (by omega), fun q hq => by have := (S9.out.2.2).lt q hq; first | omega | (simp; omega)⟩, by first | omega | (simp; done) | (simp; omega), S9.out.1, by omega, S9.out.2.1⟩
    · go_wp2_with (at_make; refine wpList_make_full _ rfl _ _ _ rfl w_5.heap.size 3 i0 (.int .i64 0) 1 Try.underlying23 hi0 hz0 hz1 _ _ _ _ 61 rfl rfl rfl rfl (by rw [hz2]; omega) (by unfold maxLen; omega) (Nat.le_refl _) ?_)
      intro wm hownm hgm
      rw [toList_madeCells_one] at hownm
      have hbm : Below w_5.heap.size w_5 wm := below_of_only hgm (Nat.le_refl _) (by simp)
      have hom : Own wm w_5.heap.size (.slice (some ⟨w_5.heap.size, 0, none⟩) 61 61) (List.replicate 61 0) := ⟨by simpa using hownm, by intro z hz; rw [List.eq_of_mem_replicate hz]; exact wf_near 0 (by omega)⟩
      have hwz : w.heap.size ≤ w_5.heap.size := by omega
      have Y := Lib.hid (And.intro (hom.mono hwz).within (And.intro (S5.out.1.below hbm (by omega)) (S5.out.2.1.then_below hbm hwz)))
      clear hownm hgm hbm hom
      go_wp2
      go_ret
      exact ⟨_, _, _, rfl, Y.out.1, by simp, Y.out.2.1, by omega, Y.out.2.2⟩
end Go.Proofs.Ytenaeiedoiepdaa
