/- Several texts in one. -/
import Derived.Test.YtdabbjlefpgkmaaB1
import Derived.Deep.DeepCutAuto
import Derived.Test.YtdabbjlefpgkmaaB2
/- The reader of the laws' codes: pick and odd. -/
namespace Go.Proofs.Ytdabbjlefpgkmaa
set_option maxRecDepth 100000
open Go.RowKit Go.WideShapes

section
variable {w w' : World} {g p : Nat} {bs : List Int}
theorem only_trans {a b c : World} {r : Option Nat} (h : a.grownBy b r) (k : b.grownBy c r) : a.grownBy c r := World.grownBy.trans h k
end

theorem byte_bd {z : Int} (h : InK .u8 z) : 0 ≤ z ∧ z ≤ 255 := by
  simpa [InK, Lit.wf, IntKind.min, IntKind.max, IntKind.signed, IntKind.bits] using h

theorem xor_nonneg (a b : Int) (ha : 0 ≤ a ∧ a < 9223372036854775808) (hb : 0 ≤ b ∧ b < 9223372036854775808) : 0 ≤ bits .xor .i64 a b := by
  obtain ⟨m, rfl⟩ := Int.eq_ofNat_of_zero_le ha.1
  obtain ⟨k, rfl⟩ := Int.eq_ofNat_of_zero_le hb.1
  have hm : (BitVec.ofInt 64 (m : Int)).toNat = m := by rw [BitVec.ofInt_natCast, BitVec.toNat_ofNat]; exact Nat.mod_eq_of_lt (by omega)
  have hk : (BitVec.ofInt 64 (k : Int)).toNat = k := by rw [BitVec.ofInt_natCast, BitVec.toNat_ofNat]; exact Nat.mod_eq_of_lt (by omega)
  have hx : m ^^^ k < 2 ^ 63 := Nat.xor_lt_two_pow (by omega) (by omega)
  show 0 ≤ IntKind.i64.wrap ((BitVec.ofInt 64 (m : Int) ^^^ BitVec.ofInt 64 (k : Int)).toNat : Int)
  rw [BitVec.toNat_xor, hm, hk, IntKind.wrap_i64]
  omega

theorem Within.trans {lo hi : Nat} {a b c : World} (h : Within lo hi a b) (k : Within lo hi b c) : Within lo hi a c :=
  ⟨k.os.trans h.os, k.tape.trans h.tape, k.output.trans h.output, Nat.le_trans h.size k.size, fun q hq hn => (k.block q (Nat.lt_of_lt_of_le hq h.size) hn).trans (h.block q hq hn)⟩
theorem Within.then_below {lo hi B : Nat} {a b c : World} (h : Within lo hi a b) (k : Below B b c) (hB : a.heap.size ≤ B) : Within lo hi a c :=
  ⟨k.os.trans h.os, k.tape.trans h.tape, k.output.trans h.output, Nat.le_trans h.size k.size, fun q hq hn => (k.block q (by omega)).trans (h.block q hq hn)⟩
end Go.Proofs.Ytdabbjlefpgkmaa

/- What the laws draw: numbers, parts of programs, words, programs. Only that something comes, in memory of its own, not too long. -/
namespace Go.Proofs.Ytdabbjlefpgkmaa
set_option maxRecDepth 100000
open Go.RowKit Go.WideShapes

theorem lits_own (w : World) (zs : List Int) (hn : zs.length ≤ 1000) (hw : ∀ z ∈ zs, InK .i64 z) : OwnI (w.alloc (.cells (zs.map (Value.int .i64)).toArray 3)) w.heap.size (w.heap.size + 1) (.slice (some ⟨w.heap.size, 0, none⟩) zs.length zs.length) zs :=
  ⟨⟨lit_own w zs hn, hw⟩, fun g hg => by simp [Value.ownBlock] at hg; omega⟩
theorem wf_near (z : Int) (h : -1000000 ≤ z ∧ z ≤ 1000000) : InK .i64 z := WalkArith.wf_i64 (by omega)

/-- append(s, x...) in the words of OwnI and RdI. -/
theorem wp_append_V {P : Program} {w : World} {o : Oper} {a : Act} {K : Act → World → Prop} {Q : Exit → Act → World → Prop} (s x : Operand) (t : TypeId)
    (ho : o.op = .call { callee := .builtin .append, args := #[s, x], argTypes := #[t, t] })
    (ht : P.underlying t = some (.slice 3)) (hinfo : (P.info? 3).map (fun i => (i.zero, i.size, i.bytes)) = some (some (.int .i64 0), 1, 8))
    (lo hi : Nat) (v : Value) (zs : List Int) (hs : a.eval s = v) (hown : OwnI w lo hi v zs) (hlo : lo ≤ w.heap.size)
    (u : Value) (ys : List Int) (hx : a.eval x = u) (hr : RdI w u ys) (hlen : zs.length + ys.length ≤ 1000000000)
    (h : ∀ v' w', OwnI w' lo w'.heap.size v' (zs ++ ys) → Below lo w w' → K (a.put o.dst v') w') : o.wp P a w K Q := by
  obtain ⟨A, c, rfl, hi', _⟩ := hr
  refine wp_append_ints s x t ho lo 3 .i64 8 ht hinfo (Nat.le_refl _) v zs hs hown.own.own w.heap.size A ys c hx hi' hlen hlo ?_
  intro v' w' h1 h2 _
  refine h v' w' (Own.within ⟨h1, fun z hz => ?_⟩) (below_of_only h2 hlo (fun k hk => (hown.own.ge k hk).1))
  rcases List.mem_append.1 hz with h | h
  · exact hown.own.wf z h
  · exact hi'.wf z h
theorem wpList_append_V {P : Program} {w : World} {ops : Array Oper} {rest : List Oper} {o : Oper} {a : Act} {Q : Exit → Act → World → Prop} (hgd : o.guard = none) (s x : Operand) (t : TypeId)
    (ho : o.op = .call { callee := .builtin .append, args := #[s, x], argTypes := #[t, t] })
    (ht : P.underlying t = some (.slice 3)) (hinfo : (P.info? 3).map (fun i => (i.zero, i.size, i.bytes)) = some (some (.int .i64 0), 1, 8))
    (lo hi : Nat) (v : Value) (zs : List Int) (hs : a.eval s = v) (hown : OwnI w lo hi v zs) (hlo : lo ≤ w.heap.size)
    (u : Value) (ys : List Int) (hx : a.eval x = u) (hr : RdI w u ys) (hlen : zs.length + ys.length ≤ 1000000000)
    (h : ∀ v' w', OwnI w' lo w'.heap.size v' (zs ++ ys) → Below lo w w' → wpList P ops Q rest (a.put o.dst v') w') : wpList P ops Q (o :: rest) a w :=
  wpList_plain hgd fun _ hK => wp_append_V s x t ho ht hinfo lo hi v zs hs hown hlo u ys hx hr hlen fun v' w' h1 h2 => hK _ _ (h v' w' h1 h2)
/-- The same where the append is guarded, and is done. -/
theorem wpList_append_G {P : Program} {w : World} {ops : Array Oper} {rest : List Oper} {o : Oper} {a : Act} {Q : Exit → Act → World → Prop} (hwant : Region.wanted o (yielded ops a.tmps) = true) (s x : Operand) (t : TypeId)
    (ho : o.op = .call { callee := .builtin .append, args := #[s, x], argTypes := #[t, t] })
    (ht : P.underlying t = some (.slice 3)) (hinfo : (P.info? 3).map (fun i => (i.zero, i.size, i.bytes)) = some (some (.int .i64 0), 1, 8))
    (lo hi : Nat) (v : Value) (zs : List Int) (hs : a.eval s = v) (hown : OwnI w lo hi v zs) (hlo : lo ≤ w.heap.size)
    (u : Value) (ys : List Int) (hx : a.eval x = u) (hr : RdI w u ys) (hlen : zs.length + ys.length ≤ 1000000000)
    (h : ∀ v' w', OwnI w' lo w'.heap.size v' (zs ++ ys) → Below lo w w' → wpList P ops Q rest (a.put o.dst v') w') : wpList P ops Q (o :: rest) a w :=
  wpList_step fun _ hK => by
    rw [if_pos hwant]
    exact wp_append_V s x t ho ht hinfo lo hi v zs hs hown hlo u ys hx hr hlen fun v' w' h1 h2 => hK _ _ (h v' w' h1 h2)

end Go.Proofs.Ytdabbjlefpgkmaa
