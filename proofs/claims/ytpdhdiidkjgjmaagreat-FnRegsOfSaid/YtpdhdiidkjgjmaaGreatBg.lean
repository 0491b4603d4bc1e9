/- Several texts in one. -/
import Derived.Test.YtpdhdiidkjgjmaaGreatOa
import Derived.Maps.OwnSet
import Derived.DeepKeys5
import Derived.Test.YtpdhdiidkjgjmaaGreatZq
import Derived.BigQuiet
import Derived.Deep.RegionHeld3
import Derived.Deep.RegionLaw
import Derived.Test.YtpdhdiidkjgjmaaGreatCo
import Derived.Test.YtpdhdiidkjgjmaaGreatOe
/- Chapter 8: a map keyed by operations, as a function from them to numbers that may be there. -/
namespace Go.Proofs.YtpdhdiidkjgjmaaGreat
set_option maxRecDepth 100000
open Go.RowKit Go.WideShapes Go.Maps

def opV (m : Int × Int × Int) : Value := .agg #[.int .i64 m.1, .int .i64 m.2.1, .int .i64 m.2.2]
theorem opV_inj {m m' : Int × Int × Int} (h : opV m = opV m') : m = m' := by
  obtain ⟨a, b, c⟩ := m
  obtain ⟨a', b', c'⟩ := m'
  simp [opV] at h
  obtain ⟨rfl, rfl, rfl⟩ := h
  rfl
def OkOp (m : Int × Int × Int) : Prop := InK .i64 m.1 ∧ InK .i64 m.2.1 ∧ InK .i64 m.2.2
theorem opKeyed : Keyed Tryz.prog 33 := Keyed.of_law (deep_law_gate (by kernel_rfl) (of_decide_eq_true (by kernel_rfl)) (of_decide_eq_true (by kernel_rfl)) (by kernel_rfl) (by kernel_rfl))
theorem keyOf_op {m : Int × Int × Int} (h : OkOp m) : ∃ l, keyOf Tryz.prog 33 (opV m) = some l := by
  obtain ⟨a, b, c⟩ := m
  obtain ⟨h1, h2, h3⟩ := h
  have hk : Tryz.prog.keyType 33 = true := by kernel_rfl
  have hu := Tryz.underlying33
  have hi := Tryz.underlying3
  have hc3 : Tryz.prog.cellsOf 33 = 3 := by kernel_rfl
  have hc1 : Tryz.prog.cellsOf 3 = 1 := by kernel_rfl
  obtain ⟨d, hd⟩ : ∃ d, Tryz.prog.types.size + 1 = d + 2 := ⟨Tryz.prog.types.size - 1, by have : 1 ≤ Tryz.prog.types.size := of_decide_eq_true (by kernel_rfl); omega⟩
  have w1 : (Lit.int .i64 a).wf = true := h1
  have w2 : (Lit.int .i64 b).wf = true := h2
  have w3 : (Lit.int .i64 c).wf = true := h3
  unfold keyOf
  rw [hu, hd]
  simp [hk, opV, Value.formed, hu, hc3, hc1, hi, Program.keyLits, w1, w2, w3, Value.cells]
def heldOq (v : Value) : Option (DataW Value × List MemPlace) := some (.held v, [])
def MapOp (w : World) (b N : Nat) (f : Int × Int × Int → Option Int) : Prop :=
  ∃ D : DataW Value, w.ownsMap Tryz.prog 33 heldOq b N D ∧ IsMap D ∧ ∀ m l, OkOp m → keyOf Tryz.prog 33 (opV m) = some l → Maps.has D l = (f m).isSome ∧ D.atKey l (.held (.int .i64 0)) = .held (.int .i64 ((f m).getD 0))
theorem MapOp.made (w : World) : MapOp (w.alloc (.map #[] 0)) w.heap.size 0 (fun _ => none) :=
  ⟨_, World.ownsMap_made w _ _ _, isMap_empty, fun _ _ _ _ => ⟨rfl, rfl⟩⟩
theorem MapOp.lt {w : World} {b N : Nat} {f : Int × Int × Int → Option Int} (h : MapOp w b N f) : b < w.heap.size := by
  obtain ⟨D, h1, _⟩ := h; exact h1.lt
theorem MapOp.below {w w' : World} {b N : Nat} {f : Int × Int × Int → Option Int} (h : MapOp w b N f) (hb : Below w.heap.size w w') : MapOp w' b N f := by
  obtain ⟨D, h1, h2⟩ := h
  exact ⟨D, h1.kept (row := none) (only_of_below hb none) (by simp), h2⟩
theorem MapOp.look {w : World} {b N : Nat} {f : Int × Int × Int → Option Int} (h : MapOp w b N f) {m : Int × Int × Int} (hm : OkOp m) : (Instr.lookup 56 (.map (some b)) (opV m) true).run Tryz.prog w = .ok (.tuple #[.int .i64 ((f m).getD 0), .bool (f m).isSome]) w := by
  obtain ⟨D, h1, _, h3⟩ := h
  obtain ⟨l, hl⟩ := keyOf_op hm
  obtain ⟨v, ps, hrun, hv⟩ := h1.look_ok (t := 56) (e := 3) opKeyed Tryz.underlying56 (z := .int .i64 0) (by rfl) (zd := .held (.int .i64 0)) (zp := []) rfl hl
  obtain ⟨e1, e2⟩ := h3 m l hm hl
  rw [e1] at hrun
  rw [e2] at hv
  have : v = .int .i64 ((f m).getD 0) := by
    simp only [heldOq, Option.some.injEq, Prod.mk.injEq, DataW.held.injEq] at hv
    exact hv.1
  rw [← this]; exact hrun
theorem MapOp.put {w : World} {b N : Nat} {f : Int × Int × Int → Option Int} (h : MapOp w b N f) (hN : N < 1000) {m : Int × Int × Int} (hm : OkOp m) (x : Int) :
    ∃ w', (Instr.mapUpdate 56 (.map (some b)) (opV m) (.int .i64 x)).run Tryz.prog w = .ok () w' ∧ MapOp w' b (N + 1) (fun y => if y = m then some x else f y) ∧ w.grownBy w' (some b) := by
  obtain ⟨D, h1, h2, h3⟩ := h
  obtain ⟨l, hl⟩ := keyOf_op hm
  obtain ⟨w', hrun, h4, h5⟩ := h1.update (t := 56) (e := 3) opKeyed Tryz.underlying56 (by unfold maxLen; omega) (val := .int .i64 x) (d := .held (.int .i64 x)) (ps := []) hl rfl
  refine ⟨w', hrun, ⟨_, h4, h2.put _ _, fun y k hy hk => ?_⟩, h5⟩
  dsimp only
  by_cases e : y = m
  · subst e
    rw [if_pos rfl]
    obtain rfl : l = k := by rw [hl] at hk; exact Option.some.inj hk
    exact ⟨has_put_same h2 (opKeyed.key hl) _, atKey_put_same h2 (opKeyed.key hl) _ _⟩
  · have hne : k ≠ l := fun e2 => e (opV_inj (opKeyed.inj (e2 ▸ hk) hl))
    rw [if_neg e]
    exact ⟨(has_put_other hne _).trans (h3 y k hy hk).1, (atKey_put_other hne _ _).trans (h3 y k hy hk).2⟩
end Go.Proofs.YtpdhdiidkjgjmaaGreat

/- Chapter 8, the program's reckoner behind its pointer: push and pop. -/
namespace Go.Proofs.YtpdhdiidkjgjmaaGreat
set_option maxRecDepth 100000
open Go.RowKit Go.WideShapes Go.Maps

def fO (ms : List (Int × Int × Int)) (m : Int × Int × Int) : Option Int := if opAt ms m = ms.length then none else some (3000 + (opAt ms m : Int))
theorem fO_nil : fO [] = fun _ => none := by funext m; rfl
theorem fO_put {ms : List (Int × Int × Int)} {op : Int × Int × Int} (h : opAt ms op = ms.length) : fO (ms ++ [op]) = fun y => if y = op then some (3000 + (ms.length : Int)) else fO ms y := by
  funext y
  unfold fO opAt at *
  rw [List.idxOf_append]
  by_cases e : y = op
  · subst e
    have hn : ¬ y ∈ ms := fun hm => by have := List.idxOf_lt_length_of_mem hm; omega
    rw [if_pos rfl, if_neg hn]
    simp
  · rw [if_neg e]
    by_cases hm : y ∈ ms
    · have := List.idxOf_lt_length_of_mem hm
      rw [if_pos hm, if_neg (by simp; omega), if_neg (by omega)]
    · have h1 : List.idxOf y ms = ms.length := List.idxOf_eq_length hm
      have h2 : List.idxOf y [op] = 1 := by
        have h3 : (op == y) = false := by rw [beq_eq_false_iff_ne]; exact fun e2 => e e2.symm
        rw [List.idxOf_cons, h3]; rfl
      rw [if_neg hm, h1, h2, if_pos (by simp; omega), if_pos rfl]
theorem MapOp.block {w : World} {b N : Nat} {f : Int × Int × Int → Option Int} (h : MapOp w b N f) : ∃ es c, w.heap[b]? = some (.map es c) := by
  obtain ⟨D, ⟨es, c, hb, _⟩, _⟩ := h; exact ⟨es, c, hb⟩
theorem MapOp.kept {w w' : World} {b N : Nat} {f : Int × Int × Int → Option Int} (h : MapOp w b N f) {row : Option Nat} (hg : w.grownBy w' row) (hne : some b ≠ row) : MapOp w' b N f := by
  obtain ⟨D, h1, h2⟩ := h
  exact ⟨D, h1.kept hg hne, h2⟩
theorem MapOp.setC {w : World} {b N : Nat} {f : Int × Int × Int → Option Int} (h : MapOp w b N f) {g o : Nat} (hne : b ≠ g) (u : Value) : MapOp (w.setCell ⟨g, o, none⟩ u) b N f := by
  obtain ⟨D, h1, h2⟩ := h
  exact ⟨D, h1.setCell (by simpa using hne) u, h2⟩
theorem MapOp.ne_row {w : World} {b N : Nat} {f : Int × Int × Int → Option Int} (h : MapOp w b N f) {lo d n : Nat} {e : TypeId} {v : Value} {xs : List Value} (ho : w.ownsRow lo e d v n xs) : some b ≠ v.ownBlock := by
  intro e2
  obtain ⟨es, c, hb⟩ := h.block
  obtain ⟨cs, hc⟩ := ownsRow_type ho e2.symm
  rw [hb] at hc
  cases hc
theorem MapOp.ne_blk {w : World} {b N : Nat} {f : Int × Int × Int → Option Int} (h : MapOp w b N f) {g : Nat} {cs : Array Value} {T : TypeId} (ho : Blk w g cs T) : b ≠ g := by
  rintro rfl
  obtain ⟨es, c, hb⟩ := h.block
  unfold Blk at ho
  rw [hb] at ho
  cases ho
/-- The reckoner: its row, its list, its map. -/
structure Rk (w : World) (lo g mb : Nat) (v u : Value) (row : List Int) (ms : List (Int × Int × Int)) : Prop where
  blk : Blk w g #[v, u, .map (some mb)] 58
  ge : lo ≤ g
  gm : lo ≤ mb
  row : Own w lo v row
  lst : w.ownsRow lo 33 3 u ms.length ((flat3 ms).map (Value.int .i64))
  map : MapOp w mb ms.length (fO ms)
section
variable {w w' : World} {lo g mb : Nat} {v u : Value} {row : List Int} {ms : List (Int × Int × Int)}
theorem Rk.lole (h : Rk w lo g mb v u row ms) : lo ≤ w.heap.size := Nat.le_of_lt (Nat.lt_of_le_of_lt h.ge h.blk.lt)
theorem Rk.step (h : Rk w lo g mb v u row ms) (hb : Below w.heap.size w w') : Rk w' lo g mb v u row ms :=
  ⟨h.blk.below hb h.blk.lt, h.ge, h.gm, h.row.below hb, ((Own3.mk (T := 33) (hi := w.heap.size) h.lst (fun k hk => (h.lst.lt k hk).2)).below hb).own, h.map.below hb⟩
theorem Rk.rowTo (h : Rk w lo g mb v u row ms) {v' : Value} {row' : List Int} (ho : Own w' lo v' row') (hg : w.grownBy w' v.ownBlock) : Rk (w'.setCell ⟨g, 0, none⟩ v') lo g mb v' u row' ms ∧ Below lo w (w'.setCell ⟨g, 0, none⟩ v') := by
  have hb : Blk w' g #[v, u, .map (some mb)] 58 := (hg.block g h.blk.lt fun e => ownsRow_blk_ne h.row.own h.blk (by decide) e.symm).trans h.blk
  have hl := h.lst.kept hg (by
    rcases ownsRow_ne8 h.lst h.row.own (by decide) with h1 | h1
    · exact .inl h1
    · exact .inr h1)
  have hm := h.map.kept hg (h.map.ne_row h.row.own)
  refine ⟨⟨hb.set 0 _, h.ge, h.gm, ⟨ownsRow_keep ho.own fun k hk => Below.heap_setCell _ _ _ _ (fun e => ownsRow_blk_ne ho.own hb (by decide) (by rw [hk]; exact congrArg some e)), ho.wf⟩, ?_, hm.setC (hm.ne_blk hb) _⟩, (below_of_only hg h.lole (fun k hk => (h.row.ge k hk).1)).setCell (by simpa using h.ge) _⟩
  refine ⟨hl.1, ?_⟩
  rcases hl.2 with h0 | ⟨k, cap, cur, rfl, hb', hh, h1⟩
  · exact .inl h0
  · exact .inr ⟨k, cap, cur, rfl, hb', (Below.heap_setCell _ _ _ _ (fun e2 => ownsRow_blk_ne hl hb (by decide) (congrArg some e2))).trans hh, h1⟩
end
def RkP (lo g mb : Nat) (row : List Int) (ms : List (Int × Int × Int)) (w w' : World) : Prop := (∃ v u, Rk w' lo g mb v u row ms) ∧ Below lo w w'
set_option maxHeartbeats 1000000 in
theorem pushK (lo g mb : Nat) (v u : Value) (row : List Int) (ms : List (Int × Int × Int)) (z : Int) (w : World) (h : Rk w lo g mb v u row ms) (hz : InK .i64 z) (hl : row.length ≤ 900000000) :
    Calls Tryz.prog 47 #[.pointer (some ⟨g, 0, none⟩), .int .i64 z] w fun e w' => e = .returned (.tuple #[]) ∧ RkP lo g mb (row ++ [z]) ms w w' := by
  have hlo := h.lole
  obtain ⟨A, c, rfl, _⟩ := h.row.ints
  obtain ⟨c0, _, _, f0, _, _⟩ := blkThree h.blk
  have H := Lib.hid (And.intro h hz); clear h hz
  go_enter Tryz.func47, Tryz.ntmps47
  go_wp2_with (at_builtin; refine wpList_append_Kz rfl _ _ _ rfl Tryz.underlying23 intInfo z rfl H.out.2 lo _ row rfl H.out.1.row hlo rfl hl ?_)
  intro v2 w2 ho2 hg2
  obtain ⟨A2, c2, e2, _⟩ := ho2.ints
  obtain ⟨n2, hn2⟩ : ∃ n, (row ++ [z]).length = n := ⟨_, rfl⟩
  rw [hn2] at e2
  subst e2
  clear hn2
  have hb : Blk w2 g #[.slice A row.length c, u, .map (some mb)] 58 := (hg2.block g H.out.1.blk.lt fun e => ownsRow_blk_ne H.out.1.row.own H.out.1.blk (by decide) e.symm).trans H.out.1.blk
  obtain ⟨_, _, _, f2, _, _⟩ := blkThree hb
  have X := Lib.hid (H.out.1.rowTo ho2 hg2); clear ho2 hg2 hb
  go_wp2
  go_end0
  exact ⟨rfl, ⟨_, _, X.out.1⟩, X.out.2⟩
set_option maxHeartbeats 1000000 in
theorem popK (lo g mb : Nat) (v u : Value) (row : List Int) (ms : List (Int × Int × Int)) (z : Int) (w : World) (h : Rk w lo g mb v u (row ++ [z]) ms) (hl : row.length ≤ 900000000) :
    Calls Tryz.prog 49 #[.pointer (some ⟨g, 0, none⟩)] w fun e w' => e = .returned (.tuple #[.int .i64 z, .bool true]) ∧ InK .i64 z ∧ RkP lo g mb row ms w w' := by
  have hlo := h.lole
  have hro := h.row.own
  have hlen : (row ++ [z]).length = row.length + 1 := by simp
  rw [hlen] at hro
  obtain ⟨g2, cap2, rfl⟩ := ownsRow_succ hro
  have hcap := ownsRow_cap hro
  have hcell := hro.cellAt row.length (by omega)
  have hu : ((row ++ [z]).map (Value.int .i64))[row.length]? = some (.int .i64 z) := by simp
  rw [hu] at hcell
  have htk := ownsRow_take hro row.length (by omega)
  rw [show ((row ++ [z]).map (Value.int .i64)).take row.length = row.map (Value.int .i64) by simp] at htk
  have hz := h.row.wf z (by simp)
  have X := Lib.hid (And.intro hz (h.rowTo (v' := .slice (some ⟨g2, 0, none⟩) row.length cap2) ⟨htk, fun y hy => h.row.wf y (by simp [hy])⟩ (World.grownBy.refl _ _)))
  obtain ⟨c0, _, _, f0, _, _⟩ := blkThree h.blk
  have hn1 : ((row.length + 1 : Nat) : Int) - 1 = row.length := by omega
  clear h hu htk hro hlen hz
  go_enter Tryz.func49, Tryz.ntmps49
  go_wp2
  go_ret2
  exact ⟨rfl, X.out.1, ⟨_, _, X.out.2.1⟩, X.out.2.2⟩
end Go.Proofs.YtpdhdiidkjgjmaaGreat

/- Chapter 8, the program's reckoner: dup, swap, registerOf. -/
namespace Go.Proofs.YtpdhdiidkjgjmaaGreat
set_option maxRecDepth 100000
open Go.RowKit Go.WideShapes Go.Maps Go.Deep

set_option maxHeartbeats 1000000 in
theorem dupK (lo g mb : Nat) (v u : Value) (row : List Int) (ms : List (Int × Int × Int)) (z : Int) (w : World) (h : Rk w lo g mb v u (row ++ [z]) ms) (hl : row.length ≤ 100000000) :
    Calls Tryz.prog 48 #[.pointer (some ⟨g, 0, none⟩)] w fun e w' => e = .returned (.bool true) ∧ RkP lo g mb ((row ++ [z]) ++ [z]) ms w w' := by
  have H := Lib.hid h; clear h
  go_enter Tryz.func48, Tryz.ntmps48
  go_wp2_with fail
  refine (popK lo g mb v u row ms z w H.out (by omega)).mono ?_
  rintro e w0 ⟨rfl, hz, ⟨v0, u0, h0⟩, hb0⟩
  have H0 := Lib.hid (And.intro h0 (And.intro hb0 hz)); clear h0 hb0 hz H
  go_wp2_with fail
  refine (pushK lo g mb v0 u0 row ms z w0 H0.out.1 H0.out.2.2 (by omega)).mono ?_
  rintro e w1 ⟨rfl, ⟨v1, u1, h1⟩, hb1⟩
  have H1 := Lib.hid (And.intro h1 (And.intro (H0.out.2.1.trans hb1) H0.out.2.2)); clear h1 hb1 H0
  go_wp2_with fail
  refine (pushK lo g mb v1 u1 (row ++ [z]) ms z w1 H1.out.1 H1.out.2.2 (by simp; omega)).mono ?_
  rintro e w2 ⟨rfl, h2, hb2⟩
  have H2 := Lib.hid (And.intro h2 (H1.out.2.1.trans hb2)); clear h2 hb2 H1
  go_wp2
  go_ret
  exact ⟨rfl, H2.out.1, H2.out.2⟩
set_option maxHeartbeats 1000000 in
theorem swapK (lo g mb : Nat) (v u : Value) (row : List Int) (ms : List (Int × Int × Int)) (y z : Int) (w : World) (h : Rk w lo g mb v u ((row ++ [y]) ++ [z]) ms) (hl : row.length ≤ 100000000) :
    Calls Tryz.prog 50 #[.pointer (some ⟨g, 0, none⟩)] w fun e w' => e = .returned (.bool true) ∧ RkP lo g mb ((row ++ [z]) ++ [y]) ms w w' := by
  have H := Lib.hid h; clear h
  go_enter Tryz.func50, Tryz.ntmps50
  go_wp2_with fail
  refine (popK lo g mb v u (row ++ [y]) ms z w H.out (by simp; omega)).mono ?_
  rintro e w0 ⟨rfl, hz, ⟨v0, u0, h0⟩, hb0⟩
  have H0 := Lib.hid (And.intro h0 (And.intro hb0 hz)); clear h0 hb0 hz H
  go_wp2_with fail
  refine (popK lo g mb v0 u0 row ms y w0 H0.out.1 (by omega)).mono ?_
  rintro e w1 ⟨rfl, hy, ⟨v1, u1, h1⟩, hb1⟩
  have H1 := Lib.hid (And.intro h1 (And.intro (H0.out.2.1.trans hb1) (And.intro H0.out.2.2 hy))); clear h1 hb1 H0 hy
  go_wp2_with fail
  refine (pushK lo g mb v1 u1 row ms z w1 H1.out.1 H1.out.2.2.1 (by omega)).mono ?_
  rintro e w2 ⟨rfl, ⟨v2, u2, h2⟩, hb2⟩
  have H2 := Lib.hid (And.intro h2 (And.intro (H1.out.2.1.trans hb2) H1.out.2.2.2)); clear h2 hb2 H1
  go_wp2_with fail
  refine (pushK lo g mb v2 u2 (row ++ [z]) ms y w2 H2.out.1 H2.out.2.2 (by simp; omega)).mono ?_
  rintro e w3 ⟨rfl, h3, hb3⟩
  have H3 := Lib.hid (And.intro h3 (H2.out.2.1.trans hb3)); clear h3 hb3 H2
  go_wp2
  go_ret
  exact ⟨rfl, H3.out.1, H3.out.2⟩
theorem opInfoZ : (Tryz.prog.info? 33).map (fun i => (i.zero, i.size, i.bytes)) = some (some (.agg #[.int .i64 0, .int .i64 0, .int .i64 0]), 3, 24) := by kernel_rfl
theorem rk_map {w w' : World} {lo g mb : Nat} {v u : Value} {row : List Int} {ms : List (Int × Int × Int)} (h : Rk w lo g mb v u row ms) (hg : w.grownBy w' (some mb)) : Blk w' g #[v, u, .map (some mb)] 58 ∧ Own w' lo v row ∧ w'.ownsRow lo 33 3 u ms.length ((flat3 ms).map (Value.int .i64)) ∧ Below lo w w' :=
  ⟨(hg.block g h.blk.lt (fun e => h.map.ne_blk h.blk (Option.some.inj e).symm)).trans h.blk, ⟨h.row.own.kept hg (.inr fun e => h.map.ne_row h.row.own e.symm), h.row.wf⟩, h.lst.kept hg (.inr fun e => h.map.ne_row h.lst e.symm), below_of_only hg h.lole (fun k hk => by cases hk; exact h.gm)⟩
theorem rk_list {w w' : World} {lo g mb : Nat} {v u u' : Value} {row : List Int} {ms : List (Int × Int × Int)} {op : Int × Int × Int} (blk : Blk w g #[v, u, .map (some mb)] 58) (ge : lo ≤ g) (gm : lo ≤ mb) (hr : Own w lo v row) (hl : w.ownsRow lo 33 3 u ms.length ((flat3 ms).map (Value.int .i64))) (hm : MapOp w mb (ms.length + 1) (fO (ms ++ [op])))
    (ho : Own3 33 w' lo w'.heap.size u' (ms ++ [op])) (hg : w.grownBy w' u.ownBlock) : Rk (w'.setCell ⟨g, 1, none⟩ u') lo g mb v u' row (ms ++ [op]) ∧ Below lo w (w'.setCell ⟨g, 1, none⟩ u') ∧ w'.frozen? ⟨g, 1, none⟩ = false ∧ w'.cell? ⟨g, 1, none⟩ = some u := by
  have hb : Blk w' g #[v, u, .map (some mb)] 58 := (hg.block g blk.lt fun e => ownsRow_blk_ne hl blk (by decide) e.symm).trans blk
  have hr2 := hr.own.kept hg (by
    rcases ownsRow_ne8 hr.own hl (by decide) with h1 | h1
    · exact .inl h1
    · exact .inr h1)
  have hm2 := hm.kept hg (hm.ne_row hl)
  refine ⟨⟨hb.set 1 _, ge, gm, ⟨ownsRow_keep hr2 fun k hk => Below.heap_setCell _ _ _ _ (fun e => ownsRow_blk_ne hr2 hb (by decide) (by rw [hk]; exact congrArg some e)), hr.wf⟩, ?_, ?_⟩, (below_of_only hg (by have := blk.lt; omega) (fun k hk => (hl.lt k hk).1)).setCell (by simpa using ge) _, hb.free 1, (blkThree hb).2.1⟩
  · refine ⟨ho.own.1, ?_⟩
    rcases ho.own.2 with h0 | ⟨k, cap, cur, rfl, hb', hh, h1⟩
    · exact .inl h0
    · exact .inr ⟨k, cap, cur, rfl, hb', (Below.heap_setCell _ _ _ _ (fun e2 => ownsRow_blk_ne ho.own hb (by decide) (congrArg some e2))).trans hh, h1⟩
  · have h9 := hm2.setC (hm2.ne_blk hb) (o := 1) u'
    rw [List.length_append]
    exact h9
set_option maxHeartbeats 4000000 in
theorem registerOf_any (lo g mb : Nat) (v u : Value) (row : List Int) (ms : List (Int × Int × Int)) (z a b : Int) (w : World) (h : Rk w lo g mb v u row ms) (hop : OkOp (z, a, b)) (hl : ms.length ≤ 900) :
    Calls Tryz.prog 52 #[.pointer (some ⟨g, 0, none⟩), .agg #[.int .i64 z, .int .i64 a, .int .i64 b]] w fun e w' => e = .returned (.int .i64 (3000 + (opAt ms (z, a, b) : Int))) ∧ RkP lo g mb row (opPut ms (z, a, b)) w w' := by
  have hlo := h.lole
  have hg := h.blk.lt
  have hb0 : Below w.heap.size w (w.alloc (.cells #[.int .i64 z, .int .i64 a, .int .i64 b] 33)).drew := ((Below.refl _ _).alloc (Nat.le_refl _) _).drew
  have hB0 : Blk (w.alloc (.cells #[.int .i64 z, .int .i64 a, .int .i64 b] 33)).drew w.heap.size #[.int .i64 z, .int .i64 a, .int .i64 b] 33 := Blk.new w _ _
  obtain ⟨d0, d1, d2, _, _, _⟩ := blkThree (Blk.new w #[.int .i64 z, .int .i64 a, .int .i64 b] 33)
  have K := h.step hb0
  obtain ⟨Al, cl, rfl, _⟩ := (Own3.mk (T := 33) (hi := w.heap.size) h.lst (fun k hk => (h.lst.lt k hk).2)).rd
  obtain ⟨_, _, c2, _, _, _⟩ := blkThree (h.step ((Below.refl _ _).alloc (Nat.le_refl _) (.cells #[.int .i64 z, .int .i64 a, .int .i64 b] 33))).blk
  have hlook := (h.step ((Below.refl _ _).alloc (Nat.le_refl _) (.cells #[.int .i64 z, .int .i64 a, .int .i64 b] 33))).map.look hop
  have hlookd := K.map.look hop
  dsimp only [opV] at hlook hlookd
  have H := Lib.hid (And.intro K (And.intro hop (And.intro hB0 hb0))); clear h hop K hB0 hb0
  rcases Nat.lt_or_ge (opAt ms (z, a, b)) ms.length with hlt | hge
  · have hf : fO ms (z, a, b) = some (3000 + (opAt ms (z, a, b) : Int)) := by unfold fO; rw [if_neg (by omega)]
    rw [hf] at hlook hlookd
    simp only [Option.getD_some, Option.isSome_some] at hlook hlookd
    have hp : opPut ms (z, a, b) = ms := by unfold opPut; rw [if_neg (by omega)]
    rw [hp]
    clear hf hp
    generalize opAt ms (z, a, b) = tt at *
    go_enter Tryz.func52, Tryz.ntmps52
    go_wp2
    go_region_held3 (fun w' => w'.cell? ⟨g, 2, none⟩ = some (.map (some mb)) ∧ w'.cell? ⟨w.heap.size, 0, none⟩ = some (.int .i64 z) ∧ w'.cell? ⟨w.heap.size, 1, none⟩ = some (.int .i64 a) ∧ w'.cell? ⟨w.heap.size, 2, none⟩ = some (.int .i64 b)) (repeat' (first | exact c2 | exact d0 | exact d1 | exact d2 | apply And.intro | rw [World.cell?_drew])) (fail)
    all_goals
      clear hlook hlookd
      go_wp2
      go_ret
      exact ⟨rfl, ⟨_, _, H.out.1⟩, H.out.2.2.2.mono hlo⟩
  · have htt : opAt ms (z, a, b) = ms.length := Nat.le_antisymm (opAt_le _ _) hge
    have hf : fO ms (z, a, b) = none := by unfold fO; rw [if_pos htt]
    rw [hf] at hlook hlookd
    simp only [Option.getD_none, Option.isSome_none] at hlook hlookd
    have hp : opPut ms (z, a, b) = ms ++ [(z, a, b)] := by unfold opPut; rw [if_pos htt]
    rw [hp, htt]
    have HF := Lib.hid (fO_put htt)
    clear hf hp htt hge
    go_enter Tryz.func52, Tryz.ntmps52
    go_wp2
    go_region_held3 (fun w' => w'.cell? ⟨g, 2, none⟩ = some (.map (some mb)) ∧ w'.cell? ⟨w.heap.size, 0, none⟩ = some (.int .i64 z) ∧ w'.cell? ⟨w.heap.size, 1, none⟩ = some (.int .i64 a) ∧ w'.cell? ⟨w.heap.size, 2, none⟩ = some (.int .i64 b)) (repeat' (first | exact c2 | exact d0 | exact d1 | exact d2 | apply And.intro | rw [World.cell?_drew])) (fail)
    all_goals (
      clear hlook hlookd d0 d1 d2 c2
      have hzA : w.heap.size + 1 ≤ (w.alloc (.cells #[.int .i64 z, .int .i64 a, .int .i64 b] 33)).drew.heap.size := by show _ ≤ (w.alloc _).heap.size; simp
      generalize (w.alloc (.cells #[.int .i64 z, .int .i64 a, .int .i64 b] 33)).drew = wA at *
      obtain ⟨_, c1, c2, _, _, _⟩ := blkThree H.out.1.blk
      obtain ⟨d0, d1, d2, _, _, _⟩ := blkThree H.out.2.2.1
      have KD := H.out.1.step (Below.refl wA.heap.size wA).drew
      obtain ⟨w5, hput, hm5, hg5⟩ := KD.map.put (by omega) H.out.2.1 (3000 + (ms.length : Int))
      obtain ⟨e5, r5, l5, b5⟩ := rk_map KD hg5
      have hB5 : Blk w5 w.heap.size #[.int .i64 z, .int .i64 a, .int .i64 b] 33 := (hg5.block w.heap.size (show w.heap.size < wA.heap.size by omega) (fun e => H.out.1.map.ne_blk H.out.2.2.1 (Option.some.inj e).symm)).trans H.out.2.2.1
      obtain ⟨q0, q1, q2, _, _, _⟩ := blkThree hB5
      obtain ⟨_, p1, p2, _, _, _⟩ := blkThree e5
      have hz5 : wA.heap.size ≤ w5.heap.size := hg5.size
      dsimp only [opV] at hput
      have G := Lib.hid (And.intro e5 (And.intro r5 (And.intro l5 (And.intro hm5 (And.intro hB5 b5))))); clear e5 r5 l5 hm5 hg5 hB5 b5 KD
      go_wp2
      go_region_held3 (fun w' => w'.cell? ⟨g, 2, none⟩ = some (.map (some mb)) ∧ w'.cell? ⟨w.heap.size, 0, none⟩ = some (.int .i64 z) ∧ w'.cell? ⟨w.heap.size, 1, none⟩ = some (.int .i64 a) ∧ w'.cell? ⟨w.heap.size, 2, none⟩ = some (.int .i64 b)) (repeat' (first | exact c2 | exact d0 | exact d1 | exact d2 | exact p2 | exact q0 | exact q1 | exact q2 | apply And.intro | rw [World.cell?_drew])) (fail)
      all_goals (
        clear hput c1 c2 d0 d1 d2
        have p1b : (w5.alloc (.cells #[.int .i64 z, .int .i64 a, .int .i64 b] 33)).cell? ⟨g, 1, none⟩ = some (.slice Al ms.length cl) := (((Below.refl w5.heap.size w5).alloc (Nat.le_refl _) _).cell (p := ⟨g, 1, none⟩) G.out.1.lt).trans p1
        have hlo5 : lo ≤ w5.heap.size := by omega
        go_wp2
        go_region_law (first
          | (refine step_append_op rfl _ _ _ rfl 33 Tryz.underlying25 opInfoZ lo w5.heap.size (.slice Al ms.length cl) ms (by kernel_rfl) ?_ ?_ _ z a b rfl ?_ (by omega) ?_; (· (refine (Own3.mk (T := 33) (hi := w5.heap.size) G.out.2.2.1 (fun k hk => (G.out.2.2.1.lt k hk).2)).below ?_; repeat (first | with_reducible exact Below.refl _ _ | with_reducible refine Below.drew ?_ | with_reducible refine Below.alloc ?_ (by first | omega | (simp; done) | (simp; omega)) _))); (· first | omega | (simp; done) | (simp; omega)); (· repeat (first | with_reducible refine Blk.drewn ?_ | with_reducible exact Blk.new2 _ _ _ _ (by first | rfl | (simp; done)) | with_reducible refine Blk.keep ?_)); intro v6 w6 ho6 hg6 _; obtain ⟨A6, c6, e6, _⟩ := ho6.rd; obtain ⟨n6, hn6⟩ : ∃ n, (ms ++ [(z, a, b)]).length = n := ⟨_, rfl⟩; rw [hn6] at e6; subst e6; clear hn6; have hg7 : w5.grownBy w6 (Value.slice Al ms.length cl).ownBlock := (by refine World.grownBy.trans (only_of_below (?_ : Below w5.heap.size w5 _) _) hg6; repeat (first | with_reducible exact Below.refl _ _ | with_reducible refine Below.drew ?_ | with_reducible refine Below.alloc ?_ (by first | omega | (simp; done) | (simp; omega)) _)); have FIN := Lib.hid (rk_list G.out.1 H.out.1.ge H.out.1.gm G.out.2.1 G.out.2.2.1 (by rw [HF.out]; exact G.out.2.2.2.1) ho6 hg7); have f6 := FIN.out.2.2.1; have p6 := FIN.out.2.2.2; clear ho6 hg6 hg7)
          | fail)
        all_goals
          go_wp2
          go_ret
          exact ⟨rfl, ⟨_, _, FIN.out.1⟩, ((H.out.2.2.2.mono hlo).trans ((Below.refl _ _).drew.trans G.out.2.2.2.2.2)).trans FIN.out.2.1⟩))
end Go.Proofs.YtpdhdiidkjgjmaaGreat

/- Chapter 8, the program's reckoner: a word. -/
namespace Go.Proofs.YtpdhdiidkjgjmaaGreat
set_option maxRecDepth 100000
open Go.RowKit Go.WideShapes Go.Maps Go.Deep

theorem snoc1 {row : List Int} (h : 1 ≤ row.length) : ∃ r x, row = r ++ [x] := by
  rcases List.eq_nil_or_concat row with rfl | ⟨r, x, rfl⟩
  · simp at h
  · exact ⟨r, x, by simp⟩
theorem snoc2 {row : List Int} (h : 2 ≤ row.length) : ∃ r y x, row = (r ++ [y]) ++ [x] := by
  obtain ⟨r, x, rfl⟩ := snoc1 (show 1 ≤ row.length by omega)
  obtain ⟨r', y, rfl⟩ := snoc1 (row := r) (by simp at h; omega)
  exact ⟨r', y, x, rfl⟩
set_option maxHeartbeats 4000000 in
theorem doK (lo g mb : Nat) (v u : Value) (row : List Int) (ms : List (Int × Int × Int)) (z : Int) (w : World) (h : Rk w lo g mb v u row ms) (hs : straightB z = true) (ht : (tpR z).1 ≤ row.length) (hl : ms.length ≤ 900) (hr : row.length ≤ 1000) :
    Calls Tryz.prog 23 #[.pointer (some ⟨g, 0, none⟩), .int .i64 z] w fun e w' => e = .returned (.tuple #[]) ∧ RkP lo g mb (regStep z (ms, row)).2 (regStep z (ms, row)).1 w w' := by
  have hlo := h.lole
  rcases straight_cases hs with hz | rfl | rfl | rfl | hz
  · have hst : regStep z (ms, row) = (ms, row ++ [z]) := by rw [regStep, if_pos hz.2]
    rw [hst]
    obtain ⟨hz0, hz9⟩ := hz
    have n1 : ¬ z = 1001 := by omega
    have n2 : ¬ z = 1002 := by omega
    have n3 : ¬ z = 1003 := by omega
    have H := Lib.hid h; clear h hst ht hs
    go_enter Tryz.func23, Tryz.ntmps23
    go_wp2_with fail
    refine (reckons_any z _ false (by rw [decide_eq_false_iff_not]; omega)).mono ?_
    rintro e w' ⟨rfl, rfl⟩
    go_wp2_with fail
    refine (pushK lo g mb v u row ms z _ H.out (wf_near _ (by omega)) (by omega)).mono ?_
    rintro e w1 ⟨rfl, h1, hb1⟩
    have H1 := Lib.hid (And.intro h1 hb1); clear h1 hb1
    go_wp2
    go_end0
    exact ⟨rfl, H1.out⟩
  · have h1 : 1 ≤ row.length := by simpa [tpR] using ht
    obtain ⟨r, x, rfl⟩ := snoc1 h1
    have hst : regStep 1001 (ms, r ++ [x]) = (ms, (r ++ [x]) ++ [x]) := by simp [regStep]
    rw [hst]
    have hrl : r.length ≤ 1000 := by simp at hr; omega
    have H := Lib.hid h; clear h hst ht hs h1 hr
    go_enter Tryz.func23, Tryz.ntmps23
    go_wp2_with fail
    refine (dupK lo g mb v u r ms x _ H.out (by omega)).mono ?_
    rintro e w1 ⟨rfl, h1, hb1⟩
    have H1 := Lib.hid (And.intro h1 hb1); clear h1 hb1
    go_wp2
    go_end0
    exact ⟨rfl, H1.out⟩
  · have h1 : 1 ≤ row.length := by simpa [tpR] using ht
    obtain ⟨r, x, rfl⟩ := snoc1 h1
    have hst : regStep 1002 (ms, r ++ [x]) = (ms, r) := by simp [regStep]
    rw [hst]
    have hrl : r.length ≤ 1000 := by simp at hr; omega
    have H := Lib.hid h; clear h hst ht hs h1 hr
    go_enter Tryz.func23, Tryz.ntmps23
    go_wp2_with fail
    refine (popK lo g mb v u r ms x _ H.out (by omega)).mono ?_
    rintro e w1 ⟨rfl, _, h1, hb1⟩
    have H1 := Lib.hid (And.intro h1 hb1); clear h1 hb1
    go_wp2
    go_end0
    exact ⟨rfl, H1.out⟩
  · have h1 : 2 ≤ row.length := by simpa [tpR] using ht
    obtain ⟨r, y, x, rfl⟩ := snoc2 h1
    have hst : regStep 1003 (ms, (r ++ [y]) ++ [x]) = (ms, (r ++ [x]) ++ [y]) := by simp [regStep]
    rw [hst]
    have hrl : r.length ≤ 1000 := by simp at hr; omega
    have H := Lib.hid h; clear h hst ht hs h1 hr
    go_enter Tryz.func23, Tryz.ntmps23
    go_wp2_with fail
    refine (swapK lo g mb v u r ms y x _ H.out (by omega)).mono ?_
    rintro e w1 ⟨rfl, h1, hb1⟩
    have H1 := Lib.hid (And.intro h1 hb1); clear h1 hb1
    go_wp2
    go_end0
    exact ⟨rfl, H1.out⟩
  · obtain ⟨hz6, hz9⟩ := hz
    have n0 : ¬ z ≤ 999 := by omega
    have n1 : ¬ z = 1001 := by omega
    have n2 : ¬ z = 1002 := by omega
    have n3 : ¬ z = 1003 := by omega
    have h1 : 2 ≤ row.length := by
      have e : tpR z = (2, 1) := by unfold tpR; rw [if_neg (by omega), if_neg (by omega), if_neg (by omega), if_neg (by omega)]
      rw [e] at ht; exact ht
    obtain ⟨r, y, x, rfl⟩ := snoc2 h1
    have hst : regStep z (ms, (r ++ [y]) ++ [x]) = (opPut ms (z, y, x), r ++ [3000 + (opAt ms (z, y, x) : Int)]) := by
      unfold regStep; rw [if_neg n0, if_neg n1, if_neg n2, if_neg n3]; simp
    rw [hst]
    have hop : OkOp (z, y, x) := ⟨wf_near _ (by omega), h.row.wf _ (by simp), h.row.wf _ (by simp)⟩
    have hrl : r.length ≤ 1000 := by simp at hr; omega
    have hoa := opAt_le ms (z, y, x)
    have H := Lib.hid (And.intro h hop); clear h hst ht hs h1 hr hop
    generalize htt : opAt ms (z, y, x) = tt at *
    have HT := Lib.hid htt; clear htt
    have HI : Hid (InK .i64 (3000 + (tt : Int))) := Lib.hid (wf_near _ (by omega))
    go_enter Tryz.func23, Tryz.ntmps23
    go_wp2_with fail
    refine (reckons_any z _ true (by rw [decide_eq_true_eq]; omega)).mono ?_
    rintro e w' ⟨rfl, rfl⟩
    go_wp2_with fail
    refine (popK lo g mb v u (r ++ [y]) ms x _ H.out.1 (by simp; omega)).mono ?_
    rintro e w1 ⟨rfl, _, ⟨v1, u1, h1⟩, hb1⟩
    have H1 := Lib.hid (And.intro h1 hb1); clear h1 hb1
    go_wp2_with fail
    refine (popK lo g mb v1 u1 r ms y _ H1.out.1 (by omega)).mono ?_
    rintro e w2 ⟨rfl, _, ⟨v2, u2, h2⟩, hb2⟩
    have H2 := Lib.hid (And.intro (h2.step (Below.refl _ _).drew) (And.intro h2 (H1.out.2.trans hb2))); clear h2 hb2
    go_wp2
    go_region_held3 (fun _ => True) (trivial) (first
      | (go_at_call 47; refine (pushK lo g mb v3 u3 r (opPut ms (z, y, x)) (3000 + (tt : Int)) _ H3.out.1 HI.out (by omega)).mono ?_; rintro e w4 ⟨rfl, h4, hb4⟩; have H4 := Lib.hid (And.intro h4 (H3.out.2.trans hb4)); clear h4 hb4)
      | (go_at_call 52; refine (registerOf_any lo g mb v2 u2 r ms z y x _ (by first | exact H2.out.1 | exact H2.out.2.1) H.out.2 hl).mono ?_; rw [HT.out]; rintro e w3 ⟨rfl, ⟨v3, u3, h3⟩, hb3⟩; have H3 := Lib.hid (And.intro h3 (show Below lo w w3 from by first | exact H2.out.2.2.trans hb3 | exact (H2.out.2.2.trans ((Below.refl _ _).drew)).trans hb3)); clear h3 hb3)
      | fail)
    all_goals
      go_wp2
      go_end0
      exact ⟨rfl, H4.out.1, H4.out.2⟩
end Go.Proofs.YtpdhdiidkjgjmaaGreat
