/- The maker of programs: add, lift, put, do. -/
import Derived.Test.YtklndkhnpbjhoaaOg
import Derived.Test.YtklndkhnpbjhoaaJf
import Derived.Deep.RegionHeld3
import Derived.IntWalk
import Derived.Deep.RegionLaw
import Derived.StillTailTactics
namespace Go.Proofs.Ytklndkhnpbjhoaa
set_option maxRecDepth 100000
open Go.RowKit Go.WideShapes Go.Deep

def addR (zs : List Int) (n : Nat) (z : Int) : List Int := if zs.length ≤ 60 then zs ++ underR n z else zs
def downW : List Int → Nat → List Int
  | zs, 0 => zs
  | zs, n + 1 => downW (addR zs n 1003) n
def liftW (zs : List Int) (n : Nat) : List Int := downW (addR zs n 1001) n
def putW (t a : Int) (many : Nat) (zs : List Int) : List Int := if a ≤ 999 then addR zs 0 a else liftW zs (many - 1 - placeOfR t a)
def doW (t : Int) (many : Nat) (m : Int × Int × Int) (zs : List Int) : List Int := addR (putW t m.2.2 (many + 1) (putW t m.2.1 many zs)) 0 m.1
theorem addR_len {zs : List Int} {n : Nat} {z : Int} (h : zs.length ≤ 1000) (hn : n ≤ 200) : (addR zs n z).length ≤ 1000 := by
  unfold addR
  split
  · rw [List.length_append, underR_len]; omega
  · exact h
theorem downW_len : ∀ (n : Nat) (zs : List Int), zs.length ≤ 1000 → n ≤ 200 → (downW zs n).length ≤ 1000 := by
  intro n
  induction n with
  | zero => intro zs h _; exact h
  | succ n ih => intro zs h hn; exact ih _ (addR_len h (by omega)) (by omega)
theorem liftW_len {zs : List Int} {n : Nat} (h : zs.length ≤ 1000) (hn : n ≤ 200) : (liftW zs n).length ≤ 1000 := downW_len _ _ (addR_len h hn) hn
theorem putW_len {t a : Int} {many : Nat} {zs : List Int} (h : zs.length ≤ 1000) (hn : many ≤ 200) : (putW t a many zs).length ≤ 1000 := by
  unfold putW
  split
  · exact addR_len h (by omega)
  · exact liftW_len h (by omega)
theorem doW_len {t : Int} {many : Nat} {m : Int × Int × Int} {zs : List Int} (h : zs.length ≤ 1000) (hn : many ≤ 199) : (doW t many m zs).length ≤ 1000 :=
  addR_len (putW_len (putW_len h (by omega)) (by omega)) (by omega)
def Same60 (acc full : List Int) : Prop := acc = full ∨ (60 < acc.length ∧ 60 < full.length)
theorem Same60.add {acc full : List Int} (h : Same60 acc full) (n : Nat) (z : Int) : Same60 (addR acc n z) (full ++ underR n z) := by
  unfold addR
  rcases h with rfl | ⟨h1, h2⟩
  · split
    · exact .inl rfl
    · exact .inr ⟨by omega, by rw [List.length_append]; omega⟩
  · rw [if_neg (by omega)]; exact .inr ⟨h1, by rw [List.length_append]; omega⟩
theorem Same60.down {acc full : List Int} (h : Same60 acc full) : ∀ n, Same60 (downW acc n) (full ++ downR n) := by
  intro n
  induction n generalizing acc full with
  | zero => rw [downW, downR, List.append_nil]; exact h
  | succ n ih => rw [downW, downR, ← List.append_assoc]; exact ih (h.add n 1003)
theorem Same60.lift {acc full : List Int} (h : Same60 acc full) (n : Nat) : Same60 (liftW acc n) (full ++ liftR n) := by
  unfold liftW liftR; rw [← List.append_assoc]; exact (h.add n 1001).down n
theorem Same60.put {acc full : List Int} (h : Same60 acc full) (t a : Int) (many : Nat) : Same60 (putW t a many acc) (full ++ putG t a many) := by
  unfold putW putG
  split
  · exact h.add 0 a
  · exact h.lift _
theorem Same60.op {acc full : List Int} (h : Same60 acc full) (t : Int) (many : Nat) (m : Int × Int × Int) : Same60 (doW t many m acc) (full ++ opWords t many m) := by
  unfold doW opWords
  rw [← List.append_assoc, ← List.append_assoc]
  exact ((h.put t m.2.1 many).put t m.2.2 (many + 1)).add 0 m.1

structure MkV (w : World) (lo g : Nat) (t m : Int) (v : Value) (zs : List Int) : Prop where
  blk : Blk w g #[v, .int .i64 t, .int .i64 m] 81
  ge : lo ≤ g
  row : Own w lo v zs
theorem MkV.step {w w' : World} {lo g : Nat} {t m : Int} {v : Value} {zs : List Int} (h : MkV w lo g t m v zs) (hb : Below w.heap.size w w') : MkV w' lo g t m v zs := ⟨h.blk.below hb h.blk.lt, h.ge, h.row.below hb⟩
theorem MkV.ne {w : World} {lo g : Nat} {t m : Int} {v : Value} {zs : List Int} (h : MkV w lo g t m v zs) : v.ownBlock ≠ some g := ownsRow_ne h.row.own h.blk (by decide)
structure Kp (g : Nat) (v v' : Value) (w w' : World) : Prop where
  os : w'.os = w.os
  tape : w'.tape = w.tape
  output : w'.output = w.output
  size : w.heap.size ≤ w'.heap.size
  block : ∀ k, k < w.heap.size → k ≠ g → v.ownBlock ≠ some k → w'.heap[k]? = w.heap[k]?
  own : ∀ k, v'.ownBlock = some k → v.ownBlock = some k ∨ w.heap.size ≤ k
theorem Kp.trans {g : Nat} {v v1 v2 : Value} {w w1 w2 : World} (h : Kp g v v1 w w1) (k : Kp g v1 v2 w1 w2) : Kp g v v2 w w2 := by
  refine ⟨k.os.trans h.os, k.tape.trans h.tape, k.output.trans h.output, Nat.le_trans h.size k.size, fun q hq hg hv => ?_, fun q hq => ?_⟩
  · refine (k.block q (Nat.lt_of_lt_of_le hq h.size) hg fun e => ?_).trans (h.block q hq hg hv)
    rcases h.own q e with h1 | h1
    · exact hv h1
    · omega
  · rcases k.own q hq with h1 | h1
    · exact h.own q h1
    · exact .inr (Nat.le_trans h.size h1)
theorem Kp.of_below {g : Nat} {v : Value} {w w' : World} (h : Below w.heap.size w w') : Kp g v v w w' := ⟨h.os, h.tape, h.output, h.size, fun k hk _ _ => h.block k hk, fun _ h => .inl h⟩
theorem Kp.below {lo g : Nat} {t m : Int} {v v' : Value} {zs : List Int} {w w' : World} (k : Kp g v v' w w') (h : MkV w lo g t m v zs) : Below lo w w' := by
  refine ⟨k.os, k.tape, k.output, k.size, fun q hq => k.block q ?_ ?_ ?_⟩
  · have := h.blk.lt; have := h.ge; omega
  · have := h.ge; omega
  · intro e; have := h.row.ge q e; omega
def MkP (lo g : Nat) (t m : Int) (zs : List Int) (v : Value) (w : World) (e : Ending) (w' : World) : Prop := e = .returned (.tuple #[]) ∧ ∃ v', MkV w' lo g t m v' zs ∧ Kp g v v' w w'
theorem step_append_K {P : Program} {w : World} {ops : Array Oper} {o : Oper} {a : Act} {K : Act → World → Prop} {Q : Exit → Act → World → Prop} {E : Prop} (hgd : o.guard = none) (s x : Operand) (t : TypeId)
    (ho : o.op = .call { callee := .builtin .append, args := #[s, x], argTypes := #[t, t] })
    (ht : P.underlying t = some (.slice 3)) (hinfo : (P.info? 3).map (fun i => (i.zero, i.size, i.bytes)) = some (some (.int .i64 0), 1, 8))
    (lo : Nat) (v : Value) (zs : List Int) (hs : a.eval s = v) (hown : Own w lo v zs) (hlo : lo ≤ w.heap.size)
    (u : Value) (ys : List Int) (hx : a.eval x = u) (hr : RdI w u ys) (hlen : zs.length + ys.length ≤ 1000000000)
    (h : ∀ v' w', Own w' lo v' (zs ++ ys) → w.grownBy w' v.ownBlock → (v'.ownBlock = v.ownBlock ∨ v'.ownBlock = some w.heap.size) → K (a.put o.dst v') w') : if Region.wanted o (yielded ops a.tmps) = true then Oper.wp P o a w K Q else E := by
  rw [if_pos (by simp [Region.wanted, hgd])]
  obtain ⟨A, c, rfl, hi', _⟩ := hr
  refine wp_append_ints s x t ho lo 3 .i64 8 ht hinfo (Nat.le_refl _) v zs hs hown.own w.heap.size A ys c hx hi' hlen hlo ?_
  intro v' w' h1 h2 h3
  refine h v' w' ⟨h1, fun z hz => ?_⟩ h2 h3
  rcases List.mem_append.1 hz with h | h
  · exact hown.wf z h
  · exact hi'.wf z h

set_option maxHeartbeats 2000000 in
theorem add_any (lo g : Nat) (t m : Int) (v : Value) (zs : List Int) (n : Nat) (z : Int) (w : World) (h : MkV w lo g t m v zs) (hz : InK .i64 z) (hn : n ≤ 200) (hl : zs.length ≤ 1000) :
    Calls Try.prog 66 #[.pointer (some ⟨g, 0, none⟩), .int .i64 n, .int .i64 z] w (MkP lo g t m (addR zs n z) v w) := by
  have hg := h.blk.lt
  have hge := h.ge
  obtain ⟨A, c, rfl, _⟩ := h.row.ints
  obtain ⟨c0, _, _, f0, _, _⟩ := blkThree h.blk
  have H := Lib.hid h
  by_cases hl60 : zs.length ≤ 60
  case neg =>
    have hI : ¬ (zs.length : Int) ≤ 60 := by omega
    have HA := Lib.hid (show addR zs n z = zs by rw [addR, if_neg hl60])
    clear h hl60
    go_enter Try.func66, Try.ntmps66
    go_wp2
    go_end0
    exact ⟨rfl, _, by rw [HA.out]; exact H.out, Kp.of_below (Below.refl _ _)⟩
  have hI : (zs.length : Int) ≤ 60 := by omega
  have HA := Lib.hid (show addR zs n z = zs ++ underR n z by rw [addR, if_pos hl60])
  have hul := underR_len n z
  obtain ⟨us, hus⟩ : ∃ us, underR n z = us := ⟨_, rfl⟩
  rw [hus] at hul HA
  have HU := Lib.hid hus
  have hne := h.ne
  have HNE := Lib.hid hne
  clear h hne hus
  have HZ := Lib.hid hz; clear hz
  have hd : Below w.heap.size w w.drew := (Below.refl _ _).drew
  have HD := Lib.hid hd
  go_enter Try.func66, Try.ntmps66
  go_wp2
  go_region_law (first
    | (go_simp; go_at_call 88; refine (under_any n z _ HZ.out (by omega)).mono ?_; rw [HU.out]; rintro e w1 ⟨u, rfl, ho, hb⟩; have hb1 : Below w.heap.size w w1 := HD.out.trans (show Below w.heap.size w.drew w1 from hb); have hz1 := hb1.size; have M1 := Lib.hid (And.intro (H.out.step hb1) (And.intro hb1 ho.rd)); obtain ⟨c1, _, _, f1, _, _⟩ := blkThree M1.out.1.blk; clear hb hb1 ho)
    | (refine step_append_K rfl _ _ _ rfl Try.underlying24 intInfo lo _ zs rfl M1.out.1.row (by omega) u us rfl M1.out.2.2 (by omega) ?_; intro v2 w2 hown2 hg2 hv2; obtain ⟨A2, k2, hv2e, _⟩ := hown2.ints; obtain ⟨n2, hn2⟩ : ∃ n2, (zs ++ us).length = n2 := ⟨_, rfl⟩; rw [hn2] at hv2e; subst hv2e; clear hn2; have hb4 : Blk w2 g #[.slice A zs.length c, .int .i64 t, .int .i64 m] 81 := (hg2.block g (by omega) (fun e => HNE.out e.symm)).trans M1.out.1.blk; obtain ⟨c4, _, _, f4, _, _⟩ := blkThree hb4; have hz2 := hg2.size; have M2 := Lib.hid (And.intro hown2 (And.intro hg2 (And.intro hv2 hb4))); clear hown2 hg2 hv2 hb4))
  all_goals
    have hvg : (Value.slice A2 n2 k2).ownBlock ≠ some g := by
      rcases M2.out.2.2.1 with h1 | h1
      · rw [h1]; exact HNE.out
      · rw [h1]; intro e; cases e; omega
    have F : Hid (MkV (w2.setCell ⟨g, 0, none⟩ (.slice A2 n2 k2)) lo g t m (.slice A2 n2 k2) (zs ++ us) ∧ Kp g (.slice A zs.length c) (.slice A2 n2 k2) w (w2.setCell ⟨g, 0, none⟩ (.slice A2 n2 k2))) := Lib.hid (by
      refine ⟨⟨M2.out.2.2.2.set 0 _, hge, ⟨ownsRow_keep M2.out.1.own fun k hk => Below.heap_setCell _ _ _ _ (by intro e; exact hvg (by rw [hk]; simp at e; rw [e])), M2.out.1.wf⟩⟩, ?_⟩
      refine ⟨M2.out.2.1.os.trans M1.out.2.1.os, M2.out.2.1.tape.trans M1.out.2.1.tape, M2.out.2.1.output.trans M1.out.2.1.output, by simp; omega, fun k hk hkg hv => ?_, fun k hk => ?_⟩
      · exact (Below.heap_setCell _ _ _ _ (by simpa using hkg)).trans ((M2.out.2.1.block k (by omega) (fun e => hv e.symm)).trans (M1.out.2.1.block k hk))
      · rcases M2.out.2.2.1 with h1 | h1
        · exact .inl (h1 ▸ hk)
        · rw [h1] at hk; cases hk; exact .inr hz1)
    go_wp2
    go_end0
    exact ⟨rfl, _, by rw [HA.out]; exact F.out.1, F.out.2⟩

set_option maxHeartbeats 2000000 in
theorem lift_any (lo g : Nat) (t m : Int) (v : Value) (zs : List Int) (n : Nat) (w : World) (h : MkV w lo g t m v zs) (hn : n ≤ 200) (hl : zs.length ≤ 1000) :
    Calls Try.prog 87 #[.pointer (some ⟨g, 0, none⟩), .int .i64 n] w (MkP lo g t m (liftW zs n) v w) := by
  have H := Lib.hid h; clear h
  have hw1 : InK .i64 1001 := wf_small _ (by omega)
  have hw3 : InK .i64 1003 := wf_small _ (by omega)
  have HW := Lib.hid (And.intro hw1 hw3); clear hw1 hw3
  go_enter Try.func87, Try.ntmps87
  go_wp2_with fail
  refine (add_any lo g t m v zs n 1001 _ H.out HW.out.1 hn hl).mono ?_
  rintro e w1 ⟨rfl, v1, h1, k1⟩
  have hl1 := addR_len (n := n) (z := 1001) hl hn
  have X := Lib.hid (And.intro h1 k1); clear h1 k1
  go_wp2
  go_loopw [1] (fun i wr => ∃ (k : Nat) (qs : List Int) (u : Value), k ≤ n ∧ i = .int .i64 k ∧ MkV wr lo g t m u qs ∧ Kp g v u w wr ∧ qs.length ≤ 1000 ∧ downW qs k = liftW zs n) (fun i _ => (intOf i).toNat)
  case atStart => exact ⟨n, _, v1, Nat.le_refl _, rfl, X.out.1, X.out.2, hl1, rfl⟩
  case round =>
    clear X hl1
    obtain ⟨k, qs, u, hk, rfl, r1, r2, r3, r4⟩ := hrel
    have R := Lib.hid (And.intro r1 (And.intro r2 r4)); clear r1 r2 r4
    rcases k with _ | k
    · have hfin : liftW zs n = qs := by have := R.out.2.2; rw [downW] at this; exact this.symm
      have HF := Lib.hid hfin; clear hfin
      go_wp2
      go_end0
      exact ⟨rfl, u, by rw [HF.out]; exact R.out.1, R.out.2.1⟩
    · have hI : (0 : Int) < ((k + 1 : Nat) : Int) := by omega
      have hm : ((k + 1 : Nat) : Int) - 1 = (k : Int) := by omega
      have hl3 := addR_len (n := k) (z := 1003) r3 (by omega)
      have hdn : downW (addR qs k 1003) k = liftW zs n := by have := R.out.2.2; rw [downW] at this; exact this
      have HD := Lib.hid hdn; clear hdn
      go_wp2_with fail
      refine (add_any lo g t m u qs k 1003 _ R.out.1 HW.out.2 (by omega) r3).mono ?_
      rintro e w2 ⟨rfl, v2, h2, k2⟩
      have Y := Lib.hid (And.intro h2 (R.out.2.1.trans k2)); clear h2 k2
      go_wp2
      go_roundw
      case rel => exact ⟨k, _, v2, by omega, rfl, Y.out.1, Y.out.2, hl3, HD.out⟩
      case measure => simp [intOf]
end Go.Proofs.Ytklndkhnpbjhoaa
