/- Several texts in one. -/
import Derived.Test.YtceekfoacgoalaaChecked
import Derived.WalkKit
import Derived.ProofKit
import Derived.OpenShut
import Derived.LoopTactic
import Derived.Below
import Derived.BigQuiet
import Derived.Deep.QuietTactic
import Derived.Deep.Draws
import Derived.Lib.Hide
import Derived.Laws.OwnMore
import Derived.Laws.MakeOwn
import Derived.OwnWalk
import Derived.Maps.AppendAt
import Derived.Laws.AppendOwnNone
import Derived.Lib.AppendZeros
/- Words for memory: a slice that reads as a list of integers; a row of the call's own; and how both are kept. -/
namespace Go.Proofs.Ytceekfoacgoalaa
set_option maxRecDepth 100000
open Go.RowKit Go.WideShapes Go.ChangeShapes

theorem ret_bool {a b : Bool} (h : a = b) : Ending.returned (.bool a) = .returned (.bool b) := by rw [h]
theorem ret_i64 {a b : Int} (h : a = b) : Ending.returned (.int .i64 a) = .returned (.int .i64 b) := by rw [h]

/-- Whatever the world, no draw counted: below B nothing has changed. -/
theorem below_drewN {B : Nat} {a w : World} (h : Below B a w) (n : Nat) : Below B a (w.drewN n) := ⟨h.os, h.tape, h.output, h.size, h.block⟩
theorem below_after {a b c : World} (h : Below a.heap.size a b) (k : Below b.heap.size b c) : Below a.heap.size a c := h.trans (k.mono h.size)
theorem only_of_below {a w : World} (h : Below a.heap.size a w) (row : Option Nat) : a.grownBy w row := ⟨h.os, h.tape, h.output, h.size, fun i hi _ => h.block i hi⟩
theorem below_of_only {B : Nat} {a w : World} {row : Option Nat} (h : a.grownBy w row) (hB : B ≤ a.heap.size) (hr : ∀ k, row = some k → B ≤ k) : Below B a w := (Below.refl _ _).grown h hB hr

def InK (k : IntKind) (z : Int) : Prop := (Lit.int k z).wf = true

/-- A slice value at A, below block B, that reads as the integers zs. -/
structure IntsK (k : IntKind) (w : World) (B : Nat) (A : Option Addr) (zs : List Int) : Prop where
  len : zs.length ≤ 9223372036854775807
  wf : ∀ z ∈ zs, InK k z
  at_ : 0 < zs.length → ∃ b off, A = some ⟨b, off, none⟩ ∧ b < B ∧ ∀ j, j < zs.length → w.cell? ⟨b, off + j, none⟩ = some (.int k (zs.getD j 0))

abbrev Ints (w : World) (A : Option Addr) (zs : List Int) : Prop := IntsK .i64 w w.heap.size A zs

section
variable {k : IntKind} {w w' : World} {B B' : Nat} {A : Option Addr} {zs : List Int}
theorem IntsK.keep (h : IntsK k w B A zs) (hk : ∀ p : Addr, p.block < B → w'.cell? p = w.cell? p) : IntsK k w' B A zs :=
  ⟨h.len, h.wf, fun h0 => by
    obtain ⟨b, off, e, hb, hc⟩ := h.at_ h0
    exact ⟨b, off, e, hb, fun j hj => (hk _ hb).trans (hc j hj)⟩⟩
theorem IntsK.mono (h : IntsK k w B A zs) (hB : B ≤ B') : IntsK k w B' A zs :=
  ⟨h.len, h.wf, fun h0 => by
    obtain ⟨b, off, e, hb, hc⟩ := h.at_ h0
    exact ⟨b, off, e, by omega, hc⟩⟩
theorem IntsK.below (h : IntsK k w B A zs) (hb : Below B w w') : IntsK k w' B A zs := h.keep fun _ hp => hb.cell hp
theorem Ints.step (h : Ints w A zs) (hb : Below w.heap.size w w') : Ints w' A zs := (IntsK.below h hb).mono hb.size
theorem IntsK.drewN (h : IntsK k w B A zs) (n : Nat) : IntsK k (w.drewN n) B A zs := ⟨h.len, h.wf, h.at_⟩
theorem IntsK.alloc (h : IntsK k w B A zs) (hB : B ≤ w.heap.size) (o : Obj) : IntsK k (w.alloc o) B A zs := h.keep fun p hp => World.cell?_alloc_lt w o p (by omega)
theorem IntsK.nil (k : IntKind) (w : World) (B : Nat) (A : Option Addr) : IntsK k w B A [] := ⟨by simp, by simp, fun h => by simp at h⟩
end

/-- A row of the call's own, from block B on, that holds the integers zs. -/
structure Own (w : World) (B : Nat) (v : Value) (zs : List Int) : Prop where
  own : w.ownsRow B 3 1 v zs.length (zs.map (Value.int .i64))
  wf : ∀ z ∈ zs, InK .i64 z

section
variable {w w' : World} {B B' : Nat} {v : Value} {zs : List Int}
theorem Own.len_le (h : Own w B v zs) : zs.length ≤ 9223372036854775807 := by
  rcases h.own.2 with ⟨_, h0⟩ | ⟨g, cap, cur, _, _, _, h1, h2, _⟩
  · omega
  · unfold maxLen at h2; omega
/-- It reads as a slice of integers. -/
theorem Own.ints (h : Own w B v zs) : ∃ A c, v = .slice A zs.length c ∧ Ints w A zs ∧ zs.length ≤ c := by
  have hl := h.len_le
  rcases hx : h.own.2 with ⟨rfl, h0⟩ | ⟨g, cap, cur, rfl, hb, hh, h1, h2, _⟩
  · have hz : zs = [] := List.eq_nil_of_length_eq_zero h0
    subst hz
    exact ⟨none, 0, rfl, IntsK.nil _ _ _ _, by simp⟩
  · refine ⟨_, _, rfl, ⟨hl, h.wf, fun _ => ⟨g, 0, rfl, ?_, fun j hj => ?_⟩⟩, h1⟩
    · exact (h.own.lt g rfl).2
    · rw [Nat.zero_add, h.own.cellAt j (by omega)]
      simp [List.getD, hj]
theorem Own.below (h : Own w B v zs) (hb : Below w.heap.size w w') : Own w' B v zs :=
  ⟨h.own.kept (row := none) (only_of_below hb none) (by
    rcases e : v.ownBlock with _ | g
    · exact .inl rfl
    · exact .inr (by simp)), h.wf⟩
theorem Own.only (h : Own w B v zs) {row : Option Nat} (hg : w.grownBy w' row) (hne : v.ownBlock = none ∨ v.ownBlock ≠ row) : Own w' B v zs := ⟨h.own.kept hg hne, h.wf⟩
theorem Own.mono (h : Own w B' v zs) (hB : B ≤ B') : Own w B v zs := by
  refine ⟨⟨h.own.1, ?_⟩, h.wf⟩
  rcases h.own.2 with h0 | ⟨g, cap, cur, rfl, hb, h1⟩
  · exact .inl h0
  · exact .inr ⟨g, cap, cur, rfl, by omega, h1⟩
theorem Own.ge (h : Own w B v zs) : ∀ g, v.ownBlock = some g → B ≤ g ∧ g < w.heap.size := fun g hg => h.own.lt g hg
end

theorem intInfo : (Try.prog.info? 3).map (fun i => (i.zero, i.size, i.bytes)) = some (some (.int .i64 0), 1, 8) := by kernel_rfl

/-- What the reader gives of a slice of integers. -/
theorem ints_of_trod {H : Type} {enc : TypeId × Value → H} {P : Program} {W : World} {t e : TypeId} {k : IntKind} {v : Value} {d : DataW H} {ps : List MemPlace} {base : Nat}
    (ht : P.underlying t = some (.slice e)) (he : P.underlying e = some (.int k)) (hc : P.cellsOf e = 1)
    (hval : Value.okWide P W .any base t v) (h : DataW.Trod enc P W 0 (fun _ => true) true t v d ps) : ∃ A c zs, v = .slice A zs.length c ∧ IntsK k W W.heap.size A zs ∧ zs.length ≤ c := by
  obtain ⟨a0, len, cap, rfl⟩ := okWide_slice ht hval
  obtain ⟨fuel, hf⟩ := h
  rcases open_ints ht he hc hf with ⟨hcs, hx⟩ | ⟨a, len', cap', zs, hcs, _, hl, hm, hz, hx, hcell, hwz⟩
  · simp [Value.cells] at hcs
    obtain ⟨rfl, rfl, rfl⟩ := hcs
    exact ⟨none, 0, [], rfl, IntsK.nil _ _ _ _, by simp⟩
  · simp [Value.cells] at hcs
    obtain ⟨rfl, rfl, rfl⟩ := hcs
    simp only [if_true] at hz
    have hlen : (zs.take len).length = len := by rw [List.length_take]; omega
    refine ⟨some a, cap, zs.take len, by rw [hlen], ⟨by unfold maxLen at hm; omega, fun z hz' => hwz z (List.mem_of_mem_take hz'), fun h0 => ?_⟩, by rw [hlen]; exact hl⟩
    have h0' : 0 < zs.length := by omega
    obtain ⟨b, off, spot⟩ := a
    have hspot : spot = none := by simpa [Addr.add] using World.cell?_spot (hcell 0 h0')
    subst hspot
    have hb : b < W.heap.size := by
      have h1 := hcell 0 h0'
      rcases Nat.lt_or_ge b W.heap.size with hlt | hge
      · exact hlt
      · simp [World.cell?, Addr.add, Array.getElem?_eq_none hge] at h1
    refine ⟨b, off, rfl, hb, fun j hj => ?_⟩
    rw [← add_plain, hcell j (by omega)]
    simp only [List.getD, List.getElem?_take]
    rw [if_pos (by omega)]

end Go.Proofs.Ytceekfoacgoalaa

/- Appends onto a row of the call's own, from whatever slice of one-cell elements; literals of slices. -/
namespace Go.Proofs.Ytceekfoacgoalaa
set_option maxRecDepth 100000
open Go.RowKit Go.WideShapes

section
variable {P : Program}

theorem run_append_none (w : World) (base : Nat) (t ty e : TypeId) (i : TypeInfo) (size : Nat) (ht : P.underlying t = some (.slice e)) (hi : P.info? e = some i)
    (v : Value) (n : Nat) (xs : List Value) (hown : w.ownsRow base e size v n xs) (c : Nat) : (Builtin.append_ #[t, t] ty #[v, .slice none 0 c]).run P w = .ok v w := by
  rcases hown.2 with ⟨rfl, rfl⟩ | ⟨g, cap, cur, rfl, _, _, hnc, _⟩ <;>
    simp [Builtin.append_, run_underlying ht, sizeOf, typeInfo, Builtin.lenOf, Builtin.firstCells, storeCells, *]

/-- append(s, x...) where s is of the call's own and x reads as integers: nil, empty or not. -/
theorem wp_append_ints {w : World} {o : Oper} {a : Act} {K : Act → World → Prop} {Q : Exit → Act → World → Prop} (s x : Operand) (t : TypeId)
    (ho : o.op = .call { callee := .builtin .append, args := #[s, x], argTypes := #[t, t] })
    (base : Nat) (e : TypeId) (k : IntKind) (by_ : Nat) (ht : P.underlying t = some (.slice e)) (hinfo : (P.info? e).map (fun i => (i.zero, i.size, i.bytes)) = some (some (.int k 0), 1, by_)) (hby : by_ ≤ 8)
    (v : Value) (zs : List Int) (hs : a.eval s = v) (hown : w.ownsRow base e 1 v zs.length (zs.map (Value.int k)))
    (B : Nat) (A : Option Addr) (ys : List Int) (c : Nat) (hx : a.eval x = .slice A ys.length c) (hr : IntsK k w B A ys) (hlen : zs.length + ys.length ≤ 1000000000) (hbase : base ≤ w.heap.size)
    (h : ∀ v' w', w'.ownsRow base e 1 v' (zs ++ ys).length ((zs ++ ys).map (Value.int k)) → w.grownBy w' v.ownBlock → (v'.ownBlock = v.ownBlock ∨ v'.ownBlock = some w.heap.size) → K (a.put o.dst v') w') :
    o.wp P a w K Q := by
  obtain ⟨i0, hi0, hz0, hz1, hz2⟩ := info_parts hinfo
  have hrun : ∃ v' w', (Builtin.append_ #[t, t] o.type #[v, .slice A ys.length c]).run P w = .ok v' w' ∧ w'.ownsRow base e 1 v' (zs ++ ys).length ((zs ++ ys).map (Value.int k)) ∧ w.grownBy w' v.ownBlock ∧
      (v'.ownBlock = v.ownBlock ∨ v'.ownBlock = some w.heap.size) := by
    by_cases hy : ys = []
    · subst hy
      rcases A with _ | ad
      · exact ⟨v, w, run_append_none w base t o.type e i0 1 ht hi0 v _ _ hown c, by simpa using hown, World.grownBy.refl w _, .inl rfl⟩
      · obtain ⟨v', w', hr1, h2, h3, _, h5⟩ := run_append_own_at (P := P) w base t o.type e i0 (.int k 0) 1 by_ ht hi0 hz0 hz1 hz2 rfl (by omega) v _ _ hown ad 0 c [] (by simp) (by simp) (by simp) (by simp [maxLen]; simp at hlen; omega) (by simp at hlen; have := Nat.mul_le_mul hlen hby; simp; omega) hbase
        exact ⟨v', w', hr1, by simpa using h2, h3, h5⟩
    · have h0 : 0 < ys.length := List.length_pos_iff.2 hy
      obtain ⟨b, off, rfl, hb, hc⟩ := hr.at_ h0
      obtain ⟨v', w', hr1, h2, h3, _, h5⟩ := run_append_own_at (P := P) w base t o.type e i0 (.int k 0) 1 by_ ht hi0 hz0 hz1 hz2 rfl (by omega) v _ _ hown ⟨b, off, none⟩ ys.length c (ys.map (Value.int k)) (by simp) (by
          intro j u hu
          rw [List.getElem?_map] at hu
          rw [add_plain]
          rcases hj : ys[j]? with _ | y
          · rw [hj] at hu; simp at hu
          · rw [hj] at hu
            have hlt : j < ys.length := by
              rcases Nat.lt_or_ge j ys.length with h | h
              · exact h
              · rw [List.getElem?_eq_none h] at hj; simp at hj
            rw [hc j hlt, ← hu]
            simp [List.getD, hj]) (ints_oneCell k ys) (by simp only [maxLen]; omega) (by have := Nat.mul_le_mul hlen hby; omega) hbase
      exact ⟨v', w', hr1, by simpa using h2, h3, h5⟩
  obtain ⟨v', w', hr1, h2, h3, h4⟩ := hrun
  unfold Oper.wp execOp
  simp only [ho, resolve, invoke, builtin, Sem.run_bind, Sem.run_pure, Result.andThen_ok, List.map_toArray, List.map_cons, List.map_nil, hs, hx, hr1]
  exact h v' w' h2 h3 h4

theorem wpList_append_ints {w : World} {ops : Array Oper} {rest : List Oper} {o : Oper} {a : Act} {Q : Exit → Act → World → Prop} (hgd : o.guard = none) (s x : Operand) (t : TypeId)
    (ho : o.op = .call { callee := .builtin .append, args := #[s, x], argTypes := #[t, t] })
    (base : Nat) (e : TypeId) (k : IntKind) (by_ : Nat) (ht : P.underlying t = some (.slice e)) (hinfo : (P.info? e).map (fun i => (i.zero, i.size, i.bytes)) = some (some (.int k 0), 1, by_)) (hby : by_ ≤ 8)
    (v : Value) (zs : List Int) (hs : a.eval s = v) (hown : w.ownsRow base e 1 v zs.length (zs.map (Value.int k)))
    (B : Nat) (A : Option Addr) (ys : List Int) (c : Nat) (hx : a.eval x = .slice A ys.length c) (hr : IntsK k w B A ys) (hlen : zs.length + ys.length ≤ 1000000000) (hbase : base ≤ w.heap.size)
    (h : ∀ v' w', w'.ownsRow base e 1 v' (zs ++ ys).length ((zs ++ ys).map (Value.int k)) → w.grownBy w' v.ownBlock → (v'.ownBlock = v.ownBlock ∨ v'.ownBlock = some w.heap.size) → wpList P ops Q rest (a.put o.dst v') w') :
    wpList P ops Q (o :: rest) a w :=
  wpList_plain hgd fun _ hK => wp_append_ints s x t ho base e k by_ ht hinfo hby v zs hs hown B A ys c hx hr hlen hbase fun v' w' h1 h2 h3 => hK _ _ (h v' w' h1 h2 h3)

/-- append(s, x): s of the call's own, x in a block of one cell. -/
theorem wpList_append_one {w : World} {ops : Array Oper} {rest : List Oper} {o : Oper} {a : Act} {Q : Exit → Act → World → Prop} (hgd : o.guard = none) (s x : Operand) (t : TypeId)
    (ho : o.op = .call { callee := .builtin .append, args := #[s, x], argTypes := #[t, t] })
    (base : Nat) (e : TypeId) (z : Value) (by_ : Nat) (ht : P.underlying t = some (.slice e)) (hinfo : (P.info? e).map (fun i => (i.zero, i.size, i.bytes)) = some (some z, 1, by_)) (hby : by_ ≤ 64) (hz : z.cells.size = 1)
    (v : Value) (n : Nat) (vs : List Value) (hs : a.eval s = v) (hown : w.ownsRow base e 1 v n vs)
    (g c : Nat) (u : Value) (hx : a.eval x = .slice (some ⟨g, 0, none⟩) 1 c) (hcell : w.cell? ⟨g, 0, none⟩ = some u) (hu : u.oneCell' = true) (hlen : n ≤ 1000000000) (hbase : base ≤ w.heap.size)
    (h : ∀ v' w', w'.ownsRow base e 1 v' (n + 1) (vs ++ [u]) → w.grownBy w' v.ownBlock → (v'.ownBlock = v.ownBlock ∨ v'.ownBlock = some w.heap.size) → wpList P ops Q rest (a.put o.dst v') w') :
    wpList P ops Q (o :: rest) a w := by
  obtain ⟨i0, hi0, hz0, hz1, hz2⟩ := info_parts hinfo
  obtain ⟨v', w', hr1, h2, h3, _, h5⟩ := run_append_own_at (P := P) w base t o.type e i0 z 1 by_ ht hi0 hz0 hz1 hz2 hz (by omega) v n vs hown ⟨g, 0, none⟩ 1 c [u] (by simp) (by
      intro j q hq
      rcases j with _ | j
      · simp at hq; subst hq; rw [add_plain]; exact hcell
      · simp at hq) (by simpa using hu) (by simp only [maxLen]; omega) (by
      have : (n + 1) * by_ ≤ (n + 1) * 64 := Nat.mul_le_mul_left _ hby
      omega) hbase
  refine wpList_plain hgd fun K hK => ?_
  unfold Oper.wp execOp
  simp only [ho, resolve, invoke, builtin, Sem.run_bind, Sem.run_pure, Result.andThen_ok, List.map_toArray, List.map_cons, List.map_nil, hs, hx, hr1]
  exact hK _ _ (h v' w' h2 h3 h5)
end
end Go.Proofs.Ytceekfoacgoalaa

/- Contracts of the helpers of the exact laws: copies, comparisons, marks. -/
namespace Go.Proofs.Ytceekfoacgoalaa
set_option maxRecDepth 100000
open Go.RowKit

theorem set_map (zs : List Int) (k : Nat) (x : Int) : (zs.map (Value.int .i64)).set k (.int .i64 x) = (zs.set k x).map (Value.int .i64) := by
  rw [List.map_set]

theorem fill_get (zs : List Int) (k : Nat) (h : k < zs.length) : ((zs.take k ++ List.replicate (zs.length - k) 0).map (Value.int .i64))[k]? = some (.int .i64 0) := by
  have hl : (zs.take k).length = k := by rw [List.length_take]; omega
  rw [List.getElem?_map, List.getElem?_append_right (by omega), hl, Nat.sub_self, List.getElem?_replicate, if_pos (by omega)]
  rfl
theorem fill_set (zs : List Int) (k : Nat) (h : k < zs.length) : ((zs.take k ++ List.replicate (zs.length - k) 0).map (Value.int .i64)).set k (.int .i64 (zs.getD k 0)) = (zs.take (k + 1) ++ List.replicate (zs.length - (k + 1)) 0).map (Value.int .i64) := by
  have hl : (zs.take k).length = k := by rw [List.length_take]; omega
  have hrep : List.replicate (zs.length - k) (0 : Int) = 0 :: List.replicate (zs.length - (k + 1)) 0 := by
    rw [show zs.length - k = (zs.length - (k + 1)) + 1 from by omega, List.replicate_succ]
  rw [set_map, hrep, List.set_append_right _ _ (by omega), hl, Nat.sub_self, List.set_cons_zero, List.take_add_one, List.getElem?_eq_getElem h]
  simp only [List.getD, List.getElem?_eq_getElem h, Option.getD_some, Option.toList_some, List.append_assoc, List.cons_append, List.nil_append]

theorem toIntS_any (A : Option Addr) (c : Nat) (zs : List Int) (w : World) (h : Ints w A zs) (hl : zs.length ≤ 1048576) :
    Calls Try.prog 38 #[.slice A zs.length c] w fun e w' => ∃ v, e = .returned v ∧ Own w' w.heap.size v zs ∧ Below w.heap.size w w' := by
  obtain ⟨i0, hi0, hz0, hz1, hz2⟩ := info_parts intInfo
  have hwf := h.wf
  obtain ⟨-, -, hr⟩ := h
  have Hr := Lib.hid hr; clear hr
  have Hwf := Lib.hid hwf; clear hwf
  go_enter Try.func38, Try.ntmps38
  go_wp2_with (at_make; refine wpList_make_full _ rfl _ _ _ rfl w.heap.size 3 i0 (.int .i64 0) 1 Try.underlying23 hi0 hz0 hz1 _ _ _ _ zs.length rfl rfl rfl rfl ?c1 ?c2 ?c3 ?_)
  case c1 => rw [hz2]; omega
  case c2 => unfold maxLen; omega
  case c3 => simp
  intro w1 hown1 hg1
  rw [toList_madeCells_one] at hown1
  have hb1 : Below w.heap.size w w1 := below_of_only hg1 (Nat.le_refl _) (by simp)
  have hstart : w1.ownsRow w.heap.size 3 1 (.slice (some ⟨w.heap.size, 0, none⟩) zs.length zs.length) zs.length ((zs.take 0 ++ List.replicate (zs.length - 0) 0).map (Value.int .i64)) := by simpa using hown1
  have hlt1 : w.heap.size < w1.heap.size := (hown1.lt w.heap.size rfl).2
  clear hown1 hg1
  generalize hG : w.heap.size = g at *
  have HG := Lib.hid hG; clear hG
  go_wp2
  go_loopw [4] (fun i wr => ∃ k : Nat, k ≤ zs.length ∧ i = .int .i64 k ∧ Below g w wr ∧ wr.ownsRow g 3 1 (.slice (some ⟨g, 0, none⟩) zs.length zs.length) zs.length ((zs.take k ++ List.replicate (zs.length - k) 0).map (Value.int .i64))) (fun i _ => zs.length - (intOf i).toNat)
  case atStart => exact ⟨0, Nat.zero_le _, rfl, hb1, hstart⟩
  case round =>
    clear hb1 hstart hlt1
    obtain ⟨k, hk, rfl, hbk, hownk⟩ := hrel
    by_cases hlt : k < zs.length
    · obtain ⟨b, off, rfl, hb, hc⟩ := Hr.out (by omega)
      have hcell := (hbk.cell (p := ⟨b, off + k, none⟩) hb).trans (hc k hlt)
      have hold := (hownk.cellAt k (by omega)).trans (fill_get zs k hlt)
      have hfr := hownk.frozenAt k
      have hst := (hownk.stored k (.int .i64 (zs.getD k 0))).1
      rw [fill_set zs k hlt] at hst
      clear hc hownk
      have Hst := Lib.hid hst; clear hst
      have hgb : g ≠ b := by omega
      generalize zs.getD k 0 = z at *
      go_wp2
      go_roundw
      case rel => exact ⟨k + 1, by omega, by go_num, hbk.setCell (Nat.le_refl _) _, Hst.out⟩
      case measure => simp [intOf]; omega
    · have hke : k = zs.length := by omega
      go_wp2
      go_ret
      refine ⟨_, rfl, ⟨?_, Hwf.out⟩, by rw [HG.out]; exact hbk⟩
      rw [HG.out]
      subst hke
      simpa using hownk
theorem take_succ_eq {xs ys : List Int} {k : Nat} (hk : k < xs.length) (hl : xs.length = ys.length) (h : xs.take k = ys.take k) (he : xs.getD k 0 = ys.getD k 0) : xs.take (k + 1) = ys.take (k + 1) := by
  rw [List.take_add_one, List.take_add_one, h]
  simp only [List.getD, List.getElem?_eq_getElem hk, List.getElem?_eq_getElem (hl ▸ hk), Option.getD_some] at he ⊢
  rw [he]
theorem ne_of_getD {xs ys : List Int} {k : Nat} (he : xs.getD k 0 ≠ ys.getD k 0) : xs ≠ ys := fun e => he (by rw [e])

theorem eqIntS_any (A B : Option Addr) (c d : Nat) (xs ys : List Int) (w : World) (hx : Ints w A xs) (hy : Ints w B ys) :
    Calls Try.prog 40 #[.slice A xs.length c, .slice B ys.length d] w fun e w' => e = .returned (.bool (decide (xs = ys))) ∧ ∃ n, w' = w.drewN n := by
  obtain ⟨hmx, -, hrx⟩ := hx
  obtain ⟨hmy, -, hry⟩ := hy
  have Hrx := Lib.hid hrx; clear hrx
  have Hry := Lib.hid hry; clear hry
  by_cases hlen : xs.length = ys.length
  · rw [← hlen]
    have Hlen := Lib.hid hlen
    have h1 : ys.length ≤ xs.length := by omega
    have h2 : xs.length ≤ ys.length := by omega
    clear hlen
    go_enter Try.func40, Try.ntmps40
    go_wp2
    go_loopw [5] (fun i wr => ∃ k n : Nat, k ≤ xs.length ∧ i = .int .i64 k ∧ wr = w.drewN n ∧ xs.take k = ys.take k) (fun i _ => xs.length - (intOf i).toNat)
    case atStart => exact ⟨0, 0, Nat.zero_le _, rfl, rfl, rfl⟩
    case round =>
      obtain ⟨k, n, hk, rfl, rfl, ht⟩ := hrel
      have Ht := Lib.hid ht; clear ht
      by_cases hlt : k < xs.length
      · obtain ⟨b, off, rfl, hb, hc⟩ := Hrx.out (by omega)
        obtain ⟨b', off', rfl, hb', hc'⟩ := Hry.out (by omega)
        have hcell := hc k hlt
        have hcell' := hc' k (by omega)
        clear hc hc'
        have hlt' : (k : Int) < xs.length := by omega
        have hlt2 : (k : Int) < ys.length := by omega
        have hsucc := take_succ_eq hlt Hlen.out Ht.out
        have hne : xs.getD k 0 ≠ ys.getD k 0 → xs ≠ ys := ne_of_getD
        have Hs := Lib.hid hsucc; clear hsucc
        have Hn := Lib.hid hne; clear hne
        generalize xs.getD k 0 = x at *
        generalize ys.getD k 0 = y at *
        go_wp2
        go_quiet (fail)
        go_wp2
        · have hxy : (x != y) = true := by assumption
          have hf : ¬ xs = ys := Hn.out (by simpa using hxy)
          go_ret
          exact ⟨ret_bool (by simp [hf]), _, World.drewN_drewN _ _ _⟩
        · have hxy : (x != y) = false := by assumption
          have he : x = y := by simpa using hxy
          have hs := Hs.out he
          go_roundw
          case rel => exact ⟨k + 1, _, by omega, by go_num, rfl, hs⟩
          case measure => simp [intOf]; omega
      · have hfin : xs = ys := by
          have := Ht.out
          rwa [List.take_of_length_le (by omega), List.take_of_length_le (by omega)] at this
        have Hf := Lib.hid hfin; clear hfin
        go_wp2
        go_ret
        exact ⟨ret_bool (by simp [Hf.out]), n, rfl⟩
  · have hne : ¬ xs = ys := fun e => hlen (by rw [e])
    have hb : ((xs.length : Int) != (ys.length : Int)) = true := by rw [bne_iff_ne]; omega
    have Hne := Lib.hid hne; clear hne
    clear hlen
    go_enter Try.func40, Try.ntmps40
    go_wp2
    go_ret
    exact ⟨ret_bool (by simp [Hne.out]), 0, rfl⟩

/-- The marks: k, k + 1, .. -/
def marks (k : Int) : Nat → List Int
  | 0 => []
  | n + 1 => k :: marks (k + 1) n
theorem marks_length (k : Int) (n : Nat) : (marks k n).length = n := by
  induction n generalizing k with
  | zero => rfl
  | succ n ih => simp [marks, ih]
theorem marks_getElem? (k : Int) (n j : Nat) (h : j < n) : (marks k n)[j]? = some (k + j) := by
  induction n generalizing k j with
  | zero => omega
  | succ n ih =>
    rcases j with _ | j
    · simp [marks]
    · simp only [marks, List.getElem?_cons_succ]; rw [ih (k + 1) j (by omega)]; congr 1; omega
theorem marks_set (zs : List Int) (a : Int) (k : Nat) (h : k < zs.length) : ((marks a k ++ zs.drop k).map (Value.int .i64)).set k (.int .i64 (a + k)) = (marks a (k + 1) ++ zs.drop (k + 1)).map (Value.int .i64) := by
  have hm : marks a (k + 1) = marks a k ++ [a + k] := by
    apply List.ext_getElem?
    intro j
    by_cases hj : j < k
    · rw [marks_getElem? a (k + 1) j (by omega), List.getElem?_append_left (by rw [marks_length]; omega), marks_getElem? a k j hj]
    · by_cases hj2 : j = k
      · subst hj2; rw [marks_getElem? a (j + 1) j (by omega), List.getElem?_append_right (by rw [marks_length]; omega), marks_length]; simp
      · rw [List.getElem?_eq_none (by rw [marks_length]; omega), List.getElem?_eq_none (by simp [marks_length]; omega)]
  rw [set_map, List.set_append_right _ _ (by rw [marks_length]; omega), marks_length, Nat.sub_self, List.drop_eq_getElem_cons h, List.set_cons_zero, hm, List.append_assoc]
  rfl

theorem marks_wf (a : Int) (n : Nat) (ha : 0 ≤ a ∧ a ≤ 1000000000) (hn : n ≤ 1000000000) : ∀ z ∈ marks a n, InK .i64 z := by
  intro z hz
  obtain ⟨j, hj, rfl⟩ := List.getElem_of_mem hz
  have := marks_getElem? a n j (by rwa [marks_length] at hj)
  rw [List.getElem?_eq_getElem hj] at this
  injection this with this
  rw [this, InK]
  rw [marks_length] at hj
  exact WalkArith.wf_i64 (by omega)

end Go.Proofs.Ytceekfoacgoalaa

/- What a law keeps in hand: values that read as integers; rows of the call's own, each within its blocks; and how the steps keep them. -/
namespace Go.Proofs.Ytceekfoacgoalaa
set_option maxRecDepth 100000
open Go.RowKit Go.WideShapes

/-- A value that reads as the integers zs. -/
def RdI (w : World) (v : Value) (zs : List Int) : Prop := ∃ A c, v = .slice A zs.length c ∧ Ints w A zs ∧ zs.length ≤ c
theorem RdI.mk {w : World} {A : Option Addr} {c : Nat} {zs : List Int} (h : Ints w A zs) (hc : zs.length ≤ c) : RdI w (.slice A zs.length c) zs := ⟨A, c, rfl, h, hc⟩
theorem RdI.len_le {w : World} {v : Value} {zs : List Int} (h : RdI w v zs) : zs.length ≤ 9223372036854775807 := by
  obtain ⟨A, c, rfl, hi, _⟩ := h; exact hi.len
theorem RdI.step {w w' : World} {v : Value} {zs : List Int} (h : RdI w v zs) (hb : Below w.heap.size w w') : RdI w' v zs := by
  obtain ⟨A, c, rfl, hi, hc⟩ := h
  exact ⟨A, c, rfl, hi.step hb, hc⟩
theorem RdI.wf {w : World} {v : Value} {zs : List Int} (h : RdI w v zs) : ∀ z ∈ zs, InK .i64 z := by
  obtain ⟨A, c, rfl, hi, _⟩ := h; exact hi.wf

/-- A value that reads as zs, all of it below block B: kept whatever happens from B on. -/
def RdBI (w : World) (B : Nat) (v : Value) (zs : List Int) : Prop := ∃ A c, v = .slice A zs.length c ∧ IntsK .i64 w B A zs ∧ zs.length ≤ c

/-- Only blocks from lo on and below hi have changed, of those that were. -/
structure Within (lo hi : Nat) (w w' : World) : Prop where
  os : w'.os = w.os
  tape : w'.tape = w.tape
  output : w'.output = w.output
  size : w.heap.size ≤ w'.heap.size
  block : ∀ k, k < w.heap.size → ¬ (lo ≤ k ∧ k < hi) → w'.heap[k]? = w.heap[k]?
theorem Within.of_below {lo hi : Nat} {w w' : World} (h : Below w.heap.size w w') : Within lo hi w w' := ⟨h.os, h.tape, h.output, h.size, fun k hk _ => h.block k hk⟩
theorem Within.below {lo hi B : Nat} {w w' : World} (h : Within lo hi w w') (hB : B ≤ lo) (hs : B ≤ w.heap.size) : Below B w w' := ⟨h.os, h.tape, h.output, h.size, fun k hk => h.block k (by omega) (by omega)⟩
theorem Within.of_only {lo hi : Nat} {w w' : World} {row : Option Nat} (h : w.grownBy w' row) (hr : ∀ g, row = some g → lo ≤ g ∧ g < hi) : Within lo hi w w' :=
  ⟨h.os, h.tape, h.output, h.size, fun k hk hn => h.block k hk (by
    intro e
    exact hn (hr k e.symm))⟩

/-- A row of the call's own in the blocks from lo on and below hi. -/
structure OwnI (w : World) (lo hi : Nat) (v : Value) (zs : List Int) : Prop where
  own : Own w lo v zs
  lt : ∀ g, v.ownBlock = some g → g < hi
theorem Own.within {w : World} {lo : Nat} {v : Value} {zs : List Int} (h : Own w lo v zs) : OwnI w lo w.heap.size v zs := ⟨h, fun g hg => (h.ge g hg).2⟩
theorem OwnI.rd {w : World} {lo hi : Nat} {v : Value} {zs : List Int} (h : OwnI w lo hi v zs) : RdI w v zs := by
  exact h.own.ints
theorem OwnI.below {w w' : World} {lo hi : Nat} {v : Value} {zs : List Int} (h : OwnI w lo hi v zs) (hb : Below w.heap.size w w') : OwnI w' lo hi v zs := ⟨h.own.below hb, h.lt⟩
theorem OwnI.apart {w w' : World} {lo hi lo' hi' : Nat} {v : Value} {zs : List Int} (h : OwnI w lo hi v zs) (hw : Within lo' hi' w w') (hd : hi ≤ lo' ∨ hi' ≤ lo) : OwnI w' lo hi v zs := by
  refine ⟨⟨?_, h.own.wf⟩, h.lt⟩
  rcases h.own.own.2 with h0 | ⟨g, cap, cur, rfl, hb, hh, h1⟩
  · exact ⟨h.own.own.1, .inl h0⟩
  · have hg := h.lt g rfl
    exact ⟨h.own.own.1, .inr ⟨g, cap, cur, rfl, hb, (hw.block g (h.own.own.lt g rfl).2 (by omega)).trans hh, h1⟩⟩
theorem OwnI.belowB {w w' : World} {lo hi B : Nat} {v : Value} {zs : List Int} (h : OwnI w lo hi v zs) (hb : Below B w w') (hB : hi ≤ B) : OwnI w' lo hi v zs := by
  refine ⟨⟨⟨h.own.own.1, ?_⟩, h.own.wf⟩, h.lt⟩
  rcases h.own.own.2 with h0 | ⟨g, cap, cur, rfl, hb', hh, h1⟩
  · exact .inl h0
  · have hg := h.lt g rfl
    exact .inr ⟨g, cap, cur, rfl, hb', (hb.block g (by omega)).trans hh, h1⟩
theorem RdI.at_ {w : World} {v : Value} {zs : List Int} (h : RdI w v zs) : RdBI w w.heap.size v zs := h
def szI (zs : List Int) : Nat := zs.length
def mkI (a : Int) (zs : List Int) : List Int := marks a zs.length
theorem RdBI.rd {w : World} {B : Nat} {v : Value} {zs : List Int} (h : RdBI w B v zs) (hB : B ≤ w.heap.size) : RdI w v zs := by
  obtain ⟨A, c, rfl, hi, hc⟩ := h
  exact ⟨A, c, rfl, hi.mono hB, hc⟩
theorem RdBI.below {w w' : World} {B : Nat} {v : Value} {zs : List Int} (h : RdBI w B v zs) (hb : Below B w w') : RdBI w' B v zs := by
  obtain ⟨A, c, rfl, hi, hc⟩ := h
  exact ⟨A, c, rfl, hi.below hb, hc⟩

/-- The helpers, in these words. -/
theorem toI (v : Value) (zs : List Int) (w : World) (h : RdI w v zs) (hl : zs.length ≤ 1048576) :
    Calls Try.prog 38 #[v] w fun e w' => ∃ u, e = .returned u ∧ OwnI w' w.heap.size w'.heap.size u zs ∧ Below w.heap.size w w' := by
  obtain ⟨A, c, rfl, hi, _⟩ := h
  refine (toIntS_any A c zs w hi hl).mono ?_
  rintro e w' ⟨u, rfl, ho, hb⟩
  exact ⟨u, rfl, ho.within, hb⟩
theorem eqI (v u : Value) (xs ys : List Int) (w : World) (hx : RdI w v xs) (hy : RdI w u ys) (b : Bool) (hb : decide (xs = ys) = b) :
    Calls Try.prog 40 #[v, u] w fun e w' => e = .returned (.bool b) ∧ Below w.heap.size w w' := by
  obtain ⟨A, c, rfl, hi, _⟩ := hx
  obtain ⟨A', c', rfl, hi', _⟩ := hy
  refine (eqIntS_any A A' c c' xs ys w hi hi').mono ?_
  rintro e w' ⟨rfl, n, rfl⟩
  exact ⟨by rw [hb], below_drewN (Below.refl _ _) n⟩
end Go.Proofs.Ytceekfoacgoalaa

/- Contracts of the small functions of chapter 1: words and brackets. -/
namespace Go.Proofs.Ytceekfoacgoalaa
set_option maxRecDepth 100000
open Go.RowKit

def isNumB (n : Int) : Bool := decide (0 ≤ n) && decide (n ≤ 999)
def isWordB (n : Int) : Bool := isNumB n || (decide (1001 ≤ n) && decide (n ≤ 1013))
def brk (n : Int) : Int := if n = 1012 then 1 else if n = 1013 then -1 else 0

theorem isNum_any (n : Int) (w : World) :
    Calls Try.prog 73 #[.int .i64 n] w fun e w' => e = .returned (.bool (isNumB n)) ∧ w = w' := by
  go_enter Try.func73, Try.ntmps73
  go_wp2
  all_goals go_ret
  all_goals exact ⟨by simp [isNumB, *] <;> omega, rfl⟩

theorem bracketChange_any (n : Int) (w : World) :
    Calls Try.prog 66 #[.int .i64 n] w fun e w' => e = .returned (.int .i64 (brk n)) ∧ w = w' := by
  go_enter Try.func66, Try.ntmps66
  go_wp2
  all_goals go_ret
  all_goals exact ⟨by simp_all [brk], rfl⟩

theorem isWord_any (n : Int) (w : World) :
    Calls Try.prog 65 #[.int .i64 n] w fun e w' => e = .returned (.bool (isWordB n)) ∧ w = w' := by
  rcases hb : isNumB n with _ | _ <;> have Hb := Lib.hid hb <;> clear hb
  all_goals
    go_enter Try.func65, Try.ntmps65
    go_wp2_with (go_at_call 73; refine (isNum_any _ _).mono ?_; rw [Hb.out]; rintro e w' ⟨rfl, rfl⟩)
  all_goals go_ret
  all_goals exact ⟨by simp [isWordB, Hb.out, *] <;> omega, rfl⟩

theorem allWords_any (A : Option Addr) (c : Nat) (zs : List Int) (w : World) (h : Ints w A zs) :
    Calls Try.prog 53 #[.slice A zs.length c] w fun e w' => e = .returned (.bool (zs.all isWordB)) ∧ w = w' := by
  obtain ⟨hm, -, hr⟩ := h
  have Hr := Lib.hid hr; clear hr
  go_enter Try.func53, Try.ntmps53
  go_wp2
  go_loop [7] (fun i => ∃ k : Nat, k ≤ zs.length ∧ i = .int .i64 k ∧ (zs.take k).all isWordB = true) (fun i => zs.length - (intOf i).toNat)
  case atStart => exact ⟨0, Nat.zero_le _, rfl, by simp⟩
  case round =>
    obtain ⟨k, hk, rfl, hall⟩ := hrel
    have Hall := Lib.hid hall; clear hall
    by_cases hlt : k < zs.length
    · obtain ⟨b, off, rfl, hb, hc⟩ := Hr.out (by omega)
      have hcell := hc k hlt
      clear hc
      have hsnoc : (zs.take (k + 1)).all isWordB = isWordB (zs.getD k 0) := by
        rw [List.take_add_one, List.all_append, Hall.out]; simp [List.getElem?_eq_getElem hlt, List.getD]
      have Hs := Lib.hid hsnoc; clear hsnoc
      have hfin : isWordB (zs.getD k 0) = false → zs.all isWordB = false := by
        intro hf
        rw [List.all_eq_false]; exact ⟨zs.getD k 0, by simp [List.getD, List.getElem?_eq_getElem hlt], by simpa using hf⟩
      have Hf := Lib.hid hfin; clear hfin
      generalize zs.getD k 0 = z at *
      rcases hb : isWordB z with _ | _ <;> have Hb := Lib.hid hb <;> clear hb
      all_goals
        go_wp2_with (go_at_call 65; refine (isWord_any _ _).mono ?_; rw [Hb.out]; rintro e w' ⟨rfl, rfl⟩)
      · go_ret
        exact ⟨ret_bool (Hf.out Hb.out).symm, rfl⟩
      · go_round
        case rel => exact ⟨k + 1, by omega, by go_num, by rw [Hs.out]; exact Hb.out⟩
        case measure => simp [intOf]; omega
    · go_wp2
      go_ret
      exact ⟨ret_bool (by rw [← Hall.out, List.take_of_length_le (by omega)]), rfl⟩

/-- bracketsFit: whether the sums of the brackets never fall below 0 and end at 0. -/
def fitsFrom : Int → List Int → Bool
  | o, [] => o == 0
  | o, z :: zs => if o + brk z < 0 then false else fitsFrom (o + brk z) zs
theorem brk_bd (z : Int) : -1 ≤ brk z ∧ brk z ≤ 1 := by unfold brk; split <;> (try split) <;> omega
theorem fitsFrom_drop (o : Int) (zs : List Int) (k : Nat) (h : k < zs.length) :
    fitsFrom o (zs.drop k) = if o + brk (zs.getD k 0) < 0 then false else fitsFrom (o + brk (zs.getD k 0)) (zs.drop (k + 1)) := by
  rw [List.drop_eq_getElem_cons h, fitsFrom]; simp [List.getD, List.getElem?_eq_getElem h]

theorem bracketsFit_any (A : Option Addr) (c : Nat) (zs : List Int) (w : World) (h : Ints w A zs) :
    Calls Try.prog 54 #[.slice A zs.length c] w fun e w' => e = .returned (.bool (fitsFrom 0 zs)) ∧ w = w' := by
  obtain ⟨hm, -, hr⟩ := h
  have Hr := Lib.hid hr; clear hr
  go_enter Try.func54, Try.ntmps54
  go_wp2
  go_loop [3, 8] (fun o i => ∃ (k : Nat) (x : Int), k ≤ zs.length ∧ i = .int .i64 k ∧ o = .int .i64 x ∧ 0 ≤ x ∧ x ≤ k ∧ fitsFrom 0 zs = fitsFrom x (zs.drop k)) (fun _ i => zs.length - (intOf i).toNat)
  case atStart => exact ⟨0, 0, Nat.zero_le _, rfl, rfl, by omega, by omega, by simp⟩
  case round =>
    obtain ⟨k, x, hk, rfl, rfl, hx0, hxk, hall⟩ := hrel
    by_cases hlt : k < zs.length
    · rw [fitsFrom_drop x zs k hlt] at hall
      have Hall := Lib.hid hall; clear hall
      obtain ⟨b, off, rfl, hb, hc⟩ := Hr.out (by omega)
      have hcell := hc k hlt
      clear hc
      have hbd := brk_bd (zs.getD k 0)
      generalize zs.getD k 0 = z at *
      by_cases hneg : x + brk z < 0
      all_goals
        go_wp2_with (go_at_call 66; refine (bracketChange_any _ _).mono ?_; rintro e w' ⟨rfl, rfl⟩)
      · go_ret
        exact ⟨ret_bool (by rw [Hall.out, if_pos hneg]), rfl⟩
      · go_round
        case rel => exact ⟨k + 1, x + brk z, by omega, by go_num, rfl, by omega, by omega, by rw [Hall.out, if_neg (by omega)]⟩
        case measure => simp [intOf]; omega
    · have Hall := Lib.hid hall; clear hall
      go_wp2
      go_ret
      exact ⟨ret_bool (by rw [Hall.out, List.drop_eq_nil_of_le (by omega)]; rfl), rfl⟩

def validB (zs : List Int) : Bool := decide (zs.length ≤ 60) && zs.all isWordB && fitsFrom 0 zs

theorem ProgValid_any (A : Option Addr) (c : Nat) (zs : List Int) (w : World) (h : Ints w A zs) :
    Calls Try.prog 33 #[.slice A zs.length c] w fun e w' => e = .returned (.bool (validB zs)) ∧ w = w' := by
  have hm := h.len
  have H := Lib.hid h; clear h
  by_cases hl : zs.length ≤ 60
  · rcases ha : zs.all isWordB with _ | _ <;> have Ha := Lib.hid ha <;> clear ha
    all_goals
      go_enter Try.func33, Try.ntmps33
      go_wp2_with (first
        | (go_at_call 53; refine (allWords_any _ _ _ _ H.out).mono ?_; rw [Ha.out]; rintro e w' ⟨rfl, rfl⟩)
        | (go_at_call 54; refine (bracketsFit_any _ _ _ _ H.out).mono ?_; rintro e w' ⟨rfl, rfl⟩))
      go_ret
      exact ⟨ret_bool (by simp [validB, hl, Ha.out]), rfl⟩
  · go_enter Try.func33, Try.ntmps33
    go_wp2
    go_ret
    exact ⟨ret_bool (by simp [validB, hl]), rfl⟩

end Go.Proofs.Ytceekfoacgoalaa

/- Contracts of slices.Grow (of nil), slices.Concat and slices.Clone at rows of integers. -/
namespace Go.Proofs.Ytceekfoacgoalaa
set_option maxRecDepth 100000
open Go.RowKit Go.WideShapes

/-- Slices of integers: where they lie, their capacities, what they hold. -/
abbrev Sl := Option Addr × Nat × List Int
def Sl.val (s : Sl) : Value := .slice s.1 s.2.2.length s.2.1
def flat (ss : List Sl) : List Int := (ss.map (·.2.2)).flatten
/-- Cells of a row of slices that can all be read below block B. -/
structure SlRow (w : World) (B b off : Nat) (ss : List Sl) : Prop where
  cell : ∀ j s, ss[j]? = some s → w.cell? ⟨b, off + j, none⟩ = some s.val
  ints : ∀ s ∈ ss, IntsK .i64 w B s.1 s.2.2
theorem flat_take_succ (ss : List Sl) (k : Nat) (s : Sl) (h : ss[k]? = some s) : flat (ss.take (k + 1)) = flat (ss.take k) ++ s.2.2 := by
  unfold flat; rw [List.take_add_one, h]; simp
theorem flat_take_le (ss : List Sl) (k : Nat) : (flat (ss.take k)).length ≤ (flat ss).length := by
  conv => rhs; rw [← List.take_append_drop k ss]
  unfold flat; simp only [List.map_append, List.flatten_append, List.length_append]; omega

end Go.Proofs.Ytceekfoacgoalaa

/- Contracts of the model's functions of chapter 1: words and brackets. -/
namespace Go.Proofs.Ytceekfoacgoalaa
set_option maxRecDepth 100000
open Go.RowKit

theorem l1In_any (n lo hi : Int) (w : World) :
    Calls Try.prog 64 #[.int .i64 n, .int .i64 lo, .int .i64 hi] w fun e w' => e = .returned (.bool (decide (lo ≤ n) && decide (n ≤ hi))) ∧ w = w' := by
  go_enter Try.func64, Try.ntmps64
  go_wp2
  all_goals go_ret
  all_goals exact ⟨ret_bool (by simp [*] <;> omega), rfl⟩

/-- l1Fits: fitsFrom, and every word is one. -/
def l1From : Int → List Int → Bool
  | o, [] => o == 0
  | o, z :: zs => if isWordB z = false then false else if o + brk z < 0 then false else l1From (o + brk z) zs
theorem l1From_eq (o : Int) (zs : List Int) (ho : 0 ≤ o) : l1From o zs = (zs.all isWordB && fitsFrom o zs) := by
  induction zs generalizing o with
  | nil => simp [l1From, fitsFrom]
  | cons z zs ih =>
    rw [l1From, fitsFrom, List.all_cons]
    rcases hw : isWordB z with _ | _
    · simp
    · by_cases hn : o + brk z < 0
      · simp [hn]
      · simp [hn, ih (o + brk z) (by omega)]
theorem l1From_drop (o : Int) (zs : List Int) (k : Nat) (h : k < zs.length) :
    l1From o (zs.drop k) = if isWordB (zs.getD k 0) = false then false else if o + brk (zs.getD k 0) < 0 then false else l1From (o + brk (zs.getD k 0)) (zs.drop (k + 1)) := by
  rw [List.drop_eq_getElem_cons h, l1From]; simp [List.getD, List.getElem?_eq_getElem h]
theorem brk_cases (z : Int) : (z = 1012 ∧ brk z = 1) ∨ (z = 1013 ∧ brk z = -1) ∨ (z ≠ 1012 ∧ z ≠ 1013 ∧ brk z = 0) := by
  unfold brk; split
  · exact .inl ⟨‹_›, rfl⟩
  · split
    · exact .inr (.inl ⟨‹_›, rfl⟩)
    · exact .inr (.inr ⟨‹_›, ‹_›, rfl⟩)

end Go.Proofs.Ytceekfoacgoalaa
