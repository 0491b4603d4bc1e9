/- The draw of a state (DrawStepOf); states compared where both are equal; what a law keeps of a state in a variable. -/
import Derived.Test.YtenaeiedoiepdaaDq
import Derived.Test.YtenaeiedoiepdaaDr
import Derived.Test.YtenaeiedoiepdaaB6
import Derived.Test.YtenaeiedoiepdaaTo
import Derived.Test.YtenaeiedoiepdaaTs
import Derived.Test.YtenaeiedoiepdaaI
namespace Go.Proofs.Ytenaeiedoiepdaa
set_option maxRecDepth 100000
open Go.RowKit Go.WideShapes Go.Deep

theorem wayI {W X Y : World} (hX : Below W.heap.size W X) (h : Below X.heap.size X Y) : Below W.heap.size W Y := hX.trans (h.mono hX.size)
theorem wayB0 {w0 X Y : World} (hX : Below w0.heap.size w0 X) (h : Below X.heap.size X Y) : Below w0.heap.size w0 Y := hX.trans (h.mono hX.size)
theorem below_allocI {B : Nat} {a w : World} (h : Below B a w) (hB : B ≤ w.heap.size) (cs : Array Value) (T : TypeId) : Below B a (w.alloc (.cells cs T)) := h.alloc hB _
theorem Blk.drewI {w : World} {g : Nat} {cs : Array Value} {T : TypeId} (h : Blk w g cs T) : Blk w.drew g cs T := h
theorem Blk.keepI {w : World} {g : Nat} {cs : Array Value} {T : TypeId} {cs2 : Array Value} {T2 : TypeId} (h : Blk w g cs T) : Blk (w.alloc (.cells cs2 T2)) g cs T := h.below ((Below.refl w.heap.size _).alloc (Nat.le_refl _) _) h.lt
theorem Blk.newI (w : World) (g : Nat) (cs : Array Value) (T : TypeId) (h : g = w.heap.size) : Blk (w.alloc (.cells cs T)) g cs T := by subst h; exact Blk.new w cs T
theorem Blk.belowI {X Y : World} {L B : Nat} {cs : Array Value} {T : TypeId} {G : Prop} (h : Blk X L cs T) (hb : Below B X Y) (hB : L < B) (k : Blk Y L cs T → G) : G := k (h.below hb hB)
theorem Blk.belowL {X Y : World} {L : Nat} {cs : Array Value} {T : TypeId} {G : Prop} (h : Blk X L cs T) (hb : Below X.heap.size X Y) (k : Blk Y L cs T → L < X.heap.size → G) : G := k (h.below hb h.lt) h.lt
theorem Blk.apartI {w w' : World} {g lo hi : Nat} {cs : Array Value} {T : TypeId} {G : Prop} (h : Blk w g cs T) (hw : Within lo hi w w') (hd : g < lo ∨ hi ≤ g) (k : Blk w' g cs T → G) : G := k ((hw.block g h.lt (by omega)).trans h)
theorem below_set2 {B g : Nat} {W X : World} (h : Below B W X) (hg : B ≤ g) (u v : Value) : Below B W ((X.setCell ⟨g, 0, none⟩ u).setCell ⟨g, 1, none⟩ v) := (h.setCell (p := ⟨g, 0, none⟩) hg u).setCell (p := ⟨g, 1, none⟩) hg v
theorem wayW {W X Y : World} {lo hi : Nat} (hX : Below W.heap.size W X) (h : Within lo hi X Y) (hl : W.heap.size ≤ lo) : Below W.heap.size W Y := hX.trans (h.below (B := W.heap.size) hl hX.size)
theorem step_append_L {P : Program} {w : World} {ops : Array Oper} {o : Oper} {a : Act} {K : Act → World → Prop} {Q : Exit → Act → World → Prop} {E : Prop} (hgd : Region.wanted o (yielded ops a.tmps) = true) (s x : Operand) (t : TypeId)
    (ho : o.op = .call { callee := .builtin .append, args := #[s, x], argTypes := #[t, t] })
    (ht : P.underlying t = some (.slice 3)) (hinfo : (P.info? 3).map (fun i => (i.zero, i.size, i.bytes)) = some (some (.int .i64 0), 1, 8))
    (g : Nat) (hs : a.eval s = .slice (some ⟨g, 0, none⟩) 0 0) (hblk : Blk w g #[] 3)
    (u : Value) (ys : List Int) (hx : a.eval x = u) (hr : RdI w u ys) (hlen : ys.length ≤ 900000000)
    (h : ∀ v' w', OwnI w' g w'.heap.size v' ys → Within g (g + 1) w w' → g ≤ w'.heap.size → K (a.put o.dst v') w') : if Region.wanted o (yielded ops a.tmps) = true then Oper.wp P o a w K Q else E := by
  have hg := hblk.lt
  have ho0 : Own w g (.slice (some ⟨g, 0, none⟩) 0 0) [] := ⟨⟨rfl, .inr ⟨g, 0, #[], rfl, Nat.le_refl _, hblk, by simp, by simp, by simp, rfl⟩⟩, by simp⟩
  rw [if_pos hgd]
  obtain ⟨A, c, rfl, hi', _⟩ := hr
  refine wp_append_ints s x t ho g 3 .i64 8 ht hinfo (Nat.le_refl _) _ [] hs ho0.own w.heap.size A ys c hx hi' (by simp; omega) (by omega) ?_
  intro v' w' h1 h2 _
  refine h v' w' (Own.within ⟨by simpa using h1, fun z hz => hi'.wf z (by simpa using hz)⟩) (Within.of_only h2 (fun k hk => by simp [Value.ownBlock] at hk; omega)) (by have := h2.size; omega)
/-- append to a row of the call's own: what is of another type is kept. -/
theorem step_append_M {P : Program} {w : World} {ops : Array Oper} {o : Oper} {a : Act} {K : Act → World → Prop} {Q : Exit → Act → World → Prop} {E : Prop} (hgd : Region.wanted o (yielded ops a.tmps) = true) (s x : Operand) (t : TypeId)
    (ho : o.op = .call { callee := .builtin .append, args := #[s, x], argTypes := #[t, t] })
    (ht : P.underlying t = some (.slice 3)) (hinfo : (P.info? 3).map (fun i => (i.zero, i.size, i.bytes)) = some (some (.int .i64 0), 1, 8))
    (lo hi : Nat) (v : Value) (zs : List Int) (hs : a.eval s = v) (hown : OwnI w lo hi v zs) (hlo : lo ≤ w.heap.size)
    (u : Value) (ys : List Int) (hx : a.eval x = u) (hr : RdI w u ys) (hlen : zs.length + ys.length ≤ 1000000000)
    (h : ∀ v' w', OwnI w' lo w'.heap.size v' (zs ++ ys) → Within lo hi w w' → (∀ g cs T, T ≠ 3 → Blk w g cs T → Blk w' g cs T) → K (a.put o.dst v') w') : if Region.wanted o (yielded ops a.tmps) = true then Oper.wp P o a w K Q else E := by
  rw [if_pos hgd]
  obtain ⟨A, c, rfl, hi', _⟩ := hr
  refine wp_append_ints s x t ho lo 3 .i64 8 ht hinfo (Nat.le_refl _) v zs hs hown.own.own w.heap.size A ys c hx hi' hlen hlo ?_
  intro v' w' h1 h2 _
  refine h v' w' (Own.within ⟨h1, fun z hz => ?_⟩) (Within.of_only h2 (fun k hk => ⟨(hown.own.ge k hk).1, hown.lt k hk⟩)) (fun g cs T hT hb => ?_)
  · rcases List.mem_append.1 hz with h | h
    · exact hown.own.wf z h
    · exact hi'.wf z h
  · exact (h2.block g hb.lt (fun e => ownsRow_ne hown.own.own hb hT e.symm)).trans hb
theorem rd51 {w : World} {g : Nat} (h : Blk w g #[.int .i64 5, .int .i64 1001] 3) : RdI w (.slice (some ⟨g, 0, none⟩) 2 2) [5, 1001] :=
  OwnI.rd (lo := g) (hi := g + 1) ⟨⟨⟨by simp, .inr ⟨g, 2, _, rfl, Nat.le_refl _, h, Nat.le_refl _, by unfold maxLen; omega, by simp, rfl⟩⟩, fun z hz => by simp only [List.mem_cons, List.not_mem_nil, or_false] at hz; rcases hz with rfl | rfl <;> exact wf_near _ (by omega)⟩, fun k hk => by simp [Value.ownBlock] at hk; omega⟩
/-- A state in a variable. -/
structure SSt (X : World) (g : Nat) (u0 u1 : Value) (r : List Int) (s : List (List Int)) : Prop where
  k : Blk X g #[u0, u1] 26
  r0 : RdI X u0 r
  s0 : RdS X u1 s
theorem SSt.step {X Y : World} {g : Nat} {u0 u1 : Value} {r : List Int} {s : List (List Int)} (h : SSt X g u0 u1 r s) (hb : Below X.heap.size X Y) : SSt Y g u0 u1 r s := ⟨h.k.below hb h.k.lt, h.r0.step hb, h.s0.step hb⟩
theorem SSt.cells {X : World} {g : Nat} {u0 u1 : Value} {r : List Int} {s : List (List Int)} (h : SSt X g u0 u1 r s) : X.cell? ⟨g, 0, none⟩ = some u0 ∧ X.cell? ⟨g, 1, none⟩ = some u1 := ⟨h.k.cell 0, h.k.cell 1⟩
theorem SSt.new {X : World} {u0 u1 : Value} {r : List Int} {s : List (List Int)} (h0 : RdI X u0 r) (h1 : RdS X u1 s) : SSt (X.alloc (.cells #[u0, u1] 26)) X.heap.size u0 u1 r s :=
  have hb : Below X.heap.size X (X.alloc (.cells #[u0, u1] 26)) := (Below.refl _ _).alloc (Nat.le_refl _) _
  ⟨Blk.new X _ _, h0.step hb, h1.step hb⟩
theorem SSt.set {X : World} {g lo m hi : Nat} {u0 u1 z0 z1 : Value} {r : List Int} {s : List (List Int)} (hk : Blk X g #[z0, z1] 26) (h0 : OwnI X lo m u0 r) (h1 : OwnS X m hi u1 s) (hg : g < lo) (hm : lo ≤ m) : SSt ((X.setCell ⟨g, 0, none⟩ u0).setCell ⟨g, 1, none⟩ u1) g u0 u1 r s := by
  have w1 := within_setCell X g 0 u0
  have w2 := within_setCell (X.setCell ⟨g, 0, none⟩ u0) g 1 u1
  exact ⟨(hk.set 0 u0).set 1 u1, ((h0.apart w1 (.inr hg)).apart w2 (.inr hg)).rd, ((h1.apart w1 (.inr (by omega))).apart w2 (.inr (by omega))).rd⟩
theorem rd7 {w : World} {g : Nat} (h : Blk w g #[.int .i64 7] 3) : RdI w (.slice (some ⟨g, 0, none⟩) 1 1) [7] :=
  OwnI.rd (lo := g) (hi := g + 1) ⟨⟨⟨by simp, .inr ⟨g, 1, _, rfl, Nat.le_refl _, h, Nat.le_refl _, by unfold maxLen; omega, by simp, rfl⟩⟩, fun z hz => by simp only [List.mem_cons, List.not_mem_nil, or_false] at hz; subst hz; exact wf_near _ (by omega)⟩, fun k hk => by simp [Value.ownBlock] at hk; omega⟩
set_option maxHeartbeats 2000000 in
theorem DrawStepOf_any (v : Value) (zs : List Int) (w : World) (h : RdC w v zs) : Calls Try.prog 4 #[v] w (DrawnSt w) := by
  have hb0 : Below w.heap.size w (w.alloc (.cells #[.slice none 0 0, .slice none 0 0] 26)) := (Below.refl _ _).alloc (Nat.le_refl _) _
  have H := Lib.hid (And.intro ((RdBC.below h hb0).rd (by simp)) (And.intro hb0 (Blk.new w #[.slice none 0 0, .slice none 0 0] 26))); clear h hb0
  go_enter Try.func4, Try.ntmps4
  go_wp2_with fail
  refine (l20Open_any v zs _ H.out.1).mono ?_
  rintro e w1 ⟨g, bs, rfl, hr, hg, hb⟩
  have hz1 : w.heap.size + 1 ≤ w1.heap.size := by have := hb.size; simpa using this
  simp only [World.size_alloc] at hg
  have hgl := hr.lt
  have X := Lib.hid (And.intro (RS.refl hr) (And.intro (H.out.2.1.trans (hb.mono (by simp))) (H.out.2.2.below hb (by simp)))); clear hr hb H
  go_wp2_with fail
  refine (state_anyR w1 g 0 bs _ X.out.1 (by omega)).mono ?_
  rintro e w2 ⟨A, c, zp, B, d, zss, p2, m, rfl, ho, hl, hu, hul, _, hr2, hp2, hg2, hne⟩
  have hz2 := hg2.size
  have Z := Lib.hid (And.intro (X.out.2.1.trans (hg2.below (B := w.heap.size) (by omega) (by omega))) (And.intro (blkApart X.out.2.2 hg2 (by omega)) (And.intro ho hu))); clear hr2 hg2 ho hu X
  obtain ⟨r0, r1, r2, r3⟩ := Blk.two Z.out.2.1
  go_wp2
  obtain ⟨c0, c1⟩ := Blk.two_out Z.out.2.1 (x := .slice A zp.length c) (y := .slice B zss.length d)
  refine bodyPost_ret (v := .agg #[.slice A zp.length c, .slice B zss.length d]) (by simp [results, Try.results4, go_sem, c0, c1]) rfl ?_
  exact st_end Z.out.1 Z.out.2.2.1 hl Z.out.2.2.2 (by omega) hz1 hz1
set_option maxHeartbeats 1000000 in
theorem sameState9 (v0 v1 u0 u1 : Value) (r : List Int) (s : List (List Int)) (w : World) (h0 : RdI w v0 r) (h1 : RdS w v1 s) (h2 : RdI w u0 r) (h3 : RdS w u1 s) :
    Calls Try.prog 7 #[.agg #[v0, v1], .agg #[u0, u1]] w fun e w' => e = .returned (.bool true) ∧ Below w.heap.size w w' := by
  obtain ⟨W, hW⟩ : ∃ W, (w.alloc (.cells #[v0, v1] 26)).alloc (.cells #[u0, u1] 26) = W := ⟨_, rfl⟩
  have hb : Below w.heap.size w W := by rw [← hW]; exact ((Below.refl _ _).alloc (Nat.le_refl _) _).alloc (by simp) _
  have hz : W.heap.size = w.heap.size + 2 := by rw [← hW]; simp
  have k2 : Blk W (w.heap.size + 1) #[u0, u1] 26 := by rw [← hW]; exact Blk.newI _ _ _ _ (by simp)
  have k1 : Blk W w.heap.size #[v0, v1] 26 := by rw [← hW]; exact Blk.keepI (Blk.newI _ _ _ _ rfl)
  have S := Lib.hid (And.intro (h0.step hb) (And.intro (RdS.step h1 hb) (And.intro (h2.step hb) (And.intro (RdS.step h3 hb) (And.intro hb (And.intro k1 k2))))))
  obtain ⟨A0, c0, rfl, _⟩ := id h0
  obtain ⟨A1, c1, rfl, _⟩ := id h1
  obtain ⟨A2, c2, rfl, _⟩ := id h2
  obtain ⟨A3, c3, rfl, _⟩ := id h3
  clear h0 h1 h2 h3 hb k1 k2
  obtain ⟨g0, g1, _, _⟩ := Blk.two S.out.2.2.2.2.2.1
  obtain ⟨e0, e1, _, _⟩ := Blk.two S.out.2.2.2.2.2.2
  go_enter Try.func7, Try.ntmps7
  go_wp2_with fail
  try rw [hW]
  refine (smI _ _ r r _ S.out.1 S.out.2.2.1 true (by simp)).mono ?_
  rintro e w2 ⟨rfl, hb⟩
  have hz2 := hb.size
  have g1' := (hb.cell (p := ⟨w.heap.size, 1, none⟩) (show w.heap.size < W.heap.size by omega)).trans g1
  have e1' := (hb.cell (p := ⟨w.heap.size + 1, 1, none⟩) (show w.heap.size + 1 < W.heap.size by omega)).trans e1
  have T := Lib.hid (And.intro (RdS.step S.out.2.1 hb) (And.intro (RdS.step S.out.2.2.2.1 hb) (S.out.2.2.2.2.1.trans (hb.mono (by omega))))); clear hb S g0 g1 e0 e1
  go_wp2_with fail
  refine (smS _ _ s s _ T.out.1 T.out.2.1 true (by simp)).mono ?_
  rintro e w3 ⟨rfl, hb⟩
  have U := Lib.hid (T.out.2.2.trans (hb.mono (by omega))); clear hb T
  go_wp2
  go_ret
  exact ⟨rfl, U.out⟩
end Go.Proofs.Ytenaeiedoiepdaa
