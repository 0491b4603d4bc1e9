/- The mover of chapter 7: places that are there, and those put aside, behind a pointer. -/
import Derived.Test.YtkdpfiaegimnlaaJa
import Derived.Test.YtkdpfiaegimnlaaRn
namespace Go.Proofs.Ytkdpfiaegimnlaa
set_option maxRecDepth 100000
open Go.RowKit Go.WideShapes

def blkO (o : Nat) (v u : Value) : Array Value := match o with | 0 => #[v, u] | _ => #[u, v]
/-- The mover behind g, seen from its row at offset o (0: there, 1: aside): that row, and the other one; the upper ones first. -/
structure MovO (w : World) (lo g o : Nat) (v u : Value) (t a : List Int) : Prop where
  blk : Blk w g (blkO o v u) 90
  ge : lo ≤ g
  here : w.ownsRow lo 3 1 v t.length (t.reverse.map (Value.int .i64))
  other : w.ownsRow lo 3 1 u a.length (a.reverse.map (Value.int .i64))
  wt : ∀ z ∈ t, InK .i64 z
  wa : ∀ z ∈ a, InK .i64 z
  ne : ∀ k, v.ownBlock = some k → u.ownBlock ≠ some k
theorem MovO.turn {w : World} {lo g o : Nat} {v u : Value} {t a : List Int} (h : MovO w lo g o v u t a) (ho : o = 0 ∨ o = 1) : MovO w lo g (1 - o) u v a t := by
  refine ⟨?_, h.ge, h.other, h.here, h.wa, h.wt, fun k hk hv => h.ne k hv hk⟩
  rcases ho with rfl | rfl <;> exact h.blk
theorem MovO.lo {w : World} {lo g o : Nat} {v u : Value} {t a : List Int} (h : MovO w lo g o v u t a) : lo ≤ w.heap.size := Nat.le_of_lt (Nat.lt_of_le_of_lt h.ge h.blk.lt)
theorem MovO.step {w w' : World} {lo g o : Nat} {v u : Value} {t a : List Int} (h : MovO w lo g o v u t a) (hb : Below w.heap.size w w') : MovO w' lo g o v u t a :=
  ⟨h.blk.below hb h.blk.lt, h.ge, ownsRow_keep h.here fun k hk => hb.block k (h.here.lt k hk).2, ownsRow_keep h.other fun k hk => hb.block k (h.other.lt k hk).2, h.wt, h.wa, h.ne⟩
def MovP (lo g o : Nat) (t a : List Int) (w w' : World) : Prop := (∃ v u, MovO w' lo g o v u t a) ∧ Below lo w w'

set_option maxHeartbeats 1000000 in
theorem pushM (lo g o : Nat) (v u : Value) (t a : List Int) (z : Int) (w : World) (h : MovO w lo g o v u t a) (ho : o = 0 ∨ o = 1) (hz : InK .i64 z) (hl : t.length ≤ 900000000) :
    Calls Try.prog 113 #[.pointer (some ⟨g, o, none⟩), .int .i64 z] w fun e w' => e = .returned (.tuple #[]) ∧ MovP lo g o (z :: t) a w w' := by
  have hlo := h.lo
  have hg := h.blk.lt
  have hge := h.ge
  have c1 : w.cell? ⟨g, o, none⟩ = some v := by rcases ho with rfl | rfl <;> exact h.blk.cell _
  have H := Lib.hid h
  have HZ := Lib.hid hz
  have Hn : Hid ((w.alloc (.cells #[.int .i64 z] 3)).cell? ⟨w.heap.size, 0, none⟩ = some (.int .i64 z)) := Lib.hid ((Blk.new w _ _).cell 0)
  have HO := Lib.hid ho
  clear h hz ho
  go_enter Try.func113, Try.ntmps113
  go_wp2_with (at_builtin; refine wpList_append_one rfl (.tmp 8) (.tmp 10) _ rfl lo 3 _ 8 Try.underlying25 intInfo (by omega) rfl _ t.length (t.reverse.map (Value.int .i64)) rfl (H.out.here.alloc _) w.heap.size 1 (.int .i64 z) rfl Hn.out rfl (by omega) (by simp; omega) ?_)
  intro v2 w2 hrow2 hg2 hown
  obtain ⟨g2, cap2, rfl⟩ := ownsRow_succ hrow2
  have hvne := ownsRow_ne H.out.here H.out.blk (by decide)
  have hune := ownsRow_ne H.out.other H.out.blk (by decide)
  have hsz2 : w.heap.size + 1 ≤ w2.heap.size := by have := hg2.size; simpa using this
  have hbk : ∀ k, k < w.heap.size → some k ≠ v.ownBlock → w2.heap[k]? = w.heap[k]? := fun k hk hne => (hg2.block k (by simp; omega) hne).trans (Below.heap_alloc _ _ _ hk)
  have hblk2 : Blk w2 g (blkO o v u) 90 := (hbk g hg (fun e => hvne e.symm)).trans H.out.blk
  have c2 : w2.cell? ⟨g, o, none⟩ = some v := by rcases HO.out with rfl | rfl <;> exact hblk2.cell _
  have f2 := hblk2.free o
  have X : Hid (MovP lo g o (z :: t) a w (w2.setCell ⟨g, o, none⟩ (.slice (some ⟨g2, 0, none⟩) (t.length + 1) cap2))) := Lib.hid (by
    have hnb : Blk (w2.setCell ⟨g, o, none⟩ (.slice (some ⟨g2, 0, none⟩) (t.length + 1) cap2)) g (blkO o (.slice (some ⟨g2, 0, none⟩) (t.length + 1) cap2) u) 90 := by
      rcases HO.out with rfl | rfl <;> exact hblk2.set _ _
    have hk3 : ∀ k, k < w.heap.size → k ≠ g → some k ≠ v.ownBlock → (w2.setCell ⟨g, o, none⟩ (.slice (some ⟨g2, 0, none⟩) (t.length + 1) cap2)).heap[k]? = w.heap[k]? := fun k hk hne hne2 => (Below.heap_setCell _ _ _ _ (by simpa using hne)).trans (hbk k hk hne2)
    have hB : Below lo w (w2.setCell ⟨g, o, none⟩ (.slice (some ⟨g2, 0, none⟩) (t.length + 1) cap2)) := (((Below.refl lo w).alloc hlo _).grown hg2 (by simp; omega) (fun k hk => (H.out.here.lt k hk).1)).setCell (by simpa using hge) _
    refine ⟨⟨_, u, hnb, hge, ?_, ?_, fun y hy => ?_, H.out.wa, ?_⟩, hB⟩
    · refine ownsRow_keep (by simpa using hrow2) fun k hk => Below.heap_setCell _ _ _ _ ?_
      have h2 := ownsRow_ne hrow2 hblk2 (by decide)
      simp only
      exact fun e => h2 (by rw [hk, e])
    · refine ownsRow_keep H.out.other fun k hk => hk3 k (H.out.other.lt k hk).2 (fun e => hune (by rw [hk, e])) (fun e => H.out.ne k e.symm hk)
    · rcases List.mem_cons.1 hy with rfl | hy
      · exact HZ.out
      · exact H.out.wt y hy
    · intro k hk hu
      rcases hown with h1 | h1
      · rw [h1] at hk; exact H.out.ne k hk hu
      · rw [h1] at hk
        have := (H.out.other.lt k hu).2
        simp at hk; omega)
  clear hrow2 hg2 hown hbk hblk2 hvne hune
  go_wp2
  go_end0
  exact ⟨rfl, X.out⟩

set_option maxHeartbeats 1000000 in
theorem popM (lo g o : Nat) (v u : Value) (z : Int) (t a : List Int) (w : World) (h : MovO w lo g o v u (z :: t) a) (ho : o = 0 ∨ o = 1) (hl : t.length ≤ 900000000) :
    Calls Try.prog 115 #[.pointer (some ⟨g, o, none⟩)] w fun e w' => e = .returned (.tuple #[.int .i64 z, .bool true]) ∧ MovP lo g o t a w w' := by
  have hg := h.blk.lt
  have hge := h.ge
  obtain ⟨g2, cap2, rfl⟩ := ownsRow_succ h.here
  have hcell := h.here.cellAt t.length (by simp)
  have hcap := ownsRow_cap h.here
  have hu : ((z :: t).reverse.map (Value.int .i64))[t.length]? = some (.int .i64 z) := by
    rw [List.reverse_cons, List.map_append, List.getElem?_append_right (by simp)]; simp
  rw [hu] at hcell
  have c1 : w.cell? ⟨g, o, none⟩ = some (.slice (some ⟨g2, 0, none⟩) (t.length + 1) cap2) := by rcases ho with rfl | rfl <;> exact h.blk.cell _
  have f1 := h.blk.free o
  have X : Hid (MovP lo g o t a w (w.setCell ⟨g, o, none⟩ (.slice (some ⟨g2, 0, none⟩) t.length cap2))) := Lib.hid (by
    have hnb : Blk (w.setCell ⟨g, o, none⟩ (.slice (some ⟨g2, 0, none⟩) t.length cap2)) g (blkO o (.slice (some ⟨g2, 0, none⟩) t.length cap2) u) 90 := by
      rcases ho with rfl | rfl <;> exact h.blk.set _ _
    have hk3 : ∀ k, k < w.heap.size → k ≠ g → (w.setCell ⟨g, o, none⟩ (.slice (some ⟨g2, 0, none⟩) t.length cap2)).heap[k]? = w.heap[k]? := fun k hk hne => Below.heap_setCell _ _ _ _ (by simpa using hne)
    have hB : Below lo w (w.setCell ⟨g, o, none⟩ (.slice (some ⟨g2, 0, none⟩) t.length cap2)) := (Below.refl lo w).setCell (by simpa using hge) _
    refine ⟨⟨_, u, hnb, hge, ?_, ?_, fun y hy => h.wt y (by simp [hy]), h.wa, fun k hk => h.ne k hk⟩, hB⟩
    · have htk : ((z :: t).reverse.map (Value.int .i64)).take t.length = t.reverse.map (Value.int .i64) := by
        rw [List.reverse_cons, List.map_append, List.take_append_of_le_length (by simp), List.take_of_length_le (by simp)]
      have h3 := ownsRow_take h.here t.length (by simp)
      rw [htk] at h3
      refine ownsRow_keep h3 fun k hk => hk3 k ?_ (fun e => ?_)
      · exact (h.here.lt k hk).2
      · exact ownsRow_ne h.here h.blk (by decide) (by rw [← e]; exact hk)
    · refine ownsRow_keep h.other fun k hk => hk3 k (h.other.lt k hk).2 (fun e => ?_)
      exact ownsRow_ne h.other h.blk (by decide) (by rw [hk, e]))
  have hn1 : ((t.length + 1 : Nat) : Int) - 1 = t.length := by omega
  clear h hu ho
  go_enter Try.func115, Try.ntmps115
  go_wp2
  go_ret2
  exact ⟨rfl, X.out⟩
theorem popM_none (lo g o : Nat) (v u : Value) (a : List Int) (w : World) (h : MovO w lo g o v u [] a) (ho : o = 0 ∨ o = 1) :
    Calls Try.prog 115 #[.pointer (some ⟨g, o, none⟩)] w fun e w' => e = .returned (.tuple #[.int .i64 0, .bool false]) ∧ w = w' := by
  have hg := h.blk.lt
  have c1 : w.cell? ⟨g, o, none⟩ = some v := by rcases ho with rfl | rfl <;> exact h.blk.cell _
  obtain ⟨A, c, rfl⟩ : ∃ A c, v = .slice A 0 c := by
    rcases h.here.2 with ⟨rfl, _⟩ | ⟨g', cap, cur, rfl, _⟩
    · exact ⟨_, _, rfl⟩
    · exact ⟨_, _, rfl⟩
  clear h ho
  go_enter Try.func115, Try.ntmps115
  go_wp2
  go_ret2
  exact ⟨rfl, rfl⟩

/-- The mover, seen from what is there. -/
def Mov (w : World) (lo g : Nat) (t a : List Int) : Prop := ∃ v u, MovO w lo g 0 v u t a
theorem Mov.step {w w' : World} {lo g : Nat} {t a : List Int} (h : Mov w lo g t a) (hb : Below w.heap.size w w') : Mov w' lo g t a := by
  obtain ⟨v, u, h⟩ := h; exact ⟨v, u, h.step hb⟩
theorem Mov.lt {w : World} {lo g : Nat} {t a : List Int} (h : Mov w lo g t a) : g < w.heap.size := by
  obtain ⟨v, u, h⟩ := h; exact h.blk.lt
theorem Mov.lo {w : World} {lo g : Nat} {t a : List Int} (h : Mov w lo g t a) : lo ≤ w.heap.size := by
  obtain ⟨v, u, h⟩ := h; exact h.lo
theorem InK_zero : InK .i64 0 := wf_small 0 (by omega)
theorem dupM (lo g : Nat) (t a : List Int) (w : World) (h : Mov w lo g t a) (hl : t.length ≤ 800000000) (r : Option (List Int × List Int)) (hr : mvStep 1001 t a = r) :
    Calls Try.prog 114 #[.pointer (some ⟨g, 0, none⟩)] w fun e w' => e = .returned (.bool r.isSome) ∧ (∀ x, r = some x → Mov w' lo g x.1 x.2) ∧ Below lo w w' := by
  obtain ⟨v, u, h⟩ := h
  have hg := h.blk.lt
  have HR := Lib.hid hr; clear hr
  cases t with
  | nil =>
    have H := Lib.hid h; clear h
    obtain rfl : none = r := by rw [← HR.out]; rfl
    go_enter Try.func114, Try.ntmps114
    go_wp2_with fail
    refine (popM_none lo g 0 v u a w H.out (.inl rfl)).mono ?_
    rintro e w' ⟨rfl, rfl⟩
    go_wp2_with fail
    refine (pushM lo g 0 v u [] a 0 w H.out (.inl rfl) InK_zero (by simp)).mono ?_
    rintro e w1 ⟨rfl, ⟨v1, u1, h1⟩, hb1⟩
    have H1 := Lib.hid (And.intro h1 hb1)
    have hg1 := h1.blk.lt
    clear h1 hb1
    go_wp2_with fail
    refine (pushM lo g 0 v1 u1 [0] a 0 w1 H1.out.1 (.inl rfl) InK_zero (by simp)).mono ?_
    rintro e w2 ⟨rfl, _, hb2⟩
    have H2 := Lib.hid (H1.out.2.trans hb2); clear hb2
    go_wp2
    go_ret
    exact ⟨rfl, fun x hx => (by cases hx), H2.out⟩
  | cons z t =>
    have hz := h.wt z (by simp)
    have H := Lib.hid (And.intro h hz); clear h hz
    obtain rfl : some (z :: z :: t, a) = r := by rw [← HR.out]; rfl
    simp only [List.length_cons] at hl
    go_enter Try.func114, Try.ntmps114
    go_wp2_with fail
    refine (popM lo g 0 v u z t a w H.out.1 (.inl rfl) (by omega)).mono ?_
    rintro e w0 ⟨rfl, ⟨v0, u0, h0⟩, hb0⟩
    have H0 := Lib.hid (And.intro h0 hb0)
    have hg0 := h0.blk.lt
    clear h0 hb0
    go_wp2_with fail
    refine (pushM lo g 0 v0 u0 t a z w0 H0.out.1 (.inl rfl) H.out.2 (by omega)).mono ?_
    rintro e w1 ⟨rfl, ⟨v1, u1, h1⟩, hb1⟩
    have H1 := Lib.hid (And.intro h1 (H0.out.2.trans hb1))
    have hg1 := h1.blk.lt
    clear h1 hb1
    go_wp2_with fail
    refine (pushM lo g 0 v1 u1 (z :: t) a z w1 H1.out.1 (.inl rfl) H.out.2 (by simp; omega)).mono ?_
    rintro e w2 ⟨rfl, h2, hb2⟩
    have H2 := Lib.hid (And.intro h2 (H1.out.2.trans hb2)); clear h2 hb2
    go_wp2
    go_ret
    exact ⟨rfl, fun x hx => by cases hx; exact H2.out.1, H2.out.2⟩
theorem swapM (lo g : Nat) (t a : List Int) (w : World) (h : Mov w lo g t a) (hl : t.length ≤ 800000000) (r : Option (List Int × List Int)) (hr : mvStep 1003 t a = r) :
    Calls Try.prog 116 #[.pointer (some ⟨g, 0, none⟩)] w fun e w' => e = .returned (.bool r.isSome) ∧ (∀ x, r = some x → Mov w' lo g x.1 x.2) ∧ Below lo w w' := by
  obtain ⟨v, u, h⟩ := h
  have hg := h.blk.lt
  have HR := Lib.hid hr; clear hr
  rcases t with _ | ⟨z, _ | ⟨y, t⟩⟩
  · have H := Lib.hid h; clear h
    obtain rfl : none = r := by rw [← HR.out]; rfl
    go_enter Try.func116, Try.ntmps116
    go_wp2_with fail
    refine (popM_none lo g 0 v u a w H.out (.inl rfl)).mono ?_
    rintro e w' ⟨rfl, rfl⟩
    go_wp2_with fail
    refine (popM_none lo g 0 v u a w H.out (.inl rfl)).mono ?_
    rintro e w' ⟨rfl, rfl⟩
    go_wp2_with fail
    refine (pushM lo g 0 v u [] a 0 w H.out (.inl rfl) InK_zero (by simp)).mono ?_
    rintro e w1 ⟨rfl, ⟨v1, u1, h1⟩, hb1⟩
    have H1 := Lib.hid (And.intro h1 hb1)
    have hg1 := h1.blk.lt
    clear h1 hb1
    go_wp2_with fail
    refine (pushM lo g 0 v1 u1 [0] a 0 w1 H1.out.1 (.inl rfl) InK_zero (by simp)).mono ?_
    rintro e w2 ⟨rfl, _, hb2⟩
    have H2 := Lib.hid (H1.out.2.trans hb2); clear hb2
    go_wp2
    go_ret
    exact ⟨rfl, fun x hx => (by cases hx), H2.out⟩
  · have hz := h.wt z (by simp)
    have H := Lib.hid (And.intro h hz); clear h hz
    obtain rfl : none = r := by rw [← HR.out]; rfl
    go_enter Try.func116, Try.ntmps116
    go_wp2_with fail
    refine (popM lo g 0 v u z [] a w H.out.1 (.inl rfl) (by simp)).mono ?_
    rintro e w0 ⟨rfl, ⟨v0, u0, h0⟩, hb0⟩
    have H0 := Lib.hid (And.intro h0 hb0)
    have hg0 := h0.blk.lt
    clear h0 hb0
    go_wp2_with fail
    refine (popM_none lo g 0 v0 u0 a w0 H0.out.1 (.inl rfl)).mono ?_
    rintro e w' ⟨rfl, rfl⟩
    go_wp2_with fail
    refine (pushM lo g 0 v0 u0 [] a z w0 H0.out.1 (.inl rfl) H.out.2 (by simp)).mono ?_
    rintro e w1 ⟨rfl, ⟨v1, u1, h1⟩, hb1⟩
    have H1 := Lib.hid (And.intro h1 (H0.out.2.trans hb1))
    have hg1 := h1.blk.lt
    clear h1 hb1
    go_wp2_with fail
    refine (pushM lo g 0 v1 u1 [z] a 0 w1 H1.out.1 (.inl rfl) InK_zero (by simp)).mono ?_
    rintro e w2 ⟨rfl, _, hb2⟩
    have H2 := Lib.hid (H1.out.2.trans hb2); clear hb2
    go_wp2
    go_ret
    exact ⟨rfl, fun x hx => (by cases hx), H2.out⟩
  · have hz := h.wt z (by simp)
    have hy := h.wt y (by simp)
    have H := Lib.hid (And.intro h (And.intro hz hy)); clear h hz hy
    obtain rfl : some (y :: z :: t, a) = r := by rw [← HR.out]; rfl
    simp only [List.length_cons] at hl
    go_enter Try.func116, Try.ntmps116
    go_wp2_with fail
    refine (popM lo g 0 v u z (y :: t) a w H.out.1 (.inl rfl) (by simp; omega)).mono ?_
    rintro e w0 ⟨rfl, ⟨v0, u0, h0⟩, hb0⟩
    have H0 := Lib.hid (And.intro h0 hb0)
    have hg0 := h0.blk.lt
    clear h0 hb0
    go_wp2_with fail
    refine (popM lo g 0 v0 u0 y t a w0 H0.out.1 (.inl rfl) (by omega)).mono ?_
    rintro e w9 ⟨rfl, ⟨v9, u9, h9⟩, hb9⟩
    have H9 := Lib.hid (And.intro h9 (H0.out.2.trans hb9))
    have hg9 := h9.blk.lt
    clear h9 hb9
    go_wp2_with fail
    refine (pushM lo g 0 v9 u9 t a z w9 H9.out.1 (.inl rfl) H.out.2.1 (by omega)).mono ?_
    rintro e w1 ⟨rfl, ⟨v1, u1, h1⟩, hb1⟩
    have H1 := Lib.hid (And.intro h1 (H9.out.2.trans hb1))
    have hg1 := h1.blk.lt
    clear h1 hb1
    go_wp2_with fail
    refine (pushM lo g 0 v1 u1 (z :: t) a y w1 H1.out.1 (.inl rfl) H.out.2.2 (by simp; omega)).mono ?_
    rintro e w2 ⟨rfl, h2, hb2⟩
    have H2 := Lib.hid (And.intro h2 (H1.out.2.trans hb2)); clear h2 hb2
    go_wp2
    go_ret
    exact ⟨rfl, fun x hx => by cases hx; exact H2.out.1, H2.out.2⟩
theorem carryM (lo g o : Nat) (v u : Value) (t a : List Int) (w : World) (h : MovO w lo g o v u t a) (ho : o = 0 ∨ o = 1) (hl : t.length + a.length ≤ 800000000) :
    Calls Try.prog 117 #[.pointer (some ⟨g, o, none⟩), .pointer (some ⟨g, 1 - o, none⟩)] w fun e w' => e = .returned (.bool (decide (0 < t.length))) ∧ (∀ z r, t = z :: r → ∃ v u, MovO w' lo g o v u r (z :: a)) ∧ Below lo w w' := by
  have hg := h.blk.lt
  have ho' : 1 - o = 0 ∨ 1 - o = 1 := by omega
  have hoo : 1 - (1 - o) = o := by omega
  have HO := Lib.hid (And.intro ho (And.intro ho' hoo)); clear ho ho' hoo
  cases t with
  | nil =>
    have H := Lib.hid h; clear h
    generalize hq : 1 - o = q at *
    have HQ := Lib.hid hq; clear hq
    go_enter Try.func117, Try.ntmps117
    go_wp2_with fail
    refine (popM_none lo g o v u a w H.out HO.out.1).mono ?_
    rintro e w' ⟨rfl, rfl⟩
    go_wp2_with fail
    refine (pushM lo g q u v a [] 0 w (by have := H.out.turn HO.out.1; rw [HQ.out] at this; exact this) HO.out.2.1 InK_zero (by simp at hl; omega)).mono ?_
    rintro e w1 ⟨rfl, _, hb1⟩
    have H1 := Lib.hid hb1; clear hb1
    go_wp2
    go_ret
    exact ⟨rfl, fun z r hx => (by cases hx), H1.out⟩
  | cons z t =>
    have hz := h.wt z (by simp)
    have H := Lib.hid (And.intro h hz); clear h hz
    simp only [List.length_cons] at hl
    generalize hq : 1 - o = q at *
    have HQ := Lib.hid hq; clear hq
    go_enter Try.func117, Try.ntmps117
    go_wp2_with fail
    refine (popM lo g o v u z t a w H.out.1 HO.out.1 (by omega)).mono ?_
    rintro e w0 ⟨rfl, ⟨v0, u0, h0⟩, hb0⟩
    have H0 := Lib.hid (And.intro h0 hb0)
    have hg0 := h0.blk.lt
    clear h0 hb0
    go_wp2_with fail
    refine (pushM lo g q u0 v0 a t z w0 (by have := H0.out.1.turn HO.out.1; rw [HQ.out] at this; exact this) HO.out.2.1 H.out.2 (by omega)).mono ?_
    rintro e w1 ⟨rfl, ⟨v1, u1, h1⟩, hb1⟩
    have H1 := Lib.hid (And.intro h1 (H0.out.2.trans hb1)); clear h1 hb1
    go_wp2
    go_ret
    refine ⟨by simp, fun z' r hx => ?_, H1.out.2⟩
    cases hx
    have h3 := H1.out.1.turn HO.out.2.1
    rw [HO.out.2.2] at h3
    exact ⟨_, _, h3⟩
end Go.Proofs.Ytkdpfiaegimnlaa
