/- Chapter 8: appends to literals in a region that draws its order; triples compared. -/
import Derived.Test.YtpdhdiidkjgjmaaGreatRp
import Derived.Test.YtpdhdiidkjgjmaaGreatRo
import Derived.Test.YtpdhdiidkjgjmaaGreatOg
namespace Go.Proofs.YtpdhdiidkjgjmaaGreat
set_option maxRecDepth 100000
open Go.RowKit Go.WideShapes Go.Deep

theorem Blk.apart9 {w w' : World} {g lo hi : Nat} {cs : Array Value} {T : TypeId} (h : Blk w g cs T) (hw : Within lo hi w w') (hd : g < lo ∨ hi ≤ g) : Blk w' g cs T := (hw.block g h.lt (by omega)).trans h
theorem Blk.drewn {w : World} {g : Nat} {cs : Array Value} {T : TypeId} (h : Blk w g cs T) : Blk w.drew g cs T := h
theorem Blk.keep {w : World} {g : Nat} {cs : Array Value} {T : TypeId} {cs2 : Array Value} {T2 : TypeId} (h : Blk w g cs T) : Blk (w.alloc (.cells cs2 T2)) g cs T := by
  have hl := h.lt
  unfold Blk at h ⊢
  rw [← h]
  exact ((Below.refl w.heap.size w).alloc (Nat.le_refl _) (.cells cs2 T2)).block g hl
theorem Blk.new2 (w : World) (g : Nat) (cs : Array Value) (T : TypeId) (h : g = w.heap.size) : Blk (w.alloc (.cells cs T)) g cs T := by subst h; exact Blk.new w cs T
theorem own_of_blk {w : World} {g : Nat} {zs : List Int} (h : Blk w g (zs.map (Value.int .i64)).toArray 3) (hn : zs.length ≤ 1000) (hw : ∀ z ∈ zs, InK .i64 z) : OwnI w g (g + 1) (.slice (some ⟨g, 0, none⟩) zs.length zs.length) zs := by
  refine ⟨⟨⟨by simp, .inr ⟨g, zs.length, _, rfl, Nat.le_refl _, h, Nat.le_refl _, by unfold maxLen; omega, by simp, ?_⟩⟩, hw⟩, fun k hk => by simp [Value.ownBlock] at hk; omega⟩
  rw [List.take_of_length_le (by simp)]
theorem rd_blk2 {w : World} {g : Nat} {x y : Int} (h : Blk w g #[.int .i64 x, .int .i64 y] 3) (hx : InK .i64 x) (hy : InK .i64 y) : RdI w (.slice (some ⟨g, 0, none⟩) 2 2) [x, y] :=
  (own_of_blk (zs := [x, y]) h (by simp) (by intro z hz; simp only [List.mem_cons, List.not_mem_nil, or_false] at hz; rcases hz with rfl | rfl <;> assumption)).rd
theorem rd_blk1 {w : World} {g : Nat} {x : Int} (h : Blk w g #[.int .i64 x] 3) (hx : InK .i64 x) : RdI w (.slice (some ⟨g, 0, none⟩) 1 1) [x] :=
  (own_of_blk (zs := [x]) h (by simp) (by intro z hz; simp only [List.mem_cons, List.not_mem_nil, or_false] at hz; subst hz; assumption)).rd
theorem step_append_N {P : Program} {w : World} {ops : Array Oper} {o : Oper} {a : Act} {K : Act → World → Prop} {Q : Exit → Act → World → Prop} {E : Prop} (hgd : o.guard = none) (s x : Operand) (t : TypeId)
    (ho : o.op = .call { callee := .builtin .append, args := #[s, x], argTypes := #[t, t] })
    (ht : P.underlying t = some (.slice 3)) (hinfo : (P.info? 3).map (fun i => (i.zero, i.size, i.bytes)) = some (some (.int .i64 0), 1, 8))
    (g : Nat) (hs : a.eval s = .slice (some ⟨g, 0, none⟩) 0 0) (hblk : Blk w g #[] 3)
    (u : Value) (ys : List Int) (hx : a.eval x = u) (hr : RdI w u ys) (hlen : ys.length ≤ 900000000)
    (h : ∀ v' w', OwnI w' g w'.heap.size v' ys → Within g (g + 1) w w' → K (a.put o.dst v') w') : if Region.wanted o (yielded ops a.tmps) = true then Oper.wp P o a w K Q else E := by
  have ho0 := own_of_blk (zs := []) hblk (by simp) (by simp)
  have hg := hblk.lt
  refine step_append_W8 hgd s x t ho ht hinfo g (g + 1) _ [] hs ho0 (by omega) u ys hx hr (by simp; omega) ?_
  intro v' w' h1 h2
  exact h v' w' (by simpa using h1) h2
theorem opAt_found {ms : List (Int × Int × Int)} {op : Int × Int × Int} {a : Nat} (h : opAt ms op = a) (hl : a < ms.length) : ms[a]? = some op := by
  subst h
  unfold opAt at hl ⊢
  rw [List.getElem?_eq_getElem hl]
  have := List.getElem_idxOf (x := op) (xs := ms) hl
  rw [this]
theorem opAt_before {ms : List (Int × Int × Int)} {op m : Int × Int × Int} {a : Nat} (h : a < opAt ms op) (hm : ms[a]? = some m) : m ≠ op := by
  intro e
  subst e
  have h1 : ms[a]'(by have := opAt_le ms m; omega) = m := by
    have h2 := hm
    rw [List.getElem?_eq_getElem (by have := opAt_le ms m; omega)] at h2
    exact Option.some.inj h2
  have h3 := List.not_of_lt_findIdx (p := fun x => x == m) (xs := ms) (i := a) (by unfold opAt List.idxOf at h; exact h)
  rw [h1] at h3
  simp at h3
theorem step_append_op {P : Program} {w : World} {ops : Array Oper} {o : Oper} {a : Act} {K : Act → World → Prop} {Q : Exit → Act → World → Prop} {E : Prop} (hgd : o.guard = none) (s x : Operand) (t : TypeId)
    (ho : o.op = .call { callee := .builtin .append, args := #[s, x], argTypes := #[t, t] }) (T : TypeId)
    (ht : P.underlying t = some (.slice T)) (hinfo : (P.info? T).map (fun i => (i.zero, i.size, i.bytes)) = some (some (.agg #[.int .i64 0, .int .i64 0, .int .i64 0]), 3, 24))
    (lo hi : Nat) (v : Value) (ms : List (Int × Int × Int)) (hs : a.eval s = v) (hown : Own3 T w lo hi v ms) (hlo : lo ≤ w.heap.size)
    (b : Nat) (z1 z2 z3 : Int) (hx : a.eval x = .slice (some ⟨b, 0, none⟩) 1 1) (hb : Blk w b #[.int .i64 z1, .int .i64 z2, .int .i64 z3] T) (hlen : ms.length ≤ 1000000000)
    (h : ∀ v' w', Own3 T w' lo w'.heap.size v' (ms ++ [(z1, z2, z3)]) → w.grownBy w' v.ownBlock → (v'.ownBlock = v.ownBlock ∨ v'.ownBlock = some w.heap.size) → K (a.put o.dst v') w') : if Region.wanted o (yielded ops a.tmps) = true then Oper.wp P o a w K Q else E := by
  rw [if_pos (by simp [Region.wanted, hgd])]
  obtain ⟨i, hi1, hz, hsz, hby⟩ := info_parts hinfo
  obtain ⟨h0, h1, h2, _, _, _⟩ := blkThree hb
  obtain ⟨v', w', hr1, k2, k3, _, k5⟩ := run_append_own_at (P := P) w lo t o.type T i (.agg #[.int .i64 0, .int .i64 0, .int .i64 0]) 3 24 ht hi1 hz hsz hby rfl (by omega) v ms.length _ hown.own ⟨b, 0, none⟩ 1 1 [.int .i64 z1, .int .i64 z2, .int .i64 z3] (by simp) (by
    intro j u hu
    rcases j with _ | _ | _ | j
    · simp at hu; subst hu; simpa [Addr.add] using h0
    · simp at hu; subst hu; simpa [Addr.add] using h1
    · simp at hu; subst hu; simpa [Addr.add] using h2
    · simp at hu) (by
    intro u hu
    simp at hu
    rcases hu with rfl | rfl | rfl <;> rfl) (by unfold maxLen; omega) (by omega) hlo
  unfold Oper.wp execOp
  simp only [ho, resolve, invoke, builtin, Sem.run_bind, Sem.run_pure, Result.andThen_ok, List.map_toArray, List.map_cons, List.map_nil, hs, hx, hr1]
  have hlen' : (ms ++ [(z1, z2, z3)]).length = ms.length + 1 := by simp
  refine h v' w' ⟨?_, fun g hg => (k2.lt g hg).2⟩ k3 k5
  rw [hlen', flat3_append, List.map_append]
  exact k2
theorem Own.setO {w : World} {lo g o : Nat} {v u : Value} {zs : List Int} (h : Own w lo v zs) (hg : g < lo) : Own (w.setCell ⟨g, o, none⟩ u) lo v zs := by
  refine ⟨ownsRow_keep h.own fun k hk => Below.heap_setCell _ _ _ _ ?_, h.wf⟩
  have := (h.ge k hk).1
  show k ≠ g
  omega
theorem Own3.setO {T : TypeId} {w : World} {lo hi g o : Nat} {v u : Value} {ms : List (Int × Int × Int)} (h : Own3 T w lo hi v ms) (hg : g < lo) : Own3 T (w.setCell ⟨g, o, none⟩ u) lo hi v ms :=
  h.apart (within_setCell w g o u) (.inr (by omega))
theorem RgS.three {w : World} {lo g : Nat} {t : Int} {ul v : Value} {ms : List (Int × Int × Int)} {row : List Int} (h : RgS w lo g t ul v ms row) : Own3 33 w lo w.heap.size ul ms := ⟨h.lst, fun g hg => (h.lst.lt g hg).2⟩
theorem RgS.listed {w w' : World} {lo g : Nat} {t : Int} {ul v u' : Value} {ms ms' : List (Int × Int × Int)} {row : List Int} (h : RgS w lo g t ul v ms row) (hlo : g + 1 = lo) (hg : w.grownBy w' ul.ownBlock) (hn : Own3 33 w' lo w'.heap.size u' ms') : RgS (w'.setCell ⟨g, 1, none⟩ u') lo g t u' v ms' row ∧ Below g w (w'.setCell ⟨g, 1, none⟩ u') := by
  have hb : Below g w w' := below_of_only hg (by have := h.blk.lt; omega) (fun k hk => by have := (h.lst.lt k hk).1; omega)
  have hb2 : Blk w' g #[.int .i64 t, ul, .slice none 0 0] 27 := (hg.block g h.blk.lt fun e => ownsRow_blk_ne h.lst h.blk (by decide) e.symm).trans h.blk
  have hr : Own w' lo v row := ⟨h.row.own.kept hg (by
    rcases ownsRow_ne8 h.row.own h.lst (by decide) with h1 | h1
    · exact .inl h1
    · exact .inr h1), h.row.wf⟩
  refine ⟨⟨hb2.set 1 u', (hn.setO (by omega)).own, hr.setO (by omega)⟩, hb.setCell (Nat.le_refl _) _⟩
end Go.Proofs.YtpdhdiidkjgjmaaGreat
