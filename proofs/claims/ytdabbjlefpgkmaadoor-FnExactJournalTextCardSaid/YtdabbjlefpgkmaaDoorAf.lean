/- Rows of deeds (structs of a number and a string): read, and of the call's own: kept, appended to; literals; what the reader gives of one. -/
import Derived.Test.YtdabbjlefpgkmaaDoorAe
import Derived.Test.YtdabbjlefpgkmaaDoorNb
import Derived.Maps.AppendAt
import Derived.Test.YtdabbjlefpgkmaaDoorB5
import Derived.Deep.Fields
import Derived.ChangeSame
namespace Go.Proofs.YtdabbjlefpgkmaaDoor
set_option maxRecDepth 100000
open Go.RowKit Go.WideShapes Go.ChangeShapes Go.Deep

abbrev Deeds := List (Int × List UInt8)
def flatD (ds : Deeds) : List Value := ds.flatMap fun d => [.int .i64 d.1, .string ⟨d.2.toArray⟩]
theorem flatD_cons (d : Int × List UInt8) (ds : Deeds) : flatD (d :: ds) = .int .i64 d.1 :: .string ⟨d.2.toArray⟩ :: flatD ds := rfl
theorem flatD_append (a b : Deeds) : flatD (a ++ b) = flatD a ++ flatD b := by simp [flatD]
theorem flatD_length (ds : Deeds) : (flatD ds).length = ds.length * 2 := by
  induction ds with
  | nil => rfl
  | cons m ds ih => rw [flatD_cons]; simp only [List.length_cons, ih]; omega
theorem flatD_get {ds : Deeds} {k : Nat} {d : Int × List UInt8} (h : ds[k]? = some d) : (flatD ds)[k * 2]? = some (.int .i64 d.1) ∧ (flatD ds)[k * 2 + 1]? = some (.string ⟨d.2.toArray⟩) := by
  induction ds generalizing k with
  | nil => simp at h
  | cons m ds ih =>
    rw [flatD_cons]
    rcases k with _ | k
    · simp at h; subst h; exact ⟨rfl, rfl⟩
    · simp at h
      have := ih h
      rw [show (k + 1) * 2 = k * 2 + 1 + 1 from by omega]
      simpa using this
def RdBD (w : World) (B : Nat) (v : Value) (ds : Deeds) : Prop := ∃ A c, v = .slice A ds.length c ∧ ds.length ≤ 9223372036854775807 ∧ (0 < ds.length → ∃ b off, A = some ⟨b, off, none⟩ ∧ b < B ∧ ∀ (j : Nat) d, ds[j]? = some d → w.cell? ⟨b, off + j * 2, none⟩ = some (.int .i64 d.1) ∧ w.cell? ⟨b, off + j * 2 + 1, none⟩ = some (.string ⟨d.2.toArray⟩))
abbrev RdD (w : World) (v : Value) (ds : Deeds) : Prop := RdBD w w.heap.size v ds
theorem RdBD.below {w w' : World} {B : Nat} {v : Value} {ds : Deeds} (h : RdBD w B v ds) (hb : Below B w w') : RdBD w' B v ds := by
  obtain ⟨A, c, rfl, hl, hr⟩ := h
  refine ⟨A, c, rfl, hl, fun h0 => ?_⟩
  obtain ⟨b, off, rfl, hlt, hc⟩ := hr h0
  exact ⟨b, off, rfl, hlt, fun j m hj => ⟨(hb.cell (p := ⟨b, off + j * 2, none⟩) hlt).trans (hc j m hj).1, (hb.cell (p := ⟨b, off + j * 2 + 1, none⟩) hlt).trans (hc j m hj).2⟩⟩
theorem RdBD.mono {w : World} {B B' : Nat} {v : Value} {ds : Deeds} (h : RdBD w B v ds) (hB : B ≤ B') : RdBD w B' v ds := by
  obtain ⟨A, c, rfl, hl, hr⟩ := h
  refine ⟨A, c, rfl, hl, fun h0 => ?_⟩
  obtain ⟨b, off, rfl, hlt, hc⟩ := hr h0
  exact ⟨b, off, rfl, by omega, hc⟩
theorem RdD.step {w w' : World} {v : Value} {ds : Deeds} (h : RdD w v ds) (hb : Below w.heap.size w w') : RdD w' v ds := RdBD.mono (RdBD.below h hb) hb.size

/-- A row of deeds of the call's own in the blocks from lo on and below hi. -/
structure OwnD (w : World) (lo hi : Nat) (v : Value) (ds : Deeds) : Prop where
  own : w.ownsRow lo 36 2 v ds.length (flatD ds)
  lt : ∀ g, v.ownBlock = some g → g < hi
section
variable {w w' : World} {lo hi : Nat} {v : Value} {ds : Deeds}
theorem OwnD.len_le (h : OwnD w lo hi v ds) : ds.length ≤ 9223372036854775807 := by
  rcases h.own.2 with ⟨_, h0⟩ | ⟨g, cap, cur, _, _, _, h1, h2, _⟩
  · omega
  · unfold maxLen at h2; omega
theorem OwnD.rd (h : OwnD w lo hi v ds) : RdD w v ds := by
  have hl := h.len_le
  rcases hx : h.own.2 with ⟨rfl, h0⟩ | ⟨g, cap, cur, rfl, hb, hh, h1, h2, _⟩
  · have hz : ds = [] := List.eq_nil_of_length_eq_zero h0
    subst hz
    exact ⟨none, 0, rfl, by simp, fun h => by simp at h⟩
  · refine ⟨_, _, rfl, hl, fun _ => ⟨g, 0, rfl, (h.own.lt g rfl).2, fun j m hj => ?_⟩⟩
    have hjl : j < ds.length := (List.getElem?_eq_some_iff.1 hj).1
    obtain ⟨e0, e1⟩ := flatD_get hj
    constructor
    · rw [Nat.zero_add, h.own.cellAt _ (by omega), e0]
    · rw [Nat.zero_add, h.own.cellAt _ (by omega), e1]
theorem OwnD.apart {lo' hi' : Nat} (h : OwnD w lo hi v ds) (hw : Within lo' hi' w w') (hd : hi ≤ lo' ∨ hi' ≤ lo) : OwnD w' lo hi v ds := by
  refine ⟨⟨h.own.1, ?_⟩, h.lt⟩
  rcases h.own.2 with h0 | ⟨g, cap, cur, rfl, hb, hh, h1⟩
  · exact .inl h0
  · have hg := h.lt g rfl
    exact .inr ⟨g, cap, cur, rfl, hb, (hw.block g (h.own.lt g rfl).2 (by omega)).trans hh, h1⟩
theorem OwnD.belowB {B : Nat} (h : OwnD w lo hi v ds) (hb : Below B w w') (hB : hi ≤ B) : OwnD w' lo hi v ds := by
  refine ⟨⟨h.own.1, ?_⟩, h.lt⟩
  rcases h.own.2 with h0 | ⟨g, cap, cur, rfl, hb', hh, h1⟩
  · exact .inl h0
  · have hg := h.lt g rfl
    exact .inr ⟨g, cap, cur, rfl, hb', (hb.block g (by omega)).trans hh, h1⟩
theorem OwnD.below (h : OwnD w lo hi v ds) (hb : Below w.heap.size w w') : OwnD w' lo hi v ds := by
  refine ⟨⟨h.own.1, ?_⟩, h.lt⟩
  rcases h.own.2 with h0 | ⟨g, cap, cur, rfl, hb', hh, h1⟩
  · exact .inl h0
  · exact .inr ⟨g, cap, cur, rfl, hb', (hb.block g (h.own.lt g rfl).2).trans hh, h1⟩
theorem OwnD.mono {lo' hi' : Nat} (h : OwnD w lo hi v ds) (hl : lo' ≤ lo) (hh : hi ≤ hi') : OwnD w lo' hi' v ds := by
  refine ⟨⟨h.own.1, ?_⟩, fun g hg => Nat.lt_of_lt_of_le (h.lt g hg) hh⟩
  rcases h.own.2 with h0 | ⟨g, cap, cur, rfl, hb', h1⟩
  · exact .inl h0
  · exact .inr ⟨g, cap, cur, rfl, by omega, h1⟩
theorem OwnD.nil (w : World) (lo hi : Nat) : OwnD w lo hi (.slice none 0 0) [] := ⟨World.ownsRow_nil _ _ _ _, by simp [Value.ownBlock]⟩
end
theorem OwnD.lits (w : World) (ds : Deeds) (hn : ds.length ≤ 1000) : OwnD (w.alloc (.cells (flatD ds).toArray 36)) w.heap.size (w.heap.size + 1) (.slice (some ⟨w.heap.size, 0, none⟩) ds.length ds.length) ds := by
  have h := World.ownsRow_lit (base := w.heap.size) (e := 36) (size := 2) w (flatD ds).toArray ds.length (Nat.le_refl _) (by unfold maxLen; omega) (by simp [flatD_length])
  exact ⟨by simpa using h, by simp [Value.ownBlock]⟩
theorem deedInfo : (Tryd.prog.info? 36).map (fun i => (i.zero, i.size, i.bytes)) = some (some (.agg #[.int .i64 0, .string ⟨#[]⟩]), 2, 24) := by kernel_rfl

/-- append(s, d) of a deed to a row of the call's own, the deed laid in a block of its own ahead. -/
theorem wpList_append_D {P : Program} {w : World} {ops : Array Oper} {rest : List Oper} {o : Oper} {a : Act} {Q : Exit → Act → World → Prop} (hgd : o.guard = none) (s x : Operand) (t : TypeId)
    (ho : o.op = .call { callee := .builtin .append, args := #[s, x], argTypes := #[t, t] })
    (ht : P.underlying t = some (.slice 36)) (hinfo : (P.info? 36).map (fun i => (i.zero, i.size, i.bytes)) = some (some (.agg #[.int .i64 0, .string ⟨#[]⟩]), 2, 24))
    (lo hi : Nat) (v : Value) (ds : Deeds) (hs : a.eval s = v) (hown : OwnD w lo hi v ds) (hlo : lo ≤ w.heap.size)
    (b : Nat) (z1 : Int) (u2 : Value) (z2 : List UInt8) (hx : a.eval x = .slice (some ⟨b, 0, none⟩) 1 1) (h0 : w.cell? ⟨b, 0, none⟩ = some (.int .i64 z1)) (h1 : w.cell? ⟨b, 1, none⟩ = some u2) (hu : u2 = .string ⟨z2.toArray⟩) (hlen : ds.length ≤ 1000000000)
    (h : ∀ v' w', OwnD w' lo w'.heap.size v' (ds ++ [(z1, z2)]) → Below lo w w' → w.grownBy w' v.ownBlock → (v'.ownBlock = v.ownBlock ∨ v'.ownBlock = some w.heap.size) → wpList P ops Q rest (a.put o.dst v') w') : wpList P ops Q (o :: rest) a w := by
  subst hu
  obtain ⟨i, hi1, hz, hsz, hby⟩ := info_parts hinfo
  refine wpList_append_own_at w hgd s x t ho lo 36 i (.agg #[.int .i64 0, .string ⟨#[]⟩]) 2 24 ht hi1 hz hsz hby rfl (by omega) v ds.length _ hs hown.own ⟨b, 0, none⟩ 1 1 [.int .i64 z1, .string ⟨z2.toArray⟩] hx rfl ?_ ?_ (by unfold maxLen; omega) (by omega) hlo ?_
  · intro j u hu
    rcases j with _ | _ | j
    · simp at hu; subst hu; simpa [Addr.add] using h0
    · simp at hu; subst hu; simpa [Addr.add] using h1
    · simp at hu
  · intro u hu
    simp at hu
    rcases hu with rfl | rfl <;> rfl
  · intro v' w' h2 h3 _ h5
    have hlen' : (ds ++ [(z1, z2)]).length = ds.length + 1 := by simp
    refine h v' w' ⟨?_, fun g hg => (h2.lt g hg).2⟩ (below_of_only h3 hlo fun k hk => (hown.own.lt k hk).1) h3 h5
    rw [hlen', flatD_append]
    exact h2
end Go.Proofs.YtdabbjlefpgkmaaDoor
