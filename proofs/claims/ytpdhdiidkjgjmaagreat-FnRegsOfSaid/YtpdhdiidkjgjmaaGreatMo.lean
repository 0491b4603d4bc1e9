/- Rows of pairs of integers (slices of structs of two integers): read, and of the call's own: kept, appended to; what the reader gives of them. -/
import Derived.Test.YtpdhdiidkjgjmaaGreatB1
import Derived.Maps.AppendAt
import Derived.Test.YtpdhdiidkjgjmaaGreatB5
import Derived.Deep.Fields
import Derived.ChangeSame
namespace Go.Proofs.YtpdhdiidkjgjmaaGreat
set_option maxRecDepth 100000
open Go.RowKit Go.WideShapes Go.ChangeShapes Go.Deep

structure RdAtM (w : World) (B : Nat) (A : Option Addr) (ms : List (Int × Int)) : Prop where
  len : ms.length ≤ 9223372036854775807
  at_ : 0 < ms.length → ∃ b off, A = some ⟨b, off, none⟩ ∧ b < B ∧ ∀ (j : Nat) m, ms[j]? = some m → w.cell? ⟨b, off + j * 2, none⟩ = some (.int .i64 m.1) ∧ w.cell? ⟨b, off + j * 2 + 1, none⟩ = some (.int .i64 m.2)
def RdBM (w : World) (B : Nat) (v : Value) (ms : List (Int × Int)) : Prop := ∃ A c, v = .slice A ms.length c ∧ RdAtM w B A ms
abbrev RdM (w : World) (v : Value) (ms : List (Int × Int)) : Prop := RdBM w w.heap.size v ms
theorem RdBM.below {w w' : World} {B : Nat} {v : Value} {ms : List (Int × Int)} (h : RdBM w B v ms) (hb : Below B w w') : RdBM w' B v ms := by
  obtain ⟨A, c, rfl, hl, hr⟩ := h
  refine ⟨A, c, rfl, hl, fun h0 => ?_⟩
  obtain ⟨b, off, rfl, hlt, hc⟩ := hr h0
  exact ⟨b, off, rfl, hlt, fun j m hj => ⟨(hb.cell (p := ⟨b, off + j * 2, none⟩) hlt).trans (hc j m hj).1, (hb.cell (p := ⟨b, off + j * 2 + 1, none⟩) hlt).trans (hc j m hj).2⟩⟩
theorem RdBM.mono {w : World} {B B' : Nat} {v : Value} {ms : List (Int × Int)} (h : RdBM w B v ms) (hB : B ≤ B') : RdBM w B' v ms := by
  obtain ⟨A, c, rfl, hl, hr⟩ := h
  refine ⟨A, c, rfl, hl, fun h0 => ?_⟩
  obtain ⟨b, off, rfl, hlt, hc⟩ := hr h0
  exact ⟨b, off, rfl, by omega, hc⟩
theorem RdM.step {w w' : World} {v : Value} {ms : List (Int × Int)} (h : RdM w v ms) (hb : Below w.heap.size w w') : RdM w' v ms := RdBM.mono (RdBM.below h hb) hb.size
def flatP (ms : List (Int × Int)) : List Int := ms.flatMap fun m => [m.1, m.2]
theorem flatP_nil : flatP [] = [] := rfl
theorem flatP_cons (m : Int × Int) (ms : List (Int × Int)) : flatP (m :: ms) = m.1 :: m.2 :: flatP ms := rfl
theorem flatP_append (a b : List (Int × Int)) : flatP (a ++ b) = flatP a ++ flatP b := by simp [flatP]
theorem flatP_length (ms : List (Int × Int)) : (flatP ms).length = ms.length * 2 := by
  induction ms with
  | nil => rfl
  | cons m ms ih => rw [flatP_cons]; simp only [List.length_cons, ih]; omega
theorem flatP_get {ms : List (Int × Int)} {k : Nat} {m : Int × Int} (h : ms[k]? = some m) : (flatP ms)[k * 2]? = some m.1 ∧ (flatP ms)[k * 2 + 1]? = some m.2 := by
  induction ms generalizing k with
  | nil => simp at h
  | cons m' ms ih =>
    rw [flatP_cons]
    rcases k with _ | k
    · simp at h; subst h; exact ⟨rfl, rfl⟩
    · simp at h
      have := ih h
      rw [show (k + 1) * 2 = k * 2 + 1 + 1 from by omega]
      simpa using this
/-- k pairs of marks: (a, a + 1), (a + 2, a + 3), .. -/
def pairsFrom (a : Int) : Nat → List (Int × Int)
  | 0 => []
  | n + 1 => (a, a + 1) :: pairsFrom (a + 2) n
theorem pairsFrom_length (a : Int) (n : Nat) : (pairsFrom a n).length = n := by
  induction n generalizing a with
  | zero => rfl
  | succ n ih => simp [pairsFrom, ih]
theorem flatP_pairsFrom (a : Int) (n : Nat) : flatP (pairsFrom a n) = marks a (n * 2) := by
  induction n generalizing a with
  | zero => rfl
  | succ n ih =>
    rw [pairsFrom, flatP_cons, ih, show (n + 1) * 2 = n * 2 + 1 + 1 from by omega, marks, marks]
    simp only [show a + 1 + 1 = a + 2 from by omega]
theorem pairsFrom_get (a : Int) (n k : Nat) (h : k < n) : (pairsFrom a n)[k]? = some (a + 2 * k, a + 2 * k + 1) := by
  induction n generalizing a k with
  | zero => omega
  | succ n ih =>
    rcases k with _ | k
    · simp [pairsFrom]
    · simp only [pairsFrom, List.getElem?_cons_succ]
      rw [ih (a + 2) k (by omega)]
      simp only [Option.some.injEq, Prod.mk.injEq]
      constructor <;> omega

/-- A row of pairs of the call's own in the blocks from lo on and below hi. -/
structure OwnP (T : TypeId) (w : World) (lo hi : Nat) (v : Value) (ms : List (Int × Int)) : Prop where
  own : w.ownsRow lo T 2 v ms.length ((flatP ms).map (Value.int .i64))
  lt : ∀ g, v.ownBlock = some g → g < hi
section
variable {T : TypeId} {w w' : World} {lo hi : Nat} {v : Value} {ms : List (Int × Int)}
theorem OwnP.len_le (h : OwnP T w lo hi v ms) : ms.length ≤ 9223372036854775807 := by
  rcases h.own.2 with ⟨_, h0⟩ | ⟨g, cap, cur, _, _, _, h1, h2, _⟩
  · omega
  · unfold maxLen at h2; omega
theorem OwnP.rd (h : OwnP T w lo hi v ms) : RdM w v ms := by
  have hl := h.len_le
  rcases hx : h.own.2 with ⟨rfl, h0⟩ | ⟨g, cap, cur, rfl, hb, hh, h1, h2, _⟩
  · have hz : ms = [] := List.eq_nil_of_length_eq_zero h0
    subst hz
    exact ⟨none, 0, rfl, by simp, fun h => by simp at h⟩
  · refine ⟨_, _, rfl, hl, fun _ => ⟨g, 0, rfl, (h.own.lt g rfl).2, fun j m hj => ?_⟩⟩
    have hjl : j < ms.length := by
      rcases Nat.lt_or_ge j ms.length with h1 | h1
      · exact h1
      · rw [List.getElem?_eq_none h1] at hj; cases hj
    obtain ⟨e0, e1⟩ := flatP_get hj
    constructor
    · rw [Nat.zero_add, h.own.cellAt _ (by omega), List.getElem?_map, e0]; rfl
    · rw [Nat.zero_add, h.own.cellAt _ (by omega), List.getElem?_map, e1]; rfl
theorem OwnP.apart {lo' hi' : Nat} (h : OwnP T w lo hi v ms) (hw : Within lo' hi' w w') (hd : hi ≤ lo' ∨ hi' ≤ lo) : OwnP T w' lo hi v ms := by
  refine ⟨⟨h.own.1, ?_⟩, h.lt⟩
  rcases h.own.2 with h0 | ⟨g, cap, cur, rfl, hb, hh, h1⟩
  · exact .inl h0
  · have hg := h.lt g rfl
    exact .inr ⟨g, cap, cur, rfl, hb, (hw.block g (h.own.lt g rfl).2 (by omega)).trans hh, h1⟩
theorem OwnP.belowB {B : Nat} (h : OwnP T w lo hi v ms) (hb : Below B w w') (hB : hi ≤ B) : OwnP T w' lo hi v ms := by
  refine ⟨⟨h.own.1, ?_⟩, h.lt⟩
  rcases h.own.2 with h0 | ⟨g, cap, cur, rfl, hb', hh, h1⟩
  · exact .inl h0
  · have hg := h.lt g rfl
    exact .inr ⟨g, cap, cur, rfl, hb', (hb.block g (by omega)).trans hh, h1⟩
theorem OwnP.below (h : OwnP T w lo hi v ms) (hb : Below w.heap.size w w') : OwnP T w' lo hi v ms := by
  refine ⟨⟨h.own.1, ?_⟩, h.lt⟩
  rcases h.own.2 with h0 | ⟨g, cap, cur, rfl, hb', hh, h1⟩
  · exact .inl h0
  · exact .inr ⟨g, cap, cur, rfl, hb', (hb.block g (h.own.lt g rfl).2).trans hh, h1⟩
theorem OwnP.mono {lo' hi' : Nat} (h : OwnP T w lo hi v ms) (hl : lo' ≤ lo) (hh : hi ≤ hi') : OwnP T w lo' hi' v ms := by
  refine ⟨⟨h.own.1, ?_⟩, fun g hg => Nat.lt_of_lt_of_le (h.lt g hg) hh⟩
  rcases h.own.2 with h0 | ⟨g, cap, cur, rfl, hb', h1⟩
  · exact .inl h0
  · exact .inr ⟨g, cap, cur, rfl, by omega, h1⟩
theorem OwnP.nil (T : TypeId) (w : World) (lo hi : Nat) : OwnP T w lo hi (.slice none 0 0) [] := ⟨World.ownsRow_nil _ _ _ _, by simp [Value.ownBlock]⟩
theorem OwnP.empty (T : TypeId) (w : World) : OwnP T (w.alloc (.cells #[] T)) w.heap.size (w.heap.size + 1) (.slice (some ⟨w.heap.size, 0, none⟩) 0 0) [] := by
  refine ⟨World.ownsRow_made w #[] 0 (Nat.le_refl _) (by simp [maxLen]) (by simp), fun g hg => ?_⟩
  simp [Value.ownBlock] at hg; omega
end
theorem RdBM.rd {w : World} {B : Nat} {v : Value} {ms : List (Int × Int)} (h : RdBM w B v ms) (hB : B ≤ w.heap.size) : RdM w v ms := h.mono hB
theorem RdBM.at_ {w : World} {v : Value} {ms : List (Int × Int)} (h : RdM w v ms) : RdBM w w.heap.size v ms := h

/-- append(s, m) of a pair to a row of the call's own, the pair laid in a block of its own ahead. -/
theorem wpList_append_P {P : Program} {w : World} {ops : Array Oper} {rest : List Oper} {o : Oper} {a : Act} {Q : Exit → Act → World → Prop} (hgd : o.guard = none) (s x : Operand) (t : TypeId)
    (ho : o.op = .call { callee := .builtin .append, args := #[s, x], argTypes := #[t, t] }) (T : TypeId)
    (ht : P.underlying t = some (.slice T)) (hinfo : (P.info? T).map (fun i => (i.zero, i.size, i.bytes)) = some (some (.agg #[.int .i64 0, .int .i64 0]), 2, 16))
    (lo hi : Nat) (v : Value) (ms : List (Int × Int)) (hs : a.eval s = v) (hown : OwnP T w lo hi v ms) (hlo : lo ≤ w.heap.size)
    (b : Nat) (z1 z2 : Int) (hx : a.eval x = .slice (some ⟨b, 0, none⟩) 1 1) (h0 : w.cell? ⟨b, 0, none⟩ = some (.int .i64 z1)) (h1 : w.cell? ⟨b, 1, none⟩ = some (.int .i64 z2)) (hlen : ms.length ≤ 1000000000)
    (h : ∀ v' w', OwnP T w' lo w'.heap.size v' (ms ++ [(z1, z2)]) → Below lo w w' → w.grownBy w' v.ownBlock → (v'.ownBlock = v.ownBlock ∨ v'.ownBlock = some w.heap.size) → wpList P ops Q rest (a.put o.dst v') w') : wpList P ops Q (o :: rest) a w := by
  obtain ⟨i, hi1, hz, hsz, hby⟩ := info_parts hinfo
  refine wpList_append_own_at w hgd s x t ho lo T i (.agg #[.int .i64 0, .int .i64 0]) 2 16 ht hi1 hz hsz hby rfl (by omega) v ms.length _ hs hown.own ⟨b, 0, none⟩ 1 1 [.int .i64 z1, .int .i64 z2] hx rfl ?_ ?_ (by unfold maxLen; omega) (by omega) hlo ?_
  · intro j u hu
    rcases j with _ | _ | j
    · simp at hu; subst hu; simpa [Addr.add] using h0
    · simp at hu; subst hu; simpa [Addr.add] using h1
    · simp at hu
  · intro u hu
    simp at hu
    rcases hu with rfl | rfl <;> rfl
  · intro v' w' h2 h3 _ h5
    have hlen' : (ms ++ [(z1, z2)]).length = ms.length + 1 := by simp
    refine h v' w' ⟨?_, fun g hg => (h2.lt g hg).2⟩ (below_of_only h3 hlo fun k hk => (hown.own.lt k hk).1) h3 h5
    rw [hlen', flatP_append, List.map_append]
    exact h2

/-- What the reader gives of a slice of pairs. -/
theorem list_of_each {α : Type} {Q : Nat → α → Prop} : ∀ n : Nat, (∀ i, i < n → ∃ x, Q i x) → ∃ xs : List α, xs.length = n ∧ ∀ (i : Nat) x, xs[i]? = some x → Q i x := by
  intro n
  induction n with
  | zero => intro _; exact ⟨[], rfl, fun i x h => by simp at h⟩
  | succ n ih =>
    intro h
    obtain ⟨xs, hl, hq⟩ := ih fun i hi => h i (by omega)
    obtain ⟨x, hx⟩ := h n (by omega)
    refine ⟨xs ++ [x], by simp [hl], fun i y hy => ?_⟩
    by_cases hi : i < n
    · rw [List.getElem?_append_left (by omega)] at hy; exact hq i y hy
    · by_cases he : i = n
      · subst he
        rw [List.getElem?_append_right (by omega), hl, Nat.sub_self] at hy
        simp at hy; subst hy; exact hx
      · rw [List.getElem?_eq_none (by simp; omega)] at hy; cases hy
theorem pairs_of_fuel {H : Type} {enc : TypeId × Value → H} {P : Program} {W : World} {t e q r : TypeId} {f0 f1 : Field} {fuel base : Nat} {v : Value} {x : DataW H × List MemPlace}
    (ht : P.underlying t = some (.slice e)) (he : P.underlying e = some (.struct #[f0, f1])) (h0 : P.underlying f0.type = some (.int .i64)) (h1 : P.underlying f1.type = some (.int .i64)) (_hq : q = r)
    (hone : oneCellFields P #[f0, f1] = true) (hC : P.cellsOf e = 2)
    (hf : DataW.trod enc P W base (fun _ => true) true fuel t [v] = some x) : ∃ A c ms, v = .slice A ms.length c ∧ RdM W v ms := by
  rcases open_slice ht hf with ⟨hcs, _⟩ | ⟨a, len, cap, m, n, D, Pl, hcs, _, hl, hm, hmm, _, hi⟩
  · obtain rfl : v = .slice none 0 0 := by simpa using hcs
    exact ⟨none, 0, [], rfl, none, 0, rfl, by simp, fun h => by simp at h⟩
  · obtain rfl : v = .slice (some a) len cap := by simpa using hcs
    have hml : len ≤ m := by rw [hmm]; simp; exact hl
    have each : ∀ i, i < len → ∃ z : Int × Int, W.cell? (a.add (i * 2)) = some (.int .i64 z.1) ∧ W.cell? (a.add (i * 2 + 1)) = some (.int .i64 z.2) := by
      intro i hil
      obtain ⟨cs', hc, ht'⟩ := hi i (by omega)
      rw [hC] at hc
      obtain ⟨ys, n', _, _, _, hyl, hfs⟩ := DataW.trod_struct he ht'
      obtain ⟨_, hcl, hat⟩ := World.cells?_some hc
      match cs', hcl, ys, hyl with
      | [c0, c1], _, [y0, y1], _ =>
        obtain ⟨o0, k0⟩ := hone_of hone 0 f0 rfl
        obtain ⟨o1, k1⟩ := hone_of hone 1 f1 rfl
        have g0 := hfs 0 f0 rfl
        have g1 := hfs 1 f1 rfl
        rw [o0, k0] at g0
        rw [o1, k1] at g1
        have a0 := hat 0 (by omega)
        have a1 := hat 1 (by omega)
        have g0' : DataW.trod enc P W base (fun _ => true) true n' f0.type [c0] = some y0 := g0
        have g1' : DataW.trod enc P W base (fun _ => true) true n' f1.type [c1] = some y1 := g1
        obtain ⟨z0, hz0, _⟩ := DataW.trod_int h0 g0'
        obtain ⟨z1, hz1, _⟩ := DataW.trod_int h1 g1'
        obtain rfl : c0 = .int .i64 z0 := by simpa using hz0
        obtain rfl : c1 = .int .i64 z1 := by simpa using hz1
        exact ⟨(z0, z1), by rw [Go.Deep.add_add, Nat.add_zero] at a0; simpa using a0, by rw [Go.Deep.add_add] at a1; simpa using a1⟩
    obtain ⟨ms, hlen, hms⟩ := list_of_each len each
    refine ⟨some a, cap, ms, by rw [hlen], some a, cap, by rw [hlen], by rw [hlen]; unfold maxLen at hm; omega, fun hp => ?_⟩
    rw [hlen] at hp
    obtain ⟨z, hz0, _⟩ := each 0 hp
    have h3 := spot_of_cell hz0
    simp only [Addr.add, Nat.zero_mul, Nat.add_zero] at h3
    obtain ⟨b, off, sp⟩ := a
    obtain rfl : sp = none := by simpa using congrArg Addr.spot h3
    refine ⟨b, off, rfl, lt_of_cell (by simpa [Addr.add] using hz0), fun j z' hj => ?_⟩
    have := hms j z' hj
    rw [add_plain, add_plain] at this
    exact this
def szM (ms : List (Int × Int)) : Nat := ms.length * 2
def mkM (a : Int) (ms : List (Int × Int)) : List (Int × Int) := pairsFrom a ms.length
theorem RdBM.len_le {w : World} {B : Nat} {v : Value} {ms : List (Int × Int)} (h : RdBM w B v ms) : ms.length ≤ 9223372036854775807 := by
  obtain ⟨A, c, rfl, hl, _⟩ := h; exact hl

theorem made_two (a : Value) (n : Nat) : (madeCells #[a, a] n).toList = List.replicate n a := by
  apply List.ext_getElem (by simp [madeCells])
  intro i h1 h2
  rcases Nat.mod_two_eq_zero_or_one i with h | h <;> simp [madeCells, h]
theorem flatP_zeros (n : Nat) : flatP (List.replicate n ((0 : Int), (0 : Int))) = List.replicate (n * 2) 0 := by
  induction n with
  | zero => rfl
  | succ n ih => rw [List.replicate_succ, flatP_cons, ih, show (n + 1) * 2 = n * 2 + 1 + 1 from by omega, List.replicate_succ, List.replicate_succ]
theorem zeros_flatP (n : Nat) : (madeCells #[.int .i64 0, .int .i64 0] (n * 2)).toList = (flatP (List.replicate n ((0 : Int), (0 : Int)))).map (Value.int .i64) := by
  rw [flatP_zeros, List.map_replicate]
  exact made_two _ _
theorem flatP_set {ms : List (Int × Int)} {k : Nat} {z1 z2 : Int} (h : k < ms.length) : (((flatP ms).map (Value.int .i64)).set (k * 2) (.int .i64 z1)).set (k * 2 + 1) (.int .i64 z2) = (flatP (ms.set k (z1, z2))).map (Value.int .i64) := by
  induction ms generalizing k with
  | nil => simp at h
  | cons m ms ih =>
    rcases k with _ | k
    · simp [flatP_cons]
    · have := ih (k := k) (by simpa using h)
      rw [show (k + 1) * 2 = k * 2 + 1 + 1 from by omega]
      simpa [flatP_cons] using this
theorem fill_next {ms : List (Int × Int)} {k : Nat} {z : Int × Int} (h : ms[k]? = some z) : (ms.take k ++ List.replicate (ms.length - k) ((0 : Int), (0 : Int))).set k z = ms.take (k + 1) ++ List.replicate (ms.length - (k + 1)) ((0 : Int), (0 : Int)) := by
  have hk : k < ms.length := by
    rcases Nat.lt_or_ge k ms.length with h1 | h1
    · exact h1
    · rw [List.getElem?_eq_none h1] at h; cases h
  have hl : (ms.take k).length = k := by rw [List.length_take]; omega
  rw [show ms.length - k = (ms.length - (k + 1)) + 1 from by omega, List.replicate_succ, List.set_append_right _ _ (by omega), hl, Nat.sub_self, List.set_cons_zero, List.take_add_one, h]
  simp
theorem fill_len (ms : List (Int × Int)) (k : Nat) (h : k ≤ ms.length) : (ms.take k ++ List.replicate (ms.length - k) ((0 : Int), (0 : Int))).length = ms.length := by
  rw [List.length_append, List.length_take, List.length_replicate]; omega

theorem marks_setz (zs : List Int) (a z : Int) (k : Nat) (h : k < zs.length) (hz : z = a + (k : Int)) : ((marks a k ++ zs.drop k).map (Value.int .i64)).set k (.int .i64 z) = (marks a (k + 1) ++ zs.drop (k + 1)).map (Value.int .i64) := by
  rw [hz]; exact marks_set zs a k h
theorem take_succ_eqM {xs ys : List (Int × Int)} {k : Nat} {x y : Int × Int} (hx : xs[k]? = some x) (hy : ys[k]? = some y) (h : xs.take k = ys.take k) (he : x = y) : xs.take (k + 1) = ys.take (k + 1) := by
  rw [List.take_add_one, List.take_add_one, h, hx, hy, he]
end Go.Proofs.YtpdhdiidkjgjmaaGreat
