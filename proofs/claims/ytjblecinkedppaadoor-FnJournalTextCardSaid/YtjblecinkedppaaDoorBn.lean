/- Several texts in one. -/
import Derived.Test.YtjblecinkedppaaDoorBp
import Derived.Test.YtjblecinkedppaaDoorNd
import Derived.Test.YtjblecinkedppaaDoorBm
import Derived.Test.YtjblecinkedppaaDoorB5
import Derived.Deep.Fields
import Derived.Test.YtjblecinkedppaaDoorBo
import Derived.Test.YtjblecinkedppaaDoorBl
import Derived.Test.YtjblecinkedppaaDoorBj
import Derived.Test.YtjblecinkedppaaDoorI
import Derived.Deep.RegionWith
/- The laws' helpers on rows of strings: lengths, copies, comparisons. -/
namespace Go.Proofs.YtjblecinkedppaaDoor
set_option maxRecDepth 100000
open Go.RowKit Go.WideShapes

def szT : List (List UInt8) → Nat
  | [] => 0
  | s :: r => s.length + szT r
def leftX (n : Int) (ss : List (List UInt8)) : Int := if n - (ss.length : Int) < 0 then -1 else if n - (ss.length : Int) - (szT ss : Int) < 0 then -1 else n - (ss.length : Int) - (szT ss : Int)
theorem leftX_ok {n : Int} {ss : List (List UInt8)} (h : ¬ leftX n ss < 0) : (ss.length : Int) ≤ n ∧ (szT ss : Int) ≤ n ∧ leftX n ss = n - (ss.length : Int) - (szT ss : Int) := by
  unfold leftX at h ⊢
  split at h
  · omega
  · rename_i h1
    split at h
    · omega
    · rename_i h2
      rw [if_neg h1, if_neg h2]; omega
theorem szT_mem {ss : List (List UInt8)} {s : List UInt8} (h : s ∈ ss) : s.length ≤ szT ss := by
  induction ss with
  | nil => cases h
  | cons a r ih =>
    rw [szT]
    rcases List.mem_cons.1 h with rfl | h
    · omega
    · have := ih h; omega
theorem szT_app (a b : List (List UInt8)) : szT (a ++ b) = szT a + szT b := by
  induction a with
  | nil => simp [szT]
  | cons s r ih => rw [List.cons_append, szT, szT, ih]; omega
theorem szT_take_succ {ss : List (List UInt8)} {k : Nat} {s : List UInt8} (h : ss[k]? = some s) : szT (ss.take (k + 1)) = szT (ss.take k) + s.length := by
  rw [List.take_add_one, h, szT_app]; simp [szT]
theorem szT_take_le (ss : List (List UInt8)) (k : Nat) : szT (ss.take k) ≤ szT ss := by
  have := szT_app (ss.take k) (ss.drop k)
  rw [List.take_append_drop] at this; omega

/-- What has been copied, and what is still empty. -/
def fillT (ss : List (List UInt8)) (k : Nat) : List (List UInt8) := ss.take k ++ List.replicate (ss.length - k) []
theorem fillT_len (ss : List (List UInt8)) (k : Nat) (hk : k ≤ ss.length) : (fillT ss k).length = ss.length := by simp [fillT]; omega
theorem strVals_set9 (ss : List (List UInt8)) (k : Nat) (z : List UInt8) : (strVals ss).set k (.string ⟨z.toArray⟩) = strVals (ss.set k z) := by simp [strVals, List.map_set]
theorem fillT_set {ss : List (List UInt8)} {k : Nat} {s : List UInt8} (h : ss[k]? = some s) : (fillT ss k).set k s = fillT ss (k + 1) := by
  have hk : k < ss.length := by
    rcases Nat.lt_or_ge k ss.length with h1 | h1
    · exact h1
    · rw [List.getElem?_eq_none h1] at h; cases h
  have hl : (ss.take k).length = k := by rw [List.length_take]; omega
  have hrep : List.replicate (ss.length - k) ([] : List UInt8) = [] :: List.replicate (ss.length - (k + 1)) [] := by
    rw [show ss.length - k = (ss.length - (k + 1)) + 1 from by omega, List.replicate_succ]
  rw [fillT, fillT, hrep, List.set_append_right _ _ (by omega), hl, Nat.sub_self, List.set_cons_zero, List.take_add_one, h]
  simp only [Option.toList_some, List.append_assoc, List.cons_append, List.nil_append]
theorem fillT_get {ss : List (List UInt8)} {k : Nat} (h : k < ss.length) : (strVals (fillT ss k))[k]? = some (.string ⟨#[]⟩) := by
  have hl : (ss.take k).length = k := by rw [List.length_take]; omega
  rw [strVals, List.getElem?_map, fillT, List.getElem?_append_right (by omega), hl, Nat.sub_self, List.getElem?_replicate, if_pos (by omega)]
  rfl

theorem take_succ_eqT {xs ys : List (List UInt8)} {k : Nat} {x y : List UInt8} (hx : xs[k]? = some x) (hy : ys[k]? = some y) (h : xs.take k = ys.take k) (he : x = y) : xs.take (k + 1) = ys.take (k + 1) := by
  rw [List.take_add_one, List.take_add_one, h, hx, hy, he]
theorem str_eq9 (s t : List UInt8) : (s == t) = decide (s = t) := by rw [Bool.eq_iff_iff, beq_iff_eq, decide_eq_true_iff]

end Go.Proofs.YtjblecinkedppaaDoor

/- Benches of the laws: weighed, copied, compared; what the reader gives of one. -/
namespace Go.Proofs.YtjblecinkedppaaDoor
set_option maxRecDepth 100000
open Go.RowKit Go.WideShapes Go.Joins

def leftB (n : Int) (r : List Int) (ps : List (List UInt8)) : Int := if n - (r.length : Int) < 0 then -1 else leftX (n - (r.length : Int)) ps
theorem leftB_ok {r : List Int} {ps : List (List UInt8)} (hq : ¬ leftB 1048576 r ps < 0) : r.length ≤ 1048576 ∧ ps.length ≤ 1048576 ∧ ∀ t ∈ ps, t.length ≤ 1048576 := by
  unfold leftB at hq
  split at hq
  · omega
  · obtain ⟨h1, h2, _⟩ := leftX_ok hq
    refine ⟨by omega, by omega, fun t ht => ?_⟩
    have := szT_mem ht
    omega
def ToB (w : World) (r : List Int) (s : List (List UInt8)) (e : Ending) (w' : World) : Prop := ∃ u0 u1 m, e = .returned (.agg #[u0, u1]) ∧ w.heap.size ≤ m ∧ m ≤ w'.heap.size ∧ OwnI w' w.heap.size m u0 r ∧ OwnT w' m w'.heap.size u1 s ∧ Below w.heap.size w w'
theorem texts_of_fuel {H : Type} {enc : TypeId × Value → H} {W : World} {t : TypeId} {fuel : Nat} {v : Value} {x : DataW H × List MemPlace} {base : Nat} (ht : Tryd.prog.underlying t = some (.slice 9))
    (h : DataW.trod enc Tryd.prog W base (fun _ => true) true fuel t [v] = some x) :
    ∃ A c ss, v = .slice A ss.length c ∧ RdT W (.slice A ss.length c) ss ∧ ∀ s ∈ ss, s.length ≤ 9223372036854775807 := by
  rcases Go.ChangeShapes.open_strings ht Tryd.underlying9 (by kernel_rfl) h with ⟨hcs, _⟩ | ⟨a, len, cap, ss, hcs, _, hl, hm, hz, _, hc, hsz⟩
  · obtain rfl : v = .slice none 0 0 := by simpa using hcs
    exact ⟨none, 0, [], rfl, ⟨none, 0, rfl, by simp, by simp, fun h => by simp at h⟩, by simp⟩
  · obtain rfl : v = .slice (some a) len cap := by simpa using hcs
    simp only [if_true] at hz
    have hlen : ((ss.take len).map bytesOf).length = len := by simp; omega
    refine ⟨some a, cap, (ss.take len).map bytesOf, by rw [hlen], ⟨some a, cap, by rw [hlen], by rw [hlen]; exact hl, by rw [hlen]; unfold maxLen at hm; omega, fun hp => ?_⟩, ?_⟩
    · rw [hlen] at hp
      have h0 := hc 0 (by omega)
      have h3 := spot_of_cell h0
      obtain ⟨b, off, sp⟩ := a
      obtain rfl : sp = none := by simpa [Addr.add] using h3
      refine ⟨b, off, rfl, lt_of_cell (by simpa [Addr.add] using h0), fun j s hj => ?_⟩
      have hjl : j < len := by
        have := (List.getElem?_eq_some_iff.1 hj).1
        rwa [hlen] at this
      rw [List.getElem?_map, List.getElem?_take_of_lt hjl] at hj
      have hcj := hc j (by omega)
      rw [add_plain] at hcj
      rw [hcj, List.getD_eq_getElem?_getD]
      rcases hs : ss[j]? with _ | S
      · rw [hs] at hj; simp at hj
      · rw [hs] at hj
        simp at hj
        subst hj
        rw [Option.getD_some, ba_eta]
    · intro s hs
      obtain ⟨S, hS, rfl⟩ := List.mem_map.1 hs
      have := hsz S (List.mem_of_mem_take hS)
      rw [bytes_len]; unfold maxLen at this; omega
end Go.Proofs.YtjblecinkedppaaDoor

/- The marks of rows of strings: markText, markStringS, heldStringS. -/
namespace Go.Proofs.YtjblecinkedppaaDoor
set_option maxRecDepth 100000
open Go.RowKit Go.WideShapes
open Lib (decDigits)

/-- The mark k as a text. -/
def mtx (k : Nat) : List UInt8 := 109 :: decDigits k
def mtxs (k : Nat) : Nat → List (List UInt8)
  | 0 => []
  | n + 1 => mtx k :: mtxs (k + 1) n
theorem mtxs_len (k n : Nat) : (mtxs k n).length = n := by
  induction n generalizing k with
  | zero => rfl
  | succ n ih => simp [mtxs, ih]
theorem mtxs_get (k n j : Nat) (h : j < n) : (mtxs k n)[j]? = some (mtx (k + j)) := by
  induction n generalizing k j with
  | zero => omega
  | succ n ih =>
    rcases j with _ | j
    · simp [mtxs]
    · simp only [mtxs, List.getElem?_cons_succ]; rw [ih (k + 1) j (by omega)]; congr 2; omega
theorem mtxs_set (ss : List (List UInt8)) (a k : Nat) (h : k < ss.length) : (mtxs a k ++ ss.drop k).set k (mtx (a + k)) = mtxs a (k + 1) ++ ss.drop (k + 1) := by
  have hm : mtxs a (k + 1) = mtxs a k ++ [mtx (a + k)] := by
    apply List.ext_getElem?
    intro j
    by_cases hj : j < k
    · rw [mtxs_get a (k + 1) j (by omega), List.getElem?_append_left (by rw [mtxs_len]; omega), mtxs_get a k j hj]
    · by_cases hj2 : j = k
      · subst hj2; rw [mtxs_get a (j + 1) j (by omega), List.getElem?_append_right (by rw [mtxs_len]; omega), mtxs_len]; simp
      · rw [List.getElem?_eq_none (by rw [mtxs_len]; omega), List.getElem?_eq_none (by simp [mtxs_len]; omega)]
  rw [List.set_append_right _ _ (by rw [mtxs_len]; omega), mtxs_len, Nat.sub_self, List.drop_eq_getElem_cons h, List.set_cons_zero, hm, List.append_assoc]
  rfl
theorem dec_len99 {n : Nat} (h : n ≤ 9999999) : (decDigits n).length ≤ 7 := by
  have h1 : ∀ m, m ≤ 99 → (decDigits m).length ≤ 2 := fun m hm => by
    by_cases h1 : m < 10
    · rw [dec1 h1]; simp
    · rw [decS h1, dec1 (by omega)]; simp
  by_cases h2 : n ≤ 99999
  · have := dec_len9 h2; omega
  · have h3 := dec_len9 (n := n / 10 / 10) (by omega)
    rw [decS (by omega), decS (by omega)]
    simp; omega

end Go.Proofs.YtjblecinkedppaaDoor

/- Benches of the laws: marked, and found again. -/
namespace Go.Proofs.YtjblecinkedppaaDoor
set_option maxRecDepth 100000
open Go.RowKit Go.WideShapes

theorem strVals_setH {ss : List (List UInt8)} {k : Nat} {t : List UInt8} : (strVals ss).set k (.string ⟨t.toArray⟩) = strVals (ss.set k t) := by
  simp [strVals, List.map_set]
theorem Within.monoH {lo hi lo' hi' : Nat} {w w' : World} (h : Within lo hi w w') (h1 : lo' ≤ lo) (h2 : hi ≤ hi') : Within lo' hi' w w' := ⟨h.os, h.tape, h.output, h.size, fun k hk hn => h.block k hk (by omega)⟩
theorem OwnWT.apart {w w' : World} {lo hi lo' hi' : Nat} {v : Value} {ss : List (List UInt8)} (h : OwnWT w lo hi v ss) (hw : Within lo' hi' w w') (hd : hi ≤ lo' ∨ hi' ≤ lo) : OwnWT w' lo hi v ss :=
  OwnW.keep h fun g hg => hw.block g (OwnW.blk h g hg).2.2.1 (by have := (OwnW.blk h g hg).1; have := (OwnW.blk h g hg).2.1; omega)
end Go.Proofs.YtjblecinkedppaaDoor

/- Rows of deeds in the laws: compared, marked, found again. -/
namespace Go.Proofs.YtjblecinkedppaaDoor
set_option maxRecDepth 100000
open Go.RowKit Go.WideShapes Go.Deep

/-- n deeds of marks: (a, m(a+1)), (a + 2, m(a+3)), .. -/
def mkD (a : Nat) : Nat → Deeds
  | 0 => []
  | n + 1 => ((a : Int), mtx (a + 1)) :: mkD (a + 2) n
theorem mkD_len (a n : Nat) : (mkD a n).length = n := by
  induction n generalizing a with
  | zero => rfl
  | succ n ih => simp [mkD, ih]
theorem mkD_get (a n k : Nat) (h : k < n) : (mkD a n)[k]? = some (((a + 2 * k : Nat) : Int), mtx (a + 2 * k + 1)) := by
  induction n generalizing a k with
  | zero => omega
  | succ n ih =>
    rcases k with _ | k
    · simp [mkD]
    · simp only [mkD, List.getElem?_cons_succ]
      rw [ih (a + 2) k (by omega), show a + 2 + 2 * k = a + 2 * (k + 1) by omega]
theorem mkD_snoc (a k : Nat) : mkD a (k + 1) = mkD a k ++ [(((a + 2 * k : Nat) : Int), mtx (a + 2 * k + 1))] := by
  apply List.ext_getElem?
  intro j
  by_cases hj : j < k
  · rw [mkD_get a (k + 1) j (by omega), List.getElem?_append_left (by rw [mkD_len]; omega), mkD_get a k j hj]
  · by_cases hj2 : j = k
    · subst hj2; rw [mkD_get a (j + 1) j (by omega), List.getElem?_append_right (by rw [mkD_len]; omega), mkD_len]; simp
    · rw [List.getElem?_eq_none (by rw [mkD_len]; omega), List.getElem?_eq_none (by simp [mkD_len]; omega)]
theorem mkD_set (ds : Deeds) (a k : Nat) (h : k < ds.length) : (mkD a k ++ ds.drop k).set k (((a + 2 * k : Nat) : Int), mtx (a + 2 * k + 1)) = mkD a (k + 1) ++ ds.drop (k + 1) := by
  rw [List.set_append_right _ _ (by rw [mkD_len]; omega), mkD_len, Nat.sub_self, List.drop_eq_getElem_cons h, List.set_cons_zero, mkD_snoc, List.append_assoc]
  rfl
theorem flatD_set {ds : Deeds} {k : Nat} {z : Int} {s : List UInt8} (h : k < ds.length) : ((flatD ds).set (k * 2) (.int .i64 z)).set (k * 2 + 1) (.string ⟨s.toArray⟩) = flatD (ds.set k (z, s)) := by
  induction ds generalizing k with
  | nil => simp at h
  | cons m ds ih =>
    rcases k with _ | k
    · simp [flatD_cons]
    · have := ih (k := k) (by simpa using h)
      rw [show (k + 1) * 2 = k * 2 + 1 + 1 from by omega]
      simpa [flatD_cons] using this

end Go.Proofs.YtjblecinkedppaaDoor

/- The laws' helpers on rows of deeds: weighed, copied; what the reader gives of one. -/
namespace Go.Proofs.YtjblecinkedppaaDoor
set_option maxRecDepth 100000
open Go.RowKit Go.WideShapes Go.ChangeShapes Go.Deep

def texts9 (ds : Deeds) : List (List UInt8) := ds.map (·.2)
theorem texts9_len (ds : Deeds) : (texts9 ds).length = ds.length := by simp [texts9]
theorem flatD_rep (n : Nat) : flatD (List.replicate n ((0 : Int), ([] : List UInt8))) = (madeCells #[.int .i64 0, .string ⟨#[]⟩] (n * 2)).toList := by
  apply List.ext_getElem
  · rw [flatD_length]; simp [madeCells]
  intro i h1 h2
  rw [flatD_length, List.length_replicate] at h1
  have hg := flatD_get (ds := List.replicate n ((0 : Int), ([] : List UInt8))) (k := i / 2) (d := (0, [])) (by rw [List.getElem?_replicate, if_pos (by omega)])
  rcases Nat.mod_two_eq_zero_or_one i with h | h
  · have e := hg.1
    rw [show i / 2 * 2 = i by omega, List.getElem?_eq_getElem (by rw [flatD_length]; simp; omega)] at e
    rw [Option.some.inj e]
    simp [madeCells, h]
  · have e := hg.2
    rw [show i / 2 * 2 + 1 = i by omega, List.getElem?_eq_getElem (by rw [flatD_length]; simp; omega)] at e
    rw [Option.some.inj e]
    simp [madeCells, h]
def fillD (ds : Deeds) (k : Nat) : Deeds := ds.take k ++ List.replicate (ds.length - k) ((0 : Int), ([] : List UInt8))
theorem fillD_len (ds : Deeds) (k : Nat) (h : k ≤ ds.length) : (fillD ds k).length = ds.length := by simp [fillD]; omega
theorem fillD_next {ds : Deeds} {k : Nat} {z : Int × List UInt8} (h : ds[k]? = some z) : (fillD ds k).set k z = fillD ds (k + 1) := by
  obtain ⟨hk, _⟩ := List.getElem?_eq_some_iff.1 h
  have hl : (ds.take k).length = k := by rw [List.length_take]; omega
  unfold fillD
  rw [show ds.length - k = (ds.length - (k + 1)) + 1 from by omega, List.replicate_succ, List.set_append_right _ _ (by omega), hl, Nat.sub_self, List.set_cons_zero, List.take_add_one, h]
  simp

theorem list_of_each9 {α : Type} {Q : Nat → α → Prop} : ∀ n : Nat, (∀ i, i < n → ∃ x, Q i x) → ∃ xs : List α, xs.length = n ∧ ∀ (i : Nat) x, xs[i]? = some x → Q i x := by
  intro n
  induction n with
  | zero => intro _; exact ⟨[], rfl, fun i x h => by simp at h⟩
  | succ n ih =>
    intro h
    obtain ⟨xs, hl, hq⟩ := ih fun i hi => h i (by omega)
    obtain ⟨x, hx⟩ := h n (by omega)
    refine ⟨xs ++ [x], by simp [hl], fun i y hy => ?_⟩
    by_cases hi : i < n
    · rw [List.getElem?_append_left (by omega)] at hy; exact hq i y hy
    · by_cases he : i = n
      · subst he
        rw [List.getElem?_append_right (by omega), hl, Nat.sub_self] at hy
        simp at hy; subst hy; exact hx
      · rw [List.getElem?_eq_none (by simp; omega)] at hy; cases hy
theorem deeds_of_fuel {H : Type} {enc : TypeId × Value → H} {P : Program} {W : World} {t e : TypeId} {f0 f1 : Field} {fuel base : Nat} {v : Value} {x : DataW H × List MemPlace}
    (ht : P.underlying t = some (.slice e)) (he : P.underlying e = some (.struct #[f0, f1])) (h0 : P.underlying f0.type = some (.int .i64)) (h1 : P.underlying f1.type = some .string)
    (hone : oneCellFields P #[f0, f1] = true) (hC : P.cellsOf e = 2)
    (hf : DataW.trod enc P W base (fun _ => true) true fuel t [v] = some x) : ∃ A c ds, v = .slice A ds.length c ∧ RdD W v ds ∧ ∀ d ∈ ds, d.2.length ≤ 9223372036854775807 := by
  rcases open_slice ht hf with ⟨hcs, _⟩ | ⟨a, len, cap, m, n, D, Pl, hcs, _, hl, hm, hmm, _, hi⟩
  · obtain rfl : v = .slice none 0 0 := by simpa using hcs
    exact ⟨none, 0, [], rfl, ⟨none, 0, rfl, by simp, fun h => by simp at h⟩, by simp⟩
  · obtain rfl : v = .slice (some a) len cap := by simpa using hcs
    have hml : len ≤ m := by rw [hmm]; simp; exact hl
    have each : ∀ i, i < len → ∃ z : Int × List UInt8, W.cell? (a.add (i * 2)) = some (.int .i64 z.1) ∧ W.cell? (a.add (i * 2 + 1)) = some (.string ⟨z.2.toArray⟩) ∧ z.2.length ≤ 9223372036854775807 := by
      intro i hil
      obtain ⟨cs', hc, ht'⟩ := hi i (by omega)
      rw [hC] at hc
      obtain ⟨ys, n', _, _, _, hyl, hfs⟩ := DataW.trod_struct he ht'
      obtain ⟨_, hcl, hat⟩ := World.cells?_some hc
      match cs', hcl, ys, hyl with
      | [c0, c1], _, [y0, y1], _ =>
        obtain ⟨o0, k0⟩ := hone_of hone 0 f0 rfl
        obtain ⟨o1, k1⟩ := hone_of hone 1 f1 rfl
        have g0 := hfs 0 f0 rfl
        have g1 := hfs 1 f1 rfl
        rw [o0, k0] at g0
        rw [o1, k1] at g1
        have a0 := hat 0 (by omega)
        have a1 := hat 1 (by omega)
        have g0' : DataW.trod enc P W base (fun _ => true) true n' f0.type [c0] = some y0 := g0
        have g1' : DataW.trod enc P W base (fun _ => true) true n' f1.type [c1] = some y1 := g1
        obtain ⟨z0, hz0, _⟩ := DataW.trod_int h0 g0'
        obtain ⟨S, hz1, _, hzz⟩ := DataW.trod_string h1 g1'
        obtain rfl : c0 = .int .i64 z0 := by simpa using hz0
        obtain rfl : c1 = .string S := by simpa using hz1
        refine ⟨(z0, bytesOf S), ?_, ?_, ?_⟩
        · rw [Go.Deep.add_add, Nat.add_zero] at a0; simpa using a0
        · rw [Go.Deep.add_add] at a1; rw [ba_eta]; simpa using a1
        · rw [bytes_len]; unfold maxLen at hzz; exact hzz
    obtain ⟨ds, hlen, hms⟩ := list_of_each9 len each
    refine ⟨some a, cap, ds, by rw [hlen], ⟨some a, cap, by rw [hlen], by rw [hlen]; unfold maxLen at hm; omega, fun hp => ?_⟩, fun d hd => ?_⟩
    · rw [hlen] at hp
      obtain ⟨z, hz0, _⟩ := each 0 hp
      have h3 := spot_of_cell hz0
      simp only [Addr.add, Nat.zero_mul, Nat.add_zero] at h3
      obtain ⟨b, off, sp⟩ := a
      obtain rfl : sp = none := by simpa using congrArg Addr.spot h3
      refine ⟨b, off, rfl, lt_of_cell (by simpa [Addr.add] using hz0), fun j z' hj => ?_⟩
      have h9 := hms j z' hj
      rw [add_plain, add_plain] at h9
      exact ⟨h9.1, h9.2.1⟩
    · obtain ⟨j, hj, e⟩ := List.getElem_of_mem hd
      exact (hms j d (by rw [List.getElem?_eq_getElem hj, e])).2.2
end Go.Proofs.YtjblecinkedppaaDoor

/- What the exact laws of benches want: weights, marks of deeds from a number on, a bench's marks in one interval. -/
namespace Go.Proofs.YtjblecinkedppaaDoor
set_option maxRecDepth 100000
open Go.RowKit Go.WideShapes Go.ChangeShapes Go.Deep

theorem leftB_le (r : List Int) (ps : List (List UInt8)) : leftB 1048576 r ps ≤ 1048576 := by
  unfold leftB leftX
  split
  · omega
  · split
    · omega
    · split <;> omega
theorem leftX_okD {n : Int} {ds : Deeds} (hn : 0 ≤ n ∧ n ≤ 1048576) (h : ¬ leftX n (texts9 ds) < 0) : ds.length ≤ 1048576 ∧ (∀ d ∈ ds, d.2.length ≤ 1048576) ∧ True := by
  obtain ⟨h1, h2, _⟩ := leftX_ok h
  rw [texts9_len] at h1
  refine ⟨by omega, fun d hd => ?_, trivial⟩
  have := szT_mem (show d.2 ∈ texts9 ds from List.mem_map_of_mem hd)
  omega
theorem benchRunR_len {n : List Int} {ps : List (List UInt8)} {ds : Deeds} {n' : List Int} {ps' : List (List UInt8)} {c : Int} (h : benchRunR n ps ds = ((n', ps'), c)) : n'.length ≤ 60 ∧ ps'.length ≤ 20 ∧ ∀ t ∈ ps', t.length ≤ 400 := by
  unfold benchRunR at h
  split at h
  · rename_i h0
    have h1 := (deedsR_ok ds (c := 0) h0.1).1
    injection h with h _
    rw [h] at h1
    obtain ⟨h2, h3, h4⟩ := benchB_parts h1
    exact ⟨(bsB_valid h2).2, h3, fun t ht => tsB_len (h4 t ht)⟩
  · cases h; simp
theorem ownI_oneH {w : World} {L H : Nat} {v : Value} {zs : List Int} (h : OwnI w L H v zs) (hLH : L ≤ H) : ∃ a b, L ≤ a ∧ a ≤ b ∧ b ≤ H ∧ OwnI w a b v zs ∧ (v.ownBlock = none ∧ a = b ∨ v.ownBlock = some a ∧ b = a + 1) := by
  rcases h.own.own.2 with ⟨rfl, h0⟩ | ⟨g, cap, cur, rfl, hb, hh, h1⟩
  · exact ⟨L, L, Nat.le_refl _, Nat.le_refl _, hLH, ⟨⟨⟨h.own.own.1, .inl ⟨rfl, h0⟩⟩, h.own.wf⟩, by simp [Value.ownBlock]⟩, .inl ⟨rfl, rfl⟩⟩
  · have hg := h.lt g rfl
    exact ⟨g, g + 1, hb, by omega, by omega, ⟨⟨⟨h.own.own.1, .inr ⟨g, cap, cur, rfl, Nat.le_refl _, hh, h1⟩⟩, h.own.wf⟩, fun k hk => by simp [Value.ownBlock] at hk; omega⟩, .inr ⟨rfl, rfl⟩⟩
theorem ownT_oneH {w : World} {L H : Nat} {v : Value} {ss : List (List UInt8)} (h : OwnWT w L H v ss) (hLH : L ≤ H) : ∃ a b, L ≤ a ∧ a ≤ b ∧ b ≤ H ∧ OwnWT w a b v ss ∧ (v.ownBlock = none ∧ a = b ∨ v.ownBlock = some a ∧ b = a + 1) := by
  rcases h with ⟨rfl, h0⟩ | ⟨g, off, cap, cur, rfl, h1, h2, h3⟩
  · exact ⟨L, L, Nat.le_refl _, Nat.le_refl _, hLH, .inl ⟨rfl, h0⟩, .inl ⟨rfl, rfl⟩⟩
  · exact ⟨g, g + 1, h1, by omega, by omega, .inr ⟨g, off, cap, cur, rfl, Nat.le_refl _, by omega, h3⟩, .inr ⟨rfl, rfl⟩⟩
end Go.Proofs.YtjblecinkedppaaDoor
