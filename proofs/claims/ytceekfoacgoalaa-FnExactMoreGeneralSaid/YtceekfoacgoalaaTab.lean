/- A package-level array of strings that reads as a known table: its cells. -/
import Derived.Test.YtceekfoacgoalaaB1
import Derived.Lib.LaidTab
import Derived.FnData
namespace Go.Proofs.Ytceekfoacgoalaa
set_option maxRecDepth 100000
open Go.RowKit Go.WideShapes Go.ChangeShapes

def strVals (ss : List (List UInt8)) : List Value := ss.map fun s => Value.string ⟨s.toArray⟩
def strData {H : Type} (ss : List (List UInt8)) : DataW H := .agg (ss.map fun s => .lit (.string s))

theorem strs_of_tab {H : Type} {enc : TypeId × Value → H} {P : Program} {w : World} {base : Nat} {sp : Nat → Bool} {held : Bool} {fuel : Nat} {t e : TypeId} {n : Nat} {cs : List Value} {ss : List (List UInt8)} {p : List MemPlace}
    (ht : P.underlying t = some (.array n e)) (he : P.underlying e = some .string) (hce : P.cellsOf e = 1) (hct : P.cellsOf t = n)
    (h : DataW.trod enc P w base sp held fuel t cs = some (strData ss, p)) : cs = strVals ss := by
  cases fuel with
  | zero => simp [DataW.trod] at h
  | succ fuel =>
    simp only [DataW.trod, ht, hce, hct, Nat.mul_one] at h
    split at h
    · rename_i hl
      obtain ⟨xs, hm, hx⟩ := Option.map_eq_some_iff.1 h
      have hxs : xs.map (·.1) = ss.map fun s => (DataW.lit (.string s) : DataW H) := by
        have := congrArg Prod.fst hx
        simpa [strData] using this
      have hxl : xs.length = n := by simpa using Lib.mapM_length hm
      have hsl : ss.length = n := by
        have := congrArg List.length hxs
        simp at this
        omega
      apply List.ext_getElem?
      intro i
      by_cases hi : i < n
      · obtain ⟨b, hb, hf⟩ := Lib.mapM_at hm i i (by simp [hi])
        obtain ⟨s, hc, rfl, _⟩ := DataW.trod_string he hf
        have h1 : cs[i]? = some (.string s) := by
          have := congrArg (·[0]?) hc
          simpa [List.getElem?_take, List.getElem?_drop] using this
        have h2 : (xs.map (·.1))[i]? = some (DataW.lit (.string s.data.toList) : DataW H) := by simp [hb]
        rw [hxs] at h2
        simp only [List.getElem?_map, Option.map_eq_some_iff, DataW.lit.injEq, Lit.string.injEq] at h2
        obtain ⟨s', hs', rfl⟩ := h2
        rw [h1, strVals, List.getElem?_map, hs']
        rfl
      · rw [List.getElem?_eq_none (by omega), List.getElem?_eq_none (by simp [strVals]; omega)]
    · cases h

/-- Block g holds the table, and is not frozen. -/
def StrTab (W : World) (g : Nat) (ss : List (List UInt8)) : Prop := ∃ T, W.heap[g]? = some (.cells (strVals ss).toArray T (0, 0))

theorem laidVars_mem {P : Program} {W : World} {name : String} {d : DataW Unit} : ∀ {laid : List (String × DataW Unit)} {ps : List MemPlace}, DataW.LaidVars P W laid ps → (name, d) ∈ laid →
    ∃ g t cs fuel p, P.globalNamed name = some g ∧ (P.globals[g]?).map (·.type) = some t ∧ W.var? P name = some cs ∧ DataW.trod (fun _ => ()) P W 0 (fun _ => true) false fuel t cs.toList = some (d, p) ∧ ∀ x ∈ MemPlace.row ⟨g, 0, none⟩ cs.size, x ∈ ps := by
  intro laid
  induction laid with
  | nil => intro ps _ h; cases h
  | cons a r ih =>
    obtain ⟨n, d'⟩ := a
    rintro ps ⟨g, t, cs, fuel, p, q, h1, h2, h3, h4, h5, rfl⟩ hm
    rcases List.mem_cons.1 hm with h | h
    · cases h
      exact ⟨g, t, cs, fuel, p, h1, h2, h3, h4, fun x hx => by simp [hx]⟩
    · obtain ⟨g', t', cs', fuel', p', k1, k2, k3, k4, k5⟩ := ih h5 h
      exact ⟨g', t', cs', fuel', p', k1, k2, k3, k4, fun x hx => by simp [k5 x hx]⟩

theorem strTab_of_laid {P : Program} {W : World} {name : String} {ss : List (List UInt8)} {laid : List (String × DataW Unit)} {g : Nat} {t e : TypeId} {n : Nat}
    (hg : P.globalNamed name = some g) (hty : (P.globals[g]?).map (·.type) = some t) (ht : P.underlying t = some (.array n e)) (he : P.underlying e = some .string) (hce : P.cellsOf e = 1) (hct : P.cellsOf t = n)
    (hmem : (name, strData ss) ∈ laid) (h0 : 0 < ss.length) (h : laidMet P laid W) : StrTab W g ss := by
  obtain ⟨ps, hv, _, hfr⟩ := h
  obtain ⟨g', t', cs, fuel, p, hg', ht', hvar, hd, hin⟩ := laidVars_mem hv hmem
  obtain rfl := Option.some.inj (hg.symm.trans hg')
  obtain rfl := Option.some.inj (hty.symm.trans ht')
  have hcs : cs.toList = strVals ss := strs_of_tab ht he hce hct hd
  have hcs' : cs = (strVals ss).toArray := by rw [← hcs]
  have hlen : 0 < cs.size := by
    have := congrArg List.length hcs
    simp [strVals] at this; omega
  obtain ⟨⟨c, T, hh⟩, _⟩ := hfr g 0 (hin _ (MemPlace.mem_row.2 ⟨0, hlen, by simp⟩))
  have : c = cs := by
    simp only [World.var?, hg, Option.bind_some, hh] at hvar
    simpa using hvar
  subst this
  exact ⟨T, by rw [hh, hcs']⟩
theorem StrTab.below {W W' : World} {g B : Nat} {ss : List (List UInt8)} (h : StrTab W g ss) (hb : Below B W W') (hg : g < B) : StrTab W' g ss := by
  obtain ⟨T, h⟩ := h; exact ⟨T, (hb.block g hg).trans h⟩
theorem StrTab.lt {W : World} {g : Nat} {ss : List (List UInt8)} (h : StrTab W g ss) : g < W.heap.size := by
  obtain ⟨T, h⟩ := h
  rcases Nat.lt_or_ge g W.heap.size with h1 | h1
  · exact h1
  · rw [Array.getElem?_eq_none h1] at h; cases h
end Go.Proofs.Ytceekfoacgoalaa
