/- Two results in memory, a row of rows and a row: where they lie; marked and held apart. -/
import Derived.Test.YtiaidkhkcbamaaaB2
import Derived.Test.YtiaidkhkcbamaaaB1
namespace Go.Proofs.Ytiaidkhkcbamaaa
set_option maxRecDepth 100000
open Go.RowKit Go.WideShapes

def FreeOf (m n : Nat) (v : Value) : Prop := ∀ g, v.ownBlock = some g → g < m ∨ n ≤ g
/-- Rows of rows of the call's own in the blocks from lo on and below hi, but none from m on and below n. -/
def OwnSH (w : World) (lo hi m n : Nat) (v : Value) (zss : List (List Int)) : Prop :=
  ∃ vs, OwnVs w lo hi v vs zss ∧ FreeOf m n v ∧ ∀ (j : Nat) u, vs[j]? = some u → FreeOf m n u
def Own2 (w : World) (lo hi : Nat) (v : Value) (zss : List (List Int)) (u : Value) (zs : List Int) : Prop :=
  ∃ m n, lo ≤ m ∧ m ≤ n ∧ n ≤ hi ∧ OwnSH w lo hi m n v zss ∧ OwnI w m n u zs
section
variable {w w' : World} {lo hi m n lo' hi' : Nat} {v u : Value} {zss : List (List Int)} {zs : List Int}
theorem OwnSH.own (h : OwnSH w lo hi m n v zss) : OwnS w lo hi v zss := by obtain ⟨vs, h, _⟩ := h; exact ⟨vs, h⟩
theorem OwnSH.rd (h : OwnSH w lo hi m n v zss) : RdS w v zss := h.own.rd
theorem OwnSH.below (h : OwnSH w lo hi m n v zss) (hb : Below w.heap.size w w') : OwnSH w' lo hi m n v zss := by
  obtain ⟨vs, h, h1, h2⟩ := h
  refine ⟨vs, ⟨h.len, h.row.kept (row := none) (only_of_below hb none) ?_, h.lt, fun j u zs hu hz => (h.inner j u zs hu hz).below hb, h.apart⟩, h1, h2⟩
  rcases e : v.ownBlock with _ | g
  · exact .inl rfl
  · exact .inr (by simp)
theorem OwnSH.apart (h : OwnSH w lo hi m n v zss) (hw : Within lo' hi' w w') (hd : hi ≤ lo' ∨ hi' ≤ lo) : OwnSH w' lo hi m n v zss := by
  obtain ⟨vs, h, h1, h2⟩ := h
  refine ⟨vs, ⟨h.len, ⟨h.row.1, ?_⟩, h.lt, fun j u zs hu hz => (h.inner j u zs hu hz).apart hw hd, h.apart⟩, h1, h2⟩
  rcases h.row.2 with h0 | ⟨g, cap, cur, rfl, hb, hh, h3⟩
  · exact .inl h0
  · have hg := h.lt g rfl
    exact .inr ⟨g, cap, cur, rfl, hb, (hw.block g (h.row.lt g rfl).2 (by omega)).trans hh, h3⟩
/-- A store into the hole leaves them alone. -/
theorem OwnSH.hole (h : OwnSH w lo hi m n v zss) (hw : Within m n w w') : OwnSH w' lo hi m n v zss := by
  obtain ⟨vs, h, h1, h2⟩ := h
  refine ⟨vs, ⟨h.len, ⟨h.row.1, ?_⟩, h.lt, fun j u zs hu hz => ?_, h.apart⟩, h1, h2⟩
  · rcases h.row.2 with h0 | ⟨g, cap, cur, rfl, hb, hh, h3⟩
    · exact .inl h0
    · have hg := h1 g rfl
      exact .inr ⟨g, cap, cur, rfl, hb, (hw.block g (h.row.lt g rfl).2 (by omega)).trans hh, h3⟩
  · have hi := h.inner j u zs hu hz
    refine ⟨⟨?_, hi.own.wf⟩, hi.lt⟩
    rcases hi.own.own.2 with h0 | ⟨g, cap, cur, rfl, hb, hh, h3⟩
    · exact ⟨hi.own.own.1, .inl h0⟩
    · have hg := h2 j _ hu g rfl
      exact ⟨hi.own.own.1, .inr ⟨g, cap, cur, rfl, hb, (hw.block g (hi.own.own.lt g rfl).2 (by omega)).trans hh, h3⟩⟩
theorem OwnSH.widen (h : OwnSH w lo hi m n v zss) (hh : hi ≤ hi') : OwnSH w lo hi' m n v zss := by
  obtain ⟨vs, h, h1, h2⟩ := h
  exact ⟨vs, ⟨h.len, h.row, fun g hg => Nat.lt_of_lt_of_le (h.lt g hg) hh, fun j u zs hu hz => ⟨(h.inner j u zs hu hz).own, fun g hg => Nat.lt_of_lt_of_le ((h.inner j u zs hu hz).lt g hg) hh⟩, h.apart⟩, h1, h2⟩
theorem Own2.below (h : Own2 w lo hi v zss u zs) (hb : Below w.heap.size w w') : Own2 w' lo hi v zss u zs := by
  obtain ⟨m, n, h1, h2, h3, h4, h5⟩ := h; exact ⟨m, n, h1, h2, h3, h4.below hb, h5.below hb⟩
theorem Own2.apart (h : Own2 w lo hi v zss u zs) (hw : Within lo' hi' w w') (hd : hi ≤ lo' ∨ hi' ≤ lo) : Own2 w' lo hi v zss u zs := by
  obtain ⟨m, n, h1, h2, h3, h4, h5⟩ := h; exact ⟨m, n, h1, h2, h3, h4.apart hw hd, h5.apart hw (by omega)⟩
theorem Own2.rdS (h : Own2 w lo hi v zss u zs) : RdS w v zss := by obtain ⟨m, n, h1, h2, h3, h4, h5⟩ := h; exact h4.rd
theorem Own2.rdI (h : Own2 w lo hi v zss u zs) : RdI w u zs := by obtain ⟨m, n, h1, h2, h3, h4, h5⟩ := h; exact h5.rd
theorem OwnI.keep9 (h : OwnI w m n u zs) (hk : ∀ k, k < w.heap.size → m ≤ k → k < n → w'.heap[k]? = w.heap[k]?) : OwnI w' m n u zs := by
  refine ⟨⟨?_, h.own.wf⟩, h.lt⟩
  rcases h.own.own.2 with h0 | ⟨g, cap, cur, rfl, hb, hh, h3⟩
  · exact ⟨h.own.own.1, .inl h0⟩
  · exact ⟨h.own.own.1, .inr ⟨g, cap, cur, rfl, hb, (hk g (h.own.own.lt g rfl).2 hb (h.lt g rfl)).trans hh, h3⟩⟩
/-- Rows that all lie behind the hole. -/
theorem OwnS.behind (h : OwnS w lo' hi v zss) (hl : lo ≤ lo') (hn : n ≤ lo') : OwnSH w lo hi m n v zss := by
  obtain ⟨vs, h⟩ := h
  refine ⟨vs, ⟨h.len, ?_, h.lt, fun j u zs hu hz => ⟨(h.inner j u zs hu hz).own.mono hl, (h.inner j u zs hu hz).lt⟩, h.apart⟩, fun g hg => .inr (Nat.le_trans hn (h.row.lt g hg).1), fun j u hu g hg => ?_⟩
  · refine ⟨h.row.1, ?_⟩
    rcases h.row.2 with h0 | ⟨g, cap, cur, e, hb, hh⟩
    · exact .inl h0
    · exact .inr ⟨g, cap, cur, e, Nat.le_trans hl hb, hh⟩
  · have hj : j < zss.length := by
      rw [← h.len]
      rcases Nat.lt_or_ge j vs.length with h' | h'
      · exact h'
      · rw [List.getElem?_eq_none h'] at hu; cases hu
    exact .inr (Nat.le_trans hn ((h.inner j u _ hu (List.getElem?_eq_getElem hj)).own.ge g hg).1)
def CapV : Value → Prop
  | .slice _ n c => n ≤ c
  | _ => True
theorem OwnS.capV (h : OwnS w lo hi v zss) : CapV v := by
  obtain ⟨vs, h⟩ := h
  rcases h.row.2 with ⟨rfl, h1⟩ | ⟨g, cap, cur, rfl, hb, hh, h1, h2, _⟩
  · exact Nat.le_refl _
  · exact h1
theorem own2_nil (w : World) (lo hi : Nat) (h : lo ≤ hi) : Own2 w lo hi (.slice none 0 0) [] (.slice none 0 0) [] := by
  refine ⟨lo, lo, Nat.le_refl _, Nat.le_refl _, h, ⟨[], ⟨rfl, World.ownsRow_nil _ _ _ _, fun g hg => by simp [Value.ownBlock] at hg, fun j u zs hu => by simp at hu, fun i j u u' g _ hu => by simp at hu⟩, fun g hg => by simp [Value.ownBlock] at hg, fun j u hu => by simp at hu⟩, ⟨Own.nil w lo, fun g hg => by simp [Value.ownBlock] at hg⟩⟩
end
theorem markSH (m n : Nat) (v : Value) (zss : List (List Int)) (a : Int) (lo hi : Nat) (w : World) (ha : 0 ≤ a ∧ a ≤ 900000000) (hl : szS zss ≤ 90000000) (h : OwnSH w lo hi m n v zss) :
    Calls Try.prog 38 #[v, .int .i64 a] w fun e w' => e = .returned (.int .i64 (a + szS zss)) ∧ OwnSH w' lo hi m n v (mkS a zss) ∧ Within lo hi w w' ∧ ∀ k, k < w.heap.size → m ≤ k → k < n → w'.heap[k]? = w.heap[k]? := by
  obtain ⟨vs, h, hf1, hf2⟩ := h
  have Hf1 := Lib.hid hf1; clear hf1
  have Hf2 := Lib.hid hf2; clear hf2
  have hlen := h.len_le
  have Hln := Lib.hid h.len
  have Hap := Lib.hid h.apart
  have Hlt := Lib.hid h.lt
  have Hne : Hid (∀ (j : Nat) u, vs[j]? = some u → v.ownBlock = none ∨ v.ownBlock ≠ u.ownBlock) := Lib.hid fun j u hu => by
    have hj : j < zss.length := by
      rw [← h.len]
      rcases Nat.lt_or_ge j vs.length with h | h
      · exact h
      · rw [List.getElem?_eq_none h] at hu; cases hu
    exact h.inner_ne hu (List.getElem?_eq_getElem hj)
  have Hform := Lib.hid h.form
  have Hrow := Lib.hid h.row
  have Hin := Lib.hid h.inner
  clear h
  obtain ⟨A, c, rfl, Hcell⟩ : ∃ A c, v = .slice A zss.length c ∧ Hid (∀ wr : World, wr.ownsRow lo 28 1 v zss.length vs → ∀ (j : Nat) u, vs[j]? = some u → ∃ g, A = some ⟨g, 0, none⟩ ∧ wr.cell? ⟨g, j, none⟩ = some u) := by
    rcases Hform.out with ⟨rfl, h0⟩ | ⟨g, cap, rfl, hg, hc⟩
    · refine ⟨none, 0, by rw [h0], Lib.hid fun wr hr j u hu => ?_⟩
      have : vs = [] := List.eq_nil_of_length_eq_zero (by rw [Hln.out, h0])
      subst this; simp at hu
    · refine ⟨_, _, rfl, Lib.hid fun wr hr j u hu => ⟨g, rfl, ?_⟩⟩
      have hj : j < vs.length := by
        rcases Nat.lt_or_ge j vs.length with h | h
        · exact h
        · rw [List.getElem?_eq_none h] at hu; cases hu
      rw [hr.cellAt j (by rw [Nat.mul_one, ← Hln.out]; exact hj), hu]
  go_enter Try.func38, Try.ntmps38
  go_wp2
  go_loopw [1, 5] (fun a' i wr => ∃ k : Nat, k ≤ zss.length ∧ i = .int .i64 k ∧ a' = .int .i64 (a + (szS (zss.take k) : Nat)) ∧ (Within lo hi w wr ∧ ∀ k, k < w.heap.size → m ≤ k → k < n → wr.heap[k]? = w.heap[k]?) ∧ wr.ownsRow lo 28 1 (.slice A zss.length c) zss.length vs ∧
    (∀ (j : Nat) u zs, vs[j]? = some u → zss[j]? = some zs → k ≤ j → OwnI wr lo hi u zs) ∧ (∀ (j : Nat) u ms, vs[j]? = some u → (mkS a zss)[j]? = some ms → j < k → OwnI wr lo hi u ms)) (fun _ i _ => zss.length - (intOf i).toNat)
  case atStart => exact ⟨0, Nat.zero_le _, rfl, by simp [szS], ⟨Within.of_below (Below.refl _ _), fun _ _ _ _ => rfl⟩, Hrow.out, fun j u zs hu hz _ => Hin.out j u zs hu hz, fun j u ms _ _ h => by omega⟩
  case round =>
    clear Hrow Hin
    obtain ⟨k, hk, rfl, rfl, hwi, hrow, hto, hdone⟩ := hrel
    have Hwi := Lib.hid hwi; clear hwi
    have Hrow := Lib.hid hrow; clear hrow
    have Hto := Lib.hid hto; clear hto
    have Hdone := Lib.hid hdone; clear hdone
    by_cases hlt : k < zss.length
    · have hz : zss[k]? = some zss[k] := List.getElem?_eq_getElem hlt
      have hu : vs[k]? = some (vs[k]'(by rw [Hln.out]; exact hlt)) := List.getElem?_eq_getElem _
      generalize zss[k] = zs at *
      generalize vs[k]'(by rw [Hln.out]; exact hlt) = u at *
      obtain ⟨g, rfl, hcell⟩ := Hcell.out wr Hrow.out k u hu
      have hown := Hto.out k u zs hu hz (Nat.le_refl _)
      have hmk := mkS_get a zss k zs hz
      have hsz := szS_take_succ zss k zs hz
      have hle := szS_take_le zss (k + 1)
      have Hz := Lib.hid hz; clear hz
      have Hu := Lib.hid hu; clear hu
      have Hown := Lib.hid hown; clear hown
      have Hmk := Lib.hid hmk; clear hmk
      have Hsz := Lib.hid hsz
      have hle1 : szS (zss.take k) + zs.length ≤ 90000000 := by omega
      clear hsz hle
      have hlt' : (k : Int) < zss.length := by omega
      obtain ⟨s, Hs⟩ : ∃ s, Hid (szS (zss.take k) = s) := ⟨_, Lib.hid rfl⟩
      rw [Hs.out] at hle1 ⊢
      go_wp2_with fail
      refine (mark_own lo zs u (a + s) _ (by omega) (by omega) Hown.out.own).mono ?_
      rintro e w2 ⟨rfl, ho, hg⟩
      have hw2 : Within lo hi w w2 ∧ ∀ k, k < w.heap.size → m ≤ k → k < n → w2.heap[k]? = w.heap[k]? := by
        have h1 : Within lo hi wr w2 := Within.of_only hg fun g' hg' => ⟨(Hown.out.own.ge g' hg').1, Hown.out.lt g' hg'⟩
        refine ⟨?_, fun q hq h2 h3 => ((hg.block q (Nat.lt_of_lt_of_le hq Hwi.out.1.size) (fun e => ?_)).trans (Hwi.out.2 q hq h2 h3))⟩
        case refine_2 => have := Hf2.out k u Hu.out q e.symm; omega
        exact ⟨h1.os.trans Hwi.out.1.os, h1.tape.trans Hwi.out.1.tape, h1.output.trans Hwi.out.1.output, Nat.le_trans Hwi.out.1.size h1.size, fun q hq hn => (h1.block q (Nat.lt_of_lt_of_le hq Hwi.out.1.size) hn).trans (Hwi.out.1.block q hq hn)⟩
      have hrow2 := Hrow.out.kept hg (Hne.out k u Hu.out)
      have hsep : ∀ (j : Nat) u', j ≠ k → vs[j]? = some u' → u'.ownBlock = none ∨ u'.ownBlock ≠ u.ownBlock := by
        intro j u' hj hu'
        rcases e : u'.ownBlock with _ | g'
        · exact .inl rfl
        · exact .inr fun e2 => Hap.out j k u' u g' hj hu' Hu.out e e2.symm
      have hto2 : ∀ (j : Nat) u' zs', vs[j]? = some u' → zss[j]? = some zs' → k + 1 ≤ j → OwnI w2 lo hi u' zs' := fun j u' zs' hu' hz' hj =>
        ⟨(Hto.out j u' zs' hu' hz' (by omega)).own.only hg (hsep j u' (by omega) hu'), (Hto.out j u' zs' hu' hz' (by omega)).lt⟩
      have hdone2 : ∀ (j : Nat) u' ms, vs[j]? = some u' → (mkS a zss)[j]? = some ms → j < k + 1 → OwnI w2 lo hi u' ms := by
        intro j u' ms hu' hm hj
        by_cases hjk : j = k
        · subst hjk
          rw [Hmk.out] at hm
          rw [Hu.out] at hu'
          cases hm; cases hu'
          rw [Hs.out]
          exact ⟨ho, Hown.out.lt⟩
        · exact ⟨(Hdone.out j u' ms hu' hm (by omega)).own.only hg (hsep j u' hjk hu'), (Hdone.out j u' ms hu' hm (by omega)).lt⟩
      have X : Hid _ := Lib.hid (And.intro hw2 (And.intro hrow2 (And.intro hto2 hdone2)))
      clear hw2 hrow2 hto2 hdone2 hsep hg ho
      go_wp2
      go_roundw
      case rel => exact ⟨k + 1, by omega, by go_num, by rw [Hsz.out, Hs.out]; go_num, X.out⟩
      case measure => simp [intOf]; omega
    · have hke : k = zss.length := by omega
      have hall : zss.take k = zss := List.take_of_length_le (by omega)
      have Hk := Lib.hid hke; clear hke
      have Ha := Lib.hid hall; clear hall
      go_wp2
      go_ret
      refine ⟨ret_i64 (by rw [Ha.out]), ⟨vs, ⟨by rw [mkS_length]; exact Hln.out, by rw [mkS_length]; exact Hrow.out, Hlt.out, fun j u ms hu hm => Hdone.out j u ms hu hm ?_, Hap.out⟩, Hf1.out, Hf2.out⟩, Hwi.out⟩
      rw [Hk.out, ← Hln.out]
      rcases Nat.lt_or_ge j vs.length with h | h
      · exact h
      · rw [List.getElem?_eq_none h] at hu; cases hu

end Go.Proofs.Ytiaidkhkcbamaaa
