/- The program's runner: contracts of push and pop, for numbers and for values. -/
import Derived.Test.YtmhhmdakilecoaaRu
import Derived.RangeFuncBox
namespace Go.Proofs.Ytmhhmdakilecoaa
set_option maxRecDepth 100000
open Go.RowKit Go.WideShapes

theorem ownsRow_cap {w : World} {lo g n c : Nat} {e : TypeId} {xs : List Value} (h : w.ownsRow lo e 1 (.slice (some ⟨g, 0, none⟩) n c) n xs) : n ≤ c ∧ c ≤ 9223372036854775807 := by
  rcases h.2 with ⟨h0, _⟩ | ⟨g', cap, cur, he, _, _, h1, h2, _⟩
  · simp at h0
  · cases he; unfold maxLen at h2; exact ⟨h1, h2⟩
theorem others_gen {w w' : World} {lo g n : Nat} {e T : TypeId} {cs : Array Value} {v : Value} {xs : List Value} (hs : w.heap.size ≤ w'.heap.size) (h : Blk w g cs T) (hrow : w.ownsRow lo e 1 v n xs) (hk : ∀ k, k < w.heap.size → k ≠ g → some k ≠ v.ownBlock → w'.heap[k]? = w.heap[k]?) : KeepsOthers w w' := by
  refine ⟨hs, fun k o ho hc => ?_⟩
  have hlt : k < w.heap.size := by
    rcases Nat.lt_or_ge k w.heap.size with h1 | h1
    · exact h1
    · rw [Array.getElem?_eq_none h1] at ho; cases ho
  refine (hk k hlt ?_ ?_).trans ho
  · rintro rfl
    unfold Blk at h
    rw [h] at ho; cases ho
    simp [Obj.isCells] at hc
  · intro e'
    rcases hrow.2 with ⟨rfl, _⟩ | ⟨g', cap, cur, rfl, _, hh, _⟩
    · simp [Value.ownBlock] at e'
    · have : k = g' := by simpa [Value.ownBlock] using e'
      subst this
      rw [hh] at ho; cases ho
      simp [Obj.isCells] at hc
def PushPost (lo g : Nat) (rest : List Int) (st : List (List Int)) (w : World) (e : Ending) (w' : World) : Prop := e = .returned (.tuple #[]) ∧ Run w' lo g rest st ∧ Keeps lo g w w' ∧ KeepsOthers w w'

theorem pushV (lo g : Nat) (rest : List Int) (st : List (List Int)) (u : Value) (zs : List Int) (w : World) (h : Run w lo g rest st) (hv : Val w g u zs) (hl : st.length ≤ 1000) :
    Calls Try.prog 101 #[.pointer (some ⟨g, 1, none⟩), u] w (PushPost lo g rest (zs :: st) w) := by
  have hlo := h.lo
  obtain ⟨vr, vs, us, h⟩ := h
  have hg := h.blk.lt
  have hge := h.ge
  have Hap := Lib.hid hv
  obtain ⟨Au, cu, rfl, _⟩ := hv.1
  have c1 := h.blk.cell 1
  simp only [List.getElem?_toArray, List.getElem?_cons_zero, List.getElem?_cons_succ] at c1
  have H := Lib.hid h
  have Hn : Hid ((w.alloc (.cells #[.slice Au zs.length cu] 23)).cell? ⟨w.heap.size, 0, none⟩ = some (.slice Au zs.length cu)) := Lib.hid ((Blk.new w _ _).cell 0)
  clear h hv
  go_enter Try.func101, Try.ntmps101
  go_wp2_with (at_builtin; refine wpList_append_one rfl (.tmp 8) (.tmp 10) _ rfl lo 23 _ 24 Try.underlying29 rowInfo (by omega) rfl _ st.length us rfl (H.out.vals.alloc _) w.heap.size 1 (.slice Au zs.length cu) rfl Hn.out rfl (by omega) (by simp; omega) ?_)
  intro v2 w2 hrow2 hg2 hown
  obtain ⟨g2, cap2, rfl⟩ := ownsRow_succ hrow2
  have hvne := ownsRow_ne H.out.vals H.out.blk (by decide)
  have hsz2 : w.heap.size + 1 ≤ w2.heap.size := by have := hg2.size; simpa using this
  have hbk : ∀ k, k < w.heap.size → some k ≠ vs.ownBlock → w2.heap[k]? = w.heap[k]? := fun k hk hne => (hg2.block k (by simp; omega) hne).trans (Below.heap_alloc _ _ _ hk)
  have hblk2 : Blk w2 g #[vr, vs] 80 := (hbk g hg (fun e => hvne e.symm)).trans H.out.blk
  have c2 := hblk2.cell 1
  have f2 := hblk2.free 1
  simp only [List.getElem?_toArray, List.getElem?_cons_zero, List.getElem?_cons_succ] at c2
  have X : Hid (PushPost lo g rest (zs :: st) w (.returned (.tuple #[])) (w2.setCell ⟨g, 1, none⟩ (.slice (some ⟨g2, 0, none⟩) (st.length + 1) cap2))) := Lib.hid (by
    have hnb : Blk (w2.setCell ⟨g, 1, none⟩ (.slice (some ⟨g2, 0, none⟩) (st.length + 1) cap2)) g #[vr, .slice (some ⟨g2, 0, none⟩) (st.length + 1) cap2] 80 := hblk2.set 1 _
    have hk3 : ∀ k, k < w.heap.size → k ≠ g → some k ≠ vs.ownBlock → (w2.setCell ⟨g, 1, none⟩ (.slice (some ⟨g2, 0, none⟩) (st.length + 1) cap2)).heap[k]? = w.heap[k]? := fun k hk hne hne2 => (Below.heap_setCell _ _ _ _ (by simpa using hne)).trans (hbk k hk hne2)
    have hs3 : (w2.setCell ⟨g, 1, none⟩ (.slice (some ⟨g2, 0, none⟩) (st.length + 1) cap2)).heap.size = w2.heap.size := by simp [World.setCell]
    have e2 : (Value.slice (some ⟨g2, 0, none⟩) (st.length + 1) cap2).ownBlock = vs.ownBlock ∨ ∃ n, (Value.slice (some ⟨g2, 0, none⟩) (st.length + 1) cap2).ownBlock = some n ∧ w.heap.size ≤ n := by
      rcases hown with h1 | h1
      · exact .inl h1
      · exact .inr ⟨_, h1, by simp⟩
    have hB : Below lo w (w2.setCell ⟨g, 1, none⟩ (.slice (some ⟨g2, 0, none⟩) (st.length + 1) cap2)) := (((Below.refl lo w).alloc hlo _).grown hg2 (by simp; omega) (fun k hk => (H.out.vals.lt k hk).1)).setCell (by simpa using hge) _
    have hK : Keeps lo g w _ := Keeps.gen (b := vs.ownBlock) hB H.out.blk hnb hk3 (.inr (.inr rfl)) (.inl rfl) e2
    refine ⟨rfl, ⟨vr, _, us ++ [.slice Au zs.length cu], hnb, hge, ?_, H.out.wf, by simp [H.out.len], ?_, ?_⟩, hK, others_gen (by rw [hs3]; omega) H.out.blk H.out.vals hk3⟩
    · refine ownsRow_keep H.out.words fun k hk => ?_
      have h1 := (H.out.words.lt k hk).2
      have h2 := ownsRow_ne H.out.words H.out.blk (by decide)
      refine hk3 k h1 (fun e => h2 (by rw [hk, e])) (fun e => ?_)
      rcases ownsRow_ne2 H.out.words H.out.vals (by decide) with h3 | h3
      · rw [hk] at h3; cases h3
      · exact h3 (by rw [hk, e])
    · refine ownsRow_keep (by simpa using hrow2) fun k hk => Below.heap_setCell _ _ _ _ ?_
      have h2 := ownsRow_ne hrow2 hblk2 (by decide)
      simp only
      exact fun e => h2 (by rw [hk, e])
    · intro j u' zs' hu hz
      have hz' : (st.reverse ++ [zs])[j]? = some zs' := by simpa using hz
      by_cases hj : j < us.length
      · rw [List.getElem?_append_left hj] at hu
        rw [List.getElem?_append_left (by rw [List.length_reverse, ← H.out.len]; exact hj)] at hz'
        exact hK.val (H.out.inner j _ _ hu hz')
      · have hjl : j = us.length := by
          rcases Nat.lt_or_ge j (us.length + 1) with h' | h'
          · omega
          · rw [List.getElem?_eq_none (by simp; omega)] at hu; cases hu
        subst hjl
        rw [List.getElem?_append_right (by omega)] at hu
        rw [List.getElem?_append_right (by rw [List.length_reverse, H.out.len]; omega)] at hz'
        simp at hu
        simp [H.out.len] at hz'
        subst hu; subst hz'
        exact hK.val Hap.out)
  clear hrow2 hg2 hown hbk hblk2 hvne
  go_wp2
  go_end0
  exact X.out

def PopV (lo g : Nat) (rest : List Int) (zs : List Int) (st : List (List Int)) (w : World) (e : Ending) (w' : World) : Prop := ∃ u, e = .returned (.tuple #[u, .bool true]) ∧ Val w' g u zs ∧ Run w' lo g rest st ∧ Keeps lo g w w'
theorem popV (lo g : Nat) (rest zs : List Int) (st : List (List Int)) (w : World) (h : Run w lo g rest (zs :: st)) (hl : st.length ≤ 1000) :
    Calls Try.prog 106 #[.pointer (some ⟨g, 1, none⟩)] w (PopV lo g rest zs st w) := by
  obtain ⟨vr, vs, us, h⟩ := h
  have hg := h.blk.lt
  have hge := h.ge
  obtain ⟨g2, cap2, rfl⟩ := ownsRow_succ h.vals
  have hul : us.length = st.length + 1 := h.len
  have hu : us[st.length]? = some (us[st.length]'(by omega)) := List.getElem?_eq_getElem _
  have hcell := h.vals.cellAt st.length (by omega)
  have hcap := ownsRow_cap h.vals
  rw [hu] at hcell
  generalize us[st.length]'(by omega) = u at hu hcell
  have hap : Val w g u zs := h.inner st.length _ _ hu (by simp)
  have hrd := hap.1
  obtain ⟨Au, cu, rfl, _⟩ := hrd
  have c1 := h.blk.cell 1
  have f1 := h.blk.free 1
  simp only [List.getElem?_toArray, List.getElem?_cons_zero, List.getElem?_cons_succ] at c1
  have X : Hid (Val (w.setCell ⟨g, 1, none⟩ (.slice (some ⟨g2, 0, none⟩) st.length cap2)) g (.slice Au zs.length cu) zs ∧ Run (w.setCell ⟨g, 1, none⟩ (.slice (some ⟨g2, 0, none⟩) st.length cap2)) lo g rest st ∧ Keeps lo g w (w.setCell ⟨g, 1, none⟩ (.slice (some ⟨g2, 0, none⟩) st.length cap2))) := Lib.hid (by
    have hnb : Blk (w.setCell ⟨g, 1, none⟩ (.slice (some ⟨g2, 0, none⟩) st.length cap2)) g #[vr, .slice (some ⟨g2, 0, none⟩) st.length cap2] 80 := h.blk.set 1 _
    have hk3 : ∀ k, k < w.heap.size → k ≠ g → some k ≠ (none : Option Nat) → (w.setCell ⟨g, 1, none⟩ (.slice (some ⟨g2, 0, none⟩) st.length cap2)).heap[k]? = w.heap[k]? := fun k hk hne _ => Below.heap_setCell _ _ _ _ (by simpa using hne)
    have hs3 : (w.setCell ⟨g, 1, none⟩ (.slice (some ⟨g2, 0, none⟩) st.length cap2)).heap.size = w.heap.size := by simp [World.setCell]
    have hB : Below lo w (w.setCell ⟨g, 1, none⟩ (.slice (some ⟨g2, 0, none⟩) st.length cap2)) := (Below.refl lo w).setCell (by simpa using hge) _
    have hK : Keeps lo g w (w.setCell ⟨g, 1, none⟩ (.slice (some ⟨g2, 0, none⟩) st.length cap2)) := Keeps.gen (b := none) hB h.blk hnb hk3 (.inl rfl) (.inl rfl) (.inl rfl)
    refine ⟨hK.val hap, ⟨vr, _, us.take st.length, hnb, hge, ?_, h.wf, by rw [List.length_take]; omega, ?_, ?_⟩, hK⟩
    · refine ownsRow_keep h.words fun k hk => hk3 k (h.words.lt k hk).2 (fun e => ?_) (by simp)
      exact ownsRow_ne h.words h.blk (by decide) (by rw [hk, e])
    · refine ownsRow_keep (ownsRow_take h.vals st.length (by simp)) fun k hk => hk3 k ?_ (fun e => ?_) (by simp)
      · exact (h.vals.lt k hk).2
      · exact ownsRow_ne h.vals h.blk (by decide) (by rw [← e]; exact hk)
    · intro j u' zs' hu' hz'
      have hj : j < st.length := by
        rcases Nat.lt_or_ge j st.length with h' | h'
        · exact h'
        · rw [List.getElem?_eq_none (by simpa using h')] at hz'; cases hz'
      rw [List.getElem?_take_of_lt hj] at hu'
      refine hK.val (h.inner j _ _ hu' ?_)
      rw [List.reverse_cons, List.getElem?_append_left (by simpa using hj)]; exact hz')
  have hn1 : ((st.length + 1 : Nat) : Int) - 1 = st.length := by omega
  clear h hap hu hul
  go_enter Try.func106, Try.ntmps106
  go_wp2
  go_ret2
  exact ⟨_, rfl, X.out⟩
theorem popV_none (lo g : Nat) (rest : List Int) (w : World) (h : Run w lo g rest []) :
    Calls Try.prog 106 #[.pointer (some ⟨g, 1, none⟩)] w fun e w' => e = .returned (.tuple #[.slice none 0 0, .bool false]) ∧ w = w' := by
  obtain ⟨vr, vs, us, h⟩ := h
  have hg := h.blk.lt
  have c1 := h.blk.cell 1
  simp only [List.getElem?_toArray, List.getElem?_cons_zero, List.getElem?_cons_succ] at c1
  obtain ⟨A, c, rfl⟩ : ∃ A c, vs = .slice A 0 c := by
    rcases h.vals.2 with ⟨rfl, _⟩ | ⟨g', cap, cur, rfl, _⟩
    · exact ⟨_, _, rfl⟩
    · exact ⟨_, _, rfl⟩
  clear h
  go_enter Try.func106, Try.ntmps106
  go_wp2
  go_ret2
  exact ⟨rfl, rfl⟩
end Go.Proofs.Ytmhhmdakilecoaa
