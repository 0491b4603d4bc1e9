/- The program's runner: contracts of push and pop for the words of the rest. -/
import Derived.Test.YtmhhmdakilecoaaRv
namespace Go.Proofs.Ytmhhmdakilecoaa
set_option maxRecDepth 100000
open Go.RowKit Go.WideShapes

theorem pushN (lo g : Nat) (rest : List Int) (st : List (List Int)) (z : Int) (w : World) (h : Run w lo g rest st) (hz : InK .i64 z) (hl : rest.length ≤ 900000000) :
    Calls Try.prog 125 #[.pointer (some ⟨g, 0, none⟩), .int .i64 z] w (PushPost lo g (z :: rest) st w) := by
  have hlo := h.lo
  obtain ⟨vr, vs, us, h⟩ := h
  have hg := h.blk.lt
  have hge := h.ge
  have c1 := h.blk.cell 0
  simp only [List.getElem?_toArray, List.getElem?_cons_zero, List.getElem?_cons_succ] at c1
  have H := Lib.hid h
  have HZ := Lib.hid hz
  have Hn : Hid ((w.alloc (.cells #[.int .i64 z] 3)).cell? ⟨w.heap.size, 0, none⟩ = some (.int .i64 z)) := Lib.hid ((Blk.new w _ _).cell 0)
  clear h hz
  go_enter Try.func125, Try.ntmps125
  go_wp2_with (at_builtin; refine wpList_append_one rfl (.tmp 8) (.tmp 10) _ rfl lo 3 _ 8 Try.underlying23 intInfo (by omega) rfl _ rest.length (rest.reverse.map (Value.int .i64)) rfl (H.out.words.alloc _) w.heap.size 1 (.int .i64 z) rfl Hn.out rfl (by omega) (by simp; omega) ?_)
  intro v2 w2 hrow2 hg2 hown
  obtain ⟨g2, cap2, rfl⟩ := ownsRow_succ hrow2
  have hvne := ownsRow_ne H.out.words H.out.blk (by decide)
  have hsz2 : w.heap.size + 1 ≤ w2.heap.size := by have := hg2.size; simpa using this
  have hbk : ∀ k, k < w.heap.size → some k ≠ vr.ownBlock → w2.heap[k]? = w.heap[k]? := fun k hk hne => (hg2.block k (by simp; omega) hne).trans (Below.heap_alloc _ _ _ hk)
  have hblk2 : Blk w2 g #[vr, vs] 80 := (hbk g hg (fun e => hvne e.symm)).trans H.out.blk
  have c2 := hblk2.cell 0
  have f2 := hblk2.free 0
  simp only [List.getElem?_toArray, List.getElem?_cons_zero, List.getElem?_cons_succ] at c2
  have X : Hid (PushPost lo g (z :: rest) st w (.returned (.tuple #[])) (w2.setCell ⟨g, 0, none⟩ (.slice (some ⟨g2, 0, none⟩) (rest.length + 1) cap2))) := Lib.hid (by
    have hnb : Blk (w2.setCell ⟨g, 0, none⟩ (.slice (some ⟨g2, 0, none⟩) (rest.length + 1) cap2)) g #[.slice (some ⟨g2, 0, none⟩) (rest.length + 1) cap2, vs] 80 := hblk2.set 0 _
    have hk3 : ∀ k, k < w.heap.size → k ≠ g → some k ≠ vr.ownBlock → (w2.setCell ⟨g, 0, none⟩ (.slice (some ⟨g2, 0, none⟩) (rest.length + 1) cap2)).heap[k]? = w.heap[k]? := fun k hk hne hne2 => (Below.heap_setCell _ _ _ _ (by simpa using hne)).trans (hbk k hk hne2)
    have hs3 : (w2.setCell ⟨g, 0, none⟩ (.slice (some ⟨g2, 0, none⟩) (rest.length + 1) cap2)).heap.size = w2.heap.size := by simp [World.setCell]
    have e2 : (Value.slice (some ⟨g2, 0, none⟩) (rest.length + 1) cap2).ownBlock = vr.ownBlock ∨ ∃ n, (Value.slice (some ⟨g2, 0, none⟩) (rest.length + 1) cap2).ownBlock = some n ∧ w.heap.size ≤ n := by
      rcases hown with h1 | h1
      · exact .inl h1
      · exact .inr ⟨_, h1, by simp⟩
    have hB : Below lo w (w2.setCell ⟨g, 0, none⟩ (.slice (some ⟨g2, 0, none⟩) (rest.length + 1) cap2)) := (((Below.refl lo w).alloc hlo _).grown hg2 (by simp; omega) (fun k hk => (H.out.words.lt k hk).1)).setCell (by simpa using hge) _
    have hK : Keeps lo g w _ := Keeps.gen (b := vr.ownBlock) hB H.out.blk hnb hk3 (.inr (.inl rfl)) e2 (.inl rfl)
    refine ⟨rfl, ⟨_, vs, us, hnb, hge, ?_, fun y hy => ?_, H.out.len, ?_, ?_⟩, hK, others_gen (by rw [hs3]; omega) H.out.blk H.out.words hk3⟩
    · refine ownsRow_keep (by simpa using hrow2) fun k hk => Below.heap_setCell _ _ _ _ ?_
      have h2 := ownsRow_ne hrow2 hblk2 (by decide)
      simp only
      exact fun e => h2 (by rw [hk, e])
    · rcases List.mem_cons.1 hy with rfl | hy
      · exact HZ.out
      · exact H.out.wf y hy
    · refine ownsRow_keep H.out.vals fun k hk => ?_
      have h1 := (H.out.vals.lt k hk).2
      have h2 := ownsRow_ne H.out.vals H.out.blk (by decide)
      refine hk3 k h1 (fun e => h2 (by rw [hk, e])) (fun e => ?_)
      rcases ownsRow_ne2 H.out.vals H.out.words (by decide) with h3 | h3
      · rw [hk] at h3; cases h3
      · exact h3 (by rw [hk, e])
    · intro j u' zs' hu hz
      exact hK.val (H.out.inner j _ _ hu hz))
  clear hrow2 hg2 hown hbk hblk2 hvne
  go_wp2
  go_end0
  exact X.out

def PopAt (lo g : Nat) (vr vs : Value) (us : List Value) (z : Int) (rest : List Int) (st : List (List Int)) (w : World) (e : Ending) (w' : World) : Prop :=
  e = .returned (.tuple #[.int .i64 z, .bool true]) ∧ InK .i64 z ∧ (∃ vr', RunAt w' lo g vr' vs us rest st ∧ vr'.ownBlock = vr.ownBlock) ∧ Keeps lo g w w' ∧ Within g (g + 1) w w' ∧ w'.heap.size = w.heap.size
theorem popN_at (lo g : Nat) (vr vs : Value) (us : List Value) (z : Int) (rest : List Int) (st : List (List Int)) (w : World) (h : RunAt w lo g vr vs us (z :: rest) st) (hl : rest.length ≤ 900000000) :
    Calls Try.prog 102 #[.pointer (some ⟨g, 0, none⟩)] w (PopAt lo g vr vs us z rest st w) := by
  have hg := h.blk.lt
  have hge := h.ge
  obtain ⟨g2, cap2, rfl⟩ := ownsRow_succ h.words
  have hcell := h.words.cellAt rest.length (by omega)
  have hcap := ownsRow_cap h.words
  have hu : ((z :: rest).reverse.map (Value.int .i64))[rest.length]? = some (.int .i64 z) := by
    rw [List.reverse_cons, List.map_append, List.getElem?_append_right (by simp)]; simp
  rw [hu] at hcell
  have c1 := h.blk.cell 0
  have f1 := h.blk.free 0
  simp only [List.getElem?_toArray, List.getElem?_cons_zero, List.getElem?_cons_succ] at c1
  have X : Hid (InK .i64 z ∧ (∃ vr', RunAt (w.setCell ⟨g, 0, none⟩ (.slice (some ⟨g2, 0, none⟩) rest.length cap2)) lo g vr' vs us rest st ∧ vr'.ownBlock = (Value.slice (some ⟨g2, 0, none⟩) (rest.length + 1) cap2).ownBlock) ∧ Keeps lo g w (w.setCell ⟨g, 0, none⟩ (.slice (some ⟨g2, 0, none⟩) rest.length cap2)) ∧ Within g (g + 1) w (w.setCell ⟨g, 0, none⟩ (.slice (some ⟨g2, 0, none⟩) rest.length cap2)) ∧ (w.setCell ⟨g, 0, none⟩ (.slice (some ⟨g2, 0, none⟩) rest.length cap2)).heap.size = w.heap.size) := Lib.hid (by
    have hnb : Blk (w.setCell ⟨g, 0, none⟩ (.slice (some ⟨g2, 0, none⟩) rest.length cap2)) g #[.slice (some ⟨g2, 0, none⟩) rest.length cap2, vs] 80 := h.blk.set 0 _
    have hk3 : ∀ k, k < w.heap.size → k ≠ g → some k ≠ (none : Option Nat) → (w.setCell ⟨g, 0, none⟩ (.slice (some ⟨g2, 0, none⟩) rest.length cap2)).heap[k]? = w.heap[k]? := fun k hk hne _ => Below.heap_setCell _ _ _ _ (by simpa using hne)
    have hs3 : (w.setCell ⟨g, 0, none⟩ (.slice (some ⟨g2, 0, none⟩) rest.length cap2)).heap.size = w.heap.size := by simp [World.setCell]
    have hB : Below lo w (w.setCell ⟨g, 0, none⟩ (.slice (some ⟨g2, 0, none⟩) rest.length cap2)) := (Below.refl lo w).setCell (by simpa using hge) _
    have hK : Keeps lo g w (w.setCell ⟨g, 0, none⟩ (.slice (some ⟨g2, 0, none⟩) rest.length cap2)) := Keeps.gen (b := none) hB h.blk hnb hk3 (.inl rfl) (.inl rfl) (.inl rfl)
    refine ⟨h.wf z (by simp), ⟨_, ⟨hnb, hge, ?_, fun y hy => h.wf y (by simp [hy]), h.len, ?_, ?_⟩, rfl⟩, hK, within_setCell _ _ _ _, hs3⟩
    · have htk : ((z :: rest).reverse.map (Value.int .i64)).take rest.length = rest.reverse.map (Value.int .i64) := by
        rw [List.reverse_cons, List.map_append, List.take_append_of_le_length (by simp), List.take_of_length_le (by simp)]
      have h3 := ownsRow_take h.words rest.length (by simp)
      rw [htk] at h3
      refine ownsRow_keep h3 fun k hk => hk3 k ?_ (fun e => ?_) (by simp)
      · exact (h.words.lt k hk).2
      · exact ownsRow_ne h.words h.blk (by decide) (by rw [← e]; exact hk)
    · refine ownsRow_keep h.vals fun k hk => hk3 k (h.vals.lt k hk).2 (fun e => ?_) (by simp)
      exact ownsRow_ne h.vals h.blk (by decide) (by rw [hk, e])
    · intro j u' zs' hu' hz'
      exact hK.val (h.inner j _ _ hu' hz'))
  have hn1 : ((rest.length + 1 : Nat) : Int) - 1 = rest.length := by omega
  clear h hu
  go_enter Try.func102, Try.ntmps102
  go_wp2
  go_ret2
  exact ⟨rfl, X.out⟩
def PopN (lo g : Nat) (z : Int) (rest : List Int) (st : List (List Int)) (w : World) (e : Ending) (w' : World) : Prop := e = .returned (.tuple #[.int .i64 z, .bool true]) ∧ InK .i64 z ∧ Run w' lo g rest st ∧ Keeps lo g w w'
theorem popN (lo g : Nat) (z : Int) (rest : List Int) (st : List (List Int)) (w : World) (h : Run w lo g (z :: rest) st) (hl : rest.length ≤ 900000000) :
    Calls Try.prog 102 #[.pointer (some ⟨g, 0, none⟩)] w (PopN lo g z rest st w) := by
  obtain ⟨vr, vs, us, h⟩ := h
  refine (popN_at lo g vr vs us z rest st w h hl).mono ?_
  rintro e w' ⟨he, hz, ⟨vr', hr, _⟩, hk, _⟩
  exact ⟨he, hz, ⟨vr', vs, us, hr⟩, hk⟩
theorem popN_none (lo g : Nat) (st : List (List Int)) (w : World) (h : Run w lo g [] st) :
    Calls Try.prog 102 #[.pointer (some ⟨g, 0, none⟩)] w fun e w' => e = .returned (.tuple #[.int .i64 0, .bool false]) ∧ w = w' := by
  obtain ⟨vr, vs, us, h⟩ := h
  have hg := h.blk.lt
  have c1 := h.blk.cell 0
  simp only [List.getElem?_toArray, List.getElem?_cons_zero, List.getElem?_cons_succ] at c1
  obtain ⟨A, c, rfl⟩ : ∃ A c, vr = .slice A 0 c := by
    rcases h.words.2 with ⟨rfl, _⟩ | ⟨g', cap, cur, rfl, _⟩
    · exact ⟨_, _, rfl⟩
    · exact ⟨_, _, rfl⟩
  clear h
  go_enter Try.func102, Try.ntmps102
  go_wp2
  go_ret2
  exact ⟨rfl, rfl⟩
end Go.Proofs.Ytmhhmdakilecoaa
