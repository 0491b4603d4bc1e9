/- Contracts of slices.Grow (of nil), slices.Concat and slices.Clone at rows of integers. -/
import Derived.Test.YtgiemajjmdjfkaaDoorP
import Derived.Lib.AppendZeros
namespace Go.Proofs.YtgiemajjmdjfkaaDoor
set_option maxRecDepth 100000
open Go.RowKit Go.WideShapes

theorem grow_nil (n : Nat) (w : World) (hn : n ≤ 1000000000) :
    Calls Tryd.prog 102 #[.slice none 0 0, .int .i64 n] w fun e w' => ∃ v, e = .returned v ∧ w'.ownsRow w.heap.size 3 1 v 0 [] ∧ Below w.heap.size w w' := by
  obtain ⟨i0, hi0, hz0, hz1, hz2⟩ := info_parts intInfo
  by_cases h0 : n = 0
  · subst h0
    go_enter Tryd.func102, Tryd.ntmps102
    go_wp2
    go_ret
    exact ⟨_, rfl, World.ownsRow_nil _ _ _ _, Below.refl _ _⟩
  · have hpos : 0 < n := by omega
    have hrz := fun (W : World) (ty : TypeId) => Lib.run_append_nil_zeros (P := Tryd.prog) W 23 3 ty 3 i0 (.int .i64 0) .i64 .i64 Tryd.underlying23 Tryd.underlying3 hi0 hz0 n hpos (by omega) (by omega) (by rw [hz2]; omega)
    have hrz' := hrz w
    have hGn : n ≤ grownCap w n 0 3 := grownCap_ge w _ _ _
    have hG63 := grownCap_le_maxLen w n 0 3 (by unfold maxLen; omega)
    generalize grownCap w n 0 3 = G at *
    have hG63' : G ≤ 9223372036854775807 := by unfold maxLen at hG63; omega
    have hsz : (Builtin.zeroCells (Value.int IntKind.i64 0).cells n ++ Builtin.zeroCells (Value.int IntKind.i64 0).cells (G - n)).size = G * 1 := by
      simp [Builtin.zeroCells, Value.cells]; omega
    generalize Builtin.zeroCells (Value.int IntKind.i64 0).cells n ++ Builtin.zeroCells (Value.int IntKind.i64 0).cells (G - n) = cur at *
    have Hsz := Lib.hid hsz; clear hsz
    clear hrz
    go_enter Tryd.func102, Tryd.ntmps102
    go_wp2_with (at_builtin; refine Lib.wpList_append_run _ rfl _ _ _ _ rfl _ _ rfl rfl _ _ (hrz' _) ?_)
    go_ret
    exact ⟨_, rfl, World.ownsRow_made _ _ _ (Nat.le_refl _) hG63 Hsz.out, ((Below.refl _ _).drew).alloc (Nat.le_refl _) _⟩

/-- Slices of integers: where they lie, their capacities, what they hold. -/
abbrev Sl := Option Addr × Nat × List Int
def Sl.val (s : Sl) : Value := .slice s.1 s.2.2.length s.2.1
def flat (ss : List Sl) : List Int := (ss.map (·.2.2)).flatten
/-- Cells of a row of slices that can all be read below block B. -/
structure SlRow (w : World) (B b off : Nat) (ss : List Sl) : Prop where
  cell : ∀ j s, ss[j]? = some s → w.cell? ⟨b, off + j, none⟩ = some s.val
  ints : ∀ s ∈ ss, IntsK .i64 w B s.1 s.2.2
theorem flat_take_succ (ss : List Sl) (k : Nat) (s : Sl) (h : ss[k]? = some s) : flat (ss.take (k + 1)) = flat (ss.take k) ++ s.2.2 := by
  unfold flat; rw [List.take_add_one, h]; simp
theorem flat_take_le (ss : List Sl) (k : Nat) : (flat (ss.take k)).length ≤ (flat ss).length := by
  conv => rhs; rw [← List.take_append_drop k ss]
  unfold flat; simp only [List.map_append, List.flatten_append, List.length_append]; omega

theorem concat_any (b off c : Nat) (ss : List Sl) (w : World) (hb : b < w.heap.size) (h : SlRow w w.heap.size b off ss) (hn : ss.length ≤ 1000000) (hl : (flat ss).length ≤ 1000000000) :
    Calls Tryd.prog 85 #[.slice (some ⟨b, off, none⟩) ss.length c] w fun e w' => ∃ v, e = .returned v ∧ Own w' w.heap.size v (flat ss) ∧ Below w.heap.size w w' := by
  have hwfs : ∀ z ∈ flat ss, InK .i64 z := by
    intro z hz
    unfold flat at hz
    obtain ⟨l, hl, hz⟩ := List.mem_flatten.1 hz
    obtain ⟨s, hs, rfl⟩ := List.mem_map.1 hl
    exact (h.ints s hs).wf z hz
  have Hwf := Lib.hid hwfs; clear hwfs
  have H := Lib.hid h; clear h
  have Hlen : ∀ k, (flat (ss.take k)).length ≤ 1000000000 := fun k => Nat.le_trans (flat_take_le ss k) hl
  have HL := Lib.hid Hlen; clear Hlen
  go_enter Tryd.func85, Tryd.ntmps85
  go_wp2
  go_loop [3, 11] (fun s i => ∃ k : Nat, k ≤ ss.length ∧ i = .int .i64 k ∧ s = .int .i64 ((flat (ss.take k)).length : Nat)) (fun _ i => ss.length - (intOf i).toNat)
  case atStart => exact ⟨0, Nat.zero_le _, rfl, rfl⟩
  case round =>
    obtain ⟨k, hk, rfl, rfl⟩ := hrel
    by_cases hlt : k < ss.length
    · have hs : ss[k]? = some ss[k] := List.getElem?_eq_getElem hlt
      have hcell := H.out.cell k _ hs
      have hsucc := flat_take_succ ss k _ hs
      have hle := HL.out (k + 1)
      have hle0 := HL.out k
      rw [hsucc, List.length_append] at hle
      unfold Sl.val at hcell
      have Hs := Lib.hid hsucc; clear hsucc hs
      generalize ss[k] = s at *
      obtain ⟨sA, sc, sz⟩ := s
      simp only at hcell hle
      have HL0 : (flat (ss.take (k + 1))).length = (flat (ss.take k)).length + sz.length := by rw [Hs.out, List.length_append]
      have HL1 := Lib.hid HL0; clear HL0 Hs
      generalize (flat (ss.take k)).length = m at *
      go_wp2
      go_round
      case rel => exact ⟨k + 1, by omega, by go_num, by rw [HL1.out]; go_num⟩
      case measure => simp [intOf]; omega
    · have hke : k = ss.length := by omega
      have hm : (flat (ss.take k)).length ≤ 1000000000 := HL.out k
      generalize (flat (ss.take k)).length = m at *
      clear hke
      go_wp2_with (go_at_call 102; refine (grow_nil m _ hm).mono ?_; rintro e w1 ⟨v1, rfl, hown1, hb1⟩)
      have hstart : w1.ownsRow w.heap.size 3 1 v1 (flat (ss.take 0)).length ((flat (ss.take 0)).map (Value.int .i64)) := by simpa [flat] using hown1
      clear hown1
      have Hst := Lib.hid hstart; clear hstart
      go_loopw [6, 27] (fun v i wr => ∃ k : Nat, k ≤ ss.length ∧ i = .int .i64 k ∧ Below w.heap.size w wr ∧ wr.ownsRow w.heap.size 3 1 v (flat (ss.take k)).length ((flat (ss.take k)).map (Value.int .i64))) (fun _ i _ => ss.length - (intOf i).toNat)
      case atStart => exact ⟨0, Nat.zero_le _, rfl, hb1, Hst.out⟩
      case round =>
        clear Hst hb1 hlt hm hk
        obtain ⟨k, hk, rfl, hbk, hown⟩ := hrel
        have Hown := Lib.hid hown; clear hown
        by_cases hlt : k < ss.length
        · have hs : ss[k]? = some ss[k] := List.getElem?_eq_getElem hlt
          have hcell := (hbk.cell (p := ⟨b, off + k, none⟩) hb).trans (H.out.cell k _ hs)
          have hsucc := flat_take_succ ss k _ hs
          have hle := HL.out (k + 1)
          rw [hsucc, List.length_append] at hle
          have hint := (H.out.ints _ (List.getElem_mem hlt)).below hbk
          unfold Sl.val at hcell
          have Hs := Lib.hid hsucc; clear hsucc hs
          have HI := Lib.hid hint; clear hint
          generalize ss[k] = s at *
          obtain ⟨sA, sc, sz⟩ := s
          simp only at hcell hle
          have Hle := Lib.hid hle; clear hle
          go_wp2_with (at_builtin; refine wpList_append_ints rfl _ _ _ rfl w.heap.size 3 .i64 8 Tryd.underlying23 intInfo (Nat.le_refl _) _ (flat (ss.take k)) rfl Hown.out w.heap.size sA sz sc rfl HI.out Hle.out hbk.size ?_; intro v' w' hown' hg' _)
          have hb' : Below w.heap.size w w' := hbk.grown hg' hbk.size (fun g hg => (Hown.out.lt g hg).1)
          rw [← Hs.out] at hown'
          go_roundw
          case rel => exact ⟨k + 1, by omega, by go_num, hb', hown'⟩
          case measure => simp [intOf]; omega
        · have hke : ss.take k = ss := List.take_of_length_le (by omega)
          have hfin := Hown.out
          rw [hke] at hfin
          clear Hown hke
          go_wp2
          go_ret
          exact ⟨_, rfl, ⟨hfin, Hwf.out⟩, hbk⟩
end Go.Proofs.YtgiemajjmdjfkaaDoor
