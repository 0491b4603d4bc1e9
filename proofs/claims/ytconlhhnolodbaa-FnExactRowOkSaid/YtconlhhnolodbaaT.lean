/- Contracts of ProgThen and ProgQuote. -/
import Derived.Test.YtconlhhnolodbaaA
import Derived.Test.YtconlhhnolodbaaC
namespace Go.Proofs.Ytconlhhnolodbaa
set_option maxRecDepth 100000
open Go.RowKit Go.WideShapes

def thenR (p q : List Int) : List Int × Bool := if validB p = true ∧ validB q = true ∧ p.length + q.length ≤ 60 then (p ++ q, true) else ([], false)
def quoteR (p : List Int) : List Int × Bool := if validB p = true ∧ p.length + 2 ≤ 60 then (1012 :: (p ++ [1013]), true) else ([], false)

theorem Own.nil (w : World) (B : Nat) : Own w B (.slice none 0 0) [] := ⟨World.ownsRow_nil _ _ _ _, by simp⟩

theorem slrow_lit (w : World) (T : TypeId) (ss : List Sl) (h : ∀ s ∈ ss, IntsK .i64 w w.heap.size s.1 s.2.2) :
    SlRow (w.alloc (.cells (ss.map Sl.val).toArray T)) (w.alloc (.cells (ss.map Sl.val).toArray T)).heap.size w.heap.size 0 ss := by
  refine ⟨fun j s hs => ?_, fun s hs => ((h s hs).alloc (Nat.le_refl _) _).mono (by simp)⟩
  rw [Nat.zero_add, cell_of_row _ _ _ _ _ _ (heap_alloc_new w _)]
  simp [hs]

theorem ret_pair {v : Value} {a b : Bool} (h : a = b) : Ending.returned (.tuple #[v, .bool a]) = .returned (.tuple #[v, .bool b]) := by rw [h]

theorem ProgThen_any (A A' : Option Addr) (c c' : Nat) (p q : List Int) (w : World) (hp : Ints w A p) (hq : Ints w A' q) :
    Calls Try.prog 30 #[.slice A p.length c, .slice A' q.length c'] w fun e w' => ∃ v, e = .returned (.tuple #[v, .bool (thenR p q).2]) ∧ Own w' w.heap.size v (thenR p q).1 ∧ Below w.heap.size w w' := by
  have hlp := hp.len
  have hlq := hq.len
  have HP := Lib.hid hp; clear hp
  have HQ := Lib.hid hq; clear hq
  generalize hvp : validB p = vp
  generalize hvq : validB q = vq
  have Hvp := Lib.hid hvp; clear hvp
  have Hvq := Lib.hid hvq; clear hvq
  by_cases hok : vp = true ∧ vq = true ∧ p.length + q.length ≤ 60
  · obtain ⟨rfl, rfl, hlen⟩ := hok
    have HR : Hid (thenR p q = (p ++ q, true)) := Lib.hid (by rw [thenR, if_pos ⟨Hvp.out, Hvq.out, hlen⟩])
    rw [HR.out]
    go_enter Try.func30, Try.ntmps30
    go_wp2_with fail
    refine (ProgValid_any A c p _ HP.out).mono ?_
    rw [Hvp.out]
    rintro e w' ⟨rfl, rfl⟩
    go_wp2_with fail
    refine (ProgValid_any A' c' q _ HQ.out).mono ?_
    rw [Hvq.out]
    rintro e w' ⟨rfl, rfl⟩
    go_wp2_with fail
    refine (concat_any w.heap.size 0 2 [(A, c, p), (A', c', q)] _ (by simp) (slrow_lit w 22 _ (by
      intro s hs
      simp only [List.mem_cons, List.not_mem_nil, or_false] at hs
      rcases hs with rfl | rfl
      · exact HP.out
      · exact HQ.out)) (by simp) (by simp [flat]; omega)).mono ?_
    rintro e w1 ⟨v1, rfl, ho1, hb1⟩
    rw [show flat [(A, c, p), (A', c', q)] = p ++ q from by simp [flat]] at ho1
    have Ho1 := Lib.hid (ho1.mono (B := w.heap.size) (by simp))
    have Hb1 := Lib.hid (((Below.refl w.heap.size w).alloc (Nat.le_refl _) _).trans (hb1.mono (by simp)))
    clear ho1 hb1
    go_wp2_with fail
    go_ret2
    exact ⟨_, rfl, Ho1.out, Hb1.out⟩
  · have HR : Hid (thenR p q = ([], false)) := Lib.hid (by rw [thenR, if_neg (by rw [Hvp.out, Hvq.out]; exact hok)])
    rw [HR.out]
    rcases vp with _ | _
    · clear hok
      go_enter Try.func30, Try.ntmps30
      go_wp2_with fail
      refine (ProgValid_any A c p _ HP.out).mono ?_
      rw [Hvp.out]
      rintro e w' ⟨rfl, rfl⟩
      go_wp2_with fail
      go_ret2
      exact ⟨_, rfl, Own.nil _ _, Below.refl _ _⟩
    · rcases vq with _ | _
      · clear hok
        go_enter Try.func30, Try.ntmps30
        go_wp2_with fail
        refine (ProgValid_any A c p _ HP.out).mono ?_
        rw [Hvp.out]
        rintro e w' ⟨rfl, rfl⟩
        go_wp2_with fail
        refine (ProgValid_any A' c' q _ HQ.out).mono ?_
        rw [Hvq.out]
        rintro e w' ⟨rfl, rfl⟩
        go_wp2_with fail
        go_ret2
        exact ⟨_, rfl, Own.nil _ _, Below.refl _ _⟩
      · have hl1 : p.length ≤ 60 := by have := Hvp.out; simp [validB] at this; omega
        have hl2 : q.length ≤ 60 := by have := Hvq.out; simp [validB] at this; omega
        have hlen : 60 < p.length + q.length := by
          rcases Nat.lt_or_ge 60 (p.length + q.length) with h | h
          · exact h
          · exact absurd ⟨rfl, rfl, h⟩ hok
        clear hok
        go_enter Try.func30, Try.ntmps30
        go_wp2_with fail
        refine (ProgValid_any A c p _ HP.out).mono ?_
        rw [Hvp.out]
        rintro e w' ⟨rfl, rfl⟩
        go_wp2_with fail
        refine (ProgValid_any A' c' q _ HQ.out).mono ?_
        rw [Hvq.out]
        rintro e w' ⟨rfl, rfl⟩
        go_wp2_with fail
        go_ret2
        exact ⟨_, rfl, Own.nil _ _, Below.refl _ _⟩

theorem lit_own (w : World) (zs : List Int) (hn : zs.length ≤ 1000) : (w.alloc (.cells (zs.map (Value.int .i64)).toArray 3)).ownsRow w.heap.size 3 1 (.slice (some ⟨w.heap.size, 0, none⟩) zs.length zs.length) zs.length (zs.map (Value.int .i64)) := by
  have h := World.ownsRow_lit (base := w.heap.size) (e := 3) (size := 1) w (zs.map (Value.int .i64)).toArray zs.length (Nat.le_refl _) (by unfold maxLen; omega) (by simp)
  simpa using h
theorem validB_len {p : List Int} (h : validB p = true) : p.length ≤ 60 := by simp [validB] at h; omega
theorem wf_small (z : Int) (h : 0 ≤ z ∧ z ≤ 1000000) : InK .i64 z := WalkArith.wf_i64 (by omega)

theorem ProgQuote_any (A : Option Addr) (c : Nat) (p : List Int) (w : World) (hp : Ints w A p) :
    Calls Try.prog 42 #[.slice A p.length c] w fun e w' => ∃ v, e = .returned (.tuple #[v, .bool (quoteR p).2]) ∧ Own w' w.heap.size v (quoteR p).1 ∧ Below w.heap.size w w' := by
  have hlp := hp.len
  have HP := Lib.hid hp; clear hp
  generalize hvp : validB p = vp
  have Hvp := Lib.hid hvp; clear hvp
  by_cases hok : vp = true ∧ p.length + 2 ≤ 60
  · obtain ⟨rfl, hlen⟩ := hok
    have HR : Hid (quoteR p = (1012 :: (p ++ [1013]), true)) := Lib.hid (by rw [quoteR, if_pos ⟨Hvp.out, hlen⟩])
    rw [HR.out]
    go_enter Try.func42, Try.ntmps42
    go_wp2_with fail
    refine (ProgValid_any A c p _ HP.out).mono ?_
    rw [Hvp.out]
    rintro e w' ⟨rfl, rfl⟩
    go_wp2_with fail
    have L1 := lit_own w [1012] (by simp)
    have L2 := lit_own (w.alloc (.cells ([1012].map (Value.int .i64)).toArray 3)) [1013] (by simp)
    have I1 : IntsK .i64 ((w.alloc (.cells ([1012].map (Value.int .i64)).toArray 3)).alloc (.cells ([1013].map (Value.int .i64)).toArray 3)) (w.heap.size + 2) (some ⟨w.heap.size, 0, none⟩) [1012] := by
      have h1 := (⟨L1, by intro z hz; simp at hz; subst hz; exact wf_small _ (by omega)⟩ : Own _ w.heap.size _ [1012]).ints
      obtain ⟨A1, c1, he, hi, _⟩ := h1
      cases he
      exact (hi.alloc (Nat.le_refl _) _).mono (by simp)
    have I2 : IntsK .i64 ((w.alloc (.cells ([1012].map (Value.int .i64)).toArray 3)).alloc (.cells ([1013].map (Value.int .i64)).toArray 3)) (w.heap.size + 2) (some ⟨w.heap.size + 1, 0, none⟩) [1013] := by
      have h1 := (⟨L2, by intro z hz; simp at hz; subst hz; exact wf_small _ (by omega)⟩ : Own _ _ _ [1013]).ints
      obtain ⟨A1, c1, he, hi, _⟩ := h1
      cases he
      simpa using hi.mono (B' := w.heap.size + 2) (by simp)
    have S1 := slrow_lit ((w.alloc (.cells ([1012].map (Value.int .i64)).toArray 3)).alloc (.cells ([1013].map (Value.int .i64)).toArray 3)) 22 [(some ⟨w.heap.size, 0, none⟩, 1, [1012]), (A, c, p), (some ⟨w.heap.size + 1, 0, none⟩, 1, [1013])] (by
      intro s hs
      simp only [List.mem_cons, List.not_mem_nil, or_false] at hs
      rcases hs with rfl | rfl | rfl
      · simpa using I1
      · exact ((HP.out.alloc (Nat.le_refl _) _).alloc (by simp) _).mono (by simp; omega)
      · simpa using I2)
    refine (concat_any (w.heap.size + 1 + 1) 0 3 [(some ⟨w.heap.size, 0, none⟩, 1, [1012]), (A, c, p), (some ⟨w.heap.size + 1, 0, none⟩, 1, [1013])] _ (by simp) (by simpa [Sl.val] using S1) (by simp) (by simp [flat]; omega)).mono ?_
    rintro e w1 ⟨v1, rfl, ho1, hb1⟩
    rw [show flat [(some (⟨w.heap.size, 0, none⟩ : Addr), 1, [1012]), (A, c, p), (some (⟨w.heap.size + 1, 0, none⟩ : Addr), 1, [1013])] = 1012 :: (p ++ [1013]) from by simp [flat]] at ho1
    have Ho1 := Lib.hid (ho1.mono (B := w.heap.size) (by simp; omega))
    have Hb1 := Lib.hid (((((Below.refl w.heap.size w).alloc (Nat.le_refl _) _).alloc (by simp) _).alloc (by simp; omega) _).trans (hb1.mono (by simp; omega)))
    clear ho1 hb1 S1 I1 I2 L1 L2
    go_wp2_with fail
    go_ret2
    exact ⟨_, rfl, Ho1.out, Hb1.out⟩
  · have HR : Hid (quoteR p = ([], false)) := Lib.hid (by rw [quoteR, if_neg (by rw [Hvp.out]; exact hok)])
    rw [HR.out]
    rcases vp with _ | _
    · clear hok
      go_enter Try.func42, Try.ntmps42
      go_wp2_with fail
      refine (ProgValid_any A c p _ HP.out).mono ?_
      rw [Hvp.out]
      rintro e w' ⟨rfl, rfl⟩
      go_wp2_with fail
      go_ret2
      exact ⟨_, rfl, Own.nil _ _, Below.refl _ _⟩
    · have hl1 : p.length ≤ 60 := validB_len Hvp.out
      have hlen : 60 < p.length + 2 := by
        rcases Nat.lt_or_ge 60 (p.length + 2) with h | h
        · exact h
        · exact absurd ⟨rfl, h⟩ hok
      clear hok
      go_enter Try.func42, Try.ntmps42
      go_wp2_with fail
      refine (ProgValid_any A c p _ HP.out).mono ?_
      rw [Hvp.out]
      rintro e w' ⟨rfl, rfl⟩
      go_wp2_with fail
      go_ret2
      exact ⟨_, rfl, Own.nil _ _, Below.refl _ _⟩
end Go.Proofs.Ytconlhhnolodbaa
