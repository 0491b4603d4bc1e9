/- The bench of a stack, by the program and by the model; benches without texts of before: compared, marked, found again. -/
import Derived.Test.YtdabbjlefpgkmaaB5
namespace Go.Proofs.Ytdabbjlefpgkmaa
set_option maxRecDepth 100000
open Go.RowKit Go.WideShapes

theorem blkPair9 {w : World} {g : Nat} {a b : Value} {T : TypeId} (h : Blk w g #[a, b] T) : w.cell? ⟨g, 0, none⟩ = some a ∧ w.cell? ⟨g, 1, none⟩ = some b ∧ w.frozen? ⟨g, 0, none⟩ = false ∧ w.frozen? ⟨g, 1, none⟩ = false :=
  ⟨h.cell 0, h.cell 1, h.free 0, h.free 1⟩
theorem BenchNew_I (v0 : Value) (x0 : List (List Int)) (w : World) (h0 : RdS w v0 x0) (hn : x0.length ≤ 1048576) (hl : szS x0 ≤ 1048576) (y0 : List Int) (y1 : Bool) (hR : stackProgR x0 = (y0, y1)) :
    Calls Try.prog 7 #[v0] w fun e w' => ∃ u, e = .returned (.agg #[u, .slice none 0 0]) ∧ OwnI w' w.heap.size w'.heap.size u y0 ∧ Below w.heap.size w w' := by
  have hal : Below w.heap.size w (w.alloc (.cells #[.slice none 0 0, .slice none 0 0] 27)) := (Below.refl _ _).alloc (Nat.le_refl _) _
  have hbk := Blk.new w #[.slice none 0 0, .slice none 0 0] 27
  have S0 := Lib.hid (And.intro (RdS.step h0 hal) (And.intro hal hbk)); clear hal hbk h0
  have HR := Lib.hid hR; clear hR
  go_enter Try.func7, Try.ntmps7
  go_wp2_with fail
  refine (StackProg_I v0 x0 _ S0.out.1 hn hl _ _ HR.out).mono ?_
  rintro e w2 ⟨u, rfl, ho, hb⟩
  have hz2 := hb.size
  rw [World.size_alloc] at hz2
  obtain ⟨B, d, rfl, _⟩ := ho.rd
  have hB := S0.out.2.2.below hb (by simp)
  obtain ⟨b0, b1, f0, f1⟩ := blkPair9 hB
  have K := Lib.hid (And.intro ho (And.intro (S0.out.2.1.trans (hb.mono (by simp))) hB)); clear ho hb hB S0
  go_wp2
  obtain ⟨c0, c1, _, _⟩ := blkPair9 ((K.out.2.2.set 0 (.slice B y0.length d)).set 1 (.slice none 0 0))
  refine bodyPost_ret (v := .agg #[.slice B y0.length d, .slice none 0 0]) (by simp [results, Try.results7, go_sem, c0, c1]) rfl ?_
  refine ⟨_, rfl, ?_, (K.out.2.1.setCell (Nat.le_refl _) _).setCell (Nat.le_refl _) _⟩
  have h := (K.out.1.apart (within_setCell _ w.heap.size 0 (.slice B y0.length d)) (.inr (by simp))).apart (within_setCell _ w.heap.size 1 (.slice none 0 0)) (.inr (by simp))
  rw [World.size_alloc] at h
  exact ⟨h.own.mono (by omega), fun k hk => by have := h.lt k hk; simp [World.setCell]; omega⟩

theorem BenchNew_S (v0 : Value) (x0 : List (List Int)) (w : World) (h0 : RdS w v0 x0) (hn : x0.length ≤ 1048576) (hl : szS x0 ≤ 1048576) (y0 : List Int) (y1 : Bool) (hR : stackProgR x0 = (y0, y1)) :
    Calls Try.prog 5 #[v0] w fun e w' => ∃ u A, e = .returned (.agg #[u, .slice A 0 0]) ∧ OwnI w' w.heap.size w'.heap.size u y0 ∧ Below w.heap.size w w' := by
  have hal : Below w.heap.size w (w.alloc (.cells #[.slice none 0 0, .slice none 0 0] 27)) := (Below.refl _ _).alloc (Nat.le_refl _) _
  have hbk := Blk.new w #[.slice none 0 0, .slice none 0 0] 27
  have S0 := Lib.hid (And.intro (RdS.step h0 hal) (And.intro hal hbk)); clear hal hbk h0
  have hno : y1 = false → y0 = [] := by
    intro e; subst e
    unfold stackProgR at hR
    split at hR
    · cases hR
    · cases hR; rfl
  have HR := Lib.hid hR; clear hR
  rcases y1 with _ | _
  · obtain rfl := hno rfl
    clear hno
    go_enter Try.func5, Try.ntmps5
    go_wp2_with fail
    refine (StackProg_O v0 x0 _ S0.out.1 hn hl _ _ HR.out).mono ?_
    rintro e w2 ⟨u, rfl, ho, hb⟩
    have hB := S0.out.2.2.below hb (by simp)
    obtain ⟨b0, b1, f0, f1⟩ := blkPair9 hB
    have K := Lib.hid (And.intro (S0.out.2.1.trans (hb.mono (by simp))) hB); clear ho hb hB S0
    go_wp2
    obtain ⟨c0, c1, _, _⟩ := blkPair9 ((K.out.2.set 0 (.slice none 0 0)).set 1 (.slice none 0 0))
    refine bodyPost_ret (v := .agg #[.slice none 0 0, .slice none 0 0]) (by simp [results, Try.results5, go_sem, c0, c1]) rfl ?_
    exact ⟨_, none, rfl, ⟨⟨World.ownsRow_nil _ _ _ _, fun _ h => absurd h (by simp)⟩, by simp [Value.ownBlock]⟩, (K.out.1.setCell (Nat.le_refl _) _).setCell (Nat.le_refl _) _⟩
  · clear hno
    go_enter Try.func5, Try.ntmps5
    go_wp2_with fail
    refine (StackProg_O v0 x0 _ S0.out.1 hn hl _ _ HR.out).mono ?_
    rintro e w2 ⟨u, rfl, ho, hb⟩
    have hz2 := hb.size
    rw [World.size_alloc] at hz2
    obtain ⟨B, d, rfl, _⟩ := ho.rd
    have hba : Below w2.heap.size w2 (w2.alloc (.cells #[] 9)) := (Below.refl _ _).alloc (Nat.le_refl _) _
    have hB := (S0.out.2.2.below hb (by simp)).below hba (by omega)
    obtain ⟨b0, b1, f0, f1⟩ := blkPair9 hB
    have K := Lib.hid (And.intro (ho.below hba) (And.intro ((S0.out.2.1.trans (hb.mono (by simp))).trans (hba.mono (by omega))) hB)); clear ho hb hB S0 hba
    go_wp2
    obtain ⟨c0, c1, _, _⟩ := blkPair9 ((K.out.2.2.set 0 (.slice B y0.length d)).set 1 (.slice (some ⟨w2.heap.size, 0, none⟩) 0 0))
    refine bodyPost_ret (v := .agg #[.slice B y0.length d, .slice (some ⟨w2.heap.size, 0, none⟩) 0 0]) (by simp [results, Try.results5, go_sem, c0, c1]) rfl ?_
    refine ⟨_, _, rfl, ?_, (K.out.2.1.setCell (Nat.le_refl _) _).setCell (Nat.le_refl _) _⟩
    have h := (K.out.1.apart (within_setCell _ w.heap.size 0 (.slice B y0.length d)) (.inr (by simp))).apart (within_setCell _ w.heap.size 1 (.slice (some ⟨w2.heap.size, 0, none⟩) 0 0)) (.inr (by simp))
    rw [World.size_alloc] at h
    exact ⟨h.own.mono (by omega), fun k hk => by have := h.lt k hk; simp [World.setCell]; omega⟩

theorem eqX9 (A A' : Option Addr) (w : World) : Calls Try.prog 18 #[.slice A 0 0, .slice A' 0 0] w fun e w' => e = .returned (.bool true) ∧ w' = w := by
  go_enter Try.func18, Try.ntmps18
  go_wp2
  go_loop [5] (fun i => i = .int .i64 0) (fun _ => 0)
  case atStart => exact rfl
  case round =>
    obtain rfl := hrel
    go_wp2
    go_ret
    exact ⟨rfl, rfl⟩
theorem eqB9_any (v0 u0 : Value) (A A' : Option Addr) (r : List Int) (w : World) (h0 : RdI w v0 r) (k0 : RdI w u0 r) :
    Calls Try.prog 8 #[.agg #[v0, .slice A 0 0], .agg #[u0, .slice A' 0 0]] w fun e w' => e = .returned (.bool true) ∧ Below w.heap.size w w' := by
  have hb : Below w.heap.size w ((w.alloc (.cells #[v0, .slice A 0 0] 27)).alloc (.cells #[u0, .slice A' 0 0] 27)) := ((Below.refl _ _).alloc (Nat.le_refl _) _).alloc (by simp) _
  have H := Lib.hid (And.intro (RdI.step h0 hb) (And.intro (RdI.step k0 hb) hb))
  obtain ⟨A0, c0, rfl, _⟩ := h0
  obtain ⟨B0, d0, rfl, _⟩ := k0
  clear hb
  go_enter Try.func8, Try.ntmps8
  go_wp2_with fail
  refine (eqI _ _ r r _ H.out.1 H.out.2.1 true (decide_eq_true rfl)).mono ?_
  rintro e w1 ⟨rfl, hb⟩
  have hs1 := hb.size
  simp only [World.size_alloc] at hs1
  have bk := (Blk.new (w.alloc (.cells #[.slice A0 r.length c0, .slice A 0 0] 27)) #[.slice B0 r.length d0, .slice A' 0 0] 27).below hb (by simp)
  have ck := ((Blk.new w #[.slice A0 r.length c0, .slice A 0 0] 27).below ((Below.refl (w.heap.size + 1) _).alloc (by simp) (.cells #[.slice B0 r.length d0, .slice A' 0 0] 27)) (by omega)).below hb (by simp; omega)
  rw [World.size_alloc] at bk
  obtain ⟨b0, b1, _, _⟩ := blkPair9 bk
  obtain ⟨e0, e1, _, _⟩ := blkPair9 ck
  have K := Lib.hid (H.out.2.2.trans (hb.mono (by simp; omega))); clear hb H bk ck
  go_wp2_with fail
  refine (eqX9 _ _ _).mono ?_
  rintro e w2 ⟨rfl, rfl⟩
  go_wp2
  go_ret
  exact ⟨rfl, K.out⟩
theorem markX9 (A : Option Addr) (a : Int) (w : World) : Calls Try.prog 20 #[.slice A 0 0, .int .i64 a] w fun e w' => e = .returned (.int .i64 a) ∧ w' = w := by
  go_enter Try.func20, Try.ntmps20
  go_wp2
  go_loop [1, 5] (fun a' i => i = .int .i64 0 ∧ a' = .int .i64 a) (fun _ _ => 0)
  case atStart => exact ⟨rfl, rfl⟩
  case round =>
    obtain ⟨rfl, rfl⟩ := hrel
    go_wp2
    go_ret
    exact ⟨rfl, rfl⟩
theorem heldX9 (A : Option Addr) (a : Int) (w : World) : Calls Try.prog 22 #[.slice A 0 0, .int .i64 a] w fun e w' => e = .returned (.int .i64 a) ∧ w' = w := by
  go_enter Try.func22, Try.ntmps22
  go_wp2
  go_loop [1, 5] (fun a' i => i = .int .i64 0 ∧ a' = .int .i64 a) (fun _ _ => 0)
  case atStart => exact ⟨rfl, rfl⟩
  case round =>
    obtain ⟨rfl, rfl⟩ := hrel
    go_wp2
    go_ret
    exact ⟨rfl, rfl⟩
theorem markB9 (v : Value) (A : Option Addr) (zs : List Int) (lo hi : Nat) (w : World) (hl : szI zs ≤ 1000000) (h : OwnI w lo hi v zs) (hh : hi ≤ w.heap.size) :
    Calls Try.prog 11 #[.agg #[v, .slice A 0 0], .int .i64 1] w fun e w' => e = .returned (.int .i64 (1 + zs.length)) ∧ OwnI w' lo hi v (mkI 1 zs) ∧ Within lo hi w w' := by
  have hba : Below w.heap.size w (w.alloc (.cells #[v, .slice A 0 0] 27)) := (Below.refl _ _).alloc (Nat.le_refl _) _
  have hbk := Blk.new w #[v, .slice A 0 0] 27
  have ho := h.below hba
  obtain ⟨B, d, rfl, _⟩ := h.rd
  have S0 := Lib.hid (And.intro ho (And.intro hba hbk)); clear ho hba h
  obtain ⟨b0, b1, _, _⟩ := blkPair9 hbk
  clear hbk
  go_enter Try.func11, Try.ntmps11
  go_wp2_with fail
  refine (markI _ zs 1 lo hi _ (by omega) (by omega) S0.out.1).mono ?_
  rintro e w2 ⟨rfl, hom, hw⟩
  have hB : Blk w2 w.heap.size #[.slice B zs.length d, .slice A 0 0] 27 := (hw.block _ (by simp) (by omega)).trans S0.out.2.2
  obtain ⟨c0, c1, _, _⟩ := blkPair9 hB
  have K := Lib.hid (And.intro hom ((Within.of_below S0.out.2.1).trans hw)); clear hom hw hB S0
  go_wp2_with fail
  refine (markX9 A _ _).mono ?_
  rintro e w3 ⟨rfl, rfl⟩
  go_wp2
  go_ret
  exact ⟨rfl, K.out⟩
theorem heldB9 (v : Value) (A : Option Addr) (zs : List Int) (w : World) (hl : szI zs ≤ 1000000) (h : RdI w v (mkI 1 zs)) :
    Calls Try.prog 12 #[.agg #[v, .slice A 0 0], .int .i64 1] w fun e w' => e = .returned (.int .i64 (1 + zs.length)) ∧ Below w.heap.size w w' := by
  have hba : Below w.heap.size w (w.alloc (.cells #[v, .slice A 0 0] 27)) := (Below.refl _ _).alloc (Nat.le_refl _) _
  have hbk := Blk.new w #[v, .slice A 0 0] 27
  have S0 := Lib.hid (And.intro (RdI.step h hba) (And.intro hba hbk)); clear hba
  obtain ⟨B, d, rfl, _⟩ := h
  obtain ⟨b0, b1, _, _⟩ := blkPair9 hbk
  clear hbk
  have hpos : ¬ (1 + (zs.length : Int)) < 0 := by omega
  go_enter Try.func12, Try.ntmps12
  go_wp2_with fail
  refine (heldI _ zs 1 _ (by omega) (by omega) S0.out.1).mono ?_
  rintro e w2 ⟨rfl, hb⟩
  have hB := S0.out.2.2.below hb (by simp)
  obtain ⟨c0, c1, _, _⟩ := blkPair9 hB
  have K := Lib.hid (S0.out.2.1.trans (hb.mono (by simp))); clear hb hB S0
  go_wp2_with fail
  refine (heldX9 A _ _).mono ?_
  rintro e w3 ⟨rfl, rfl⟩
  go_wp2
  go_ret
  exact ⟨rfl, K.out⟩
end Go.Proofs.Ytdabbjlefpgkmaa
