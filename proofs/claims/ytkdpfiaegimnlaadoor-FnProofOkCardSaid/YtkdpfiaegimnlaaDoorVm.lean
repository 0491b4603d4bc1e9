/- Chapter 5, the model's: l5Value, l5Number, l5Prog, l5Word; what l5Use comes to, and the contracts of its helpers at a place. -/
import Derived.Test.YtkdpfiaegimnlaaDoorVj
namespace Go.Proofs.YtkdpfiaegimnlaaDoor
set_option maxRecDepth 100000
open Go.RowKit Go.WideShapes

theorem getD_at {zss : List (List Int)} {n : Nat} (h : n < zss.length) : zss[n]? = some (zss.getD n []) := by
  rw [List.getD, List.getElem?_eq_getElem h]; rfl
theorem l5Value_any (v : Value) (zss : List (List Int)) (i : Int) (n : Nat) (w : World) (h : RdS w v zss) (hi : i = n) (b : Bool) (hb : valueB (zss.getD n []) = b) :
    Calls Tryd.prog 82 #[v, .int .i64 i] w fun e w' => e = .returned (.bool b) ∧ w = w' := by
  subst hi
  have H := Lib.hid h
  obtain ⟨A, c, rfl, hm, _⟩ := h
  by_cases hlt : n < zss.length
  · obtain ⟨bb, off, u, rfl, hbb, hcell, hu⟩ := RdBS.get H.out (getD_at hlt)
    have HU := Lib.hid (And.intro (hu.rd (Nat.le_refl _)) hb)
    have hltI : (n : Int) < zss.length := by omega
    clear hu H hb
    generalize zss.getD n [] = q at *
    go_enter Tryd.func82, Tryd.ntmps82
    go_wp2_with (go_at_call 97; refine (specValueOk_any _ q _ HU.out.1).mono ?_; rw [HU.out.2]; rintro e w' ⟨rfl, rfl⟩)
    go_ret
    exact ⟨rfl, rfl⟩
  · have hbf : b = false := by
      rw [← hb, List.getD, List.getElem?_eq_none (by omega)]; rfl
    subst hbf
    have hltI : ¬ ((n : Int) < zss.length) := by omega
    go_enter Tryd.func82, Tryd.ntmps82
    go_wp2
    go_ret
    exact ⟨rfl, rfl⟩
theorem l5Len_any (v : Value) (zss : List (List Int)) (i : Int) (n : Nat) (w : World) (h : RdS w v zss) (hi : i = n) (b b2 : Bool) (hb : valueB (zss.getD n []) = b) :
    ((b && decide ((zss.getD n []).length = 1)) = b2 → Calls Tryd.prog 84 #[v, .int .i64 i] w fun e w' => e = .returned (.bool b2) ∧ w = w') ∧
    ((b && decide (1 < (zss.getD n []).length)) = b2 → Calls Tryd.prog 83 #[v, .int .i64 i] w fun e w' => e = .returned (.bool b2) ∧ w = w') := by
  have H := Lib.hid h
  have V := Lib.hid (fun W (h : RdS W v zss) => l5Value_any v zss i n W h hi b hb)
  subst hi
  obtain ⟨A, c, rfl, hm, _⟩ := h
  rcases b with _ | _
  · refine ⟨fun h2 => ?_, fun h2 => ?_⟩
    · obtain rfl : false = b2 := h2
      go_enter Tryd.func84, Tryd.ntmps84
      go_wp2_with (go_at_call 82; refine (V.out _ H.out).mono ?_; rintro e w' ⟨rfl, rfl⟩)
      go_ret
      exact ⟨rfl, rfl⟩
    · obtain rfl : false = b2 := h2
      go_enter Tryd.func83, Tryd.ntmps83
      go_wp2_with (go_at_call 82; refine (V.out _ H.out).mono ?_; rintro e w' ⟨rfl, rfl⟩)
      go_ret
      exact ⟨rfl, rfl⟩
  · have hlt : n < zss.length := by
      rcases Nat.lt_or_ge n zss.length with h | h
      · exact h
      · rw [List.getD, List.getElem?_eq_none h] at hb; cases hb
    have hltI : (n : Int) < zss.length := by omega
    obtain ⟨bb, off, u, rfl, hbb, hcell, hu⟩ := RdBS.get H.out (getD_at hlt)
    generalize zss.getD n [] = q at *
    obtain ⟨A2, c2, rfl, _⟩ := hu
    simp only [Bool.true_and]
    refine ⟨fun h2 => ?_, fun h2 => ?_⟩
    · have e2 : ((q.length : Int) == 1) = b2 := by rw [← h2]; by_cases h1 : q.length = 1 <;> simp [h1] <;> omega
      clear h2
      go_enter Tryd.func84, Tryd.ntmps84
      go_wp2_with (go_at_call 82; refine (V.out _ H.out).mono ?_; rintro e w' ⟨rfl, rfl⟩)
      go_ret
      exact ⟨by rw [← e2]; rfl, rfl⟩
    · have e2 : decide ((1 : Int) < q.length) = b2 := by rw [← h2]; by_cases h1 : 1 < q.length <;> simp [h1] <;> omega
      clear h2
      go_enter Tryd.func83, Tryd.ntmps83
      go_wp2_with (go_at_call 82; refine (V.out _ H.out).mono ?_; rintro e w' ⟨rfl, rfl⟩)
      go_ret
      exact ⟨by rw [← e2]; rfl, rfl⟩
theorem l5Word_any (v : Value) (zss : List (List Int)) (i z : Int) (n : Nat) (w : World) (h : RdS w v zss) (hi : i = n) (hne : ∀ q ∈ zss, 1 ≤ q.length) (b : Bool) (hb : (decide (n < zss.length) && decide ((zss.getD n []).getD 0 0 = z)) = b) :
    Calls Tryd.prog 85 #[v, .int .i64 i, .int .i64 z] w fun e w' => e = .returned (.bool b) ∧ w = w' := by
  subst hi
  have H := Lib.hid h
  obtain ⟨A, c, rfl, hm, _⟩ := h
  by_cases hlt : n < zss.length
  · obtain ⟨bb, off, u, rfl, hbb, hcell, hu⟩ := RdBS.get H.out (getD_at hlt)
    have hq := hne _ (List.mem_of_getElem? (getD_at hlt))
    have hltI : (n : Int) < zss.length := by omega
    generalize zss.getD n [] = q at *
    obtain ⟨A2, c2, rfl, hi2, _⟩ := hu
    obtain ⟨b2, off2, rfl, hb2, hc2⟩ := hi2.at_ (by omega)
    have c0 := hc2 0 (by omega)
    rw [Nat.add_zero] at c0
    have hq0 : (0 : Int) < q.length := by omega
    have e2 : (q.getD 0 0 == z) = b := by rw [← hb]; simp [hlt]; rfl
    generalize q.getD 0 0 = z0 at *
    clear hc2 hi2 H hne hb
    go_enter Tryd.func85, Tryd.ntmps85
    go_wp2
    go_ret
    exact ⟨by rw [← e2]; rfl, rfl⟩
  · have hbf : b = false := by rw [← hb]; simp [hlt]
    subst hbf
    have hltI : ¬ ((n : Int) < zss.length) := by omega
    clear hb
    go_enter Tryd.func85, Tryd.ntmps85
    go_wp2
    go_ret
    exact ⟨rfl, rfl⟩

open Go.RowKit Go.WideShapes

def UsPost (w : World) (R : Option (Nat × List Int)) (e : Ending) (w' : World) : Prop :=
  ∃ u t x b, e = .returned (.tuple #[.int .i64 t, u, .bool b]) ∧ OwnI w' w.heap.size w'.heap.size u x ∧ Below w.heap.size w w' ∧ (R = none → b = false) ∧ (∀ y, R = some y → b = true ∧ t = ((y.1 : Nat) : Int) ∧ x = y.2)
theorem use_none {w w' : World} {u : Value} {x : List Int} {t : Int} {R : Option (Nat × List Int)} (h : OwnI w' w.heap.size w'.heap.size u x ∧ Below w.heap.size w w') (hR : R = none) : UsPost w R (.returned (.tuple #[.int .i64 t, u, .bool false])) w' :=
  ⟨u, t, x, false, rfl, h.1, h.2, fun _ => rfl, fun y hy => by rw [hR] at hy; cases hy⟩
theorem use_some {w w' : World} {u : Value} {R : Option (Nat × List Int)} {y : Nat × List Int} (h : OwnI w' w.heap.size w'.heap.size u y.2) (hb : Below w.heap.size w w') (hR : R = some y) : UsPost w R (.returned (.tuple #[.int .i64 ((y.1 : Nat) : Int), u, .bool true])) w' :=
  ⟨u, _, y.2, true, rfl, h, hb, (fun hn => by rw [hR] at hn; cases hn), fun z hz => by rw [hR] at hz; cases hz; exact ⟨rfl, rfl, rfl⟩⟩
theorem lit_nil (w : World) : OwnI (w.alloc (.cells #[] 3)) w.heap.size (w.alloc (.cells #[] 3)).heap.size (.slice (some ⟨w.heap.size, 0, none⟩) 0 0) [] ∧ Below w.heap.size w (w.alloc (.cells #[] 3)) := by
  have h : OwnI (w.alloc (.cells #[] 3)) w.heap.size (w.heap.size + 1) (.slice (some ⟨w.heap.size, 0, none⟩) 0 0) [] := by simpa using lits_own w [] (by simp) (by simp)
  exact ⟨⟨h.own, fun q hq => by have := h.lt q hq; simp; omega⟩, (Below.refl _ _).alloc (Nat.le_refl _) _⟩
theorem dropD (ps : List (List Int)) (a k : Nat) : (ps.drop a).getD k [] = ps.getD (a + k) [] := by simp [List.getD, List.getElem?_drop]
/-- The helpers' contracts at a place. -/
theorem useCtx (v : Value) (ps : List (List Int)) (a : Nat) (w : World) (h : RdS w v ps) (ha : a < ps.length) (hne : ∀ q ∈ ps, 1 ≤ q.length) :
    (∃ b0 b1 p1 n0, vAt (ps.drop a) 0 = b0 ∧ vAt (ps.drop a) 1 = b1 ∧ qAt (ps.drop a) 1 = p1 ∧ nAt (ps.drop a) 0 = n0 ∧
      (Calls Tryd.prog 82 #[v, .int .i64 a] w fun e w' => e = .returned (.bool b0) ∧ w = w') ∧
      (Calls Tryd.prog 82 #[v, .int .i64 ((a : Int) + 1)] w fun e w' => e = .returned (.bool b1) ∧ w = w') ∧
      (Calls Tryd.prog 83 #[v, .int .i64 ((a : Int) + 1)] w fun e w' => e = .returned (.bool p1) ∧ w = w') ∧
      (Calls Tryd.prog 84 #[v, .int .i64 a] w fun e w' => e = .returned (.bool n0) ∧ w = w') ∧
      (∀ (k : Nat) (z : Int) (b : Bool), wAt (ps.drop a) k z = b → Calls Tryd.prog 85 #[v, .int .i64 ((a : Int) + (k : Int)), .int .i64 z] w fun e w' => e = .returned (.bool b) ∧ w = w') ∧
      (∀ (k : Nat) (b : Bool), nAt (ps.drop a) k = b → Calls Tryd.prog 84 #[v, .int .i64 ((a : Int) + (k : Int))] w fun e w' => e = .returned (.bool b) ∧ w = w') ∧
      (∀ (k : Nat) (b : Bool), qAt (ps.drop a) k = b → Calls Tryd.prog 83 #[v, .int .i64 ((a : Int) + (k : Int))] w fun e w' => e = .returned (.bool b) ∧ w = w')) ∧
    (ps.drop a).getD 0 [] = ps.getD a [] ∧ (ps.drop a).getD 1 [] = ps.getD (a + 1) [] ∧ (ps.drop a).getD 2 [] = ps.getD (a + 2) [] := by
  refine ⟨⟨_, _, _, _, rfl, rfl, rfl, rfl, ?_, ?_, ?_, ?_, ?_, ?_, ?_⟩, by rw [dropD]; rfl, by rw [dropD], by rw [dropD]⟩
  · exact l5Value_any v ps a a w h rfl _ (by unfold vAt; rw [dropD]; rfl)
  · exact l5Value_any v ps _ (a + 1) w h (by omega) _ (by unfold vAt; rw [dropD])
  · exact (l5Len_any v ps _ (a + 1) w h (by omega) _ _ rfl).2 (by unfold qAt vAt; rw [dropD])
  · exact (l5Len_any v ps a a w h rfl _ _ rfl).1 (by unfold nAt vAt; rw [dropD]; rfl)
  · intro k z b hb
    exact l5Word_any v ps _ z (a + k) w h (by omega) hne b (by rw [← hb]; unfold wAt; rw [dropD, List.length_drop]; congr 1; simp; omega)
  · intro k b hb
    exact (l5Len_any v ps _ (a + k) w h (by omega) _ b rfl).1 (by rw [← hb]; unfold nAt vAt; rw [dropD])
  · intro k b hb
    exact (l5Len_any v ps _ (a + k) w h (by omega) _ b rfl).2 (by rw [← hb]; unfold qAt vAt; rw [dropD])

theorem vAt_lt {ps ps' : List (List Int)} {a k : Nat} (h : ps.drop a = ps') (hv : vAt ps' k = true) : a + k < ps.length := by
  subst h
  unfold vAt at hv
  rw [dropD] at hv
  rcases Nat.lt_or_ge (a + k) ps.length with h | h
  · exact h
  · rw [List.getD, List.getElem?_eq_none h] at hv; cases hv
theorem qAt_v {ps : List (List Int)} {k : Nat} (h : qAt ps k = true) : vAt ps k = true ∧ 1 < (ps.getD k []).length := by
  unfold qAt at h; simpa using h
theorem nAt_v {ps : List (List Int)} {k : Nat} (h : nAt ps k = true) : vAt ps k = true := by
  unfold nAt at h; simp at h; exact h.1
theorem nAt_form {ps : List (List Int)} {k : Nat} (h : nAt ps k = true) : ∃ z, ps.getD k [] = [z] ∧ 0 ≤ z ∧ z ≤ 999 := by
  unfold nAt vAt at h
  simp only [Bool.and_eq_true, decide_eq_true_eq] at h
  rcases val_or h.1 with h1 | ⟨h1, _⟩
  · exact h1
  · omega
theorem wAt_lt {ps ps' : List (List Int)} {a k : Nat} {z : Int} (h : ps.drop a = ps') (hv : wAt ps' k z = true) : a + k < ps.length := by
  subst h
  unfold wAt at hv
  simp at hv; omega
theorem mUse_y1 {ps : List (List Int)} (h0 : vAt ps 0 = true) (h1 : wAt ps 1 1001 = true) : mUse 1 ps = some (2, ps.getD 0 [] ++ ps.getD 0 []) := by
  unfold mUse; rw [if_neg (by omega), if_pos ⟨rfl, h0, h1⟩]
theorem mUse_y2 {ps : List (List Int)} (h0 : vAt ps 0 = true) (h1 : vAt ps 1 = true) (h2 : wAt ps 2 1003 = true) : mUse 2 ps = some (3, ps.getD 1 [] ++ ps.getD 0 []) := by
  unfold mUse; rw [if_neg (by omega), if_neg (by omega), if_pos ⟨rfl, h0, h1, h2⟩]
theorem mUse_y3 {ps : List (List Int)} (h0 : qAt ps 0 = true) (h1 : wAt ps 1 1005 = true) : mUse 3 ps = some (2, inside (ps.getD 0 [])) := by
  unfold mUse; rw [if_neg (by omega), if_neg (by omega), if_neg (by omega), if_pos ⟨rfl, h0, h1⟩]
theorem mUse_y4 {ps : List (List Int)} (h0 : vAt ps 0 = true) (h1 : qAt ps 1 = true) (h2 : wAt ps 2 1004 = true) : mUse 4 ps = some (3, inside (ps.getD 1 []) ++ ps.getD 0 []) := by
  unfold mUse; rw [if_neg (by omega), if_neg (by omega), if_neg (by omega), if_neg (by omega), if_pos ⟨rfl, h0, h1, h2⟩]
theorem mUse_y5 {ps : List (List Int)} (h0 : nAt ps 0 = true) (h1 : nAt ps 1 = true) (h2 : 2 < ps.length) (h3 : 1006 ≤ zAt ps 2 ∧ zAt ps 2 ≤ 1009) : mUse 5 ps = some (3, [reck (zAt ps 2) (zAt ps 0) (zAt ps 1)]) := by
  unfold mUse; rw [if_neg (by omega), if_neg (by omega), if_neg (by omega), if_neg (by omega), if_neg (by omega), if_pos ⟨rfl, h0, h1, h2, h3⟩]
theorem mUse_y6 {ps : List (List Int)} (h0 : nAt ps 0 = true) (h1 : qAt ps 1 = true) (h2 : qAt ps 2 = true) (h3 : wAt ps 3 1010 = true) : mUse 6 ps = some (4, if 0 < zAt ps 0 then inside (ps.getD 1 []) else inside (ps.getD 2 [])) := by
  unfold mUse; rw [if_neg (by omega), if_neg (by omega), if_neg (by omega), if_neg (by omega), if_neg (by omega), if_neg (by omega), if_pos ⟨rfl, h0, h1, h2, h3⟩]
theorem mUse_y8 {ps : List (List Int)} (h0 : nAt ps 0 = true) (h1 : 0 < zAt ps 0) (h2 : qAt ps 1 = true) (h3 : wAt ps 2 1011 = true) : mUse 8 ps = some (3, inside (ps.getD 1 []) ++ ((zAt ps 0 - 1) :: ps.getD 1 []) ++ [1011]) := by
  unfold mUse; rw [if_neg (by omega), if_neg (by omega), if_neg (by omega), if_neg (by omega), if_neg (by omega), if_neg (by omega), if_neg (by omega), if_neg (by omega), if_pos ⟨rfl, h0, h1, h2, h3⟩]

theorem lit_nil_drew (w : World) : OwnI (w.alloc (.cells #[] 3)).drew w.heap.size (w.heap.size + 1) (.slice (some ⟨w.heap.size, 0, none⟩) 0 0) [] ∧ Below w.heap.size w (w.alloc (.cells #[] 3)).drew := by
  have h : OwnI (w.alloc (.cells #[] 3)) w.heap.size (w.heap.size + 1) (.slice (some ⟨w.heap.size, 0, none⟩) 0 0) [] := by simpa using lits_own w [] (by simp) (by simp)
  exact ⟨h.below (Below.refl _ _).drew, ((Below.refl _ _).alloc (Nat.le_refl _) _).drew⟩

theorem use5 {w : World} {z : Int} (h : OwnI (w.alloc (.cells #[.int .i64 z] 3)) w.heap.size (w.heap.size + 1) (.slice (some ⟨w.heap.size, 0, none⟩) 1 1) [z]) : OwnI (w.alloc (.cells #[.int .i64 z] 3)).drew w.heap.size (w.alloc (.cells #[.int .i64 z] 3)).drew.heap.size (.slice (some ⟨w.heap.size, 0, none⟩) 1 1) [z] ∧ Below w.heap.size w (w.alloc (.cells #[.int .i64 z] 3)).drew := by
  have h1 := h.below (Below.refl _ _).drew
  refine ⟨⟨h1.own, fun q hq => ?_⟩, ((Below.refl _ _).alloc (Nat.le_refl _) _).drew⟩
  have := h1.lt q hq
  have e : (w.alloc (.cells #[.int .i64 z] 3)).drew.heap.size = w.heap.size + 1 := World.size_alloc _ _
  omega

theorem lit_cell (w : World) (x : Value) (T : TypeId) (g : Nat) (h : g = w.heap.size) : (w.alloc (.cells #[x] T)).cell? ⟨g, 0, none⟩ = some x := by
  subst h
  simp
theorem own_ne_hi {w : World} {lo hi g : Nat} {v : Value} {zs : List Int} (h : OwnI w lo hi v zs) (hg : hi ≤ g) : v.ownBlock ≠ some g := fun e => by have := h.lt g e; omega
theorem own_ne_lo {w : World} {lo hi g : Nat} {v : Value} {zs : List Int} (h : OwnI w lo hi v zs) (hg : g < lo) : v.ownBlock ≠ some g := fun e => by have := (h.own.ge g e).1; omega
theorem rd_cell {w : World} {g : Nat} {z : Int} (h : w.cell? ⟨g, 0, none⟩ = some (.int .i64 z)) (hz : InK .i64 z) : RdI w (.slice (some ⟨g, 0, none⟩) 1 1) [z] := by
  have hlt : g < w.heap.size := (isC_of_cell h).lt
  refine ⟨_, _, rfl, ⟨by simp, by simpa using hz, fun _ => ⟨g, 0, rfl, hlt, fun j hj => ?_⟩⟩, by simp⟩
  have : j = 0 := by simp at hj; omega
  subst this
  simpa using h
/-- append(s, x...), as a step of a region that draws its order: cells that are not of s are kept, and are not of the result. -/
theorem step_append_O {P : Program} {w : World} {ops : Array Oper} {o : Oper} {a : Act} {K : Act → World → Prop} {Q : Exit → Act → World → Prop} {E : Prop} (hgd : o.guard = none) (s x : Operand) (t : TypeId)
    (ho : o.op = .call { callee := .builtin .append, args := #[s, x], argTypes := #[t, t] })
    (ht : P.underlying t = some (.slice 3)) (hinfo : (P.info? 3).map (fun i => (i.zero, i.size, i.bytes)) = some (some (.int .i64 0), 1, 8))
    (lo hi : Nat) (v : Value) (zs : List Int) (hs : a.eval s = v) (hown : OwnI w lo hi v zs) (hlo : lo ≤ w.heap.size)
    (u : Value) (ys : List Int) (hx : a.eval x = u) (hr : RdI w u ys) (hlen : zs.length + ys.length ≤ 1000000000)
    (h : ∀ v' w', OwnI w' lo w'.heap.size v' (zs ++ ys) → Below lo w w' → (∀ (p : Addr) (q : Value), w.cell? p = some q → v.ownBlock ≠ some p.block → w'.cell? p = some q ∧ v'.ownBlock ≠ some p.block) → K (a.put o.dst v') w') : if Region.wanted o (yielded ops a.tmps) = true then Oper.wp P o a w K Q else E := by
  rw [if_pos (by simp [Region.wanted, hgd])]
  obtain ⟨A, c, rfl, hi', _⟩ := hr
  refine wp_append_ints s x t ho lo 3 .i64 8 ht hinfo (Nat.le_refl _) v zs hs hown.own.own w.heap.size A ys c hx hi' hlen hlo ?_
  intro v' w' h1 h2 h3
  refine h v' w' (Own.within ⟨h1, fun z hz => ?_⟩) (below_of_only h2 hlo (fun k hk => (hown.own.ge k hk).1)) (fun p q hq hne => ?_)
  · rcases List.mem_append.1 hz with h | h
    · exact hown.own.wf z h
    · exact hi'.wf z h
  · have hlt : p.block < w.heap.size := by
      rcases Nat.lt_or_ge p.block w.heap.size with h4 | h4
      · exact h4
      · simp [World.cell?, Array.getElem?_eq_none h4] at hq
    refine ⟨?_, ?_⟩
    · rw [← hq]
      unfold World.cell?
      rw [h2.block p.block hlt (fun e => hne e.symm)]
    · rcases h3 with h4 | h4
      · rw [h4]; exact hne
      · rw [h4]; simp; omega
end Go.Proofs.YtkdpfiaegimnlaaDoor
