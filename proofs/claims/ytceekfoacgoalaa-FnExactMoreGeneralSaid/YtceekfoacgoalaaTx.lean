/- The model's l3Named: at a row and a type behind it, at programs. -/
import Derived.Test.YtceekfoacgoalaaBr
import Derived.Test.YtceekfoacgoalaaSa
import Derived.Deep.RegionHeld3
namespace Go.Proofs.Ytceekfoacgoalaa
set_option maxRecDepth 100000
open Go.RowKit Go.WideShapes Go.Deep

theorem step_append_W7 {P : Program} {w : World} {ops : Array Oper} {o : Oper} {a : Act} {K : Act → World → Prop} {Q : Exit → Act → World → Prop} {E : Prop} (hgd : o.guard = none) (s x : Operand) (t : TypeId)
    (ho : o.op = .call { callee := .builtin .append, args := #[s, x], argTypes := #[t, t] })
    (ht : P.underlying t = some (.slice 3)) (hinfo : (P.info? 3).map (fun i => (i.zero, i.size, i.bytes)) = some (some (.int .i64 0), 1, 8))
    (lo hi : Nat) (v : Value) (zs : List Int) (hs : a.eval s = v) (hown : OwnI w lo hi v zs) (hlo : lo ≤ w.heap.size)
    (u : Value) (ys : List Int) (hx : a.eval x = u) (hr : RdI w u ys) (hlen : zs.length + ys.length ≤ 1000000000)
    (h : ∀ v' w', OwnI w' lo w'.heap.size v' (zs ++ ys) → Within lo hi w w' → K (a.put o.dst v') w') : if Region.wanted o (yielded ops a.tmps) = true then Oper.wp P o a w K Q else E := by
  rw [if_pos (by simp [Region.wanted, hgd])]
  obtain ⟨A, c, rfl, hi', _⟩ := hr
  refine wp_append_ints s x t ho lo 3 .i64 8 ht hinfo (Nat.le_refl _) v zs hs hown.own.own w.heap.size A ys c hx hi' hlen hlo ?_
  intro v' w' h1 h2 _
  refine h v' w' (Own.within ⟨h1, fun z hz => ?_⟩) (Within.of_only h2 (fun k hk => ⟨(hown.own.ge k hk).1, hown.lt k hk⟩))
  rcases List.mem_append.1 hz with h | h
  · exact hown.own.wf z h
  · exact hi'.wf z h
set_option maxHeartbeats 4000000 in
theorem named_put (v ov : Value) (zs cs : List Int) (N1 N2 : List Int) (k m : Nat) (w : World) (hv : RdI w v zs) (ho : RdI w ov cs) (hl : zs.length ≤ 1000000)
    (hk : k + 1 < zs.length) (hzz : zs.getD k 0 = 4) (hend : Calls Try.prog 50 #[v, .int .i64 ((k : Int) + 1), .bool true] w fun e w' => e = .returned (.int .i64 (m : Int)) ∧ w = w')
    (hA : ∀ W, RdI W v zs → RdI W ov cs → Calls Try.prog 52 #[v, ov, .int .i64 ((k : Int) + 1), .bool true] W (NamPost N1 W))
    (hB : ∀ W, RdI W v zs → RdI W ov cs → Calls Try.prog 52 #[v, ov, .int .i64 (m : Int), .bool false] W (NamPost N2 W))
    (hnl : N1.length ≤ 1000000 ∧ N2.length ≤ 1000000) :
    Calls Try.prog 52 #[v, ov, .int .i64 k, .bool true] w (NamPost (4 :: (N1 ++ N2)) w) := by
  have HT := Lib.hid (And.intro hv ho)
  have CA := Lib.hid (fun W (h : Below w.heap.size w W) => hA W (hv.step h) (ho.step h)); have CB := Lib.hid (fun W (h : Below w.heap.size w W) => hB W (hv.step h) (ho.step h)); have CE := Lib.hid hend
  obtain ⟨hn1, hn2⟩ := hnl
  clear hA hB hend
  obtain ⟨A, c, rfl, hi, _⟩ := hv
  obtain ⟨b0, off, rfl, hb0, hcc⟩ := hi.at_ (by omega)
  have hc0 := hcc k (by omega)
  rw [hzz] at hc0
  clear hi hcc hzz
  obtain ⟨Ao, co, rfl, _⟩ := ho
  have hkI : (k : Int) < zs.length := by omega
  have m2 : IntKind.i64.wrap ((k : Int) + 1) = (k : Int) + 1 := IntWalk.i64_in _ (by omega)
  have bD : Below w.heap.size w w.drew := (Below.refl _ _).drew
  have bL : Below w.heap.size w (w.alloc (.cells #[.int .i64 4] 3)).drew := ((Below.refl w.heap.size w).alloc (Nat.le_refl _) _).drew
  have LF : ∀ W : World, OwnI (W.alloc (.cells #[.int .i64 4] 3)) W.heap.size (W.heap.size + 1) (.slice (some ⟨W.heap.size, 0, none⟩) 1 1) [4] := fun W => by simpa using lits_own W [4] (by simp) (by intro q hq; simp only [List.mem_cons, List.not_mem_nil, or_false] at hq; subst hq; exact wf_near _ (by omega))
  have LITF := Lib.hid LF; clear LF
  have BB := Lib.hid (And.intro bD bL); clear bD bL
  go_enter Try.func52, Try.ntmps52
  go_wp2_with fail
  refine (CE.out).mono ?_
  rintro e w' ⟨rfl, rfl⟩
  go_wp2
  go_region_held3 (fun w' => w'.cell? ⟨b0, off + k, none⟩ = some (.int .i64 4)) (repeat' (first | exact hc0 | exact cA | exact c1 | exact cB | exact c2 | rw [World.cell?_drew] | rw [World.cell?_alloc_lt _ _ _ (by first | omega | (simp; omega))])) (first
    | (go_at_call 52; refine (CB.out w1 X1.out.2).mono ?_; rintro e wB ⟨uB, rfl, huB, hbB⟩; have hsB := hbB.size; have bB : Below w.heap.size w wB := X1.out.2.trans (hbB.mono (by omega)); have cB := (bB.cell (p := ⟨b0, off + k, none⟩) hb0).trans hc0; have X2 := Lib.hid (And.intro (X1.out.1.below hbB) (And.intro huB.rd bB)); clear huB hbB bB)
    | (go_at_call 52; refine (CA.out _ ?_).mono ?_; (· first | with_reducible exact BB.out.1 | with_reducible exact BB.out.2); rintro e wA ⟨uA, rfl, huA, hbA⟩; first
        | (have hb7 : Below (w.alloc (.cells #[.int .i64 4] 3)).drew.heap.size (w.alloc (.cells #[.int .i64 4] 3)).drew wA := (by with_reducible exact hbA); have hsA : w.heap.size + 1 ≤ wA.heap.size := (by have h := hb7.size; rw [show ∀ W : World, W.drew.heap.size = W.heap.size from fun _ => rfl, World.size_alloc] at h; exact h); have bA : Below w.heap.size w wA := BB.out.2.trans (hb7.mono (by rw [show ∀ W : World, W.drew.heap.size = W.heap.size from fun _ => rfl, World.size_alloc]; exact Nat.le_succ _)); have cA := (bA.cell (p := ⟨b0, off + k, none⟩) hb0).trans hc0; have wayA := Lib.hid (And.intro (((LITF.out w).below ((Below.refl _ _).drew)).below hb7) (And.intro huA.rd bA)); clear huA hbA hb7 bA)
        | (have hb7 : Below w.drew.heap.size w.drew wA := (by with_reducible exact hbA); have hsA : w.heap.size ≤ wA.heap.size := hb7.size; have bA : Below w.heap.size w wA := BB.out.1.trans hb7; have cA := (bA.cell (p := ⟨b0, off + k, none⟩) hb0).trans hc0; have wayB := Lib.hid (And.intro huA.rd bA); clear huA hbA hb7 bA))
    | (refine step_append_W7 rfl _ _ _ rfl Try.underlying23 intInfo w.heap.size (w.heap.size + 1) _ [4] rfl wayA.out.1 (by omega) uA N1 rfl wayA.out.2.1 (by simp; omega) ?_; intro v1 w1 ho1 hw1; have hs1 := hw1.size; have b1 : Below w.heap.size w w1 := wayA.out.2.2.trans (hw1.below (Nat.le_refl _) (by omega)); have c1 := (b1.cell (p := ⟨b0, off + k, none⟩) hb0).trans hc0; have X1 := Lib.hid (And.intro ho1 b1); clear ho1 hw1 b1 wayA)
    | (refine step_append_W7 rfl _ _ _ rfl Try.underlying23 intInfo wA.heap.size (wA.heap.size + 1) _ [4] rfl (LITF.out wA) (by simp) uA N1 rfl (wayB.out.1.step ((Below.refl _ _).alloc (Nat.le_refl _) _)) (by simp; omega) ?_; intro v1 w1 ho1 hw1; have hs1 : wA.heap.size ≤ w1.heap.size := (by have h := hw1.size; rw [World.size_alloc] at h; omega); have b1 : Below w.heap.size w w1 := (wayB.out.2.alloc (by omega) _).trans (hw1.below (by omega) (by rw [World.size_alloc]; omega)); have c1 := (b1.cell (p := ⟨b0, off + k, none⟩) hb0).trans hc0; have X1 := Lib.hid (And.intro (OwnI.mk (ho1.own.mono (show w.heap.size ≤ wA.heap.size by omega)) ho1.lt) b1); clear ho1 hw1 b1 wayB)
    | (refine step_append_W7 rfl _ _ _ rfl Try.underlying23 intInfo w.heap.size w1.heap.size _ ([4] ++ N1) rfl X2.out.1 (by omega) uB N2 rfl X2.out.2.1 (by simp; omega) ?_; intro v2 w2 ho2 hw2; have b2 : Below w.heap.size w w2 := X2.out.2.2.trans (hw2.below (Nat.le_refl _) (by omega)); have c2 := (b2.cell (p := ⟨b0, off + k, none⟩) hb0).trans hc0; have FIN := Lib.hid (And.intro ho2 b2); clear ho2 hw2 b2)
    | fail)
  all_goals
    go_wp2
    go_ret
    exact ⟨_, rfl, by have h := FIN.out.1; simpa using h, FIN.out.2⟩
set_option maxHeartbeats 4000000 in
theorem named_prog (v ov : Value) (zs cs : List Int) (N1 N2 : List Int) (k m : Nat) (w : World) (hv : RdI w v zs) (ho : RdI w ov cs) (hl : zs.length ≤ 1000000)
    (hk : k + 1 < zs.length) (hzz : zs.getD k 0 = 2) (hend : Calls Try.prog 50 #[v, .int .i64 ((k : Int) + 1), .bool true] w fun e w' => e = .returned (.int .i64 (m : Int)) ∧ w = w')
    (hA : ∀ W, RdI W v zs → RdI W ov cs → Calls Try.prog 52 #[v, ov, .int .i64 ((k : Int) + 1), .bool true] W (NamPost N1 W))
    (hB : ∀ W, RdI W v zs → RdI W ov cs → Calls Try.prog 52 #[v, ov, .int .i64 (m : Int), .bool true] W (NamPost N2 W))
    (hnl : N1.length ≤ 1000000 ∧ N2.length ≤ 1000000) :
    Calls Try.prog 52 #[v, ov, .int .i64 k, .bool false] w (NamPost (2 :: (N1 ++ N2)) w) := by
  have HT := Lib.hid (And.intro hv ho)
  have CA := Lib.hid (fun W (h : Below w.heap.size w W) => hA W (hv.step h) (ho.step h)); have CB := Lib.hid (fun W (h : Below w.heap.size w W) => hB W (hv.step h) (ho.step h)); have CE := Lib.hid hend
  obtain ⟨hn1, hn2⟩ := hnl
  clear hA hB hend
  obtain ⟨A, c, rfl, hi, _⟩ := hv
  obtain ⟨b0, off, rfl, hb0, hcc⟩ := hi.at_ (by omega)
  have hc0 := hcc k (by omega)
  rw [hzz] at hc0
  clear hi hcc hzz
  obtain ⟨Ao, co, rfl, _⟩ := ho
  have hkI : (k : Int) < zs.length := by omega
  have m2 : IntKind.i64.wrap ((k : Int) + 1) = (k : Int) + 1 := IntWalk.i64_in _ (by omega)
  have bD : Below w.heap.size w w.drew := (Below.refl _ _).drew
  have bL : Below w.heap.size w (w.alloc (.cells #[.int .i64 2] 3)).drew := ((Below.refl w.heap.size w).alloc (Nat.le_refl _) _).drew
  have LF : ∀ W : World, OwnI (W.alloc (.cells #[.int .i64 2] 3)) W.heap.size (W.heap.size + 1) (.slice (some ⟨W.heap.size, 0, none⟩) 1 1) [2] := fun W => by simpa using lits_own W [2] (by simp) (by intro q hq; simp only [List.mem_cons, List.not_mem_nil, or_false] at hq; subst hq; exact wf_near _ (by omega))
  have LITF := Lib.hid LF; clear LF
  have BB := Lib.hid (And.intro bD bL); clear bD bL
  go_enter Try.func52, Try.ntmps52
  go_wp2_with fail
  refine (CE.out).mono ?_
  rintro e w' ⟨rfl, rfl⟩
  go_wp2
  go_region_held3 (fun w' => w'.cell? ⟨b0, off + k, none⟩ = some (.int .i64 2)) (repeat' (first | exact hc0 | exact cA | exact c1 | exact cB | exact c2 | rw [World.cell?_drew] | rw [World.cell?_alloc_lt _ _ _ (by first | omega | (simp; omega))])) (first
    | (go_at_call 52; refine (CB.out w1 X1.out.2).mono ?_; rintro e wB ⟨uB, rfl, huB, hbB⟩; have hsB := hbB.size; have bB : Below w.heap.size w wB := X1.out.2.trans (hbB.mono (by omega)); have cB := (bB.cell (p := ⟨b0, off + k, none⟩) hb0).trans hc0; have X2 := Lib.hid (And.intro (X1.out.1.below hbB) (And.intro huB.rd bB)); clear huB hbB bB)
    | (go_at_call 52; refine (CA.out _ ?_).mono ?_; (· first | with_reducible exact BB.out.1 | with_reducible exact BB.out.2); rintro e wA ⟨uA, rfl, huA, hbA⟩; first
        | (have hb7 : Below (w.alloc (.cells #[.int .i64 2] 3)).drew.heap.size (w.alloc (.cells #[.int .i64 2] 3)).drew wA := (by with_reducible exact hbA); have hsA : w.heap.size + 1 ≤ wA.heap.size := (by have h := hb7.size; rw [show ∀ W : World, W.drew.heap.size = W.heap.size from fun _ => rfl, World.size_alloc] at h; exact h); have bA : Below w.heap.size w wA := BB.out.2.trans (hb7.mono (by rw [show ∀ W : World, W.drew.heap.size = W.heap.size from fun _ => rfl, World.size_alloc]; exact Nat.le_succ _)); have cA := (bA.cell (p := ⟨b0, off + k, none⟩) hb0).trans hc0; have wayA := Lib.hid (And.intro (((LITF.out w).below ((Below.refl _ _).drew)).below hb7) (And.intro huA.rd bA)); clear huA hbA hb7 bA)
        | (have hb7 : Below w.drew.heap.size w.drew wA := (by with_reducible exact hbA); have hsA : w.heap.size ≤ wA.heap.size := hb7.size; have bA : Below w.heap.size w wA := BB.out.1.trans hb7; have cA := (bA.cell (p := ⟨b0, off + k, none⟩) hb0).trans hc0; have wayB := Lib.hid (And.intro huA.rd bA); clear huA hbA hb7 bA))
    | (refine step_append_W7 rfl _ _ _ rfl Try.underlying23 intInfo w.heap.size (w.heap.size + 1) _ [2] rfl wayA.out.1 (by omega) uA N1 rfl wayA.out.2.1 (by simp; omega) ?_; intro v1 w1 ho1 hw1; have hs1 := hw1.size; have b1 : Below w.heap.size w w1 := wayA.out.2.2.trans (hw1.below (Nat.le_refl _) (by omega)); have c1 := (b1.cell (p := ⟨b0, off + k, none⟩) hb0).trans hc0; have X1 := Lib.hid (And.intro ho1 b1); clear ho1 hw1 b1 wayA)
    | (refine step_append_W7 rfl _ _ _ rfl Try.underlying23 intInfo wA.heap.size (wA.heap.size + 1) _ [2] rfl (LITF.out wA) (by simp) uA N1 rfl (wayB.out.1.step ((Below.refl _ _).alloc (Nat.le_refl _) _)) (by simp; omega) ?_; intro v1 w1 ho1 hw1; have hs1 : wA.heap.size ≤ w1.heap.size := (by have h := hw1.size; rw [World.size_alloc] at h; omega); have b1 : Below w.heap.size w w1 := (wayB.out.2.alloc (by omega) _).trans (hw1.below (by omega) (by rw [World.size_alloc]; omega)); have c1 := (b1.cell (p := ⟨b0, off + k, none⟩) hb0).trans hc0; have X1 := Lib.hid (And.intro (OwnI.mk (ho1.own.mono (show w.heap.size ≤ wA.heap.size by omega)) ho1.lt) b1); clear ho1 hw1 b1 wayB)
    | (refine step_append_W7 rfl _ _ _ rfl Try.underlying23 intInfo w.heap.size w1.heap.size _ ([2] ++ N1) rfl X2.out.1 (by omega) uB N2 rfl X2.out.2.1 (by simp; omega) ?_; intro v2 w2 ho2 hw2; have b2 : Below w.heap.size w w2 := X2.out.2.2.trans (hw2.below (Nat.le_refl _) (by omega)); have c2 := (b2.cell (p := ⟨b0, off + k, none⟩) hb0).trans hc0; have FIN := Lib.hid (And.intro ho2 b2); clear ho2 hw2 b2)
    | fail)
  all_goals
    go_wp2
    go_ret
    exact ⟨_, rfl, by have h := FIN.out.1; simpa using h, FIN.out.2⟩
end Go.Proofs.Ytceekfoacgoalaa
