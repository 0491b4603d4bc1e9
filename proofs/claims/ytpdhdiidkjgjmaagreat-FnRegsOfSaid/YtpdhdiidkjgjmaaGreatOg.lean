/- RegsRun of the program: the parts. -/
import Derived.Test.YtpdhdiidkjgjmaaGreatOd
import Derived.Test.YtpdhdiidkjgjmaaGreatOe
import Derived.Test.YtpdhdiidkjgjmaaGreatB1
import Derived.Test.YtpdhdiidkjgjmaaGreatSa
import Derived.Test.YtpdhdiidkjgjmaaGreatJt
namespace Go.Proofs.YtpdhdiidkjgjmaaGreat
set_option maxRecDepth 100000
open Go.RowKit Go.WideShapes Go.Deep

theorem reckoned8 (op a b : Int) (w : World) (ha : 0 ≤ a ∧ a ≤ 999) (hb : 0 ≤ b ∧ b ≤ 999) :
    Calls Tryz.prog 32 #[.int .i64 op, .int .i64 a, .int .i64 b] w fun e w' => e = .returned (.int .i64 (reck op a b)) ∧ w = w' := by
  have hm : 0 ≤ a * b ∧ a * b ≤ 998001 := by
    refine ⟨Int.mul_nonneg ha.1 hb.1, ?_⟩
    have : a * b ≤ 999 * 999 := Int.mul_le_mul ha.2 hb.2 hb.1 (by omega)
    omega
  obtain ⟨hm1, hm2⟩ := hm
  by_cases h1 : op = 1006
  · subst h1
    go_enter Tryz.func32, Tryz.ntmps32
    go_wp2
    go_ret
    exact ⟨ret_i64 (by simp [reck]), rfl⟩
  · by_cases h2 : op = 1007
    · subst h2
      go_enter Tryz.func32, Tryz.ntmps32
      go_wp2
      go_ret
      exact ⟨ret_i64 (by simp [reck]), rfl⟩
    · by_cases h3 : op = 1008
      · subst h3
        go_enter Tryz.func32, Tryz.ntmps32
        go_wp2
        go_ret
        exact ⟨ret_i64 (by simp [reck]), rfl⟩
      · have e1 : (op == 1006) = false := by simpa using h1
        have e2 : (op == 1007) = false := by simpa using h2
        have e3 : (op == 1008) = false := by simpa using h3
        have hR : reck op a b = if a < b then 1 else 0 := by simp [reck, h1, h2, h3]
        have HR := Lib.hid hR
        clear h1 h2 h3 hR
        by_cases hlt : a < b
        all_goals
          go_enter Tryz.func32, Tryz.ntmps32
          go_wp2
          go_ret
          exact ⟨ret_i64 (by rw [HR.out]; simp [hlt]), rfl⟩

theorem clone8 (v : Value) (zs : List Int) (w : World) (h : RdI w v zs) (hl : zs.length ≤ 2000000) :
    Calls Tryz.prog 31 #[v] w fun e w' => ∃ u, e = .returned u ∧ OwnI w' w.heap.size w'.heap.size u zs ∧ Below w.heap.size w w' := by
  obtain ⟨A, c, rfl, hi, hc⟩ := h
  rcases A with _ | a
  · have h0 : zs = [] := by
      rcases zs with _ | ⟨z, zs⟩
      · rfl
      · obtain ⟨b, off, e, _⟩ := hi.at_ (by simp); cases e
    subst h0
    have hnil := fun (W : World) (n c : Nat) => Lib.run_eql_slice_nil (P := Tryz.prog) W 23 3 none n c 0 0 Tryz.underlying23
    clear hi hc
    go_enter Tryz.func31, Tryz.ntmps31
    go_wp2
    go_ret
    exact ⟨_, rfl, nilOwn _ _ _, Below.refl _ _⟩
  · have hm := hi.len
    have H := Lib.hid hi; clear hi
    have L0 := lit_own w [] (by simp)
    simp only [List.map_nil, List.length_nil] at L0
    have hnil := fun (W : World) (a : Option Addr) (n c : Nat) => Lib.run_eql_slice_nil (P := Tryz.prog) W 23 3 a n c 0 0 Tryz.underlying23
    go_enter Tryz.func31, Tryz.ntmps31
    go_wp2_with (at_builtin; refine wpList_append_ints rfl (.tmp 5) (.tmp 6) _ rfl w.heap.size 3 .i64 8 Tryz.underlying23 intInfo (Nat.le_refl _) _ [] rfl L0 (w.heap.size + 1) _ zs c rfl ((H.out.alloc (Nat.le_refl _) _).mono (by omega)) (by simp; omega) (by simp) ?_)
    intro v1 w1 hown1 hg1 _
    have hb1 : Below w.heap.size w w1 := ((Below.refl w.heap.size w).alloc (Nat.le_refl _) _).grown hg1 (by simp) (by intro k hk; simp [Value.ownBlock] at hk; omega)
    have ho1 : Own w1 w.heap.size v1 zs := ⟨by simpa using hown1, H.out.wf⟩
    have X := Lib.hid (And.intro ho1 hb1)
    clear hown1 hg1 hb1 ho1 L0
    go_wp2
    go_ret
    exact ⟨_, rfl, X.out.1.within, X.out.2⟩
theorem numsB_allB (zs : List Int) : allB 1000 zs = numsB zs := rfl
def RunG (w : World) (y0 : List Int) (y1 : Bool) (e : Ending) (w' : World) : Prop := ∃ u, e = .returned (.tuple #[u, .bool y1]) ∧ OwnI w' w.heap.size w'.heap.size u y0 ∧ Below w.heap.size w w'
theorem placeOf_any (a t : Int) (w : World) (ha : 2000 ≤ a ∧ a ≤ 1000000) (ht : 0 ≤ t ∧ t ≤ 1000) : Calls Tryz.prog 62 #[.int .i64 a, .int .i64 t] w fun e w' => e = .returned (.int .i64 (if 3000 ≤ a then t + a - 3000 else a - 2000)) ∧ w = w' := by
  have m1 : IntKind.i64.wrap (t + a) = t + a := IntWalk.i64_in _ (by omega)
  have m2 : IntKind.i64.wrap (t + a - 3000) = t + a - 3000 := IntWalk.i64_in _ (by omega)
  have m3 : IntKind.i64.wrap (a - 2000) = a - 2000 := IntWalk.i64_in _ (by omega)
  by_cases h : 3000 ≤ a
  · rw [if_pos h]
    go_enter Tryz.func62, Tryz.ntmps62
    go_wp2
    go_ret
    exact ⟨rfl, rfl⟩
  · rw [if_neg h]
    go_enter Tryz.func62, Tryz.ntmps62
    go_wp2
    go_ret
    exact ⟨rfl, rfl⟩
theorem place_in {t a : Int} {n : Nat} {zs : List Int} (hk : knownB t n a = true) (hn : ¬ a ≤ 999) (hl : (zs.length : Int) = t + n) (ht : 0 ≤ t ∧ t ≤ 20) : ∃ k : Nat, (if 3000 ≤ a then t + a - 3000 else a - 2000) = (k : Int) ∧ k < zs.length ∧ valR t zs a = zs.getD k 0 ∧ 2000 ≤ a := by
  unfold knownB at hk
  rw [decide_eq_true_eq] at hk
  by_cases h : 3000 ≤ a
  · refine ⟨(t + a - 3000).toNat, ?_, by omega, ?_, by omega⟩
    · rw [if_pos h]; omega
    · rw [valR, if_neg hn, if_pos h]
  · refine ⟨(a - 2000).toNat, ?_, by omega, ?_, by omega⟩
    · rw [if_neg h]; omega
    · rw [valR, if_neg hn, if_neg h]
theorem numIn_any (t a : Int) (n : Nat) (v : Value) (zs : List Int) (w : World) (h : RdI w v zs) (ht : 0 ≤ t ∧ t ≤ 20) (hn : n ≤ 60) (hl : (zs.length : Int) = t + n) (hk : knownB t n a = true) (x : Int) (hx : valR t zs a = x) :
    Calls Tryz.prog 33 #[v, .int .i64 a, .int .i64 t] w fun e w' => e = .returned (.int .i64 x) ∧ w = w' := by
  obtain ⟨A, c, rfl, hi, _⟩ := h
  have HX := Lib.hid hx; clear hx
  by_cases h0 : a ≤ 999
  · have ha0 : 0 ≤ a := by unfold knownB at hk; rw [decide_eq_true_eq] at hk; omega
    have hq := Lib.hid (show isNumB a = true by simp [isNumB, ha0, h0])
    obtain rfl : a = x := by rw [← HX.out, valR, if_pos h0]
    clear hk hi
    go_enter Tryz.func33, Tryz.ntmps33
    go_wp2_with fail
    refine (isNum_any a _).mono ?_
    rw [hq.out]
    rintro e w' ⟨rfl, rfl⟩
    go_wp2
    go_ret
    exact ⟨rfl, rfl⟩
  · have hq := Lib.hid (show isNumB a = false by simp [isNumB]; omega)
    obtain ⟨k, hp, hkl, hv, h2⟩ := place_in hk h0 hl ht
    have hu : a ≤ 1000000 := by unfold knownB at hk; rw [decide_eq_true_eq] at hk; omega
    have HP := Lib.hid hp; clear hp
    obtain ⟨b, off, rfl, hb, hcc⟩ := hi.at_ (by omega)
    have hcell := hcc k hkl
    rw [← hv, HX.out] at hcell
    have hkI : (k : Int) < zs.length := by omega
    clear hcc hi hk hl hv h0
    go_enter Tryz.func33, Tryz.ntmps33
    go_wp2_with fail
    refine (isNum_any a _).mono ?_
    rw [hq.out]
    rintro e w' ⟨rfl, rfl⟩
    go_wp2_with fail
    refine (placeOf_any a t _ ⟨h2, hu⟩ (by omega)).mono ?_
    rw [HP.out]
    rintro e w' ⟨rfl, rfl⟩
    go_wp2
    go_ret
    exact ⟨rfl, rfl⟩
theorem step_append_W8 {P : Program} {w : World} {ops : Array Oper} {o : Oper} {a : Act} {K : Act → World → Prop} {Q : Exit → Act → World → Prop} {E : Prop} (hgd : o.guard = none) (s x : Operand) (t : TypeId)
    (ho : o.op = .call { callee := .builtin .append, args := #[s, x], argTypes := #[t, t] })
    (ht : P.underlying t = some (.slice 3)) (hinfo : (P.info? 3).map (fun i => (i.zero, i.size, i.bytes)) = some (some (.int .i64 0), 1, 8))
    (lo hi : Nat) (v : Value) (zs : List Int) (hs : a.eval s = v) (hown : OwnI w lo hi v zs) (hlo : lo ≤ w.heap.size)
    (u : Value) (ys : List Int) (hx : a.eval x = u) (hr : RdI w u ys) (hlen : zs.length + ys.length ≤ 1000000000)
    (h : ∀ v' w', OwnI w' lo w'.heap.size v' (zs ++ ys) → Within lo hi w w' → K (a.put o.dst v') w') : if Region.wanted o (yielded ops a.tmps) = true then Oper.wp P o a w K Q else E := by
  rw [if_pos (by simp [Region.wanted, hgd])]
  obtain ⟨A, c, rfl, hi', _⟩ := hr
  refine wp_append_ints s x t ho lo 3 .i64 8 ht hinfo (Nat.le_refl _) v zs hs hown.own.own w.heap.size A ys c hx hi' hlen hlo ?_
  intro v' w' h1 h2 _
  refine h v' w' (Own.within ⟨h1, fun z hz => ?_⟩) (Within.of_only h2 (fun k hk => ⟨(hown.own.ge k hk).1, hown.lt k hk⟩))
  rcases List.mem_append.1 hz with h | h
  · exact hown.own.wf z h
  · exact hi'.wf z h
theorem step_append_z {P : Program} {w w0 : World} {ops : Array Oper} {o : Oper} {a : Act} {K : Act → World → Prop} {Q : Exit → Act → World → Prop} {E : Prop} (hgd : o.guard = none) (s x : Operand) (t : TypeId)
    (ho : o.op = .call { callee := .builtin .append, args := #[s, x], argTypes := #[t, t] })
    (ht : P.underlying t = some (.slice 3)) (hinfo : (P.info? 3).map (fun i => (i.zero, i.size, i.bytes)) = some (some (.int .i64 0), 1, 8))
    (z : Int) (hw : w = w0.alloc (.cells #[.int .i64 z] 3)) (hz : InK .i64 z)
    (lo hi : Nat) (v : Value) (zs : List Int) (hs : a.eval s = v) (hown : OwnI w0 lo hi v zs) (hlo : lo ≤ w0.heap.size)
    (hx : a.eval x = .slice (some ⟨w0.heap.size, 0, none⟩) 1 1) (hlen : zs.length ≤ 900000000)
    (h : ∀ v' w', OwnI w' lo w'.heap.size v' (zs ++ [z]) → Within lo hi w0 w' → K (a.put o.dst v') w') : if Region.wanted o (yielded ops a.tmps) = true then Oper.wp P o a w K Q else E := by
  subst hw
  have hl := lits_own w0 [z] (by simp) (by simpa using hz)
  have hb : Below w0.heap.size w0 (w0.alloc (.cells #[.int .i64 z] 3)) := (Below.refl _ _).alloc (Nat.le_refl _) _
  exact step_append_W8 hgd s x t ho ht hinfo lo hi v zs hs (hown.below hb) (by simp; omega) _ [z] hx (by simpa using hl.rd) (by simp; omega) fun v' w' h1 h2 => h v' w' h1 ((Within.of_below hb).trans h2)
end Go.Proofs.YtpdhdiidkjgjmaaGreat
