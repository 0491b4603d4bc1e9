/- Chapter 7: programs under values; two rows of the call's own side by side. -/
import Derived.Test.YtkdpfiaegimnlaaJh
import Derived.Test.YtkdpfiaegimnlaaJa
import Derived.Test.YtkdpfiaegimnlaaB1
import Derived.Test.YtkdpfiaegimnlaaRn
namespace Go.Proofs.Ytkdpfiaegimnlaa
set_option maxRecDepth 100000
open Go.RowKit Go.WideShapes

/-- Two rows of the call's own, in blocks of their own. -/
structure Two (w : World) (lo : Nat) (v u : Value) (xs ys : List Int) : Prop where
  one : Own w lo v xs
  two : Own w lo u ys
  ne : ∀ k, v.ownBlock = some k → u.ownBlock ≠ some k
theorem Two.turn {w : World} {lo : Nat} {v u : Value} {xs ys : List Int} (h : Two w lo v u xs ys) : Two w lo u v ys xs := ⟨h.two, h.one, fun k h1 h2 => h.ne k h2 h1⟩
theorem Two.below {w w' : World} {lo : Nat} {v u : Value} {xs ys : List Int} (h : Two w lo v u xs ys) (hb : Below w.heap.size w w') : Two w' lo v u xs ys := ⟨h.one.below hb, h.two.below hb, h.ne⟩
theorem Two.rd1 {w : World} {lo : Nat} {v u : Value} {xs ys : List Int} (h : Two w lo v u xs ys) : RdI w v xs := h.one.ints
theorem Two.rd2 {w : World} {lo : Nat} {v u : Value} {xs ys : List Int} (h : Two w lo v u xs ys) : RdI w u ys := h.two.ints
theorem Two.out1 {w : World} {lo : Nat} {v u : Value} {xs ys : List Int} (h : Two w lo v u xs ys) : OwnI w lo w.heap.size v xs := h.one.within
/-- append(s, x...): the other row is kept. -/
theorem wpList_append_T {P : Program} {w : World} {ops : Array Oper} {rest : List Oper} {o : Oper} {a : Act} {Q : Exit → Act → World → Prop} (hgd : o.guard = none) (s x : Operand) (t : TypeId)
    (ho : o.op = .call { callee := .builtin .append, args := #[s, x], argTypes := #[t, t] })
    (ht : P.underlying t = some (.slice 3)) (hinfo : (P.info? 3).map (fun i => (i.zero, i.size, i.bytes)) = some (some (.int .i64 0), 1, 8))
    (lo : Nat) (v v2 : Value) (zs qs : List Int) (hs : a.eval s = v) (hown : Two w lo v v2 zs qs) (hlo : lo ≤ w.heap.size)
    (u : Value) (ys : List Int) (hx : a.eval x = u) (hr : RdI w u ys) (hlen : zs.length + ys.length ≤ 1000000000)
    (h : ∀ v' w', Two w' lo v' v2 (zs ++ ys) qs → Below lo w w' → wpList P ops Q rest (a.put o.dst v') w') : wpList P ops Q (o :: rest) a w := by
  obtain ⟨A, c, rfl, hi', _⟩ := hr
  refine wpList_plain hgd fun _ hK => wp_append_ints s x t ho lo 3 .i64 8 ht hinfo (Nat.le_refl _) v zs hs hown.one.own w.heap.size A ys c hx hi' hlen hlo ?_
  intro v' w' h1 h2 h3
  refine hK _ _ (h v' w' ⟨⟨h1, fun z hz => ?_⟩, ⟨ownsRow_keep hown.two.own fun k hk => h2.block k (hown.two.own.lt k hk).2 (fun e => hown.ne k e.symm hk), hown.two.wf⟩, fun k hk hu => ?_⟩ (below_of_only h2 hlo (fun k hk => (hown.one.ge k hk).1)))
  · rcases List.mem_append.1 hz with h | h
    · exact hown.one.wf z h
    · exact hi'.wf z h
  · rcases h3 with h3 | h3
    · rw [h3] at hk; exact hown.ne k hk hu
    · rw [h3] at hk
      have := (hown.two.own.lt k hu).2
      simp at hk; omega

theorem underR_len (n : Nat) (z : Int) : (underR n z).length = 3 * n + 1 := by
  induction n with
  | zero => rfl
  | succ n ih => rw [underR, List.length_cons, List.length_append, ih]; simp; omega
theorem underR_app (n : Nat) (z : Int) : ([1012] ++ underR n z) ++ [1013, 1004] = underR (n + 1) z := by rw [underR]; simp
theorem underR_app2 (n : Nat) (z : Int) : 1012 :: (underR n z ++ [1013, 1004]) = underR (n + 1) z := rfl
def Gives (w : World) (zs : List Int) (e : Ending) (w' : World) : Prop := ∃ u, e = .returned u ∧ OwnI w' w.heap.size w'.heap.size u zs ∧ Below w.heap.size w w'
set_option maxHeartbeats 1000000 in
theorem l7Dips_any (n : Nat) (z : Int) (v : Value) (w : World) (h : RdI w v [z]) (hn : n ≤ 1000) : Calls Try.prog 136 #[v, .int .i64 n] w (Gives w (underR n z)) := by
  have L0 := Lib.hid (nilLit w)
  have HS := Lib.hid (h.step L0.out.2); clear h
  have hnI : (n : Int) ≤ 1000 := by omega
  go_enter Try.func136, Try.ntmps136
  go_wp2_with (at_builtin; refine wpList_append_V rfl _ _ _ rfl Try.underlying25 intInfo w.heap.size (w.alloc (.cells #[] 3)).heap.size _ [] rfl L0.out.1 (by simp) _ [z] rfl HS.out (by simp) ?_)
  intro v1 w1 hown hb1
  have hz1 : w.heap.size ≤ w1.heap.size := (L0.out.2.trans hb1).size
  have S1 := Lib.hid (And.intro hown (L0.out.2.trans hb1)); clear hown hb1 L0 HS
  go_wp2
  go_loopw [5, 6] (fun q i wr => ∃ k : Nat, k ≤ n ∧ i = .int .i64 k ∧ w.heap.size ≤ wr.heap.size ∧ OwnI wr w.heap.size wr.heap.size q (underR k z) ∧ Below w.heap.size w wr) (fun _ i _ => n - (intOf i).toNat)
  case atStart => exact ⟨0, Nat.zero_le _, rfl, hz1, S1.out⟩
  case round =>
    clear S1 hz1
    obtain ⟨k, hk, rfl, hsz, hown, hbk⟩ := hrel
    have X := Lib.hid (And.intro hown hbk); clear hown hbk
    by_cases hlt : k < n
    · have hltI : (k : Int) < n := by omega
      have hl1 : OwnI (wr.alloc (.cells #[.int .i64 1012] 3)) wr.heap.size (wr.heap.size + 1) (.slice (some ⟨wr.heap.size, 0, none⟩) 1 1) [1012] := by simpa using lits_own wr [1012] (by simp) (by intro z hz; simp at hz; subst hz; exact wf_small _ (by omega))
      have hba : Below wr.heap.size wr (wr.alloc (.cells #[.int .i64 1012] 3)) := (Below.refl _ _).alloc (Nat.le_refl _) _
      have hlen := underR_len k z
      have HL := Lib.hid (show (underR k z).length ≤ 4000 by omega); clear hlen
      have HA := Lib.hid (underR_app2 k z)
      have Y := Lib.hid (And.intro (⟨hl1.own.mono hsz, hl1.lt⟩ : OwnI _ w.heap.size _ _ _) (And.intro (X.out.1.below hba).rd (X.out.2.trans (hba.mono hsz)))); clear hl1 hba X
      generalize underR k z = us at *
      go_wp2_with (at_builtin; refine wpList_append_V rfl _ _ _ rfl Try.underlying25 intInfo w.heap.size (wr.heap.size + 1) ?v [1012] ?hs ?hown ?hlo ?u us ?hx ?hr ?hlen ?_)
      case hs => exact rfl
      case hown => exact Y.out.1
      case hlo => simp; omega
      case hx => exact rfl
      case hr => exact Y.out.2.1
      case hlen => have := HL.out; simp; omega
      intro v2 w2 ho2 hb2
      have hz2 : w.heap.size ≤ w2.heap.size := (Y.out.2.2.trans hb2).size
      have hl2 : OwnI (w2.alloc (.cells #[.int .i64 1013, .int .i64 1004] 3)) w2.heap.size (w2.heap.size + 1) (.slice (some ⟨w2.heap.size, 0, none⟩) 2 2) [1013, 1004] := by simpa using lits_own w2 [1013, 1004] (by simp) (by intro z hz; simp at hz; rcases hz with rfl | rfl <;> exact wf_small _ (by omega))
      have hbc : Below w2.heap.size w2 (w2.alloc (.cells #[.int .i64 1013, .int .i64 1004] 3)) := (Below.refl _ _).alloc (Nat.le_refl _) _
      have Z := Lib.hid (And.intro (ho2.below hbc) (And.intro hl2.rd (Y.out.2.2.trans (hb2.trans (hbc.mono hz2))))); clear ho2 hb2 hl2 hbc Y
      go_wp2_with (at_builtin; refine wpList_append_V rfl _ _ _ rfl Try.underlying25 intInfo w.heap.size w2.heap.size ?vb ([1012] ++ us) ?hsb ?hownb ?hlob ?ub [1013, 1004] ?hxb ?hrb ?hlenb ?_)
      case hsb => exact rfl
      case hownb => exact Z.out.1
      case hlob => simp; omega
      case hxb => exact rfl
      case hrb => exact Z.out.2.1
      case hlenb => have := HL.out; simp; omega
      intro v3 w3 ho3 hb3
      have hz3 : w.heap.size ≤ w3.heap.size := (Z.out.2.2.trans hb3).size
      rw [HA.out] at ho3
      have W := Lib.hid (And.intro ho3 (Z.out.2.2.trans hb3)); clear ho3 hb3 Z
      go_wp2
      go_roundw
      case rel => exact ⟨k + 1, by omega, by go_num, hz3, W.out⟩
      case measure => simp [intOf]; omega
    · obtain rfl : k = n := by omega
      go_wp2
      go_ret
      exact ⟨_, rfl, X.out⟩
end Go.Proofs.Ytkdpfiaegimnlaa
