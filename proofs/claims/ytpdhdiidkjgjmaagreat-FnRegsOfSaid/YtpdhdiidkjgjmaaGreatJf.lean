/- Chapter 7: programs under values; two rows of the call's own side by side. -/
import Derived.Test.YtpdhdiidkjgjmaaGreatJh
import Derived.Test.YtpdhdiidkjgjmaaGreatJa
import Derived.Test.YtpdhdiidkjgjmaaGreatB1
import Derived.Test.YtpdhdiidkjgjmaaGreatRn
namespace Go.Proofs.YtpdhdiidkjgjmaaGreat
set_option maxRecDepth 100000
open Go.RowKit Go.WideShapes

/-- Two rows of the call's own, in blocks of their own. -/
structure Two (w : World) (lo : Nat) (v u : Value) (xs ys : List Int) : Prop where
  one : Own w lo v xs
  two : Own w lo u ys
  ne : ∀ k, v.ownBlock = some k → u.ownBlock ≠ some k
theorem Two.turn {w : World} {lo : Nat} {v u : Value} {xs ys : List Int} (h : Two w lo v u xs ys) : Two w lo u v ys xs := ⟨h.two, h.one, fun k h1 h2 => h.ne k h2 h1⟩
theorem Two.below {w w' : World} {lo : Nat} {v u : Value} {xs ys : List Int} (h : Two w lo v u xs ys) (hb : Below w.heap.size w w') : Two w' lo v u xs ys := ⟨h.one.below hb, h.two.below hb, h.ne⟩
theorem Two.rd1 {w : World} {lo : Nat} {v u : Value} {xs ys : List Int} (h : Two w lo v u xs ys) : RdI w v xs := h.one.ints
theorem Two.rd2 {w : World} {lo : Nat} {v u : Value} {xs ys : List Int} (h : Two w lo v u xs ys) : RdI w u ys := h.two.ints
theorem Two.out1 {w : World} {lo : Nat} {v u : Value} {xs ys : List Int} (h : Two w lo v u xs ys) : OwnI w lo w.heap.size v xs := h.one.within
/-- append(s, x...): the other row is kept. -/
theorem wpList_append_T {P : Program} {w : World} {ops : Array Oper} {rest : List Oper} {o : Oper} {a : Act} {Q : Exit → Act → World → Prop} (hgd : o.guard = none) (s x : Operand) (t : TypeId)
    (ho : o.op = .call { callee := .builtin .append, args := #[s, x], argTypes := #[t, t] })
    (ht : P.underlying t = some (.slice 3)) (hinfo : (P.info? 3).map (fun i => (i.zero, i.size, i.bytes)) = some (some (.int .i64 0), 1, 8))
    (lo : Nat) (v v2 : Value) (zs qs : List Int) (hs : a.eval s = v) (hown : Two w lo v v2 zs qs) (hlo : lo ≤ w.heap.size)
    (u : Value) (ys : List Int) (hx : a.eval x = u) (hr : RdI w u ys) (hlen : zs.length + ys.length ≤ 1000000000)
    (h : ∀ v' w', Two w' lo v' v2 (zs ++ ys) qs → Below lo w w' → wpList P ops Q rest (a.put o.dst v') w') : wpList P ops Q (o :: rest) a w := by
  obtain ⟨A, c, rfl, hi', _⟩ := hr
  refine wpList_plain hgd fun _ hK => wp_append_ints s x t ho lo 3 .i64 8 ht hinfo (Nat.le_refl _) v zs hs hown.one.own w.heap.size A ys c hx hi' hlen hlo ?_
  intro v' w' h1 h2 h3
  refine hK _ _ (h v' w' ⟨⟨h1, fun z hz => ?_⟩, ⟨ownsRow_keep hown.two.own fun k hk => h2.block k (hown.two.own.lt k hk).2 (fun e => hown.ne k e.symm hk), hown.two.wf⟩, fun k hk hu => ?_⟩ (below_of_only h2 hlo (fun k hk => (hown.one.ge k hk).1)))
  · rcases List.mem_append.1 hz with h | h
    · exact hown.one.wf z h
    · exact hi'.wf z h
  · rcases h3 with h3 | h3
    · rw [h3] at hk; exact hown.ne k hk hu
    · rw [h3] at hk
      have := (hown.two.own.lt k hu).2
      simp at hk; omega

theorem underR_len (n : Nat) (z : Int) : (underR n z).length = 3 * n + 1 := by
  induction n with
  | zero => rfl
  | succ n ih => rw [underR, List.length_cons, List.length_append, ih]; simp; omega
theorem underR_app (n : Nat) (z : Int) : ([1012] ++ underR n z) ++ [1013, 1004] = underR (n + 1) z := by rw [underR]; simp
theorem underR_app2 (n : Nat) (z : Int) : 1012 :: (underR n z ++ [1013, 1004]) = underR (n + 1) z := rfl
def Gives (w : World) (zs : List Int) (e : Ending) (w' : World) : Prop := ∃ u, e = .returned u ∧ OwnI w' w.heap.size w'.heap.size u zs ∧ Below w.heap.size w w'
end Go.Proofs.YtpdhdiidkjgjmaaGreat
