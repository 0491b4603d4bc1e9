/- The model's l3Named: at a row and a type behind it, at programs. -/
import Derived.Test.YtaobijmjlkdphaaDoorTv
import Derived.Test.YtaobijmjlkdphaaDoorSa
import Derived.Deep.RegionHeld3
namespace Go.Proofs.YtaobijmjlkdphaaDoor
set_option maxRecDepth 100000
open Go.RowKit Go.WideShapes Go.Deep

theorem step_append_W7 {P : Program} {w : World} {ops : Array Oper} {o : Oper} {a : Act} {K : Act → World → Prop} {Q : Exit → Act → World → Prop} {E : Prop} (hgd : o.guard = none) (s x : Operand) (t : TypeId)
    (ho : o.op = .call { callee := .builtin .append, args := #[s, x], argTypes := #[t, t] })
    (ht : P.underlying t = some (.slice 3)) (hinfo : (P.info? 3).map (fun i => (i.zero, i.size, i.bytes)) = some (some (.int .i64 0), 1, 8))
    (lo hi : Nat) (v : Value) (zs : List Int) (hs : a.eval s = v) (hown : OwnI w lo hi v zs) (hlo : lo ≤ w.heap.size)
    (u : Value) (ys : List Int) (hx : a.eval x = u) (hr : RdI w u ys) (hlen : zs.length + ys.length ≤ 1000000000)
    (h : ∀ v' w', OwnI w' lo w'.heap.size v' (zs ++ ys) → Within lo hi w w' → K (a.put o.dst v') w') : if Region.wanted o (yielded ops a.tmps) = true then Oper.wp P o a w K Q else E := by
  rw [if_pos (by simp [Region.wanted, hgd])]
  obtain ⟨A, c, rfl, hi', _⟩ := hr
  refine wp_append_ints s x t ho lo 3 .i64 8 ht hinfo (Nat.le_refl _) v zs hs hown.own.own w.heap.size A ys c hx hi' hlen hlo ?_
  intro v' w' h1 h2 _
  refine h v' w' (Own.within ⟨h1, fun z hz => ?_⟩) (Within.of_only h2 (fun k hk => ⟨(hown.own.ge k hk).1, hown.lt k hk⟩))
  rcases List.mem_append.1 hz with h | h
  · exact hown.own.wf z h
  · exact hi'.wf z h
end Go.Proofs.YtaobijmjlkdphaaDoor
