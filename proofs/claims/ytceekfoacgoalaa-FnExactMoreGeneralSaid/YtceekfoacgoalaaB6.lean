/- Several texts in one. -/
import Derived.Test.YtceekfoacgoalaaB5
import Derived.Test.YtceekfoacgoalaaI
import Derived.Test.YtceekfoacgoalaaBc
/- What the laws of chapter 2 draw: values, stacks. Only that something comes, in memory of its own, not too long. -/
namespace Go.Proofs.Ytceekfoacgoalaa
set_option maxRecDepth 100000
open Go.RowKit Go.WideShapes

theorem OwnVs.snoc2 {w1 w2 : World} {lo m m2 : Nat} {v v' u : Value} {vs : List Value} {zss : List (List Int)} {zs : List Int} (h : OwnVs w1 lo m v vs zss) (hu : OwnI w1 m m2 u zs) (hlo : lo ≤ m)
    (hg : ∀ k, k < w1.heap.size → some k ≠ v.ownBlock → w2.heap[k]? = w1.heap[k]?)
    (hrow : w2.ownsRow lo 23 1 v' (zss.length + 1) (vs ++ [u])) : OwnVs w2 lo w2.heap.size v' (vs ++ [u]) (zss ++ [zs]) := by
  have hin : ∀ q lo' hi' ys, OwnI w1 lo' hi' q ys → (q.ownBlock = none ∨ q.ownBlock ≠ v.ownBlock) → OwnI w2 lo' hi' q ys := by
    intro q lo' hi' ys hq hne
    refine ⟨⟨⟨hq.own.own.1, ?_⟩, hq.own.wf⟩, hq.lt⟩
    rcases hq.own.own.2 with h0 | ⟨g, cap, cur, rfl, hb', hh, h1⟩
    · exact .inl h0
    · refine .inr ⟨g, cap, cur, rfl, hb', (hg g (hq.own.own.lt g rfl).2 ?_).trans hh, h1⟩
      rcases hne with h | h
      · simp [Value.ownBlock] at h
      · exact h
  refine ⟨by simp [h.len], by rw [List.length_append]; exact hrow, fun g hg' => (hrow.lt g hg').2, ?_, ?_⟩
  · intro j q ys hq hy
    by_cases hj : j < vs.length
    · rw [List.getElem?_append_left hj] at hq
      rw [List.getElem?_append_left (by rw [← h.len]; exact hj)] at hy
      have h3 := hin q _ _ ys (h.inner j q ys hq hy) (by
        rcases e : q.ownBlock with _ | g
        · exact .inl rfl
        · right
          rcases h.inner_ne hq hy with h4 | h4
          · rw [h4]; simp
          · rw [← e]; exact fun e' => h4 e'.symm)
      exact ⟨h3.own, fun g hg' => (h3.own.ge g hg').2⟩
    · have hjl : j = vs.length := by
        rcases Nat.lt_or_ge j (vs.length + 1) with h' | h'
        · omega
        · rw [List.getElem?_eq_none (by simp; omega)] at hq; cases hq
      subst hjl
      rw [List.getElem?_append_right (by omega)] at hq
      rw [List.getElem?_append_right (by rw [h.len]; omega)] at hy
      simp at hq
      simp [h.len] at hy
      subst hq; subst hy
      have h3 := hin u _ _ zs hu (by
        rcases e : u.ownBlock with _ | g
        · exact .inl rfl
        · right
          intro e'
          have h5 := h.lt g e'.symm
          have h6 := (hu.own.ge g e).1
          omega)
      exact ⟨h3.own.mono hlo, fun g hg' => (h3.own.ge g hg').2⟩
  · intro i j q q' g hij hq hq' e e'
    have hget : ∀ (i : Nat) q, (vs ++ [u])[i]? = some q → (i < vs.length ∧ vs[i]? = some q) ∨ (i = vs.length ∧ q = u) := by
      intro i q hq
      by_cases hi : i < vs.length
      · rw [List.getElem?_append_left hi] at hq; exact .inl ⟨hi, hq⟩
      · have hil : i = vs.length := by
          rcases Nat.lt_or_ge i (vs.length + 1) with h' | h'
          · omega
          · rw [List.getElem?_eq_none (by simp; omega)] at hq; cases hq
        subst hil
        rw [List.getElem?_append_right (by omega)] at hq
        simp at hq
        exact .inr ⟨rfl, hq.symm⟩
    have hold : ∀ (i : Nat) q, i < vs.length → vs[i]? = some q → q.ownBlock = some g → g < m := by
      intro i q hi hq e
      have hz : zss[i]? = some (zss[i]'(by rw [← h.len]; exact hi)) := List.getElem?_eq_getElem _
      exact (h.inner i q _ hq hz).lt g e
    rcases hget i q hq with ⟨hi, h1⟩ | ⟨hi, rfl⟩ <;> rcases hget j q' hq' with ⟨hj, h2⟩ | ⟨hj, rfl⟩
    · exact h.apart i j q q' g hij h1 h2 e e'
    · have h5 := hold i q hi h1 e
      have h6 := (hu.own.ge g e').1
      omega
    · have h5 := hold j q' hj h2 e'
      have h6 := (hu.own.ge g e).1
      omega
    · omega

/-- append(s, x) of rows: s of the call's own, x laid since. -/
theorem wpList_append_S {P : Program} {w : World} {ops : Array Oper} {rest : List Oper} {o : Oper} {a : Act} {Q : Exit → Act → World → Prop} (hgd : o.guard = none) (s x : Operand) (t : TypeId)
    (ho : o.op = .call { callee := .builtin .append, args := #[s, x], argTypes := #[t, t] })
    (ht : P.underlying t = some (.slice 23)) (hinfo : (P.info? 23).map (fun i => (i.zero, i.size, i.bytes)) = some (some (.slice none 0 0), 1, 24))
    (lo hi : Nat) (v : Value) (zss : List (List Int)) (hs : a.eval s = v) (hown : OwnS w lo hi v zss) (hlo : lo ≤ hi)
    (g c : Nat) (u : Value) (zs : List Int) (hx : a.eval x = .slice (some ⟨g, 0, none⟩) 1 c) (hcell : w.cell? ⟨g, 0, none⟩ = some u) (hg : hi ≤ w.heap.size) (hu : OwnI w hi w.heap.size u zs) (hlen : zss.length ≤ 1000000)
    (h : ∀ v' w', OwnS w' lo w'.heap.size v' (zss ++ [zs]) → Below lo w w' → wpList P ops Q rest (a.put o.dst v') w') : wpList P ops Q (o :: rest) a w := by
  obtain ⟨vs, hvs⟩ := hown
  obtain ⟨A, cu, rfl, _⟩ := hu.rd
  refine wpList_append_one hgd s x t ho lo 23 (.slice none 0 0) 24 ht hinfo (by omega) rfl v zss.length vs hs hvs.row g c (.slice A zs.length cu) hx hcell rfl (by omega) (by omega) ?_
  intro v' w' hrow hgr _
  refine h v' w' ⟨_, hvs.snoc2 hu hlo (fun k hk hne => hgr.block k hk hne) hrow⟩ (below_of_only hgr (by omega) (fun k hk => (hvs.row.lt k hk).1))

/-- odd, where it may be asked for none. -/
theorem odd0 (w0 : World) (g p : Nat) (n : Int) (bs : List Int) (w : World) (h : RS w0 w g bs p) (hn : 0 ≤ n ∧ n ≤ 1000000) (hp : p ≤ 1000000000000) :
    Calls Try.prog 48 #[.pointer (some ⟨g, 0, none⟩), .int .i64 n] w fun e w' => ∃ (b : Bool) (p' : Nat), e = .returned (.bool b) ∧ RS w0 w' g bs p' ∧ p' ≤ p + 1 ∧ Within g (g + 1) w w' := by
  by_cases h0 : n = 0
  · subst h0
    have H := Lib.hid h; clear h
    go_enter Try.func48, Try.ntmps48
    go_wp2
    go_ret
    exact ⟨_, p, rfl, H.out, by omega, Within.of_below (Below.refl _ _)⟩
  · refine (odd w0 g p n bs w h (by omega) hp).mono ?_
    rintro e w' ⟨b, rfl, h1, h2⟩
    exact ⟨b, p + 1, rfl, h1, by omega, h2⟩

def lenV : Value → Nat
  | .slice _ n _ => n
  | _ => 0
theorem OwnS.lenV {w : World} {lo hi : Nat} {v : Value} {zss : List (List Int)} (h : OwnS w lo hi v zss) : lenV v = zss.length := by
  obtain ⟨A, c, rfl, _⟩ := h.rd; rfl
def StackPost (w0 : World) (g p : Nat) (bs : List Int) (w : World) (N C : Nat) (e : Ending) (w' : World) : Prop :=
  ∃ v zss p', e = .returned v ∧ OwnS w' w.heap.size w'.heap.size v zss ∧ zss.length ≤ N ∧ (∀ zs ∈ zss, zs.length ≤ 200) ∧ RS w0 w' g bs p' ∧ p' ≤ p + C ∧ Within g (g + 1) w w'

theorem lens_snoc {zss : List (List Int)} {ys : List Int} (h : ∀ zs ∈ zss, zs.length ≤ 200) (hy : ys.length ≤ 200) : ∀ zs ∈ zss ++ [ys], zs.length ≤ 200 := by
  intro zs hz
  rcases List.mem_append.1 hz with h1 | h1
  · exact h zs h1
  · simp at h1; subst h1; exact hy
/-- A row that is laid now, and a literal with it: what the law of the append asks. -/
theorem lit_facts {w : World} {lo : Nat} {v : Value} {zss : List (List Int)} {zs : List Int} (hv : OwnS w lo w.heap.size v zss) (hl : zs.length ≤ 1000) (hw : ∀ z ∈ zs, -1000000 ≤ z ∧ z ≤ 1000000) :
    OwnS ((w.alloc (.cells (zs.map (Value.int .i64)).toArray 3)).alloc (.cells #[.slice (some ⟨w.heap.size, 0, none⟩) zs.length zs.length] 23)) lo w.heap.size v zss ∧
    OwnI ((w.alloc (.cells (zs.map (Value.int .i64)).toArray 3)).alloc (.cells #[.slice (some ⟨w.heap.size, 0, none⟩) zs.length zs.length] 23)) w.heap.size ((w.alloc (.cells (zs.map (Value.int .i64)).toArray 3)).alloc (.cells #[.slice (some ⟨w.heap.size, 0, none⟩) zs.length zs.length] 23)).heap.size (.slice (some ⟨w.heap.size, 0, none⟩) zs.length zs.length) zs ∧
    ((w.alloc (.cells (zs.map (Value.int .i64)).toArray 3)).alloc (.cells #[.slice (some ⟨w.heap.size, 0, none⟩) zs.length zs.length] 23)).cell? ⟨w.heap.size + 1, 0, none⟩ = some (.slice (some ⟨w.heap.size, 0, none⟩) zs.length zs.length) ∧
    Below w.heap.size w ((w.alloc (.cells (zs.map (Value.int .i64)).toArray 3)).alloc (.cells #[.slice (some ⟨w.heap.size, 0, none⟩) zs.length zs.length] 23)) := by
  have ho := lits_own w zs hl (fun z hz => wf_near z (hw z hz))
  have hbl : Below w.heap.size w ((w.alloc (.cells (zs.map (Value.int .i64)).toArray 3)).alloc (.cells #[.slice (some ⟨w.heap.size, 0, none⟩) zs.length zs.length] 23)) := ((Below.refl _ _).alloc (Nat.le_refl _) _).alloc (by simp) _
  refine ⟨hv.belowB hbl (Nat.le_refl _), ?_, cell_new2 _ _ _ _ 0 _ rfl, hbl⟩
  have h1 := ho.belowB ((Below.refl (w.heap.size + 1) _).alloc (by simp) (.cells #[.slice (some ⟨w.heap.size, 0, none⟩) zs.length zs.length] 23)) (Nat.le_refl _)
  exact ⟨h1.own, fun q hq => by simp [Value.ownBlock] at hq; simp; omega⟩
/-- A literal of one row, appended: what the law asks of it. -/
theorem lit_row (w : World) (u : Value) : (w.alloc (.cells #[u] 23)).cell? ⟨w.heap.size, 0, none⟩ = some u := (Blk.new w #[u] 23).cell 0

end Go.Proofs.Ytceekfoacgoalaa

/- The draws of chapter 2's first laws: a stack, a program, a value. Only that something comes, in memory of its own, not too long. -/
namespace Go.Proofs.Ytceekfoacgoalaa
set_option maxRecDepth 100000
open Go.RowKit Go.WideShapes

/-- A drawn stack. -/
def DrawnS (w : World) (e : Ending) (w' : World) : Prop := ∃ v zss, e = .returned v ∧ OwnS w' w.heap.size w'.heap.size v zss ∧ (zss.length ≤ 21 ∧ ∀ zs ∈ zss, zs.length ≤ 200) ∧ Below w.heap.size w w'
/-- A drawn value, or what is none. -/
def DrawnV (w : World) (e : Ending) (w' : World) : Prop := ∃ v zs, e = .returned v ∧ OwnI w' w.heap.size w'.heap.size v zs ∧ zs.length ≤ 200 ∧ Below w.heap.size w w'

theorem szS_200 {zss : List (List Int)} (h : ∀ zs ∈ zss, zs.length ≤ 200) : szS zss ≤ 200 * zss.length := by
  induction zss with
  | nil => simp [szS]
  | cons z r ih =>
    have h1 := h z List.mem_cons_self
    have h2 := ih (fun zs hz => h zs (List.mem_cons_of_mem _ hz))
    rw [szS, List.length_cons]; omega
theorem flat_200 {zss : List (List Int)} (h : ∀ zs ∈ zss, zs.length ≤ 200) : zss.flatten.length ≤ 200 * zss.length := by
  induction zss with
  | nil => simp
  | cons z r ih =>
    have h1 := h z List.mem_cons_self
    have h2 := ih (fun zs hz => h zs (List.mem_cons_of_mem _ hz))
    rw [List.flatten_cons, List.length_append, List.length_cons]; omega

/-- A drawn program, longer maybe. -/
def DrawnP (w : World) (e : Ending) (w' : World) : Prop := ∃ v zs, e = .returned v ∧ OwnI w' w.heap.size w'.heap.size v zs ∧ zs.length ≤ 10000 ∧ Below w.heap.size w w'

theorem stackProgR_short {x0 : List (List Int)} (h : x0.length ≤ 21 ∧ ∀ zs ∈ x0, zs.length ≤ 200) : (stackProgR x0).1.length ≤ 10000 := by
  unfold stackProgR
  split
  · have := flat_200 h.2; show x0.flatten.length ≤ 10000; omega
  · show ([] : List Int).length ≤ 10000; simp

end Go.Proofs.Ytceekfoacgoalaa

/- What the laws of chapter 2 call, in their words; pure facts on stacks and programs. -/
namespace Go.Proofs.Ytceekfoacgoalaa
set_option maxRecDepth 100000
open Go.RowKit Go.WideShapes

theorem progStack_back {p : List Int} {s : List (List Int)} (h : progStackR p = (s, true)) : stackB s = true ∧ stackProgR s = (p, true) := by
  unfold progStackR at h
  split at h
  · rename_i hc
    injection h with h1 _
    subst h1
    have h2 := (parts_ok hc.1).2
    have h3 := validB_len hc.1
    refine ⟨hc.2, ?_⟩
    unfold stackProgR
    rw [h2, if_pos ⟨hc.2, h3⟩]
  · cases h
theorem progStack_no {p : List Int} {s : List (List Int)} (h : progStackR p = (s, false)) : s = [] := by
  unfold progStackR at h
  split at h
  · cases h
  · cases h; rfl
theorem stackProg_no {p : List Int} {s : List (List Int)} (h : stackProgR s = (p, false)) : p = [] := by
  unfold stackProgR at h
  split at h
  · cases h
  · cases h; rfl
end Go.Proofs.Ytceekfoacgoalaa
