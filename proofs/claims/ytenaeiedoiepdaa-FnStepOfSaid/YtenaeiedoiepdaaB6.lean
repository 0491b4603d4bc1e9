/- Several texts in one. -/
import Derived.Test.YtenaeiedoiepdaaB5
import Derived.Test.YtenaeiedoiepdaaI
import Derived.Test.YtenaeiedoiepdaaBc
/- What the laws of chapter 2 draw: values, stacks. Only that something comes, in memory of its own, not too long. -/
namespace Go.Proofs.Ytenaeiedoiepdaa
set_option maxRecDepth 100000
open Go.RowKit Go.WideShapes

theorem OwnVs.snoc2 {w1 w2 : World} {lo m m2 : Nat} {v v' u : Value} {vs : List Value} {zss : List (List Int)} {zs : List Int} (h : OwnVs w1 lo m v vs zss) (hu : OwnI w1 m m2 u zs) (hlo : lo ≤ m)
    (hg : ∀ k, k < w1.heap.size → some k ≠ v.ownBlock → w2.heap[k]? = w1.heap[k]?)
    (hrow : w2.ownsRow lo 23 1 v' (zss.length + 1) (vs ++ [u])) : OwnVs w2 lo w2.heap.size v' (vs ++ [u]) (zss ++ [zs]) := by
  have hin : ∀ q lo' hi' ys, OwnI w1 lo' hi' q ys → (q.ownBlock = none ∨ q.ownBlock ≠ v.ownBlock) → OwnI w2 lo' hi' q ys := by
    intro q lo' hi' ys hq hne
    refine ⟨⟨⟨hq.own.own.1, ?_⟩, hq.own.wf⟩, hq.lt⟩
    rcases hq.own.own.2 with h0 | ⟨g, cap, cur, rfl, hb', hh, h1⟩
    · exact .inl h0
    · refine .inr ⟨g, cap, cur, rfl, hb', (hg g (hq.own.own.lt g rfl).2 ?_).trans hh, h1⟩
      rcases hne with h | h
      · simp [Value.ownBlock] at h
      · exact h
  refine ⟨by simp [h.len], by rw [List.length_append]; exact hrow, fun g hg' => (hrow.lt g hg').2, ?_, ?_⟩
  · intro j q ys hq hy
    by_cases hj : j < vs.length
    · rw [List.getElem?_append_left hj] at hq
      rw [List.getElem?_append_left (by rw [← h.len]; exact hj)] at hy
      have h3 := hin q _ _ ys (h.inner j q ys hq hy) (by
        rcases e : q.ownBlock with _ | g
        · exact .inl rfl
        · right
          rcases h.inner_ne hq hy with h4 | h4
          · rw [h4]; simp
          · rw [← e]; exact fun e' => h4 e'.symm)
      exact ⟨h3.own, fun g hg' => (h3.own.ge g hg').2⟩
    · have hjl : j = vs.length := by
        rcases Nat.lt_or_ge j (vs.length + 1) with h' | h'
        · omega
        · rw [List.getElem?_eq_none (by simp; omega)] at hq; cases hq
      subst hjl
      rw [List.getElem?_append_right (by omega)] at hq
      rw [List.getElem?_append_right (by rw [h.len]; omega)] at hy
      simp at hq
      simp [h.len] at hy
      subst hq; subst hy
      have h3 := hin u _ _ zs hu (by
        rcases e : u.ownBlock with _ | g
        · exact .inl rfl
        · right
          intro e'
          have h5 := h.lt g e'.symm
          have h6 := (hu.own.ge g e).1
          omega)
      exact ⟨h3.own.mono hlo, fun g hg' => (h3.own.ge g hg').2⟩
  · intro i j q q' g hij hq hq' e e'
    have hget : ∀ (i : Nat) q, (vs ++ [u])[i]? = some q → (i < vs.length ∧ vs[i]? = some q) ∨ (i = vs.length ∧ q = u) := by
      intro i q hq
      by_cases hi : i < vs.length
      · rw [List.getElem?_append_left hi] at hq; exact .inl ⟨hi, hq⟩
      · have hil : i = vs.length := by
          rcases Nat.lt_or_ge i (vs.length + 1) with h' | h'
          · omega
          · rw [List.getElem?_eq_none (by simp; omega)] at hq; cases hq
        subst hil
        rw [List.getElem?_append_right (by omega)] at hq
        simp at hq
        exact .inr ⟨rfl, hq.symm⟩
    have hold : ∀ (i : Nat) q, i < vs.length → vs[i]? = some q → q.ownBlock = some g → g < m := by
      intro i q hi hq e
      have hz : zss[i]? = some (zss[i]'(by rw [← h.len]; exact hi)) := List.getElem?_eq_getElem _
      exact (h.inner i q _ hq hz).lt g e
    rcases hget i q hq with ⟨hi, h1⟩ | ⟨hi, rfl⟩ <;> rcases hget j q' hq' with ⟨hj, h2⟩ | ⟨hj, rfl⟩
    · exact h.apart i j q q' g hij h1 h2 e e'
    · have h5 := hold i q hi h1 e
      have h6 := (hu.own.ge g e').1
      omega
    · have h5 := hold j q' hj h2 e'
      have h6 := (hu.own.ge g e).1
      omega
    · omega

/-- append(s, x) of rows: s of the call's own, x laid since. -/
theorem wpList_append_S {P : Program} {w : World} {ops : Array Oper} {rest : List Oper} {o : Oper} {a : Act} {Q : Exit → Act → World → Prop} (hgd : o.guard = none) (s x : Operand) (t : TypeId)
    (ho : o.op = .call { callee := .builtin .append, args := #[s, x], argTypes := #[t, t] })
    (ht : P.underlying t = some (.slice 23)) (hinfo : (P.info? 23).map (fun i => (i.zero, i.size, i.bytes)) = some (some (.slice none 0 0), 1, 24))
    (lo hi : Nat) (v : Value) (zss : List (List Int)) (hs : a.eval s = v) (hown : OwnS w lo hi v zss) (hlo : lo ≤ hi)
    (g c : Nat) (u : Value) (zs : List Int) (hx : a.eval x = .slice (some ⟨g, 0, none⟩) 1 c) (hcell : w.cell? ⟨g, 0, none⟩ = some u) (hg : hi ≤ w.heap.size) (hu : OwnI w hi w.heap.size u zs) (hlen : zss.length ≤ 1000000)
    (h : ∀ v' w', OwnS w' lo w'.heap.size v' (zss ++ [zs]) → Below lo w w' → wpList P ops Q rest (a.put o.dst v') w') : wpList P ops Q (o :: rest) a w := by
  obtain ⟨vs, hvs⟩ := hown
  obtain ⟨A, cu, rfl, _⟩ := hu.rd
  refine wpList_append_one hgd s x t ho lo 23 (.slice none 0 0) 24 ht hinfo (by omega) rfl v zss.length vs hs hvs.row g c (.slice A zs.length cu) hx hcell rfl (by omega) (by omega) ?_
  intro v' w' hrow hgr _
  refine h v' w' ⟨_, hvs.snoc2 hu hlo (fun k hk hne => hgr.block k hk hne) hrow⟩ (below_of_only hgr (by omega) (fun k hk => (hvs.row.lt k hk).1))

theorem value (w0 : World) (g p : Nat) (bs : List Int) (w : World) (h : RS w0 w g bs p) (hp : p ≤ 500000000000) :
    Calls Try.prog 72 #[.pointer (some ⟨g, 0, none⟩)] w (PartPost w0 g p bs w 142 1000) := by
  have hgw := h.rdr.lt
  have hs0 : w0.heap.size ≤ w.heap.size := h.size
  have H := Lib.hid (And.intro h (Within.of_below (lo := g) (hi := g + 1) (Below.refl w.heap.size w))); clear h
  go_enter Try.func72, Try.ntmps72
  go_wp2_with fail
  refine (pick w0 g (p) (3) bs _ (H.out.1) (by omega) (by omega)).mono ?_
  rintro e w_1 ⟨x, rfl, hx0, hx1, hr1, hg1⟩
  have hz1 : w.heap.size ≤ w_1.heap.size := by have := hg1.size; simpa using this
  have S1 : Hid (RS w0 w_1 g bs (p + 1) ∧ Within g (g + 1) w w_1) := Lib.hid ⟨hr1, (H.out.2).trans hg1⟩
  clear hr1 hg1
  by_cases hx : x = 0
  · subst hx
    have hb2 : Below (w_1.heap.size) w_1 (w_1.alloc (.cells #[.int .i64 (1012)] 3)) := (Below.refl _ _).alloc (by simp) _
    have ho2 := lits_own w_1 [1012] (by simp) (by intro z hz; simp only [List.mem_cons, List.not_mem_nil, or_false] at hz; apply wf_near; omega)
    have S2 : Hid (RS w0 (w_1.alloc (.cells #[.int .i64 (1012)] 3)) g bs (p+1) ∧ Within g (g + 1) w (w_1.alloc (.cells #[.int .i64 (1012)] 3)) ∧ OwnI (w_1.alloc (.cells #[.int .i64 (1012)] 3)) (w_1.heap.size) (w_1.heap.size + 1) (.slice (some ⟨w_1.heap.size, 0, none⟩) 1 1) ([1012])) := Lib.hid ⟨(S1.out.1).below hb2 (by omega), (S1.out.2).then_below hb2 (by omega), (by simpa using ho2)⟩
    clear hb2 ho2
    go_wp2_with fail
    refine ((words1 600000000000 (by omega)) 2 w0 g (p+1) bs _ (by omega) (S2.out.1) (by omega)).mono ?_
    rintro e w_3 ⟨b, zb, p3, rfl, ho3, hl3, hr3, hp3, hg3⟩
    have hz3 : w_1.heap.size + 1 ≤ w_3.heap.size := by have := hg3.size; simpa using this
    have S3 : Hid (RS w0 w_3 g bs (p3) ∧ Within g (g + 1) w w_3 ∧ OwnI w_3 (w_1.heap.size) (w_1.heap.size + 1) (.slice (some ⟨w_1.heap.size, 0, none⟩) 1 1) ([1012]) ∧ OwnI w_3 (w_1.heap.size + 1) (w_3.heap.size) b (zb)) := Lib.hid ⟨hr3, (S2.out.2.1).trans hg3, (S2.out.2.2).apart hg3 (by omega), (by simpa using ho3)⟩
    clear S2
    clear ho3 hr3 hg3
    go_wp2_with (at_builtin; (refine wpList_append_V rfl _ _ _ rfl Try.underlying23 intInfo (w_1.heap.size) (w_1.heap.size + 1) (.slice (some ⟨w_1.heap.size, 0, none⟩) 1 1) ([1012]) rfl (S3.out.2.2.1) (by first | omega | (simp <;> omega)) b (zb) rfl (S3.out.2.2.2).rd (by first | omega | (simp <;> omega)) ?_))
    intro c w_4 ho4 hb4
    have hz4 : w_3.heap.size ≤ w_4.heap.size := by have := hb4.size; simpa using this
    have S4 : Hid (RS w0 w_4 g bs (p3) ∧ Within g (g + 1) w w_4 ∧ OwnI w_4 (w_1.heap.size) (w_4.heap.size) c (([1012]) ++ (zb))) := Lib.hid ⟨(S3.out.1).below hb4 (by omega), (S3.out.2.1).then_below hb4 (by omega), (by simpa using ho4)⟩
    clear S3
    clear ho4 hb4
    have hb5 : Below (w_4.heap.size) w_4 (w_4.alloc (.cells #[.int .i64 (1013)] 3)) := (Below.refl _ _).alloc (by simp) _
    have ho5 := lits_own w_4 [1013] (by simp) (by intro z hz; simp only [List.mem_cons, List.not_mem_nil, or_false] at hz; apply wf_near; omega)
    have S5 : Hid (RS w0 (w_4.alloc (.cells #[.int .i64 (1013)] 3)) g bs (p3) ∧ Within g (g + 1) w (w_4.alloc (.cells #[.int .i64 (1013)] 3)) ∧ OwnI (w_4.alloc (.cells #[.int .i64 (1013)] 3)) (w_1.heap.size) (w_4.heap.size) c (([1012]) ++ (zb)) ∧ OwnI (w_4.alloc (.cells #[.int .i64 (1013)] 3)) (w_4.heap.size) (w_4.heap.size + 1) (.slice (some ⟨w_4.heap.size, 0, none⟩) 1 1) ([1013])) := Lib.hid ⟨(S4.out.1).below hb5 (by omega), (S4.out.2.1).then_below hb5 (by omega), (S4.out.2.2).belowB hb5 (by omega), (by simpa using ho5)⟩
    clear S4
    clear hb5 ho5
    go_wp2_with (at_builtin; (refine wpList_append_V rfl _ _ _ rfl Try.underlying23 intInfo (w_1.heap.size) (w_4.heap.size) c (([1012]) ++ (zb)) rfl (S5.out.2.2.1) (by first | omega | (simp <;> omega)) (.slice (some ⟨w_4.heap.size, 0, none⟩) 1 1) ([1013]) rfl (S5.out.2.2.2).rd (by first | omega | (simp <;> omega)) ?_))
    intro f w_6 ho6 hb6
    have hz6 : w_4.heap.size + 1 ≤ w_6.heap.size := by have := hb6.size; simpa using this
    have S6 : Hid (RS w0 w_6 g bs (p3) ∧ Within g (g + 1) w w_6 ∧ OwnI w_6 (w_1.heap.size) (w_6.heap.size) f ((([1012]) ++ (zb)) ++ ([1013]))) := Lib.hid ⟨(S5.out.1).below hb6 (by omega), (S5.out.2.1).then_below hb6 (by omega), (by simpa using ho6)⟩
    clear S5
    clear ho6 hb6
    go_wp2_with fail
    go_ret
    exact ⟨f, _, _, rfl, ⟨(S6.out.2.2).own.mono (by omega), fun q hq => by have := (S6.out.2.2).lt q hq; first | omega | (simp; omega)⟩, by first | omega | (simp; done) | (simp; omega), S6.out.1, by omega, S6.out.2.1⟩
  · have hxb : (x == 0) = false := by simpa using hx
    clear hx
    go_wp2_with fail
    refine (num w0 g (p+1) bs _ (S1.out.1) (by omega)).mono ?_
    rintro e w_2 ⟨y, rfl, hy0, hy1, hr2, hg2⟩
    have hz2 : w_1.heap.size ≤ w_2.heap.size := by have := hg2.size; simpa using this
    have S2 : Hid (RS w0 w_2 g bs (p+1 + 4) ∧ Within g (g + 1) w w_2) := Lib.hid ⟨hr2, (S1.out.2).trans hg2⟩
    clear hr2 hg2
    go_wp2
    go_ret
    exact part_lit w0 w _ g p _ _ _ bs [y] S2.out.1 S2.out.2 hs0 (by intro z hz; simp only [List.mem_cons, List.not_mem_nil, or_false] at hz; omega) ⟨by simp, by omega⟩ (by omega)

/-- odd, where it may be asked for none. -/
theorem odd0 (w0 : World) (g p : Nat) (n : Int) (bs : List Int) (w : World) (h : RS w0 w g bs p) (hn : 0 ≤ n ∧ n ≤ 1000000) (hp : p ≤ 1000000000000) :
    Calls Try.prog 27 #[.pointer (some ⟨g, 0, none⟩), .int .i64 n] w fun e w' => ∃ (b : Bool) (p' : Nat), e = .returned (.bool b) ∧ RS w0 w' g bs p' ∧ p' ≤ p + 1 ∧ Within g (g + 1) w w' := by
  by_cases h0 : n = 0
  · subst h0
    have H := Lib.hid h; clear h
    go_enter Try.func27, Try.ntmps27
    go_wp2
    go_ret
    exact ⟨_, p, rfl, H.out, by omega, Within.of_below (Below.refl _ _)⟩
  · refine (odd w0 g p n bs w h (by omega) hp).mono ?_
    rintro e w' ⟨b, rfl, h1, h2⟩
    exact ⟨b, p + 1, rfl, h1, by omega, h2⟩

def lenV : Value → Nat
  | .slice _ n _ => n
  | _ => 0
theorem OwnS.lenV {w : World} {lo hi : Nat} {v : Value} {zss : List (List Int)} (h : OwnS w lo hi v zss) : lenV v = zss.length := by
  obtain ⟨A, c, rfl, _⟩ := h.rd; rfl
def StackPost (w0 : World) (g p : Nat) (bs : List Int) (w : World) (N C : Nat) (e : Ending) (w' : World) : Prop :=
  ∃ v zss p', e = .returned v ∧ OwnS w' w.heap.size w'.heap.size v zss ∧ zss.length ≤ N ∧ (∀ zs ∈ zss, zs.length ≤ 200) ∧ RS w0 w' g bs p' ∧ p' ≤ p + C ∧ Within g (g + 1) w w'

theorem lens_snoc {zss : List (List Int)} {ys : List Int} (h : ∀ zs ∈ zss, zs.length ≤ 200) (hy : ys.length ≤ 200) : ∀ zs ∈ zss ++ [ys], zs.length ≤ 200 := by
  intro zs hz
  rcases List.mem_append.1 hz with h1 | h1
  · exact h zs h1
  · simp at h1; subst h1; exact hy
/-- A row that is laid now, and a literal with it: what the law of the append asks. -/
theorem lit_facts {w : World} {lo : Nat} {v : Value} {zss : List (List Int)} {zs : List Int} (hv : OwnS w lo w.heap.size v zss) (hl : zs.length ≤ 1000) (hw : ∀ z ∈ zs, -1000000 ≤ z ∧ z ≤ 1000000) :
    OwnS ((w.alloc (.cells (zs.map (Value.int .i64)).toArray 3)).alloc (.cells #[.slice (some ⟨w.heap.size, 0, none⟩) zs.length zs.length] 23)) lo w.heap.size v zss ∧
    OwnI ((w.alloc (.cells (zs.map (Value.int .i64)).toArray 3)).alloc (.cells #[.slice (some ⟨w.heap.size, 0, none⟩) zs.length zs.length] 23)) w.heap.size ((w.alloc (.cells (zs.map (Value.int .i64)).toArray 3)).alloc (.cells #[.slice (some ⟨w.heap.size, 0, none⟩) zs.length zs.length] 23)).heap.size (.slice (some ⟨w.heap.size, 0, none⟩) zs.length zs.length) zs ∧
    ((w.alloc (.cells (zs.map (Value.int .i64)).toArray 3)).alloc (.cells #[.slice (some ⟨w.heap.size, 0, none⟩) zs.length zs.length] 23)).cell? ⟨w.heap.size + 1, 0, none⟩ = some (.slice (some ⟨w.heap.size, 0, none⟩) zs.length zs.length) ∧
    Below w.heap.size w ((w.alloc (.cells (zs.map (Value.int .i64)).toArray 3)).alloc (.cells #[.slice (some ⟨w.heap.size, 0, none⟩) zs.length zs.length] 23)) := by
  have ho := lits_own w zs hl (fun z hz => wf_near z (hw z hz))
  have hbl : Below w.heap.size w ((w.alloc (.cells (zs.map (Value.int .i64)).toArray 3)).alloc (.cells #[.slice (some ⟨w.heap.size, 0, none⟩) zs.length zs.length] 23)) := ((Below.refl _ _).alloc (Nat.le_refl _) _).alloc (by simp) _
  refine ⟨hv.belowB hbl (Nat.le_refl _), ?_, cell_new2 _ _ _ _ 0 _ rfl, hbl⟩
  have h1 := ho.belowB ((Below.refl (w.heap.size + 1) _).alloc (by simp) (.cells #[.slice (some ⟨w.heap.size, 0, none⟩) zs.length zs.length] 23)) (Nat.le_refl _)
  exact ⟨h1.own, fun q hq => by simp [Value.ownBlock] at hq; simp; omega⟩
/-- A literal of one row, appended: what the law asks of it. -/
theorem lit_row (w : World) (u : Value) : (w.alloc (.cells #[u] 23)).cell? ⟨w.heap.size, 0, none⟩ = some u := (Blk.new w #[u] 23).cell 0

set_option maxHeartbeats 1000000 in
theorem stack (most n : Int) (w0 : World) (g p : Nat) (bs : List Int) (w : World) (hm : 0 ≤ most ∧ most ≤ 7) (hn : 0 ≤ n ∧ n ≤ 1000000) (h : RS w0 w g bs p) (hp : p ≤ 400000000000) :
    Calls Try.prog 58 #[.pointer (some ⟨g, 0, none⟩), .int .i64 most, .int .i64 n] w (StackPost w0 g p bs w 21 20000) := by
  have hgw := h.rdr.lt
  have hs0 : w0.heap.size ≤ w.heap.size := h.size
  have B0 : Below w.heap.size w (w.alloc (.cells #[] 23)) := (Below.refl _ _).alloc (Nat.le_refl _) _
  have L0 := litS_nil w
  have S0 := Lib.hid (And.intro (h.below B0 h.size) (And.intro L0 (Within.of_below (lo := g) (hi := g + 1) B0))); clear h B0 L0
  go_enter Try.func58, Try.ntmps58
  go_wp2_with fail
  refine (pick w0 g p (most + 1) bs _ S0.out.1 (by omega) (by omega)).mono ?_
  rintro e w1 ⟨x, rfl, hx0, hx1, hr1, hg1⟩
  have hz1 : w.heap.size + 1 ≤ w1.heap.size := by have := hg1.size; simpa using this
  have S1 := Lib.hid (And.intro ((S0.out.2.1.apart hg1 (by omega)).widen hz1) (And.intro hr1 (S0.out.2.2.trans hg1))); clear hr1 hg1 S0
  obtain ⟨j0, rfl⟩ := Int.eq_ofNat_of_zero_le hx0
  go_wp2
  go_loopw [7, 8] (fun v k wr => ∃ (j p' : Nat) (zss : List (List Int)), k = .int .i64 j ∧ j ≤ 7 ∧ w.heap.size + 1 ≤ wr.heap.size ∧ zss.length + j ≤ 7 ∧ p' + j * 1000 ≤ p + 7001 ∧ OwnS wr w.heap.size wr.heap.size v zss ∧ RS w0 wr g bs p' ∧ Within g (g + 1) w wr ∧ (∀ zs ∈ zss, zs.length ≤ 200)) (fun _ k _ => (intOf k).toNat)
  case atStart => exact ⟨j0, p + 1, [], rfl, by omega, hz1, by simp; omega, by omega, S1.out.1, S1.out.2.1, S1.out.2.2, by simp⟩
  case round =>
    clear S1 hz1 hx0 hx1
    obtain ⟨j, p', zss, rfl, hj, hsz, hlen, hpc, q1, q2, q3, q4⟩ := hrel
    have X := Lib.hid (And.intro q1 (And.intro q2 (And.intro q3 q4))); clear q1 q2 q3 q4
    rcases j with _ | j
    · have hl7 : zss.length ≤ 7 := by omega
      clear hlen hj
      go_wp2_with fail
      refine (odd0 w0 g p' n bs _ X.out.2.1 hn (by omega)).mono ?_
      rintro e w2 ⟨b, p2, rfl, hr2, hp2, hg2⟩
      have hz2 : wr.heap.size ≤ w2.heap.size := hg2.size
      have Y := Lib.hid (And.intro ((X.out.1.apart hg2 (by omega)).widen hz2) (And.intro hr2 (And.intro (X.out.2.2.1.trans hg2) X.out.2.2.2))); clear hr2 hg2 X
      rcases b with _ | _
      · go_wp2
        go_ret
        exact ⟨_, zss, p2, rfl, Y.out.1, by omega, Y.out.2.2.2, Y.out.2.1, by omega, Y.out.2.2.1⟩
      · go_wp2_with fail
        refine (pick w0 g p2 3 bs _ Y.out.2.1 (by omega) (by omega)).mono ?_
        rintro e w3 ⟨x, rfl, hx0, hx1, hr3, hg3⟩
        have hz3 : w2.heap.size ≤ w3.heap.size := hg3.size
        have Z := Lib.hid (And.intro ((Y.out.1.apart hg3 (by omega)).widen hz3) (And.intro hr3 (And.intro (Y.out.2.2.1.trans hg3) Y.out.2.2.2))); clear hr3 hg3 Y
        have hcases : x = 0 ∨ x = 1 ∨ x = 2 := by omega
        clear hx0 hx1
        have hwz : w.heap.size ≤ w3.heap.size := by omega
        have h0z : w0.heap.size ≤ w3.heap.size := by omega
        rcases hcases with rfl | rfl | rfl
        · have V := Lib.hid (lit_facts (zs := []) Z.out.1 (by simp) (by simp))
          simp only [List.map_nil, List.length_nil] at V
          go_wp2_with (at_builtin; refine wpList_append_S rfl _ _ _ rfl Try.underlying24 rowInfo w.heap.size w3.heap.size _ zss rfl V.out.1 hwz _ 1 _ [] rfl V.out.2.2.1 (by simp; omega) V.out.2.1 (by omega) ?_)
          intro v4 w4 ho4 hb4
          have T := Lib.hid (And.intro ho4 (And.intro ((Z.out.2.1.below V.out.2.2.2 (by omega)).below hb4 (by omega)) ((Z.out.2.2.1.then_below V.out.2.2.2 (by omega)).then_below hb4 (by omega)))); clear ho4 hb4
          go_wp2
          go_ret
          exact ⟨_, zss ++ [[]], p2 + 1, rfl, T.out.1, by simp; omega, lens_snoc Z.out.2.2.2 (by simp), T.out.2.1, by omega, T.out.2.2⟩
        · have V := Lib.hid (lit_facts (zs := [1, 2]) Z.out.1 (by simp) (by intro z hz; simp only [List.mem_cons, List.not_mem_nil, or_false] at hz; omega))
          simp only [List.map_nil, List.map_cons, List.length_nil, List.length_cons, Nat.zero_add, Nat.reduceAdd] at V
          go_wp2_with (at_builtin; refine wpList_append_S rfl _ _ _ rfl Try.underlying24 rowInfo w.heap.size w3.heap.size _ zss rfl V.out.1 hwz _ 1 _ [1, 2] rfl V.out.2.2.1 (by simp; omega) V.out.2.1 (by omega) ?_)
          intro v4 w4 ho4 hb4
          have T := Lib.hid (And.intro ho4 (And.intro ((Z.out.2.1.below V.out.2.2.2 (by omega)).below hb4 (by omega)) ((Z.out.2.2.1.then_below V.out.2.2.2 (by omega)).then_below hb4 (by omega)))); clear ho4 hb4
          go_wp2
          go_ret
          exact ⟨_, zss ++ [[1, 2]], p2 + 1, rfl, T.out.1, by simp; omega, lens_snoc Z.out.2.2.2 (by simp), T.out.2.1, by omega, T.out.2.2⟩
        · go_wp2
          go_loopw [7] (fun v wq => ∃ (zsq : List (List Int)), zsq.length ≤ 21 ∧ lenV v = zsq.length ∧ w.heap.size + 1 ≤ wq.heap.size ∧ OwnS wq w.heap.size wq.heap.size v zsq ∧ RS w0 wq g bs (p2 + 1) ∧ Within g (g + 1) w wq ∧ (∀ zs ∈ zsq, zs.length ≤ 200)) (fun v _ => 30 - lenV v)
          case atStart => exact ⟨zss, by omega, (Z.out.1).lenV, by omega, Z.out.1, Z.out.2.1, Z.out.2.2.1, Z.out.2.2.2⟩
          case round =>
            clear Z
            obtain ⟨zsq, hq21, hlv, hszq, q1, q2, q3, q4⟩ := hrel
            obtain ⟨Aq, cq, rfl, _⟩ := q1.rd
            clear hlv
            have Z := Lib.hid (And.intro q1 (And.intro q2 (And.intro q3 q4))); clear q1 q2 q3 q4
            by_cases hq20 : zsq.length ≤ 20
            · have V := Lib.hid (lit_facts (zs := [1]) Z.out.1 (by simp) (by intro z hz; simp only [List.mem_cons, List.not_mem_nil, or_false] at hz; omega))
              simp only [List.map_nil, List.map_cons, List.length_nil, List.length_cons, Nat.zero_add] at V
              rename_i wq _
              go_wp2_with (at_builtin; refine wpList_append_S rfl _ _ _ rfl Try.underlying24 rowInfo w.heap.size _ _ zsq rfl V.out.1 (by omega) _ 1 _ [1] rfl V.out.2.2.1 (by simp; omega) V.out.2.1 (by omega) ?_)
              intro v4 w4 ho4 hb4
              have hl4 := ho4.lenV
              rw [List.length_append, List.length_cons, List.length_nil] at hl4
              have hs4 := hb4.size
              have T := Lib.hid (And.intro ho4 (And.intro ((Z.out.2.1.below V.out.2.2.2 (by omega)).below hb4 (by omega)) (And.intro ((Z.out.2.2.1.then_below V.out.2.2.2 (by omega)).then_below hb4 (by omega)) (lens_snoc (ys := [1]) Z.out.2.2.2 (by simp))))); clear ho4 hb4
              have hsz4 : w.heap.size + 1 ≤ w4.heap.size := by simp at hs4; omega
              have Hl4 := Lib.hid hl4; clear hl4
              go_wp2
              go_roundw
              case rel => exact ⟨zsq ++ [[1]], by simp; omega, by rw [Hl4.out]; simp, hsz4, T.out⟩
              case measure => rw [Hl4.out]; simp [lenV]; omega
            · go_wp2
              go_ret
              exact ⟨_, zsq, p2 + 1, rfl, Z.out.1, hq21, Z.out.2.2.2, Z.out.2.1, by omega, Z.out.2.2.1⟩
    · have hpb : p' ≤ p + 7001 := by omega
      rw [Nat.succ_mul] at hpc
      have hjp : (0 : Int) < ((j + 1 : Nat) : Int) := by omega
      go_wp2_with fail
      refine (value w0 g p' bs _ X.out.2.1 (by omega)).mono ?_
      rintro e w2 ⟨u, zs, p2, rfl, hou, hyl, hr2, hp2, hg2⟩
      have hz2 : wr.heap.size ≤ w2.heap.size := hg2.size
      obtain ⟨Au, cu, rfl, _⟩ := hou.rd
      have hbl : Below w2.heap.size w2 (w2.alloc (.cells #[.slice Au zs.length cu] 23)) := (Below.refl _ _).alloc (Nat.le_refl _) _
      have hou2 : OwnI (w2.alloc (.cells #[.slice Au zs.length cu] 23)) wr.heap.size (w2.alloc (.cells #[.slice Au zs.length cu] 23)).heap.size (.slice Au zs.length cu) zs := by
        have h1 := hou.belowB hbl (Nat.le_refl _)
        exact ⟨h1.own, fun q hq => by have := h1.lt q hq; simp; omega⟩
      have V := Lib.hid (And.intro (((X.out.1.apart hg2 (by omega))).belowB hbl hz2) (And.intro hou2 (And.intro (lit_row w2 (.slice Au zs.length cu)) (And.intro (hr2.below hbl (by omega)) (And.intro ((X.out.2.2.1.trans hg2).then_below hbl (by omega)) X.out.2.2.2))))); clear hou hou2 hr2 hg2 hbl X
      go_wp2_with (at_builtin; refine wpList_append_S rfl _ _ _ rfl Try.underlying24 rowInfo w.heap.size wr.heap.size _ zss rfl V.out.1 (by omega) w2.heap.size 1 _ zs rfl V.out.2.2.1 (by simp; omega) V.out.2.1 (by omega) ?_)
      intro v4 w4 ho4 hb4
      have hs4 := hb4.size
      have T := Lib.hid (And.intro ho4 (And.intro (V.out.2.2.2.1.below hb4 (by omega)) (And.intro (V.out.2.2.2.2.1.then_below hb4 (by omega)) (lens_snoc (ys := zs) V.out.2.2.2.2.2 (by omega))))); clear ho4 hb4 V
      have hsz4 : w.heap.size + 1 ≤ w4.heap.size := by simp at hs4; omega
      go_wp2
      go_roundw
      case rel => exact ⟨j, p2, zss ++ [zs], by first | rfl | go_num, by omega, hsz4, by simp; omega, by omega, T.out⟩
      case measure => simp [intOf]
end Go.Proofs.Ytenaeiedoiepdaa

/- The draws of chapter 2's first laws: a stack, a program, a value. Only that something comes, in memory of its own, not too long. -/
namespace Go.Proofs.Ytenaeiedoiepdaa
set_option maxRecDepth 100000
open Go.RowKit Go.WideShapes

/-- A drawn stack. -/
def DrawnS (w : World) (e : Ending) (w' : World) : Prop := ∃ v zss, e = .returned v ∧ OwnS w' w.heap.size w'.heap.size v zss ∧ (zss.length ≤ 21 ∧ ∀ zs ∈ zss, zs.length ≤ 200) ∧ Below w.heap.size w w'
/-- A drawn value, or what is none. -/
def DrawnV (w : World) (e : Ending) (w' : World) : Prop := ∃ v zs, e = .returned v ∧ OwnI w' w.heap.size w'.heap.size v zs ∧ zs.length ≤ 200 ∧ Below w.heap.size w w'

theorem szS_200 {zss : List (List Int)} (h : ∀ zs ∈ zss, zs.length ≤ 200) : szS zss ≤ 200 * zss.length := by
  induction zss with
  | nil => simp [szS]
  | cons z r ih =>
    have h1 := h z List.mem_cons_self
    have h2 := ih (fun zs hz => h zs (List.mem_cons_of_mem _ hz))
    rw [szS, List.length_cons]; omega
theorem flat_200 {zss : List (List Int)} (h : ∀ zs ∈ zss, zs.length ≤ 200) : zss.flatten.length ≤ 200 * zss.length := by
  induction zss with
  | nil => simp
  | cons z r ih =>
    have h1 := h z List.mem_cons_self
    have h2 := ih (fun zs hz => h zs (List.mem_cons_of_mem _ hz))
    rw [List.flatten_cons, List.length_append, List.length_cons]; omega

/-- A drawn program, longer maybe. -/
def DrawnP (w : World) (e : Ending) (w' : World) : Prop := ∃ v zs, e = .returned v ∧ OwnI w' w.heap.size w'.heap.size v zs ∧ zs.length ≤ 10000 ∧ Below w.heap.size w w'

theorem stackProgR_short {x0 : List (List Int)} (h : x0.length ≤ 21 ∧ ∀ zs ∈ x0, zs.length ≤ 200) : (stackProgR x0).1.length ≤ 10000 := by
  unfold stackProgR
  split
  · have := flat_200 h.2; show x0.flatten.length ≤ 10000; omega
  · show ([] : List Int).length ≤ 10000; simp

end Go.Proofs.Ytenaeiedoiepdaa

/- What the laws of chapter 2 call, in their words; pure facts on stacks and programs. -/
namespace Go.Proofs.Ytenaeiedoiepdaa
set_option maxRecDepth 100000
open Go.RowKit Go.WideShapes

theorem StackOk_B (v : Value) (zss : List (List Int)) (w : World) (h : RdS w v zss) (b : Bool) (hb : stackB zss = b) :
    Calls Try.prog 25 #[v] w fun e w' => e = .returned (.bool b) ∧ Below w.heap.size w w' := by
  refine (StackOk_any v zss w h).mono ?_
  rintro e w' ⟨rfl, rfl⟩; exact ⟨by rw [hb], Below.refl _ _⟩
theorem specStackOk_B (v : Value) (zss : List (List Int)) (w : World) (h : RdS w v zss) (b : Bool) (hb : stackB zss = b) :
    Calls Try.prog 19 #[v] w fun e w' => e = .returned (.bool b) ∧ Below w.heap.size w w' := by
  refine (specStackOk_any v zss w h).mono ?_
  rintro e w' ⟨rfl, rfl⟩; exact ⟨by rw [hb], Below.refl _ _⟩

theorem ValueOk_B (v : Value) (zs : List Int) (w : World) (h : RdI w v zs) (b : Bool) (hb : valueB zs = b) :
    Calls Try.prog 70 #[v] w fun e w' => e = .returned (.bool b) ∧ Below w.heap.size w w' := by
  refine (ValueOk_any v zs w h).mono ?_
  rintro e w' ⟨rfl, rfl⟩; exact ⟨by rw [hb], Below.refl _ _⟩
theorem specValueOk_B (v : Value) (zs : List Int) (w : World) (h : RdI w v zs) (b : Bool) (hb : valueB zs = b) :
    Calls Try.prog 52 #[v] w fun e w' => e = .returned (.bool b) ∧ Below w.heap.size w w' := by
  refine (specValueOk_any v zs w h).mono ?_
  rintro e w' ⟨rfl, rfl⟩; exact ⟨by rw [hb], Below.refl _ _⟩

theorem progStack_back {p : List Int} {s : List (List Int)} (h : progStackR p = (s, true)) : stackB s = true ∧ stackProgR s = (p, true) := by
  unfold progStackR at h
  split at h
  · rename_i hc
    injection h with h1 _
    subst h1
    have h2 := (parts_ok hc.1).2
    have h3 := validB_len hc.1
    refine ⟨hc.2, ?_⟩
    unfold stackProgR
    rw [h2, if_pos ⟨hc.2, h3⟩]
  · cases h
theorem progStack_no {p : List Int} {s : List (List Int)} (h : progStackR p = (s, false)) : s = [] := by
  unfold progStackR at h
  split at h
  · cases h
  · cases h; rfl
theorem stackProg_no {p : List Int} {s : List (List Int)} (h : stackProgR s = (p, false)) : p = [] := by
  unfold stackProgR at h
  split at h
  · cases h
  · cases h; rfl
end Go.Proofs.Ytenaeiedoiepdaa
