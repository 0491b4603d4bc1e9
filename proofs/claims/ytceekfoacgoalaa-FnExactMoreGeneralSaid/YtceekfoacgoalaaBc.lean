/- Several texts in one. -/
import Derived.Test.YtceekfoacgoalaaB2
import Derived.WalkSpells
/- Contracts of ProgParts: slices.Clone, the program's; the parts. Contracts of the model's l1End and ProgParts. -/
namespace Go.Proofs.Ytceekfoacgoalaa
set_option maxRecDepth 100000
open Go.RowKit Go.WideShapes

theorem rowInfo : (Try.prog.info? 23).map (fun i => (i.zero, i.size, i.bytes)) = some (some (.slice none 0 0), 1, 24) := by kernel_rfl

theorem IntsK.sub {k : IntKind} {w : World} {B b off : Nat} {zs : List Int} (h : IntsK k w B (some ⟨b, off, none⟩) zs) (i n : Nat) (hi : i + n ≤ zs.length) : IntsK k w B (some ⟨b, off + i, none⟩) ((zs.drop i).take n) := by
  refine ⟨by have := h.len; simp; omega, fun z hz => h.wf z (List.mem_of_mem_drop (List.mem_of_mem_take hz)), fun h0 => ?_⟩
  have hl : ((zs.drop i).take n).length = n := by simp; omega
  obtain ⟨b', off', he, hb, hc⟩ := h.at_ (by omega)
  cases he
  refine ⟨b, off + i, rfl, hb, fun j hj => ?_⟩
  rw [Nat.add_assoc, hc (i + j) (by omega)]
  simp only [List.getD, List.getElem?_take, List.getElem?_drop]
  rw [if_pos (by omega)]

/-- The parts, from o brackets open, cur the words of the part that is begun. -/
def partsFrom : Int → List Int → List Int → List (List Int)
  | _, _, [] => []
  | o, cur, z :: zs => if o + brk z = 0 then (cur ++ [z]) :: partsFrom 0 [] zs else partsFrom (o + brk z) (cur ++ [z]) zs
theorem partsFrom_drop (o : Int) (cur zs : List Int) (k : Nat) (h : k < zs.length) :
    partsFrom o cur (zs.drop k) = if o + brk (zs.getD k 0) = 0 then (cur ++ [zs.getD k 0]) :: partsFrom 0 [] (zs.drop (k + 1)) else partsFrom (o + brk (zs.getD k 0)) (cur ++ [zs.getD k 0]) (zs.drop (k + 1)) := by
  rw [List.drop_eq_getElem_cons h, partsFrom]; simp [List.getD, List.getElem?_eq_getElem h]
def partsR (p : List Int) : List (List Int) := if validB p = true then partsFrom 0 [] p else []
theorem cut_snoc (zs : List Int) (i k : Nat) (hi : i ≤ k) (hk : k < zs.length) : (zs.drop i).take (k - i) ++ [zs.getD k 0] = (zs.drop i).take (k + 1 - i) := by
  rw [show k + 1 - i = (k - i) + 1 from by omega, List.take_add_one, List.getElem?_drop, show i + (k - i) = k from by omega]
  simp [List.getD, List.getElem?_eq_getElem hk]

theorem OwnVs.snoc {w w1 w2 : World} {lo : Nat} {v v' u : Value} {vs : List Value} {zss : List (List Int)} {zs : List Int} (h : OwnVs w lo w.heap.size v vs zss) (hb : Below w.heap.size w w1) (hu : OwnI w1 w.heap.size w1.heap.size u zs) (hlo : lo ≤ w.heap.size)
    (hg : ∀ k, k < w1.heap.size → some k ≠ v.ownBlock → w2.heap[k]? = w1.heap[k]?) (hsz : w1.heap.size ≤ w2.heap.size)
    (hrow : w2.ownsRow lo 23 1 v' (zss.length + 1) (vs ++ [u])) : OwnVs w2 lo w2.heap.size v' (vs ++ [u]) (zss ++ [zs]) := by
  have hin : ∀ q lo' hi' ys, OwnI w1 lo' hi' q ys → (q.ownBlock = none ∨ q.ownBlock ≠ v.ownBlock) → OwnI w2 lo' hi' q ys := by
    intro q lo' hi' ys hq hne
    refine ⟨⟨⟨hq.own.own.1, ?_⟩, hq.own.wf⟩, hq.lt⟩
    rcases hq.own.own.2 with h0 | ⟨g, cap, cur, rfl, hb', hh, h1⟩
    · exact .inl h0
    · refine .inr ⟨g, cap, cur, rfl, hb', (hg g (hq.own.own.lt g rfl).2 ?_).trans hh, h1⟩
      rcases hne with h | h
      · simp [Value.ownBlock] at h
      · exact h
  refine ⟨by simp [h.len], by rw [List.length_append]; exact hrow, fun g hg' => (hrow.lt g hg').2, ?_, ?_⟩
  · intro j q ys hq hy
    by_cases hj : j < vs.length
    · rw [List.getElem?_append_left hj] at hq
      rw [List.getElem?_append_left (by rw [← h.len]; exact hj)] at hy
      have h1 := h.inner j q ys hq hy
      have h2 : OwnI w1 lo w.heap.size q ys := h1.below hb
      have h3 := hin q _ _ ys h2 (by
        rcases e : q.ownBlock with _ | g
        · exact .inl rfl
        · right
          rcases h.inner_ne hq hy with h4 | h4
          · rw [h4]; simp
          · rw [← e]; exact fun e' => h4 e'.symm)
      exact ⟨h3.own, fun g hg' => by have := h3.lt g hg'; have := hb.size; omega⟩
    · have hjl : j = vs.length := by
        rcases Nat.lt_or_ge j (vs.length + 1) with h' | h'
        · omega
        · rw [List.getElem?_eq_none (by simp; omega)] at hq; cases hq
      subst hjl
      rw [List.getElem?_append_right (by omega)] at hq
      rw [List.getElem?_append_right (by rw [h.len]; omega)] at hy
      simp at hq
      simp [h.len] at hy
      subst hq; subst hy
      have h3 := hin u _ _ zs hu (by
        rcases e : u.ownBlock with _ | g
        · exact .inl rfl
        · right
          intro e'
          have h5 := h.lt g e'.symm
          have h6 := (hu.own.ge g e).1
          omega)
      exact ⟨h3.own.mono hlo, fun g hg' => by have := h3.lt g hg'; omega⟩
  · intro i j q q' g hij hq hq' e e'
    have hget : ∀ (i : Nat) q, (vs ++ [u])[i]? = some q → (i < vs.length ∧ vs[i]? = some q) ∨ (i = vs.length ∧ q = u) := by
      intro i q hq
      by_cases hi : i < vs.length
      · rw [List.getElem?_append_left hi] at hq; exact .inl ⟨hi, hq⟩
      · have hil : i = vs.length := by
          rcases Nat.lt_or_ge i (vs.length + 1) with h' | h'
          · omega
          · rw [List.getElem?_eq_none (by simp; omega)] at hq; cases hq
        subst hil
        rw [List.getElem?_append_right (by omega)] at hq
        simp at hq
        exact .inr ⟨rfl, hq.symm⟩
    have hold : ∀ (i : Nat) q, i < vs.length → vs[i]? = some q → q.ownBlock = some g → g < w.heap.size := by
      intro i q hi hq e
      have hz : zss[i]? = some (zss[i]'(by rw [← h.len]; exact hi)) := List.getElem?_eq_getElem _
      exact (h.inner i q _ hq hz).lt g e
    rcases hget i q hq with ⟨hi, h1⟩ | ⟨hi, rfl⟩ <;> rcases hget j q' hq' with ⟨hj, h2⟩ | ⟨hj, rfl⟩
    · exact h.apart i j q q' g hij h1 h2 e e'
    · have h5 := hold i q hi h1 e
      have h6 := (hu.own.ge g e').1
      omega
    · have h5 := hold j q' hj h2 e'
      have h6 := (hu.own.ge g e).1
      omega
    · omega

end Go.Proofs.Ytceekfoacgoalaa
namespace Go.Proofs.Ytceekfoacgoalaa
set_option maxRecDepth 100000
open Go.RowKit Go.WideShapes

/-- From o brackets open: after how many words none is open. -/
def cutAt : Int → List Int → Option Nat
  | _, [] => none
  | o, z :: r => if o + brk z = 0 then some 1 else (cutAt (o + brk z) r).map (· + 1)
theorem cutAt_fits {o : Int} {l : List Int} (h : fitsFrom o l = true) (hl : l ≠ []) : ∃ n, cutAt o l = some n ∧ 1 ≤ n ∧ n ≤ l.length ∧ fitsFrom 0 (l.drop n) = true := by
  induction l generalizing o with
  | nil => exact absurd rfl hl
  | cons z r ih =>
    rw [fitsFrom] at h
    by_cases hn : o + brk z < 0
    · simp [hn] at h
    · rw [if_neg hn] at h
      by_cases h0 : o + brk z = 0
      · exact ⟨1, by rw [cutAt, if_pos h0], by omega, by simp, by rw [h0] at h; simpa using h⟩
      · have hr : r ≠ [] := by
          intro e; subst e
          simp [fitsFrom] at h
          exact h0 h
        obtain ⟨n, h1, h2, h3, h4⟩ := ih h hr
        exact ⟨n + 1, by rw [cutAt, if_neg h0, h1]; rfl, by omega, by simp; omega, by simpa using h4⟩
theorem partsFrom_cut {o : Int} {l cur : List Int} {n : Nat} (h : cutAt o l = some n) : partsFrom o cur l = (cur ++ l.take n) :: partsFrom 0 [] (l.drop n) := by
  induction l generalizing o cur n with
  | nil => simp [cutAt] at h
  | cons z r ih =>
    rw [cutAt] at h
    rw [partsFrom]
    by_cases h0 : o + brk z = 0
    · rw [if_pos h0] at h ⊢
      injection h with h; subst h
      simp
    · rw [if_neg h0] at h ⊢
      rcases h1 : cutAt (o + brk z) r with _ | m
      · rw [h1] at h; simp at h
      · rw [h1] at h
        simp at h; subst h
        rw [ih h1]; simp
theorem cutAt_one {l : List Int} {z : Int} {r : List Int} (hl : l = z :: r) (h : fitsFrom 0 l = true) (hz : z ≠ 1012) : cutAt 0 l = some 1 := by
  subst hl
  rw [fitsFrom] at h
  have hb : brk z = 0 := by
    rcases brk_cases z with ⟨h1, _⟩ | ⟨_, h2⟩ | ⟨_, _, h3⟩
    · exact absurd h1 hz
    · rw [h2] at h; simp at h
    · exact h3
  rw [cutAt, if_pos (by omega)]
theorem cutAt_drop (o : Int) (zs : List Int) (k : Nat) (h : k < zs.length) : cutAt o (zs.drop k) = if o + brk (zs.getD k 0) = 0 then some 1 else (cutAt (o + brk (zs.getD k 0)) (zs.drop (k + 1))).map (· + 1) := by
  rw [List.drop_eq_getElem_cons h, cutAt]; simp [List.getD, List.getElem?_eq_getElem h]

theorem wpList_append_intsN {P : Program} {w : World} {ops : Array Oper} {rest : List Oper} {o : Oper} {a : Act} {Q : Exit → Act → World → Prop} (hgd : o.guard = none) (s x : Operand) (t : TypeId)
    (ho : o.op = .call { callee := .builtin .append, args := #[s, x], argTypes := #[t, t] })
    (base : Nat) (e : TypeId) (k : IntKind) (by_ : Nat) (ht : P.underlying t = some (.slice e)) (hinfo : (P.info? e).map (fun i => (i.zero, i.size, i.bytes)) = some (some (.int k 0), 1, by_)) (hby : by_ ≤ 8)
    (v : Value) (zs : List Int) (hs : a.eval s = v) (hown : w.ownsRow base e 1 v zs.length (zs.map (Value.int k)))
    (B : Nat) (A : Option Addr) (ys : List Int) (m c : Nat) (hm : ys.length = m) (hx : a.eval x = .slice A m c) (hr : IntsK k w B A ys) (hlen : zs.length + m ≤ 1000000000) (hbase : base ≤ w.heap.size)
    (h : ∀ v' w', w'.ownsRow base e 1 v' (zs ++ ys).length ((zs ++ ys).map (Value.int k)) → w.grownBy w' v.ownBlock → (v'.ownBlock = v.ownBlock ∨ v'.ownBlock = some w.heap.size) → wpList P ops Q rest (a.put o.dst v') w') :
    wpList P ops Q (o :: rest) a w := by
  subst hm
  exact wpList_append_ints hgd s x t ho base e k by_ ht hinfo hby v zs hs hown B A ys c hx hr hlen hbase h

theorem partsFrom_sz (o : Int) (cur zs : List Int) : szS (partsFrom o cur zs) ≤ cur.length + zs.length := by
  induction zs generalizing o cur with
  | nil => simp [partsFrom, szS]
  | cons z r ih =>
    rw [partsFrom]
    split
    · rw [szS]; have := ih 0 []; simp at this ⊢; omega
    · have := ih (o + brk z) (cur ++ [z]); simp at this ⊢; omega
theorem partsR_len (p : List Int) : szS (partsR p) ≤ 1000000 := by
  unfold partsR
  split
  · rename_i h
    have h1 := validB_len h
    have h2 := partsFrom_sz 0 [] p
    simp at h2; omega
  · simp [szS]
end Go.Proofs.Ytceekfoacgoalaa

/- Parts of programs: pure facts. -/
namespace Go.Proofs.Ytceekfoacgoalaa
set_option maxRecDepth 100000
open Go.RowKit Go.WideShapes

theorem cutAt_take {o : Int} {l : List Int} {n : Nat} (h : cutAt o l = some n) : cutAt o (l.take n) = some n ∧ (fitsFrom o l = true → fitsFrom o (l.take n) = true) := by
  induction l generalizing o n with
  | nil => simp [cutAt] at h
  | cons z r ih =>
    rw [cutAt] at h
    by_cases h0 : o + brk z = 0
    · rw [if_pos h0] at h
      injection h with h; subst h
      simp [cutAt, h0, fitsFrom]
    · rw [if_neg h0] at h
      rcases h1 : cutAt (o + brk z) r with _ | m
      · rw [h1] at h; simp at h
      · rw [h1] at h
        simp at h; subst h
        obtain ⟨h2, h3⟩ := ih h1
        refine ⟨by rw [List.take_succ_cons, cutAt, if_neg h0, h2]; rfl, fun hf => ?_⟩
        rw [fitsFrom] at hf
        rw [List.take_succ_cons, fitsFrom]
        by_cases hn : o + brk z < 0
        · simp [hn] at hf
        · rw [if_neg hn] at hf ⊢; exact h3 hf
theorem parts_all (N : Nat) : ∀ l : List Int, l.length ≤ N → fitsFrom 0 l = true →
    (∀ q ∈ partsFrom 0 [] l, fitsFrom 0 q = true ∧ cutAt 0 q = some q.length ∧ q.length ≤ l.length ∧ ∀ z ∈ q, z ∈ l) ∧ (partsFrom 0 [] l).flatten = l := by
  induction N with
  | zero =>
    intro l hl _
    have : l = [] := List.eq_nil_of_length_eq_zero (by omega)
    subst this; simp [partsFrom]
  | succ N ih =>
    intro l hl hf
    by_cases hn : l = []
    · subst hn; simp [partsFrom]
    · obtain ⟨n, hc, h1, h2, h3⟩ := cutAt_fits hf hn
      rw [partsFrom_cut hc]
      obtain ⟨i1, i2⟩ := ih (l.drop n) (by simp; omega) h3
      obtain ⟨t1, t2⟩ := cutAt_take hc
      have hlen : (l.take n).length = n := by simp; omega
      refine ⟨?_, ?_⟩
      · intro q hq
        rw [List.nil_append, List.mem_cons] at hq
        rcases hq with rfl | hq
        · exact ⟨t2 hf, by rw [hlen]; exact t1, by omega, fun z hz => List.mem_of_mem_take hz⟩
        · obtain ⟨j1, j2, j3, j4⟩ := i1 q hq
          exact ⟨j1, j2, by simp at j3; omega, fun z hz => List.mem_of_mem_drop (j4 z hz)⟩
      · rw [List.nil_append, List.flatten_cons, i2, List.take_append_drop]
theorem parts_ok {p : List Int} (hp : validB p = true) : (∀ q ∈ partsR p, validB q = true ∧ partsR q = [q] ∧ q.length ≤ 60) ∧ (partsR p).flatten = p := by
  have hl := validB_len hp
  have hp' := hp
  simp only [validB, Bool.and_eq_true, decide_eq_true_eq] at hp
  obtain ⟨h1, h2⟩ := parts_all p.length p (Nat.le_refl _) hp.2
  rw [partsR, if_pos hp']
  refine ⟨fun q hq => ?_, h2⟩
  obtain ⟨j1, j2, j3, j4⟩ := h1 q hq
  have hv : validB q = true := by
    simp only [validB, Bool.and_eq_true, decide_eq_true_eq]
    exact ⟨⟨by omega, List.all_eq_true.2 fun z hz => List.all_eq_true.1 hp.1.2 z (j4 z hz)⟩, j1⟩
  refine ⟨hv, ?_, by omega⟩
  rw [partsR, if_pos hv, partsFrom_cut j2]
  simp [partsFrom]
theorem partsR_bad {p : List Int} (hp : validB p = false) : partsR p = [] := by rw [partsR, if_neg (by simp [hp])]
theorem partsR_count {p : List Int} : (partsR p).length ≤ 60 := by
  unfold partsR
  split
  · rename_i h
    have hl := validB_len h
    have : ∀ (l : List Int) (o : Int) (cur : List Int), (partsFrom o cur l).length ≤ l.length := by
      intro l
      induction l with
      | nil => simp [partsFrom]
      | cons z r ih =>
        intro o cur
        rw [partsFrom]; split
        · have := ih 0 []; simp; omega
        · have := ih (o + brk z) (cur ++ [z]); simp; omega
    have := this p 0 []
    omega
  · simp
theorem flatten_take_succ (zss : List (List Int)) (k : Nat) (s : List Int) (h : zss[k]? = some s) : (zss.take (k + 1)).flatten = (zss.take k).flatten ++ s := by
  rw [List.take_add_one, h]; simp
theorem flatten_take_le (zss : List (List Int)) (k : Nat) : (zss.take k).flatten.length ≤ zss.flatten.length := by
  conv => rhs; rw [← List.take_append_drop k zss]
  rw [List.flatten_append, List.length_append]; omega
end Go.Proofs.Ytceekfoacgoalaa
