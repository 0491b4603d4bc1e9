/- Several texts in one. -/
import Derived.Test.YtjblecinkedppaaGreatDoorBm
import Derived.Test.YtjblecinkedppaaGreatDoorB8
import Derived.Test.YtjblecinkedppaaGreatDoorSl
import Derived.Test.YtjblecinkedppaaGreatDoorBo
import Derived.Deep.RegionHeld3
import Derived.Carry
import Derived.Deep.RegionLaw
import Derived.Test.YtjblecinkedppaaGreatDoorBu
import Derived.Test.YtjblecinkedppaaGreatDoorBp
import Derived.Maps.AppendAt
import Derived.Test.YtjblecinkedppaaGreatDoorB5
import Derived.Deep.Fields
import Derived.ChangeSame
/- What deeds do to benches: plain facts. -/
namespace Go.Proofs.YtjblecinkedppaaGreatDoor
set_option maxRecDepth 100000
open Go.RowKit Go.WideShapes

abbrev Bench9 := List Int × List (List UInt8)
def pastR (ps : List (List UInt8)) (t : List UInt8) : List (List UInt8) := if 20 < (ps ++ [t]).length then (ps ++ [t]).drop 1 else ps ++ [t]
def goOnR (n : List Int) (ps : List (List UInt8)) (x : List Int) : Bench9 × Bool := if x = n then ((n, ps), false) else ((x, pastR ps (progT n)), true)
/-- What the program of a text leaves, as a program. -/
def leftByR (n : List Int) (s : List UInt8) : List Int × Bool :=
  if (readProgP s).2 = true then (if (runOfR (readProgP s).1 (progStackR n).1).2.2 = true then stackProgR (runOfR (readProgP s).1 (progStackR n).1).1 else ([], false)) else ([], false)
def backR (n : List Int) (ps : List (List UInt8)) : Bench9 × Bool := if ps = [] then ((n, ps), false) else (((readProgP (ps.getD (ps.length - 1) [])).1, ps.take (ps.length - 1)), true)
def doR (n : List Int) (ps : List (List UInt8)) (k : Int) (s : List UInt8) : Bench9 × Bool :=
  if k = 0 then (if (leftByR n s).2 = true then goOnR n ps (leftByR n s).1 else ((n, ps), false))
  else if s ≠ [] then ((n, ps), false)
  else if k = 1 then goOnR n ps []
  else if k = 2 then backR n ps
  else ((n, ps), false)
def benchDoR (n : List Int) (ps : List (List UInt8)) (k : Int) (s : List UInt8) : Bench9 × Bool := if benchB n ps = true then doR n ps k s else (([], []), false)

theorem bsB_stack {p : List Int} {s : List (List Int)} (h : stackProgR s = (p, true)) : bsB p = true := by
  unfold bsB; rw [(stackProg_back h).2.2.2.1]
theorem bsB_nil : bsB [] = true := by decide
theorem leftByR_ok {n : List Int} {s : List UInt8} (h : (leftByR n s).2 = true) : bsB (leftByR n s).1 = true := by
  unfold leftByR at h ⊢
  split
  · rename_i h1
    rw [if_pos h1] at h
    split
    · rename_i h2
      rw [if_pos h2] at h
      exact bsB_stack (s := (runOfR (readProgP s).1 (progStackR n).1).1) (by rw [← h])
    · rename_i h2
      rw [if_neg h2] at h; cases h
  · rename_i h1
    rw [if_neg h1] at h; cases h
theorem tsB_prog {p : List Int} (h : bsB p = true) : tsB (progT p) = true := by
  unfold tsB
  rw [read_prog (bsB_valid h).1]; exact h
theorem pastR_len {ps : List (List UInt8)} {t : List UInt8} (h : ps.length ≤ 20) : (pastR ps t).length ≤ 20 := by
  unfold pastR
  split
  · rw [List.length_drop, List.length_append]; simp; omega
  · omega
theorem pastR_mem {ps : List (List UInt8)} {t u : List UInt8} (h : u ∈ pastR ps t) : u ∈ ps ∨ u = t := by
  unfold pastR at h
  split at h
  · have := List.mem_of_mem_drop h; simpa using this
  · simpa using h
theorem benchB_mk {n : List Int} {ps : List (List UInt8)} (h0 : bsB n = true) (h1 : ps.length ≤ 20) (h2 : ∀ t ∈ ps, tsB t = true) : benchB n ps = true := by
  rw [benchB_all h0 h1, List.all_eq_true]; exact h2
theorem goOnR_ok {n : List Int} {ps : List (List UInt8)} {x : List Int} (h : benchB n ps = true) (hx : bsB x = true) : benchB (goOnR n ps x).1.1 (goOnR n ps x).1.2 = true := by
  unfold goOnR
  split
  · exact h
  · obtain ⟨h0, h1, h2⟩ := benchB_parts h
    refine benchB_mk hx (pastR_len h1) fun t ht => ?_
    rcases pastR_mem ht with h3 | h3
    · exact h2 t h3
    · rw [h3]; exact tsB_prog h0
theorem last_mem9 {ps : List (List UInt8)} (h : ps ≠ []) : ps[ps.length - 1]? = some (ps.getD (ps.length - 1) []) := by
  have : 0 < ps.length := by rcases ps with _ | _; exact absurd rfl h; simp
  rw [List.getD_eq_getElem?_getD, List.getElem?_eq_getElem (by omega)]; rfl
theorem backR_ok {n : List Int} {ps : List (List UInt8)} (h : benchB n ps = true) : benchB (backR n ps).1.1 (backR n ps).1.2 = true := by
  unfold backR
  split
  · exact h
  · rename_i hne
    obtain ⟨h0, h1, h2⟩ := benchB_parts h
    have hm := h2 _ (List.mem_of_getElem? (last_mem9 hne))
    obtain ⟨p, hp, hb, _⟩ := tsB_text hm
    refine benchB_mk ?_ (by rw [List.length_take]; omega) fun t ht => h2 t (List.mem_of_mem_take ht)
    unfold readProgP; rw [hp]; exact hb
theorem doR_ok {n : List Int} {ps : List (List UInt8)} {k : Int} {s : List UInt8} (h : benchB n ps = true) : benchB (doR n ps k s).1.1 (doR n ps k s).1.2 = true := by
  unfold doR
  split
  · split
    · rename_i h1; exact goOnR_ok h (leftByR_ok h1)
    · exact h
  · split
    · exact h
    · split
      · exact goOnR_ok h bsB_nil
      · split
        · exact backR_ok h
        · exact h
theorem goOnR_no {n : List Int} {ps : List (List UInt8)} {x : List Int} (h : (goOnR n ps x).2 = false) : (goOnR n ps x).1 = (n, ps) := by
  unfold goOnR at h ⊢
  split
  · rfl
  · rename_i h1; rw [if_neg h1] at h; cases h
theorem doR_no {n : List Int} {ps : List (List UInt8)} {k : Int} {s : List UInt8} (h : (doR n ps k s).2 = false) : (doR n ps k s).1 = (n, ps) := by
  unfold doR at h ⊢
  split
  · rename_i h0
    rw [if_pos h0] at h
    split
    · rename_i h1; rw [if_pos h1] at h; exact goOnR_no h
    · rfl
  · rename_i h0
    rw [if_neg h0] at h
    split
    · rfl
    · rename_i h1
      rw [if_neg h1] at h
      split
      · rename_i h2; rw [if_pos h2] at h; exact goOnR_no h
      · rename_i h2
        rw [if_neg h2] at h
        split
        · rename_i h3
          rw [if_pos h3] at h
          unfold backR at h ⊢
          split
          · rfl
          · rename_i h4; rw [if_neg h4] at h; cases h
        · rfl
theorem benchDoR_len {n : List Int} {ps : List (List UInt8)} {k : Int} {s : List UInt8} {n' : List Int} {ps' : List (List UInt8)} {ok : Bool} (h : benchDoR n ps k s = ((n', ps'), ok)) : n'.length ≤ 60 ∧ ps'.length ≤ 20 ∧ ∀ t ∈ ps', t.length ≤ 400 := by
  unfold benchDoR at h
  split at h
  · rename_i h0
    have h1 := doR_ok (k := k) (s := s) h0
    rw [h] at h1
    obtain ⟨h2, h3, h4⟩ := benchB_parts h1
    exact ⟨(bsB_valid h2).2, h3, fun t ht => tsB_len (h4 t ht)⟩
  · cases h; simp
/-- Many deeds, one after the other: the bench, and how many were done. -/
def deedsR (n : List Int) (ps : List (List UInt8)) (c : Nat) : List (Int × List UInt8) → Bench9 × Nat
  | [] => ((n, ps), c)
  | d :: ds => deedsR (doR n ps d.1 d.2).1.1 (doR n ps d.1 d.2).1.2 (if (doR n ps d.1 d.2).2 = true then c + 1 else c) ds
theorem deedsR_ok : ∀ (ds : List (Int × List UInt8)) {n : List Int} {ps : List (List UInt8)} {c : Nat}, benchB n ps = true → benchB (deedsR n ps c ds).1.1 (deedsR n ps c ds).1.2 = true ∧ (deedsR n ps c ds).2 ≤ c + ds.length := by
  intro ds
  induction ds with
  | nil => intro n ps c h; exact ⟨h, by simp [deedsR]⟩
  | cons d ds ih =>
    intro n ps c h
    rw [deedsR]
    have := ih (c := if (doR n ps d.1 d.2).2 = true then c + 1 else c) (doR_ok (k := d.1) (s := d.2) h)
    refine ⟨this.1, Nat.le_trans this.2 ?_⟩
    split <;> simp <;> omega
theorem deedsR_snoc (ds : List (Int × List UInt8)) (d : Int × List UInt8) : ∀ {n : List Int} {ps : List (List UInt8)} {c : Nat}, deedsR n ps c (ds ++ [d]) = (let x := deedsR n ps c ds; ((doR x.1.1 x.1.2 d.1 d.2).1, if (doR x.1.1 x.1.2 d.1 d.2).2 = true then x.2 + 1 else x.2)) := by
  induction ds with
  | nil => intro n ps c; rfl
  | cons e ds ih => intro n ps c; rw [List.cons_append, deedsR, deedsR, ih]
theorem deedsR_app (a : List (Int × List UInt8)) (b : List (Int × List UInt8)) : ∀ {n : List Int} {ps : List (List UInt8)} {c : Nat}, deedsR n ps c (a ++ b) = deedsR (deedsR n ps c a).1.1 (deedsR n ps c a).1.2 (deedsR n ps c a).2 b := by
  induction a with
  | nil => intro n ps c; rfl
  | cons e a ih => intro n ps c; rw [List.cons_append, deedsR, deedsR, ih]
theorem deedsR_from (ds : List (Int × List UInt8)) : ∀ {n : List Int} {ps : List (List UInt8)} {c : Nat}, deedsR n ps c ds = ((deedsR n ps 0 ds).1, c + (deedsR n ps 0 ds).2) := by
  induction ds with
  | nil => intro n ps c; simp [deedsR]
  | cons d ds ih =>
    intro n ps c
    rw [deedsR, deedsR, ih, ih (c := if (doR n ps d.1 d.2).2 = true then 0 + 1 else 0)]
    simp only [Prod.mk.injEq, true_and]
    split <;> omega
def benchRunR (n : List Int) (ps : List (List UInt8)) (ds : List (Int × List UInt8)) : Bench9 × Int := if benchB n ps = true ∧ ds.length ≤ 40 then ((deedsR n ps 0 ds).1, ((deedsR n ps 0 ds).2 : Int)) else (([], []), 0)
theorem doR_is {n : List Int} {ps : List (List UInt8)} {k : Int} {s : List UInt8} (hd : (doR n ps k s).2 = true) (hk : k ≠ 2) : ∃ x, doR n ps k s = goOnR n ps x := by
  unfold doR at hd ⊢
  split
  · rename_i h1
    rw [if_pos h1] at hd
    split
    · exact ⟨_, rfl⟩
    · rename_i h2; rw [if_neg h2] at hd; cases hd
  · rename_i h1
    rw [if_neg h1] at hd
    split
    · rename_i h2; rw [if_pos h2] at hd; cases hd
    · rename_i h2
      rw [if_neg h2] at hd
      split
      · exact ⟨_, rfl⟩
      · rename_i h3; rw [if_neg h3, if_neg hk] at hd; cases hd
/-- What was done can be undone. -/
theorem do_back {n : List Int} {ps : List (List UInt8)} {k : Int} {s : List UInt8} (h : benchB n ps = true) (hk : k ≠ 2) (hp : ps.length < 20) (hd : (doR n ps k s).2 = true) : doR (doR n ps k s).1.1 (doR n ps k s).1.2 2 [] = ((n, ps), true) := by
  obtain ⟨h0, _, _⟩ := benchB_parts h
  have key : ∀ x, (goOnR n ps x).2 = true → doR (goOnR n ps x).1.1 (goOnR n ps x).1.2 2 [] = ((n, ps), true) := by
    intro x hx
    unfold goOnR at hx ⊢
    split
    · rename_i h1; rw [if_pos h1] at hx; cases hx
    · have hl : pastR ps (progT n) = ps ++ [progT n] := by
        unfold pastR; rw [if_neg]; simp; omega
      dsimp only
      rw [hl]
      have hr : readProgP (progT n) = (n, true) := by unfold readProgP; rw [read_prog (bsB_valid h0).1]
      unfold doR
      rw [if_neg (by decide), if_neg (by simp), if_neg (by decide), if_pos rfl]
      unfold backR
      rw [if_neg (by simp)]
      simp [List.getD_eq_getElem?_getD, hr]
  obtain ⟨x, hx⟩ := doR_is hd hk
  rw [hx] at hd ⊢
  exact key x hd
/-- Behind a program Now is what it leaves. -/
theorem do_left {n : List Int} {ps : List (List UInt8)} {s : List UInt8} (h : (doR n ps 0 s).2 = true) : ∃ p left c, readProgP s = (p, true) ∧ runOfR p (progStackR n).1 = (left, c, true) ∧ progStackR (doR n ps 0 s).1.1 = (left, true) := by
  unfold doR at h ⊢
  rw [if_pos rfl] at h ⊢
  split
  · rename_i h1
    rw [if_pos h1] at h
    unfold goOnR at h ⊢
    rw [if_neg (by intro e; rw [if_pos e] at h; cases h)] at *
    unfold leftByR at h1 ⊢
    split at h1
    · rename_i h2
      rw [if_pos h2]
      split at h1
      · rename_i h3
        rw [if_pos h3]
        refine ⟨(readProgP s).1, (runOfR (readProgP s).1 (progStackR n).1).1, (runOfR (readProgP s).1 (progStackR n).1).2.1, by rw [← h2], by rw [← h3], ?_⟩
        exact (stackProg_back (s := (runOfR (readProgP s).1 (progStackR n).1).1) (by rw [← h1])).2.2.2.1
      · cases h1
    · cases h1
  · rename_i h1
    rw [if_neg h1] at h; cases h
end Go.Proofs.YtjblecinkedppaaGreatDoor

/- A bench behind a pointer: its program and its texts; the program's goOn, goBack. -/
namespace Go.Proofs.YtjblecinkedppaaGreatDoor
set_option maxRecDepth 100000
open Go.RowKit Go.WideShapes Go.Deep

/-- A bench in a block, what it has being of the call's own. -/
structure BnAt (w : World) (lo g : Nat) (vn vp : Value) (n : List Int) (ps : List (List UInt8)) : Prop where
  ge : lo ≤ g
  blk : Blk w g #[vn, vp] 26
  now : Own w lo vn n
  past : OwnWT w lo w.heap.size vp ps
def Bn (w : World) (lo g : Nat) (b : Bench9) : Prop := ∃ vn vp, BnAt w lo g vn vp b.1 b.2
def Tabs (w : World) : Prop := StrTab w 0 opNames ∧ Pow w
theorem blk_type {w : World} {g : Nat} {cs cur : Array Value} {T U : TypeId} {f : Nat × Nat} (h : Blk w g cs T) (h2 : w.heap[g]? = some (.cells cur U f)) : T = U := by
  unfold Blk at h
  rw [h] at h2
  injection h2 with h2
  injection h2
section
variable {w w' : World} {lo g : Nat} {vn vp : Value} {n : List Int} {ps : List (List UInt8)}
theorem BnAt.lt (h : BnAt w lo g vn vp n ps) : g < w.heap.size := h.blk.lt
theorem BnAt.low (h : BnAt w lo g vn vp n ps) : lo ≤ w.heap.size := Nat.le_of_lt (Nat.lt_of_le_of_lt h.ge h.lt)
theorem BnAt.ne0 (h : BnAt w lo g vn vp n ps) {v : Value} {x : List Int} (ho : Own w lo v x) : v.ownBlock ≠ some g := ownsRow_ne ho.own h.blk (by decide)
theorem OwnWT.ne {hi : Nat} {v : Value} {x : List (List UInt8)} {cs : Array Value} (h : OwnWT w lo hi v x) (hB : Blk w g cs 26) : v.ownBlock ≠ some g := by
  intro e
  obtain ⟨_, _, _, cur, hc⟩ := OwnW.blk h g e
  exact absurd (blk_type hB hc) (by decide)
theorem Own.neT {hi : Nat} {v u : Value} {x : List Int} {y : List (List UInt8)} (h : Own w lo v x) (h2 : OwnWT w lo hi u y) : v.ownBlock = none ∨ v.ownBlock ≠ u.ownBlock := by
  rcases he : v.ownBlock with _ | k
  · exact .inl rfl
  · refine .inr fun e => ?_
    obtain ⟨_, _, _, cur, hc⟩ := OwnW.blk h2 k e.symm
    exact ownsRow_ne h.own (show Blk w k cur 9 from hc) (by decide) he
theorem BnAt.step (h : BnAt w lo g vn vp n ps) (hb : Below w.heap.size w w') : BnAt w' lo g vn vp n ps :=
  ⟨h.ge, h.blk.below hb h.lt, h.now.below hb, (OwnW.below h.past hb).mono (Nat.le_refl _) hb.size⟩
theorem BnAt.set0 (h : BnAt w lo g vn vp n ps) {v : Value} {x : List Int} (ho : Own w lo v x) : BnAt (w.setCell ⟨g, 0, none⟩ v) lo g v vp x ps :=
  ⟨h.ge, h.blk.set 0 v, ⟨ownsRow_keep ho.own fun k hk => heap_setCell_other w _ k v (fun e => h.ne0 ho (by rw [hk]; exact congrArg some e)), ho.wf⟩,
    (OwnW.keep h.past fun k hk => heap_setCell_other w _ k v (fun e => OwnWT.ne h.past h.blk (by rw [hk]; exact congrArg some e))).mono (Nat.le_refl _) (by simp [World.setCell])⟩
theorem BnAt.set1 (h : BnAt w lo g vn vp n ps) {v : Value} {x : List (List UInt8)} (ho : OwnWT w lo w.heap.size v x) : BnAt (w.setCell ⟨g, 1, none⟩ v) lo g vn v n x :=
  ⟨h.ge, h.blk.set 1 v, ⟨ownsRow_keep h.now.own fun k hk => heap_setCell_other w _ k v (fun e => h.ne0 h.now (by rw [hk]; exact congrArg some e)), h.now.wf⟩,
    (OwnW.keep ho fun k hk => heap_setCell_other w _ k v (fun e => OwnWT.ne ho h.blk (by rw [hk]; exact congrArg some e))).mono (Nat.le_refl _) (by simp [World.setCell])⟩
theorem BnAt.grow (h : BnAt w lo g vn vp n ps) (hg : w.grownBy w' vp.ownBlock) {v : Value} {x : List (List UInt8)} (ho : OwnWT w' lo w'.heap.size v x) : BnAt (w'.setCell ⟨g, 1, none⟩ v) lo g vn v n x ∧ Below lo w (w'.setCell ⟨g, 1, none⟩ v) ∧ (∀ u y, Own w lo u y → Own (w'.setCell ⟨g, 1, none⟩ v) lo u y) ∧ Blk w' g #[vn, vp] 26 := by
  have hb : Below lo w w' := below_of_only hg h.low fun k hk => (OwnW.blk h.past k hk).1
  have hn : Own w' lo vn n := h.now.only hg (h.now.neT h.past)
  have hB : Blk w' g #[vn, vp] 26 := (hg.block g h.lt (fun e => OwnWT.ne h.past h.blk e.symm)).trans h.blk
  refine ⟨⟨h.ge, hB.set 1 v, ⟨ownsRow_keep hn.own fun k hk => heap_setCell_other w' _ k v (fun e => ownsRow_ne hn.own hB (by decide) (by rw [hk]; exact congrArg some e)), hn.wf⟩,
    (OwnW.keep ho fun k hk => heap_setCell_other w' _ k v (fun e => OwnWT.ne ho hB (by rw [hk]; exact congrArg some e))).mono (Nat.le_refl _) (by simp [World.setCell])⟩, hb.setCell h.ge _, fun u y hu => ?_, hB⟩
  have hu' : Own w' lo u y := hu.only hg (hu.neT h.past)
  exact ⟨ownsRow_keep hu'.own fun k hk => heap_setCell_other w' _ k v (fun e => ownsRow_ne hu'.own hB (by decide) (by rw [hk]; exact congrArg some e)), hu'.wf⟩
theorem BnAt.own (h : BnAt w lo g vn vp n ps) {v : Value} {x : List Int} (ho : Own w lo v x) (k : Nat) (u : Value) : Own (w.setCell ⟨g, k, none⟩ u) lo v x :=
  ⟨ownsRow_keep ho.own fun j hj => heap_setCell_other w _ j u (fun e => h.ne0 ho (by rw [hj]; exact congrArg some e)), ho.wf⟩
theorem OwnWT.tail9 {hi c : Nat} {A : Option Addr} {qs : List (List UInt8)} (h : OwnWT w lo hi (.slice A qs.length c) qs) (h1 : 1 ≤ qs.length) : ∃ gb off, A = some ⟨gb, off, none⟩ ∧ qs.length ≤ c ∧ OwnWT w lo hi (.slice (some ⟨gb, off + 1, none⟩) (qs.length - 1) (c - 1)) (qs.drop 1) := by
  rcases qs with _ | ⟨q, r⟩
  · simp at h1
  · have h2 : OwnW w lo hi 9 (.slice A (Value.string ⟨q.toArray⟩ :: strVals r).length c) (.string ⟨q.toArray⟩ :: strVals r) := by
      have := h
      unfold OwnWT at this
      simpa [strVals] using this
    obtain ⟨gb, off, e, hc, h3⟩ := h2.tail
    refine ⟨gb, off, e, by simpa [strVals] using hc, ?_⟩
    rw [strVals_len] at h3
    simpa using h3
theorem OwnWT.front9 {hi c : Nat} {A : Option Addr} {qs : List (List UInt8)} (h : OwnWT w lo hi (.slice A qs.length c) qs) (k : Nat) (hk : k ≤ qs.length) : OwnWT w lo hi (.slice A k c) (qs.take k) := by
  have := OwnW.front h k (by rw [strVals_len]; exact hk)
  unfold OwnWT
  rwa [show strVals (qs.take k) = (strVals qs).take k by simp [strVals, List.map_take]]
theorem Own.far9 {B : Nat} {v : Value} {x : List Int} (h : Own w B v x) (hg : g < B) (k : Nat) (u : Value) : Own (w.setCell ⟨g, k, none⟩ u) B v x :=
  ⟨ownsRow_keep h.own fun j hj => heap_setCell_other w _ j u (fun e => by have e' : j = g := e; have := (h.ge j hj).1; omega), h.wf⟩
theorem OwnWT.far9 {B hi : Nat} {v : Value} {x : List (List UInt8)} (h : OwnWT w B hi v x) (hg : g < B) (k : Nat) (u : Value) : OwnWT (w.setCell ⟨g, k, none⟩ u) B hi v x :=
  OwnW.keep h fun j hj => heap_setCell_other w _ j u (fun e => by have e' : j = g := e; have := (OwnW.blk h j hj).1; omega)
theorem BnAt.cells (h : BnAt w lo g vn vp n ps) : w.cell? ⟨g, 0, none⟩ = some vn ∧ w.cell? ⟨g, 1, none⟩ = some vp ∧ w.frozen? ⟨g, 0, none⟩ = false ∧ w.frozen? ⟨g, 1, none⟩ = false := blk_pair h.blk
end
theorem step_append_strW {P : Program} {w : World} {ops : Array Oper} {o : Oper} {a : Act} {K : Act → World → Prop} {Q : Exit → Act → World → Prop} {E : Prop} (hgd : o.guard = none) (s x : Operand) (t : TypeId)
    (ho : o.op = .call { callee := .builtin .append, args := #[s, x], argTypes := #[t, t] })
    (ht : P.underlying t = some (.slice 9)) (hinfo : (P.info? 9).map (fun i => (i.zero, i.size, i.bytes)) = some (some (.string ⟨#[]⟩), 1, 16))
    (lo hi : Nat) (v : Value) (ss : List (List UInt8)) (hs : a.eval s = v) (hown : OwnWT w lo hi v ss) (hlo : lo ≤ w.heap.size)
    (b : Nat) (u : Value) (z : List UInt8) (hx : a.eval x = .slice (some ⟨b, 0, none⟩) 1 1) (h0 : w.cell? ⟨b, 0, none⟩ = some u) (hu : u = .string ⟨z.toArray⟩) (hlen : ss.length ≤ 1000000000)
    (h : ∀ v' w', OwnWT w' lo w'.heap.size v' (ss ++ [z]) → w.grownBy w' v.ownBlock → K (a.put o.dst v') w') : if Region.wanted o (yielded ops a.tmps) = true then Oper.wp P o a w K Q else E := by
  rw [if_pos (by simp [Region.wanted, hgd])]
  obtain ⟨i, hi1, hz, hsz, hby⟩ := info_parts hinfo
  obtain ⟨v', w', hr, h2, h3, _⟩ := run_append_ownW (P := P) w lo hi t o.type 9 i (.string ⟨#[]⟩) 16 ht hi1 hz hsz hby rfl v (strVals ss) hown b 1 (.string ⟨z.toArray⟩) (by rw [← hu]; exact h0) rfl (by rw [strVals_len]; unfold maxLen; omega) (by rw [strVals_len]; omega) hlo
  unfold Oper.wp execOp
  simp only [ho, resolve, invoke, builtin, Sem.run_bind, Sem.run_pure, Result.andThen_ok, List.map_toArray, List.map_cons, List.map_nil, hs, hx, hr]
  exact h v' w' (by
    have e : strVals (ss ++ [z]) = strVals ss ++ [.string ⟨z.toArray⟩] := by simp [strVals]
    unfold OwnWT; rw [e]; exact h2) h3
end Go.Proofs.YtjblecinkedppaaGreatDoor

/- The program's deeds: goOn and goBack behind a pointer. -/
namespace Go.Proofs.YtjblecinkedppaaGreatDoor
set_option maxRecDepth 100000
open Go.RowKit Go.WideShapes Go.Deep

set_option maxHeartbeats 4000000 in
theorem goOn_any (lo g : Nat) (vn vp vx : Value) (n x : List Int) (ps : List (List UInt8)) (w : World) (h : BnAt w lo g vn vp n ps) (hx : Own w lo vx x) (hl : ps.length ≤ 20)
    (ht : ∀ w', Below lo w w' → Tabs w') :
    Calls Tryz.prog 56 #[.pointer (some ⟨g, 0, none⟩), vx] w fun e w' => e = .returned (.bool (goOnR n ps x).2) ∧ Bn w' lo g (goOnR n ps x).1 ∧ Below lo w w' := by
  obtain ⟨Ax, cx, rfl, _⟩ := hx.ints
  obtain ⟨b0, b1, f0, f1⟩ := h.cells
  have hlo := h.low
  have hlt := h.lt
  have hge := h.ge
  by_cases he : x = n
  · have HX := Lib.hid (And.intro h (And.intro hx.ints (And.intro h.now.ints (decide_eq_true he)))); clear h hx ht
    have hR : Hid (goOnR n ps x = ((n, ps), false)) := Lib.hid (by rw [goOnR, if_pos he])
    clear he
    go_enter Tryz.func56, Tryz.ntmps56
    go_wp2_with fail
    refine (slEqQ _ vn x n _ HX.out.2.1 HX.out.2.2.1 true HX.out.2.2.2).mono ?_
    rintro e w' ⟨rfl, nq, rfl⟩
    have hb := below_drewN (Below.refl w.heap.size w) nq
    have Y := Lib.hid (And.intro (HX.out.1.step hb) (hb.mono hlo)); clear hb HX
    go_wp2
    go_ret
    rw [hR.out]
    exact ⟨rfl, ⟨vn, vp, Y.out.1⟩, Y.out.2⟩
  · have hR : Hid (goOnR n ps x = ((x, pastR ps (progT n)), true)) := Lib.hid (by rw [goOnR, if_neg he])
    obtain ⟨t, HT⟩ : ∃ t, Hid (progT n = t) := ⟨_, Lib.hid rfl⟩
    obtain ⟨qs, hqs⟩ : ∃ qs, ps ++ [t] = qs := ⟨_, rfl⟩
    have hql : qs.length = ps.length + 1 := by rw [← hqs]; simp
    have HQ := Lib.hid (And.intro hqs hql)
    obtain ⟨B9, hT⟩ : ∃ B9 : ByteArray, (⟨t.toArray⟩ : ByteArray) = B9 := ⟨_, rfl⟩
    have HT2 := Lib.hid hT; clear hT
    have hqI : 1 ≤ qs.length ∧ qs.length ≤ 21 := by omega
    have hps : ps.length ≤ 1000000000 := by omega
    clear hqs hql
    have hb1 : ∀ nq, Below w.heap.size w (w.drewN nq) := fun nq => below_drewN (Below.refl w.heap.size w) nq
    have HX := Lib.hid (And.intro hx.ints (And.intro h.now.ints (decide_eq_false he)))
    have HB := Lib.hid hb1
    have HH := Lib.hid (And.intro h (And.intro hx ht)); clear h hx ht hb1 he
    go_enter Tryz.func56, Tryz.ntmps56
    go_wp2_with fail
    refine (slEqQ _ vn x n _ HX.out.1 HX.out.2.1 false HX.out.2.2).mono ?_
    rintro e w' ⟨rfl, nq, rfl⟩
    have hb := HB.out nq
    obtain ⟨W, hW⟩ : ∃ W, w.drewN nq = W := ⟨_, rfl⟩
    rw [hW] at hb ⊢
    have hsz := hb.size
    have Y := Lib.hid (And.intro (HH.out.1.step hb) (And.intro (HH.out.2.1.below hb) (And.intro (hb.mono hlo) (fun w' (h' : Below lo W w') => HH.out.2.2 w' ((hb.mono hlo).trans h'))))); clear hb HH HX hW b0 b1 f0 f1
    obtain ⟨b0, b1, f0, f1⟩ := Y.out.1.cells
    have bD : Below W.heap.size W W.drew := (Below.refl _ _).drew
    have BD := Lib.hid bD
    have D0 := Lib.hid (And.intro ((Y.out.1.step bD).now.ints) (Y.out.2.2.2 _ (bD.mono (by omega)))); clear bD
    have hPT : Calls Tryz.prog 81 #[vn] W.drew fun e w' => e = .returned (.string B9) ∧ Below W.drew.heap.size W.drew w' := by
      refine (ProgText_I vn n _ D0.out.1 D0.out.2.1 D0.out.2.2).mono ?_
      rintro e w' ⟨rfl, hb⟩
      exact ⟨by rw [HT.out, HT2.out], hb⟩
    have HPT := Lib.hid hPT; clear hPT
    have HARM : Hid (∀ w3, Below W.drew.heap.size W.drew w3 → W.heap.size ≤ w3.heap.size ∧ (w3.cell? ⟨g, 0, none⟩ = some vn ∧ w3.cell? ⟨g, 1, none⟩ = some vp) ∧ ((w3.alloc (.cells #[.string B9] 9)).cell? ⟨g, 0, none⟩ = some vn ∧ (w3.alloc (.cells #[.string B9] 9)).cell? ⟨g, 1, none⟩ = some vp) ∧ BnAt (w3.alloc (.cells #[.string B9] 9)) lo g vn vp n ps ∧ Own (w3.alloc (.cells #[.string B9] 9)) lo (.slice Ax x.length cx) x ∧ Below lo w (w3.alloc (.cells #[.string B9] 9)) ∧ (w3.alloc (.cells #[.string B9] 9)).cell? ⟨w3.heap.size, 0, none⟩ = some (.string B9)) := Lib.hid fun w3 hb3 => by
      have hs3 : W.heap.size ≤ w3.heap.size := hb3.size
      have bb3 : Below W.heap.size W w3 := BD.out.trans hb3
      have bb4 : Below W.heap.size W (w3.alloc (.cells #[.string B9] 9)) := bb3.alloc (by omega) _
      have k := (Y.out.1.step bb3).cells
      have l := (Y.out.1.step bb4).cells
      exact ⟨hs3, ⟨k.1, k.2.1⟩, ⟨l.1, l.2.1⟩, Y.out.1.step bb4, Y.out.2.1.below bb4, Y.out.2.2.1.trans (bb4.mono (by omega)), (Blk.new w3 #[.string B9] 9).cell 0⟩
    go_wp2
    go_region_law (first
      | (go_simp; go_at_call 81; refine HPT.out.mono ?_; rintro e w3 ⟨rfl, hb3⟩; obtain ⟨hs3, ⟨k0, k1⟩, ⟨l0, l1⟩, Z⟩ := HARM.out w3 hb3; have ZZ := Lib.hid Z; clear Z hb3)
      | (refine step_append_strW rfl _ _ _ rfl Tryz.underlying24 strInfo lo _ vp ps rfl ZZ.out.1.past (ZZ.out.1.low) w3.heap.size (.string B9) t rfl ZZ.out.2.2.2 (by rw [HT2.out]) hps ?_; rw [HQ.out.1]; intro v5 w5 ho5 hg5; obtain ⟨A5, c5, rfl, hc5, _⟩ := ho5.rd; have P5 := ZZ.out.1.grow hg5 ho5; have X5 := P5.2.2.1 _ _ ZZ.out.2.1; obtain ⟨n0, n1, nf0, nf1⟩ := blk_pair P5.2.2.2; have V5 := Lib.hid (And.intro P5.1 (And.intro X5 (ZZ.out.2.2.1.trans P5.2.1))); clear ho5 hg5 P5 X5)
      | fail)
    all_goals (
      obtain ⟨m0, m1, mf0, mf1⟩ := V5.out.1.cells
      by_cases h20 : (20 : Int) < qs.length
      · have hP := Lib.hid (show pastR ps t = qs.drop 1 by rw [pastR, HQ.out.1, if_pos (by omega)])
        obtain ⟨gb, off, rfl, hcl, htl⟩ := OwnWT.tail9 V5.out.1.past hqI.1
        have hc2 : 2 ≤ c5 := by omega
        have hc1 : ¬ c5 = 1 := by omega
        have FIN : Hid (∀ o m d, o = off + 1 → m = qs.length - 1 → d = c5 - 1 → Bn (((w5.setCell ⟨g, 1, none⟩ (.slice (some ⟨gb, off, none⟩) qs.length c5)).setCell ⟨g, 1, none⟩ (.slice (some ⟨gb, o, none⟩) m d)).setCell ⟨g, 0, none⟩ (.slice Ax x.length cx)) lo g (x, qs.drop 1) ∧ Below lo w (((w5.setCell ⟨g, 1, none⟩ (.slice (some ⟨gb, off, none⟩) qs.length c5)).setCell ⟨g, 1, none⟩ (.slice (some ⟨gb, o, none⟩) m d)).setCell ⟨g, 0, none⟩ (.slice Ax x.length cx))) := Lib.hid fun o m d e1 e2 e3 => by
          subst e1 e2 e3
          have h6 := V5.out.1.set1 htl
          refine ⟨⟨_, _, h6.set0 (V5.out.1.own V5.out.2.1 1 _)⟩, ((V5.out.2.2).setCell hge _).setCell hge _⟩
        clear htl
        go_wp2
        go_ret
        rw [hR.out, HT.out, hP.out]
        exact ⟨rfl, FIN.out _ _ _ (by omega) (by omega) (by omega)⟩
      · have hP := Lib.hid (show pastR ps t = qs by rw [pastR, HQ.out.1, if_neg (by omega)])
        have FIN := Lib.hid (And.intro (show Bn ((w5.setCell ⟨g, 1, none⟩ (.slice A5 qs.length c5)).setCell ⟨g, 0, none⟩ (.slice Ax x.length cx)) lo g (x, qs) from ⟨_, _, V5.out.1.set0 V5.out.2.1⟩) (show Below lo w ((w5.setCell ⟨g, 1, none⟩ (.slice A5 qs.length c5)).setCell ⟨g, 0, none⟩ (.slice Ax x.length cx)) from (V5.out.2.2).setCell hge (.slice Ax x.length cx)))
        go_wp2
        go_ret
        rw [hR.out, HT.out, hP.out]
        exact ⟨rfl, FIN.out⟩)
end Go.Proofs.YtjblecinkedppaaGreatDoor

/- The program's deeds: the stack of a bench taken back, what a program leaves, the copy of a bench, and deeds done. -/
namespace Go.Proofs.YtjblecinkedppaaGreatDoor
set_option maxRecDepth 100000
open Go.RowKit Go.WideShapes Go.Deep

def PopPost (g : Nat) (A : Option Addr) (c : Nat) (ps : List (List UInt8)) (w : World) (e : Ending) (w' : World) : Prop := (ps = [] ∧ e = .returned (.tuple #[.string ⟨#[]⟩, .bool false]) ∧ w' = w) ∨ (ps ≠ [] ∧ e = .returned (.tuple #[.string ⟨(ps.getD (ps.length - 1) []).toArray⟩, .bool true]) ∧ w' = w.setCell ⟨g, 0, none⟩ (.slice A (ps.length - 1) c))
theorem popT_any (g : Nat) (A : Option Addr) (c : Nat) (ps : List (List UInt8)) (w : World) (hc : w.cell? ⟨g, 0, none⟩ = some (.slice A ps.length c)) (hf : w.frozen? ⟨g, 0, none⟩ = false) (hr : RdT w (.slice A ps.length c) ps) (hl : ps.length ≤ 1000) :
    Calls Tryz.prog 82 #[.pointer (some ⟨g, 0, none⟩)] w (PopPost g A c ps w) := by
  obtain ⟨A', c', he, hlc, _, hcell⟩ := hr
  cases he
  by_cases h0 : ps = []
  · subst h0
    rw [List.length_nil] at *
    clear hcell
    go_enter Tryz.func82, Tryz.ntmps82
    go_wp2
    go_ret2
    exact .inl ⟨rfl, rfl, rfl⟩
  · have hp : 0 < ps.length := List.length_pos_iff.2 h0
    obtain ⟨b, off, rfl, hb, hcs⟩ := hcell hp
    have hcl := hcs (ps.length - 1) _ (last_mem9 h0)
    obtain ⟨T, hT⟩ : ∃ T : Value, (.string ⟨(ps.getD (ps.length - 1) []).toArray⟩ : Value) = T := ⟨_, rfl⟩
    rw [hT] at hcl
    have H0 := Lib.hid (And.intro h0 hT); clear h0 hT hcs
    obtain ⟨m, hm⟩ : ∃ m, ps.length = m + 1 := ⟨ps.length - 1, by omega⟩
    have hmI : (m : Int) + 1 ≤ 1000 := by omega
    have HM := Lib.hid (show ps.length - 1 = m by omega)
    have hmc : m ≤ c := by omega
    clear hl hp hlc hcell
    rw [hm] at hc hcl
    rw [Nat.add_sub_cancel] at hcl
    clear hm
    go_enter Tryz.func82, Tryz.ntmps82
    go_wp2
    go_ret2
    exact .inr ⟨H0.out.1, by rw [H0.out.2]; rfl, by rw [HM.out]⟩

theorem cloneT (v : Value) (ss : List (List UInt8)) (w : World) (h : RdT w v ss) (hl : ss.length ≤ 2000000) :
    Calls Tryz.prog 54 #[v] w fun e w' => ∃ u, e = .returned u ∧ OwnT w' w.heap.size w'.heap.size u ss ∧ Below w.heap.size w w' := by
  obtain ⟨i0, hi0, hz0, hz1, hz2⟩ := info_parts strInfo
  obtain ⟨A, c, rfl, hlc, hm, hr⟩ := h
  rcases A with _ | a
  · have h0 : ss = [] := by
      rcases ss with _ | ⟨z, zs⟩
      · rfl
      · obtain ⟨b, off, e, _⟩ := hr (by simp); cases e
    subst h0
    have hnil := fun (W : World) (n c : Nat) => Lib.run_eql_slice_nil (P := Tryz.prog) W 24 9 none n c 0 0 Tryz.underlying24
    clear hr hlc hm
    go_enter Tryz.func54, Tryz.ntmps54
    go_wp2
    go_ret
    exact ⟨_, rfl, OwnT.nil _ _ _, Below.refl _ _⟩
  · have HC : Hid (∀ j u, (strVals ss)[j]? = some u → (w.alloc (.cells #[] 9)).cell? (a.add j) = some u) := Lib.hid fun j u hu => by
      have hj : j < ss.length := by
        have := (List.getElem?_eq_some_iff.1 hu).1
        rwa [strVals_len] at this
      obtain ⟨b, off, e, hb, hc⟩ := hr (by omega)
      cases e
      rw [Addr.add_lit, World.cell?_alloc_lt _ _ _ (by simpa using hb)]
      rw [hc j _ (List.getElem?_eq_getElem hj), ← hu, strVals_get (List.getElem?_eq_getElem hj)]
    clear hr
    have hnil := fun (W : World) (a : Option Addr) (n c : Nat) => Lib.run_eql_slice_nil (P := Tryz.prog) W 24 9 a n c 0 0 Tryz.underlying24
    have L0 := World.ownsRow_made (e := 9) (size := 1) w #[] 0 (Nat.le_refl w.heap.size) (Nat.zero_le _) rfl
    go_enter Tryz.func54, Tryz.ntmps54
    go_wp2_with (at_builtin; refine wpList_append_own _ rfl _ _ 24 rfl w.heap.size 9 i0 (.string ⟨#[]⟩) 1 16 Tryz.underlying24 hi0 hz0 hz1 hz2 rfl (by decide) _ _ _ rfl L0 a ss.length c (strVals ss) rfl ?q1 HC.out ?q3 ?q4 ?q5 ?q6 ?_)
    case q1 => simp [strVals]
    case q3 => intro u hu; obtain ⟨x, _, rfl⟩ := List.mem_map.1 hu; rfl
    case q4 => unfold maxLen; omega
    case q5 => omega
    case q6 => simp
    intro v1 w1 hown1 hg1 _
    have hb1 : Below w.heap.size w w1 := ((Below.refl w.heap.size w).alloc (Nat.le_refl _) _).grown hg1 (by simp) (by intro k hk; simp [Value.ownBlock] at hk; omega)
    have X := Lib.hid (And.intro (show w1.ownsRow w.heap.size 9 1 v1 ss.length (strVals ss) from by simpa using hown1) hb1)
    clear hown1 hg1 hb1 L0
    go_wp2
    go_ret
    exact ⟨_, rfl, ⟨X.out.1, fun k hk => (X.out.1.lt k hk).2⟩, X.out.2⟩

set_option maxHeartbeats 2000000 in
theorem cloneBench_any (vn vp : Value) (n : List Int) (ps : List (List UInt8)) (w : World) (h0 : RdI w vn n) (h1 : RdT w vp ps) (hl0 : n.length ≤ 1048576) (hl1 : ps.length ≤ 1048576) :
    Calls Tryz.prog 23 #[.agg #[vn, vp]] w fun e w' => ∃ u0 u1, e = .returned (.agg #[u0, u1]) ∧ Own w' w.heap.size u0 n ∧ OwnWT w' w.heap.size w'.heap.size u1 ps ∧ Below w.heap.size w w' := by
  obtain ⟨W, hW⟩ : ∃ W, (w.alloc (.cells #[vn, vp] 26)).alloc (.cells #[.slice none 0 0, .slice none 0 0] 26) = W := ⟨_, rfl⟩
  have hbW : Below w.heap.size w W := by rw [← hW]; exact ((Below.refl _ _).alloc (Nat.le_refl _) _).alloc (by simp) _
  have hz : W.heap.size = w.heap.size + 2 := by rw [← hW]; simp
  have hB0 : Blk W w.heap.size #[vn, vp] 26 := by rw [← hW]; exact (Blk.new w _ _).below ((Below.refl (w.heap.size + 1) _).alloc (by simp) _) (by omega)
  have hB1 : Blk W (w.heap.size + 1) #[.slice none 0 0, .slice none 0 0] 26 := by
    have := Blk.new (w.alloc (.cells #[vn, vp] 26)) #[.slice none 0 0, .slice none 0 0] 26
    rw [World.size_alloc] at this
    rw [← hW]; exact this
  have bD : Below W.heap.size W W.drew := (Below.refl _ _).drew
  have D := Lib.hid (And.intro ((h0.step hbW).step bD) (And.intro ((RdT.step h1 hbW).step bD) (And.intro bD (And.intro hbW (And.intro hB0 hB1)))))
  obtain ⟨b0, b1, _, _⟩ := blk_pair hB0
  clear h0 h1 bD hbW hB0 hB1
  go_enter Tryz.func23, Tryz.ntmps23
  go_wp2
  try rw [hW]
  go_region_law (first
    | (go_simp; go_at_call 53; refine (clone9 vn n _ D.out.1 (by omega)).mono ?_; rintro e w3 ⟨u0, rfl, ho, hb3⟩; obtain ⟨A7, c7, rfl, _⟩ := ho.rd; have hs3 : W.heap.size ≤ w3.heap.size := hb3.size; have bb3 : Below W.heap.size W w3 := D.out.2.2.1.trans hb3; obtain ⟨k0, k1, _, _⟩ := blk_pair (D.out.2.2.2.2.1.below bb3 (by omega)); have X3 := Lib.hid (And.intro (show Own w3 W.heap.size _ n from ho.own) (And.intro (D.out.2.1.step hb3) bb3)); clear ho hb3 bb3)
    | (go_simp; go_at_call 54; refine (cloneT vp ps _ X3.out.2.1 (by omega)).mono ?_; rintro e w4 ⟨u1, rfl, ho, hb4⟩; obtain ⟨A8, c8, rfl, _⟩ := ho.rd; have hs4 : w3.heap.size ≤ w4.heap.size := hb4.size; have bb4 : Below W.heap.size W w4 := X3.out.2.2.trans (hb4.mono hs3); obtain ⟨l0, l1, _, _⟩ := blk_pair (D.out.2.2.2.2.1.below bb4 (by omega)); have hR := D.out.2.2.2.2.2.below bb4 (by omega); obtain ⟨r0, r1, s0, s1⟩ := blk_pair hR; have X4 := Lib.hid (And.intro (X3.out.1.below hb4) (And.intro ho bb4)); clear ho hb4 bb4)
    | fail)
  all_goals (
    have HRR := Lib.hid hR
    clear hR
    go_wp2
    obtain ⟨q0, q1, _, _⟩ := blk_pair ((HRR.out.set 0 (.slice A7 n.length c7)).set 1 (.slice A8 ps.length c8))
    refine bodyPost_ret (v := .agg #[.slice A7 n.length c7, .slice A8 ps.length c8]) (by simp [results, Tryz.results23, go_sem, q0, q1]) rfl ?_
    have hw := X4.out.2.2.size
    refine ⟨_, _, rfl, ((X4.out.1.far9 (by omega) 0 _).far9 (by omega) 1 _).mono (by omega), (((OwnT.win X4.out.2.1).far9 (by omega) 0 _).far9 (by omega) 1 _).mono (by omega) (by simp [World.setCell]), ((D.out.2.2.2.1.trans (X4.out.2.2.mono (by omega))).setCell (by simp) _).setCell (by simp) _⟩)

theorem goBack_any (lo g : Nat) (vn vp : Value) (n : List Int) (ps : List (List UInt8)) (w : World) (h : BnAt w lo g vn vp n ps) (hl : ps.length ≤ 20) (hz : ∀ t ∈ ps, t.length ≤ 400) (ht : ∀ w', Below lo w w' → Tabs w') :
    Calls Tryz.prog 57 #[.pointer (some ⟨g, 0, none⟩)] w fun e w' => e = .returned (.bool (backR n ps).2) ∧ Bn w' lo g (backR n ps).1 ∧ Below lo w w' := by
  obtain ⟨b0, b1, f0, f1⟩ := h.cells
  have hlo := h.low
  have hlt := h.lt
  have hge := h.ge
  obtain ⟨A, c, rfl, _⟩ := h.past.rd
  obtain ⟨W, hW⟩ : ∃ W, w.alloc (.cells #[.slice A ps.length c] 104) = W := ⟨_, rfl⟩
  have hbW : Below w.heap.size w W := by rw [← hW]; exact (Below.refl _ _).alloc (Nat.le_refl _) _
  have hbx : Blk W w.heap.size #[.slice A ps.length c] 104 := by rw [← hW]; exact Blk.new w _ _
  have hzW : W.heap.size = w.heap.size + 1 := by rw [← hW]; simp
  have c0 : W.cell? ⟨w.heap.size, 0, none⟩ = some (.slice A ps.length c) := hbx.cell 0
  have d0 := hbx.free 0
  by_cases hne : ps = []
  · have HR := Lib.hid (show backR n ps = ((n, ps), false) by rw [backR, if_pos hne])
    have HN := Lib.hid hne
    have H := Lib.hid (And.intro (h.step hbW) (And.intro (hbW.mono hlo) (And.intro c0 (And.intro d0 (h.step hbW).past.rd)))); clear h hbW hbx hne c0 d0 ht hz
    go_enter Tryz.func57, Tryz.ntmps57
    go_wp2_with fail
    try rw [hW]
    refine (popT_any _ A c ps W H.out.2.2.1 H.out.2.2.2.1 H.out.2.2.2.2 (by omega)).mono ?_
    rintro e w' (⟨_, rfl, rfl⟩ | ⟨h1, _⟩)
    · go_wp2
      go_ret
      rw [HR.out]
      exact ⟨rfl, ⟨_, _, H.out.1⟩, H.out.2.1⟩
    · exact absurd HN.out h1
  · have hpos : 0 < ps.length := List.length_pos_iff.2 hne
    have HN := Lib.hid hne
    have hm := hz _ (List.mem_of_getElem? (last_mem9 hne))
    obtain ⟨t, HT⟩ : ∃ t, Hid (ps.getD (ps.length - 1) [] = t) := ⟨_, Lib.hid rfl⟩
    rw [HT.out] at hm
    rcases hP : readProgP t with ⟨p, ok⟩
    have HR := Lib.hid (show backR n ps = ((p, ps.take (ps.length - 1)), true) by rw [backR, if_neg hne, HT.out, hP])
    obtain ⟨B9, hB9⟩ : ∃ B9 : ByteArray, (⟨t.toArray⟩ : ByteArray) = B9 := ⟨_, rfl⟩
    have hBl : B9.size ≤ 100000000 := by rw [← hB9]; simp [ByteArray.size]; omega
    have HP := Lib.hid (show readProgP (bytesOf B9) = (p, ok) by rw [← hB9, bytes_mk]; exact hP)
    have HB9 := Lib.hid hB9
    have b2 : Below w.heap.size w (W.setCell ⟨w.heap.size, 0, none⟩ (.slice A (ps.length - 1) c)) := hbW.setCell (Nat.le_refl _) _
    obtain ⟨X, hX⟩ : ∃ X, W.setCell ⟨w.heap.size, 0, none⟩ (.slice A (ps.length - 1) c) = X := ⟨_, rfl⟩
    have hB2 : Blk X w.heap.size #[.slice A (ps.length - 1) c] 104 := by rw [← hX]; exact hbx.set 0 _
    rw [hX] at b2
    have hzX := hB2.lt
    have H := Lib.hid (And.intro (h.step b2) (And.intro (b2.mono hlo) (And.intro c0 (And.intro d0 (And.intro (h.step hbW).past.rd (And.intro hB2 (fun w' (h' : Below lo X w') => ht w' ((b2.mono hlo).trans h')))))))); clear h hbW hbx hne c0 d0 ht hz hP hB9 b2 hB2
    have HX := Lib.hid hX; clear hX
    go_enter Tryz.func57, Tryz.ntmps57
    go_wp2_with fail
    try rw [hW]
    refine (popT_any _ A c ps W H.out.2.2.1 H.out.2.2.2.1 H.out.2.2.2.2.1 (by omega)).mono ?_
    rintro e w' (⟨h1, _⟩ | ⟨_, rfl, rfl⟩)
    · exact absurd h1 HN.out
    rw [HX.out, HT.out, HB9.out]
    have Tq := Lib.hid (H.out.2.2.2.2.2.2 X (Below.refl _ _)).1
    go_wp2_with fail
    refine (ReadProg_I B9 _ hBl p ok HP.out Tq.out).mono ?_
    rintro e w4 ⟨u, rfl, ho, hb⟩
    have hz4 := hb.size
    have h4 := H.out.1.step hb
    have hB4 := H.out.2.2.2.2.2.1.below hb (by omega)
    have hB5 : Blk (w4.setCell ⟨g, 0, none⟩ u) w.heap.size #[.slice A (ps.length - 1) c] 104 := hB4.other (by omega) 0 u
    obtain ⟨Au, cu, rfl, _⟩ := ho.rd
    have h5 := h4.set0 (ho.own.mono (show lo ≤ X.heap.size by omega))
    have h6 := h5.set1 (OwnWT.front9 h5.past (ps.length - 1) (by omega))
    obtain ⟨q0, q1, g0, g1⟩ := h4.cells
    obtain ⟨r0, r1, s0, s1⟩ := h5.cells
    have e0 : (w4.setCell ⟨g, 0, none⟩ (.slice Au p.length cu)).cell? ⟨w.heap.size, 0, none⟩ = some (.slice A (ps.length - 1) c) := hB5.cell 0
    have FIN := Lib.hid (And.intro h6 (show Below lo w ((w4.setCell ⟨g, 0, none⟩ (.slice Au p.length cu)).setCell ⟨g, 1, none⟩ (.slice A (ps.length - 1) c)) from ((H.out.2.1.trans (hb.mono (by omega))).setCell hge _).setCell hge _))
    clear h4 hB4 hB5 h5 h6 ho hb
    go_wp2
    go_ret
    rw [HR.out]
    exact ⟨rfl, ⟨_, _, FIN.out.1⟩, FIN.out.2⟩

def LeftPost (w : World) (y : List Int) (ok : Bool) (e : Ending) (w' : World) : Prop := ∃ u, e = .returned (.tuple #[u, .bool ok]) ∧ Own w' w.heap.size u y ∧ Below w.heap.size w w'
theorem values_any (lo g : Nat) (vn vp : Value) (n : List Int) (ps : List (List UInt8)) (w : World) (h : BnAt w lo g vn vp n ps) (hn : n.length ≤ 60) :
    Calls Tryz.prog 78 #[.pointer (some ⟨g, 0, none⟩)] w fun e w' => ∃ u, e = .returned u ∧ OwnS w' w.heap.size w'.heap.size u (progStackR n).1 ∧ Below w.heap.size w w' := by
  obtain ⟨b0, b1, f0, f1⟩ := h.cells
  rcases hR : progStackR n with ⟨y, b⟩
  have H := Lib.hid (And.intro h.now.ints hR); clear h hR
  go_enter Tryz.func78, Tryz.ntmps78
  go_wp2_with fail
  refine (ProgStack_I vn n _ H.out.1 (by omega) y b H.out.2).mono ?_
  rintro e w1 ⟨u, rfl, ho, hb⟩
  have X := Lib.hid (And.intro ho hb); clear ho hb
  go_wp2
  go_ret
  exact ⟨u, rfl, X.out.1, X.out.2⟩
theorem leftBy_any (lo g : Nat) (vn vp : Value) (n : List Int) (ps : List (List UInt8)) (S : ByteArray) (w : World) (h : BnAt w lo g vn vp n ps) (hn : bsB n = true) (hS : S.size ≤ 100000000) (ht : ∀ w', Below lo w w' → Tabs w') :
    Calls Tryz.prog 55 #[.pointer (some ⟨g, 0, none⟩), .string S] w (LeftPost w (leftByR n (bytesOf S)).1 (leftByR n (bytesOf S)).2) := by
  have hn60 := (bsB_valid hn).2
  have hlo := h.low
  rcases hP : readProgP (bytesOf S) with ⟨p, ok⟩
  have hpl : p.length ≤ 60 := by
    unfold readProgP at hP
    rcases hr : readProgR (bytesOf S) with _ | q
    · rw [hr] at hP; cases hP; simp
    · rw [hr] at hP; cases hP; exact validB_len (prog_read hr).1
  rcases ok with _ | _
  · have HL := Lib.hid (show leftByR n (bytesOf S) = ([], false) by unfold leftByR; rw [hP]; rfl)
    have HP := Lib.hid hP; clear hP
    have H := Lib.hid (ht w (Below.refl _ _)).1; clear ht h
    go_enter Tryz.func55, Tryz.ntmps55
    go_wp2_with fail
    refine (ReadProg_I S _ hS p false HP.out H.out).mono ?_
    rintro e w1 ⟨u, rfl, ho, hb⟩
    have X := Lib.hid hb; clear ho hb
    go_wp2
    go_ret2
    rw [HL.out]
    exact ⟨_, rfl, Own.nil _ _, X.out⟩
  · rcases hR : runOfR p (progStackR n).1 with ⟨y0, y1, y2⟩
    have HP := Lib.hid hP
    have H := Lib.hid (And.intro h (ht w (Below.refl _ _)).1)
    have HL0 := Lib.hid (show leftByR n (bytesOf S) = if y2 = true then stackProgR y0 else ([], false) by unfold leftByR; rw [hP, if_pos rfl, hR])
    have hys := stackB_small (runOfR_stack hR)
    have HR := Lib.hid hR; clear hR hP ht h
    go_enter Tryz.func55, Tryz.ntmps55
    go_wp2_with fail
    refine (ReadProg_I S _ hS p true HP.out H.out.2).mono ?_
    rintro e w1 ⟨u, rfl, ho, hb⟩
    have hs1 := hb.size
    have X := Lib.hid (And.intro (H.out.1.step hb) (And.intro ho hb)); clear ho hb H
    go_wp2_with fail
    refine (values_any lo g vn vp n ps _ X.out.1 hn60).mono ?_
    rintro e w2 ⟨u2, rfl, ho, hb⟩
    have hs2 := hb.size
    have Y := Lib.hid (And.intro (X.out.2.1.below hb) (And.intro ho (X.out.2.2.trans (hb.mono hs1)))); clear ho hb X
    go_wp2_with fail
    refine (RunOf_I u p u2 _ _ Y.out.1.rd (by omega) Y.out.2.1.rd y0 y1 y2 HR.out).mono ?_
    rintro e w3 ⟨u3, rfl, ho, hb⟩
    have Z := Lib.hid (And.intro ho (Y.out.2.2.trans (hb.mono (by omega)))); clear ho hb Y
    have hs3 := Z.out.2.size
    rcases y2 with _ | _
    · have HL := Lib.hid (show leftByR n (bytesOf S) = ([], false) by rw [HL0.out]; rfl)
      go_wp2
      go_ret2
      rw [HL.out]
      exact ⟨_, rfl, Own.nil _ _, Z.out.2⟩
    · rcases hq : stackProgR y0 with ⟨q, b⟩
      have HL := Lib.hid (show leftByR n (bytesOf S) = (q, b) by rw [HL0.out, if_pos rfl, hq])
      have HQ := Lib.hid hq; clear hq
      go_wp2_with fail
      refine (StackProg_I u3 y0 _ Z.out.1.rd hys.1 hys.2.1 q b HQ.out).mono ?_
      rintro e w4 ⟨u4, rfl, ho, hb⟩
      have V := Lib.hid (And.intro ho (Z.out.2.trans (hb.mono hs3))); clear ho hb Z
      go_wp2
      go_ret2
      rw [HL.out]
      exact ⟨_, rfl, V.out.1.own.mono hs3, V.out.2⟩
end Go.Proofs.YtjblecinkedppaaGreatDoor

/- Rows of deeds (structs of a number and a string): read, and of the call's own: kept, appended to; literals; what the reader gives of one. -/
namespace Go.Proofs.YtjblecinkedppaaGreatDoor
set_option maxRecDepth 100000
open Go.RowKit Go.WideShapes Go.ChangeShapes Go.Deep

abbrev Deeds := List (Int × List UInt8)
def flatD (ds : Deeds) : List Value := ds.flatMap fun d => [.int .i64 d.1, .string ⟨d.2.toArray⟩]
theorem flatD_cons (d : Int × List UInt8) (ds : Deeds) : flatD (d :: ds) = .int .i64 d.1 :: .string ⟨d.2.toArray⟩ :: flatD ds := rfl
theorem flatD_append (a b : Deeds) : flatD (a ++ b) = flatD a ++ flatD b := by simp [flatD]
theorem flatD_length (ds : Deeds) : (flatD ds).length = ds.length * 2 := by
  induction ds with
  | nil => rfl
  | cons m ds ih => rw [flatD_cons]; simp only [List.length_cons, ih]; omega
theorem flatD_get {ds : Deeds} {k : Nat} {d : Int × List UInt8} (h : ds[k]? = some d) : (flatD ds)[k * 2]? = some (.int .i64 d.1) ∧ (flatD ds)[k * 2 + 1]? = some (.string ⟨d.2.toArray⟩) := by
  induction ds generalizing k with
  | nil => simp at h
  | cons m ds ih =>
    rw [flatD_cons]
    rcases k with _ | k
    · simp at h; subst h; exact ⟨rfl, rfl⟩
    · simp at h
      have := ih h
      rw [show (k + 1) * 2 = k * 2 + 1 + 1 from by omega]
      simpa using this
def RdBD (w : World) (B : Nat) (v : Value) (ds : Deeds) : Prop := ∃ A c, v = .slice A ds.length c ∧ ds.length ≤ 9223372036854775807 ∧ (0 < ds.length → ∃ b off, A = some ⟨b, off, none⟩ ∧ b < B ∧ ∀ (j : Nat) d, ds[j]? = some d → w.cell? ⟨b, off + j * 2, none⟩ = some (.int .i64 d.1) ∧ w.cell? ⟨b, off + j * 2 + 1, none⟩ = some (.string ⟨d.2.toArray⟩))
abbrev RdD (w : World) (v : Value) (ds : Deeds) : Prop := RdBD w w.heap.size v ds
theorem RdBD.below {w w' : World} {B : Nat} {v : Value} {ds : Deeds} (h : RdBD w B v ds) (hb : Below B w w') : RdBD w' B v ds := by
  obtain ⟨A, c, rfl, hl, hr⟩ := h
  refine ⟨A, c, rfl, hl, fun h0 => ?_⟩
  obtain ⟨b, off, rfl, hlt, hc⟩ := hr h0
  exact ⟨b, off, rfl, hlt, fun j m hj => ⟨(hb.cell (p := ⟨b, off + j * 2, none⟩) hlt).trans (hc j m hj).1, (hb.cell (p := ⟨b, off + j * 2 + 1, none⟩) hlt).trans (hc j m hj).2⟩⟩
theorem RdBD.mono {w : World} {B B' : Nat} {v : Value} {ds : Deeds} (h : RdBD w B v ds) (hB : B ≤ B') : RdBD w B' v ds := by
  obtain ⟨A, c, rfl, hl, hr⟩ := h
  refine ⟨A, c, rfl, hl, fun h0 => ?_⟩
  obtain ⟨b, off, rfl, hlt, hc⟩ := hr h0
  exact ⟨b, off, rfl, by omega, hc⟩
theorem RdD.step {w w' : World} {v : Value} {ds : Deeds} (h : RdD w v ds) (hb : Below w.heap.size w w') : RdD w' v ds := RdBD.mono (RdBD.below h hb) hb.size

/-- A row of deeds of the call's own in the blocks from lo on and below hi. -/
structure OwnD (w : World) (lo hi : Nat) (v : Value) (ds : Deeds) : Prop where
  own : w.ownsRow lo 28 2 v ds.length (flatD ds)
  lt : ∀ g, v.ownBlock = some g → g < hi
section
variable {w w' : World} {lo hi : Nat} {v : Value} {ds : Deeds}
theorem OwnD.len_le (h : OwnD w lo hi v ds) : ds.length ≤ 9223372036854775807 := by
  rcases h.own.2 with ⟨_, h0⟩ | ⟨g, cap, cur, _, _, _, h1, h2, _⟩
  · omega
  · unfold maxLen at h2; omega
theorem OwnD.rd (h : OwnD w lo hi v ds) : RdD w v ds := by
  have hl := h.len_le
  rcases hx : h.own.2 with ⟨rfl, h0⟩ | ⟨g, cap, cur, rfl, hb, hh, h1, h2, _⟩
  · have hz : ds = [] := List.eq_nil_of_length_eq_zero h0
    subst hz
    exact ⟨none, 0, rfl, by simp, fun h => by simp at h⟩
  · refine ⟨_, _, rfl, hl, fun _ => ⟨g, 0, rfl, (h.own.lt g rfl).2, fun j m hj => ?_⟩⟩
    have hjl : j < ds.length := (List.getElem?_eq_some_iff.1 hj).1
    obtain ⟨e0, e1⟩ := flatD_get hj
    constructor
    · rw [Nat.zero_add, h.own.cellAt _ (by omega), e0]
    · rw [Nat.zero_add, h.own.cellAt _ (by omega), e1]
theorem OwnD.apart {lo' hi' : Nat} (h : OwnD w lo hi v ds) (hw : Within lo' hi' w w') (hd : hi ≤ lo' ∨ hi' ≤ lo) : OwnD w' lo hi v ds := by
  refine ⟨⟨h.own.1, ?_⟩, h.lt⟩
  rcases h.own.2 with h0 | ⟨g, cap, cur, rfl, hb, hh, h1⟩
  · exact .inl h0
  · have hg := h.lt g rfl
    exact .inr ⟨g, cap, cur, rfl, hb, (hw.block g (h.own.lt g rfl).2 (by omega)).trans hh, h1⟩
theorem OwnD.belowB {B : Nat} (h : OwnD w lo hi v ds) (hb : Below B w w') (hB : hi ≤ B) : OwnD w' lo hi v ds := by
  refine ⟨⟨h.own.1, ?_⟩, h.lt⟩
  rcases h.own.2 with h0 | ⟨g, cap, cur, rfl, hb', hh, h1⟩
  · exact .inl h0
  · have hg := h.lt g rfl
    exact .inr ⟨g, cap, cur, rfl, hb', (hb.block g (by omega)).trans hh, h1⟩
theorem OwnD.below (h : OwnD w lo hi v ds) (hb : Below w.heap.size w w') : OwnD w' lo hi v ds := by
  refine ⟨⟨h.own.1, ?_⟩, h.lt⟩
  rcases h.own.2 with h0 | ⟨g, cap, cur, rfl, hb', hh, h1⟩
  · exact .inl h0
  · exact .inr ⟨g, cap, cur, rfl, hb', (hb.block g (h.own.lt g rfl).2).trans hh, h1⟩
theorem OwnD.mono {lo' hi' : Nat} (h : OwnD w lo hi v ds) (hl : lo' ≤ lo) (hh : hi ≤ hi') : OwnD w lo' hi' v ds := by
  refine ⟨⟨h.own.1, ?_⟩, fun g hg => Nat.lt_of_lt_of_le (h.lt g hg) hh⟩
  rcases h.own.2 with h0 | ⟨g, cap, cur, rfl, hb', h1⟩
  · exact .inl h0
  · exact .inr ⟨g, cap, cur, rfl, by omega, h1⟩
theorem OwnD.nil (w : World) (lo hi : Nat) : OwnD w lo hi (.slice none 0 0) [] := ⟨World.ownsRow_nil _ _ _ _, by simp [Value.ownBlock]⟩
end
theorem OwnD.lits (w : World) (ds : Deeds) (hn : ds.length ≤ 1000) : OwnD (w.alloc (.cells (flatD ds).toArray 28)) w.heap.size (w.heap.size + 1) (.slice (some ⟨w.heap.size, 0, none⟩) ds.length ds.length) ds := by
  have h := World.ownsRow_lit (base := w.heap.size) (e := 28) (size := 2) w (flatD ds).toArray ds.length (Nat.le_refl _) (by unfold maxLen; omega) (by simp [flatD_length])
  exact ⟨by simpa using h, by simp [Value.ownBlock]⟩
theorem deedInfo : (Tryz.prog.info? 28).map (fun i => (i.zero, i.size, i.bytes)) = some (some (.agg #[.int .i64 0, .string ⟨#[]⟩]), 2, 24) := by kernel_rfl

/-- append(s, d) of a deed to a row of the call's own, the deed laid in a block of its own ahead. -/
theorem wpList_append_D {P : Program} {w : World} {ops : Array Oper} {rest : List Oper} {o : Oper} {a : Act} {Q : Exit → Act → World → Prop} (hgd : o.guard = none) (s x : Operand) (t : TypeId)
    (ho : o.op = .call { callee := .builtin .append, args := #[s, x], argTypes := #[t, t] })
    (ht : P.underlying t = some (.slice 28)) (hinfo : (P.info? 28).map (fun i => (i.zero, i.size, i.bytes)) = some (some (.agg #[.int .i64 0, .string ⟨#[]⟩]), 2, 24))
    (lo hi : Nat) (v : Value) (ds : Deeds) (hs : a.eval s = v) (hown : OwnD w lo hi v ds) (hlo : lo ≤ w.heap.size)
    (b : Nat) (z1 : Int) (u2 : Value) (z2 : List UInt8) (hx : a.eval x = .slice (some ⟨b, 0, none⟩) 1 1) (h0 : w.cell? ⟨b, 0, none⟩ = some (.int .i64 z1)) (h1 : w.cell? ⟨b, 1, none⟩ = some u2) (hu : u2 = .string ⟨z2.toArray⟩) (hlen : ds.length ≤ 1000000000)
    (h : ∀ v' w', OwnD w' lo w'.heap.size v' (ds ++ [(z1, z2)]) → Below lo w w' → w.grownBy w' v.ownBlock → (v'.ownBlock = v.ownBlock ∨ v'.ownBlock = some w.heap.size) → wpList P ops Q rest (a.put o.dst v') w') : wpList P ops Q (o :: rest) a w := by
  subst hu
  obtain ⟨i, hi1, hz, hsz, hby⟩ := info_parts hinfo
  refine wpList_append_own_at w hgd s x t ho lo 28 i (.agg #[.int .i64 0, .string ⟨#[]⟩]) 2 24 ht hi1 hz hsz hby rfl (by omega) v ds.length _ hs hown.own ⟨b, 0, none⟩ 1 1 [.int .i64 z1, .string ⟨z2.toArray⟩] hx rfl ?_ ?_ (by unfold maxLen; omega) (by omega) hlo ?_
  · intro j u hu
    rcases j with _ | _ | j
    · simp at hu; subst hu; simpa [Addr.add] using h0
    · simp at hu; subst hu; simpa [Addr.add] using h1
    · simp at hu
  · intro u hu
    simp at hu
    rcases hu with rfl | rfl <;> rfl
  · intro v' w' h2 h3 _ h5
    have hlen' : (ds ++ [(z1, z2)]).length = ds.length + 1 := by simp
    refine h v' w' ⟨?_, fun g hg => (h2.lt g hg).2⟩ (below_of_only h3 hlo fun k hk => (hown.own.lt k hk).1) h3 h5
    rw [hlen', flatD_append]
    exact h2
end Go.Proofs.YtjblecinkedppaaGreatDoor

/- The program's BenchDo. -/
namespace Go.Proofs.YtjblecinkedppaaGreatDoor
set_option maxRecDepth 100000
open Go.RowKit Go.WideShapes Go.Deep

set_option maxHeartbeats 2000000 in
theorem do_any (lo g : Nat) (vn vp : Value) (n : List Int) (ps : List (List UInt8)) (k : Int) (S : ByteArray) (w : World) (h : BnAt w lo g vn vp n ps) (hv : benchB n ps = true) (hS : S.size ≤ 100000000) (ht : ∀ w', Below lo w w' → Tabs w') :
    Calls Tryz.prog 24 #[.pointer (some ⟨g, 0, none⟩), .agg #[.int .i64 k, .string S]] w fun e w' => e = .returned (.bool (doR n ps k (bytesOf S)).2) ∧ Bn w' lo g (doR n ps k (bytesOf S)).1 ∧ Below lo w w' := by
  obtain ⟨hn, hp, hm⟩ := benchB_parts hv
  have hmz : ∀ t ∈ ps, t.length ≤ 400 := fun t h => tsB_len (hm t h)
  have hlo := h.low
  have hal := dealt_below k S w
  obtain ⟨W, hW⟩ : ∃ W, w.alloc (.cells #[.int .i64 k, .string S] 28) = W := ⟨_, rfl⟩
  have hbk : Blk W w.heap.size #[.int .i64 k, .string S] 28 := by rw [← hW]; exact Blk.new w _ _
  rw [hW] at hal
  obtain ⟨b00, b01, _, _⟩ := blk_pair hbk
  have hz := hal.size
  have hltW := hbk.lt
  have S0 := Lib.hid (And.intro (h.step hal) (And.intro (hal.mono hlo) (And.intro hbk (fun w' (h' : Below lo W w') => ht w' ((hal.mono hlo).trans h'))))); clear h hal hbk ht
  have HM := Lib.hid (And.intro hmz hn); clear hmz hm hv hn
  by_cases hk0 : k = 0
  · subst hk0
    rcases hr : leftByR n (bytesOf S) with ⟨x, b⟩
    have HR := Lib.hid hr
    rcases b with _ | _
    · have HT := Lib.hid (show doR n ps 0 (bytesOf S) = ((n, ps), false) by rw [doR, if_pos rfl, hr, if_neg (by simp)]); clear hr
      go_enter Tryz.func24, Tryz.ntmps24
      go_wp2_with fail
      try rw [hW]
      refine (leftBy_any lo g vn vp n ps S W S0.out.1 HM.out.2 hS S0.out.2.2.2).mono ?_
      rw [HR.out]
      rintro e w1 ⟨u, rfl, ho, hb⟩
      have B := Lib.hid (And.intro (S0.out.1.step hb) (S0.out.2.1.trans (hb.mono (by omega)))); clear hb ho
      go_wp2
      go_ret
      rw [HT.out]
      exact ⟨rfl, ⟨_, _, B.out.1⟩, B.out.2⟩
    · have HT := Lib.hid (show doR n ps 0 (bytesOf S) = goOnR n ps x by rw [doR, if_pos rfl, hr, if_pos rfl]); clear hr
      go_enter Tryz.func24, Tryz.ntmps24
      go_wp2_with fail
      try rw [hW]
      refine (leftBy_any lo g vn vp n ps S W S0.out.1 HM.out.2 hS S0.out.2.2.2).mono ?_
      rw [HR.out]
      rintro e w1 ⟨u, rfl, ho, hb⟩
      have B := Lib.hid (And.intro (S0.out.1.step hb) (And.intro (S0.out.2.1.trans (hb.mono (by omega))) (And.intro (ho.mono (show lo ≤ W.heap.size by omega)) (fun w' (h' : Below lo w1 w') => S0.out.2.2.2 w' ((hb.mono (by omega)).trans h'))))); clear hb ho S0
      go_wp2_with fail
      refine (goOn_any lo g vn vp u n x ps w1 B.out.1 B.out.2.2.1 hp B.out.2.2.2).mono ?_
      rintro e w2 ⟨rfl, hbn, hb⟩
      have X := Lib.hid (And.intro hbn (B.out.2.1.trans hb)); clear hbn hb B
      go_wp2
      go_ret
      rw [HT.out]
      exact ⟨rfl, X.out⟩
  · have HK := Lib.hid hk0
    by_cases hs : bytesOf S = []
    · by_cases hk1 : k = 1
      · have HT := Lib.hid (show doR n ps k (bytesOf S) = goOnR n ps [] by rw [doR, if_neg hk0, if_neg (by simp [hs]), if_pos hk1])
        obtain rfl := ba_nil hs
        clear hs
        subst hk1
        go_enter Tryz.func24, Tryz.ntmps24
        go_wp2_with fail
        try rw [hW]
        refine (goOn_any lo g vn vp (.slice none 0 0) n [] ps W S0.out.1 (Own.nil _ _) hp S0.out.2.2.2).mono ?_
        rintro e w2 ⟨rfl, hbn, hb⟩
        have X := Lib.hid (And.intro hbn (S0.out.2.1.trans hb)); clear hbn hb S0
        go_wp2
        go_ret
        rw [HT.out]
        exact ⟨rfl, X.out⟩
      · by_cases hk2 : k = 2
        · have HT := Lib.hid (show doR n ps k (bytesOf S) = backR n ps by rw [doR, if_neg hk0, if_neg (by simp [hs]), if_neg hk1, if_pos hk2])
          obtain rfl := ba_nil hs
          clear hs
          subst hk2
          go_enter Tryz.func24, Tryz.ntmps24
          go_wp2_with fail
          try rw [hW]
          refine (goBack_any lo g vn vp n ps W S0.out.1 hp HM.out.1 S0.out.2.2.2).mono ?_
          rintro e w2 ⟨rfl, hbn, hb⟩
          have X := Lib.hid (And.intro hbn (S0.out.2.1.trans hb)); clear hbn hb S0
          go_wp2
          go_ret
          rw [HT.out]
          exact ⟨rfl, X.out⟩
        · have HT := Lib.hid (show doR n ps k (bytesOf S) = ((n, ps), false) by rw [doR, if_neg hk0, if_neg (by simp [hs]), if_neg hk1, if_neg hk2])
          obtain rfl := ba_nil hs
          clear hs
          go_enter Tryz.func24, Tryz.ntmps24
          go_wp2
          go_ret
          rw [HT.out]
          exact ⟨rfl, ⟨_, _, S0.out.1⟩, S0.out.2.1⟩
    · have HT := Lib.hid (show doR n ps k (bytesOf S) = ((n, ps), false) by rw [doR, if_neg hk0, if_pos hs])
      have hse := ba_ne hs
      clear hs
      go_enter Tryz.func24, Tryz.ntmps24
      go_wp2
      go_ret
      rw [HT.out]
      exact ⟨rfl, ⟨_, _, S0.out.1⟩, S0.out.2.1⟩

/-- A bench and a truth, of the call's own. -/
def BdPost (w : World) (b : Bench9) (ok : Value) (e : Ending) (w' : World) : Prop := ∃ u0 u1, e = .returned (.tuple #[.agg #[u0, u1], ok]) ∧ Own w' w.heap.size u0 b.1 ∧ OwnWT w' w.heap.size w'.heap.size u1 b.2 ∧ Below w.heap.size w w'
theorem Tabs.keep {w w' : World} (h : Tabs w) (hb : Below w.heap.size w w') : Tabs w' := ⟨h.1.below hb h.1.lt, Pow.below h.2 hb⟩
theorem OwnWT.ret {w : World} {lo hi : Nat} {v : Value} {x : List (List UInt8)} (h : OwnWT w lo hi v x) (g k : Nat) (u : Value) (hg : g < lo) : OwnWT (w.setCell ⟨g, k, none⟩ u) lo hi v x := h.far9 hg k u
set_option maxHeartbeats 2000000 in
theorem BenchDo_I (vn vp : Value) (n : List Int) (ps : List (List UInt8)) (k : Int) (S : ByteArray) (w : World) (h0 : RdI w vn n) (h1 : RdT w vp ps) (hl0 : n.length ≤ 1048576) (hl1 : ps.length ≤ 1048576) (hl2 : ∀ t ∈ ps, t.length ≤ 100000000) (hS : S.size ≤ 100000000) (ht : Tabs w) :
    Calls Tryz.prog 6 #[.agg #[vn, vp], .agg #[.int .i64 k, .string S]] w (BdPost w (benchDoR n ps k (bytesOf S)).1 (.bool (benchDoR n ps k (bytesOf S)).2)) := by
  obtain ⟨W, hW⟩ : ∃ W, ((w.alloc (.cells #[vn, vp] 26)).alloc (.cells #[.int .i64 k, .string S] 28)).alloc (.cells #[.slice none 0 0, .slice none 0 0] 26) = W := ⟨_, rfl⟩
  have hbW : Below w.heap.size w W := by rw [← hW]; exact (((Below.refl _ _).alloc (Nat.le_refl _) _).alloc (by simp) _).alloc (by simp; omega) _
  have hz : W.heap.size = w.heap.size + 3 := by rw [← hW]; simp
  have hB0 : Blk W w.heap.size #[vn, vp] 26 := by rw [← hW]; exact ((Blk.new w _ _).below ((Below.refl (w.heap.size + 1) _).alloc (by simp) _) (by omega)).below ((Below.refl (w.heap.size + 1) _).alloc (by simp) _) (by omega)
  have hB1 : Blk W (w.heap.size + 1) #[.int .i64 k, .string S] 28 := by
    have h3 := Blk.new (w.alloc (.cells #[vn, vp] 26)) #[.int .i64 k, .string S] 28
    rw [World.size_alloc] at h3
    rw [← hW]; exact h3.below ((Below.refl (w.heap.size + 2) _).alloc (by simp) _) (by omega)
  have hB2 : Blk W (w.heap.size + 2) #[.slice none 0 0, .slice none 0 0] 26 := by
    have h3 := Blk.new ((w.alloc (.cells #[vn, vp] 26)).alloc (.cells #[.int .i64 k, .string S] 28)) #[.slice none 0 0, .slice none 0 0] 26
    simp only [World.size_alloc] at h3
    rw [← hW]; exact h3
  obtain ⟨A0, c0, rfl, _⟩ := id h0
  obtain ⟨A1, c1, rfl, _⟩ := id h1
  obtain ⟨b0, b1, _, _⟩ := blk_pair hB0
  have S0 := Lib.hid (And.intro (h0.step hbW) (And.intro (RdT.step h1 hbW) (And.intro hbW (And.intro hB0 (And.intro hB1 (And.intro hB2 (ht.keep hbW))))))); clear h0 h1 hbW hB0 hB1 hB2 ht
  have HL := Lib.hid hl2; clear hl2
  rcases hv : benchB n ps with _ | _
  · have HV := Lib.hid hv
    have HR := Lib.hid (show benchDoR n ps k (bytesOf S) = (([], []), false) by rw [benchDoR, hv]; rfl); clear hv
    go_enter Tryz.func6, Tryz.ntmps6
    go_wp2_with fail
    try rw [hW]
    refine (BenchValid_I _ _ n ps W S0.out.1 S0.out.2.1 hl0 hl1 HL.out S0.out.2.2.2.2.2.2.1).mono ?_
    rw [HV.out]
    rintro e w1 ⟨rfl, hb⟩
    have hR := S0.out.2.2.2.2.2.1.below hb (by omega)
    have X := Lib.hid (And.intro (S0.out.2.2.1.trans (hb.mono (by omega))) hR)
    obtain ⟨r0, r1, s0, s1⟩ := blk_pair hR
    clear hb hR b0 b1
    go_wp2
    obtain ⟨q0, q1, _, _⟩ := blk_pair ((X.out.2.set 0 (.slice none 0 0)).set 1 (.slice none 0 0))
    refine bodyPost_ret (v := .tuple #[.agg #[.slice none 0 0, .slice none 0 0], .bool false]) (by simp [results, Tryz.results6, go_sem, q0, q1]) rfl ?_
    rw [HR.out]
    exact ⟨_, _, rfl, Own.nil _ _, .inl ⟨rfl, rfl⟩, (X.out.1.setCell (by simp; omega) _).setCell (by simp; omega) _⟩
  · have HV := Lib.hid hv
    rcases hd : doR n ps k (bytesOf S) with ⟨bb, ok⟩
    have HR := Lib.hid (show benchDoR n ps k (bytesOf S) = (bb, ok) by rw [benchDoR, if_pos hv, hd])
    have HD := Lib.hid hd; clear hv hd
    go_enter Tryz.func6, Tryz.ntmps6
    go_wp2_with fail
    try rw [hW]
    refine (BenchValid_I _ _ n ps W S0.out.1 S0.out.2.1 hl0 hl1 HL.out S0.out.2.2.2.2.2.2.1).mono ?_
    rw [HV.out]
    rintro e w1 ⟨rfl, hb⟩
    have hz1 := hb.size
    have hA := S0.out.2.2.2.1.below hb (by omega)
    have X := Lib.hid (And.intro (S0.out.1.step hb) (And.intro (RdT.step S0.out.2.1 hb) (And.intro (S0.out.2.2.1.trans (hb.mono (by omega))) (And.intro (S0.out.2.2.2.2.1.below hb (by omega)) (And.intro (S0.out.2.2.2.2.2.1.below hb (by omega)) (S0.out.2.2.2.2.2.2.keep hb))))))
    obtain ⟨a0, a1, _, _⟩ := blk_pair hA
    clear hb hA b0 b1 S0
    go_wp2_with fail
    refine (cloneBench_any _ _ n ps w1 X.out.1 X.out.2.1 hl0 hl1).mono ?_
    rintro e w2 ⟨u0, u1, rfl, ho0, ho1, hb⟩
    have hz2 := hb.size
    obtain ⟨A7, c7, rfl, _⟩ := ho0.ints
    obtain ⟨A8, c8, rfl, _⟩ := ho1.rd
    obtain ⟨V, hV⟩ : ∃ V, w2.alloc (.cells #[.slice A7 n.length c7, .slice A8 ps.length c8] 26) = V := ⟨_, rfl⟩
    have hbV : Below w2.heap.size w2 V := by rw [← hV]; exact (Below.refl _ _).alloc (Nat.le_refl _) _
    have hBV : Blk V w2.heap.size #[.slice A7 n.length c7, .slice A8 ps.length c8] 26 := by rw [← hV]; exact Blk.new w2 _ _
    have hzV := hBV.lt
    have hBn : BnAt V w1.heap.size w2.heap.size (.slice A7 n.length c7) (.slice A8 ps.length c8) n ps := ⟨hz2, hBV, ho0.below hbV, (OwnW.below ho1 hbV).mono (Nat.le_refl _) hbV.size⟩
    have hb2V : Below w1.heap.size w1 V := hb.trans (hbV.mono hz2)
    have Y := Lib.hid (And.intro hBn (And.intro (X.out.2.2.1.trans (hb2V.mono (by omega))) (And.intro (X.out.2.2.2.1.below hb2V (by omega)) (And.intro (X.out.2.2.2.2.1.below hb2V (by omega)) (fun w' (h' : Below w1.heap.size V w') => X.out.2.2.2.2.2.keep (hb2V.trans h')))))); clear ho0 ho1 hb hbV hBV hBn hb2V X a0 a1
    obtain ⟨d0, d1, _, _⟩ := blk_pair Y.out.2.2.1
    go_wp2_with fail
    try rw [hV]
    refine (do_any w1.heap.size w2.heap.size _ _ n ps k S V Y.out.1 HV.out hS Y.out.2.2.2.2).mono ?_
    rw [HD.out]
    rintro e w3 ⟨rfl, ⟨v0, v1, hbn⟩, hb⟩
    dsimp only at hbn
    obtain ⟨A5, c5, rfl, _⟩ := hbn.now.ints
    obtain ⟨A6, c6, rfl, _⟩ := hbn.past.rd
    obtain ⟨e0, e1, _, _⟩ := hbn.cells
    have hR := Y.out.2.2.2.1.below hb (by omega)
    obtain ⟨r0, r1, s0, s1⟩ := blk_pair hR
    have Z := Lib.hid (And.intro hbn (And.intro (Y.out.2.1.trans (hb.mono (by omega))) hR)); clear hbn hb hR Y d0 d1
    go_wp2
    obtain ⟨q0, q1, _, _⟩ := blk_pair ((Z.out.2.2.set 0 (.slice A5 bb.1.length c5)).set 1 (.slice A6 bb.2.length c6))
    refine bodyPost_ret (v := .tuple #[.agg #[.slice A5 bb.1.length c5, .slice A6 bb.2.length c6], .bool ok]) (by simp [results, Tryz.results6, go_sem, q0, q1]) rfl ?_
    rw [HR.out]
    exact ⟨_, _, rfl, ((Z.out.1.now.far9 (by omega) 0 _).far9 (by omega) 1 _).mono (by omega), ((Z.out.1.past.far9 (by omega) 0 _).far9 (by omega) 1 _).mono (by omega) (by simp [World.setCell]), (Z.out.2.1.setCell (by simp; omega) _).setCell (by simp; omega) _⟩

set_option maxHeartbeats 4000000 in
theorem BenchRun_I (vn vp vd : Value) (n : List Int) (ps : List (List UInt8)) (ds : Deeds) (w : World) (h0 : RdI w vn n) (h1 : RdT w vp ps) (h2 : RdD w vd ds) (hl0 : n.length ≤ 1048576) (hl1 : ps.length ≤ 1048576) (hl2 : ∀ t ∈ ps, t.length ≤ 100000000) (hld : ds.length ≤ 1048576) (hS : ∀ d ∈ ds, d.2.length ≤ 100000000) (ht : Tabs w) :
    Calls Tryz.prog 16 #[.agg #[vn, vp], vd] w (BdPost w (benchRunR n ps ds).1 (.int .i64 (benchRunR n ps ds).2)) := by
  obtain ⟨W, hW⟩ : ∃ W, (w.alloc (.cells #[vn, vp] 26)).alloc (.cells #[.slice none 0 0, .slice none 0 0] 26) = W := ⟨_, rfl⟩
  have hbW : Below w.heap.size w W := by rw [← hW]; exact ((Below.refl _ _).alloc (Nat.le_refl _) _).alloc (by simp) _
  have hz : W.heap.size = w.heap.size + 2 := by rw [← hW]; simp
  have hB0 : Blk W w.heap.size #[vn, vp] 26 := by rw [← hW]; exact (Blk.new w _ _).below ((Below.refl (w.heap.size + 1) _).alloc (by simp) _) (by omega)
  have hB2 : Blk W (w.heap.size + 1) #[.slice none 0 0, .slice none 0 0] 26 := by
    have h3 := Blk.new (w.alloc (.cells #[vn, vp] 26)) #[.slice none 0 0, .slice none 0 0] 26
    rw [World.size_alloc] at h3
    rw [← hW]; exact h3
  obtain ⟨A0, c0, rfl, _⟩ := id h0
  obtain ⟨A1, c1, rfl, _⟩ := id h1
  obtain ⟨A2, c2, rfl, hdl, hdr⟩ := id h2
  obtain ⟨b0, b1, _, _⟩ := blk_pair hB0
  have S0 := Lib.hid (And.intro (h0.step hbW) (And.intro (RdT.step h1 hbW) (And.intro hbW (And.intro hB0 (And.intro hB2 (And.intro (ht.keep hbW) (RdBD.below (h2 : RdBD w w.heap.size _ ds) hbW))))))); clear h0 h1 h2 hbW hB0 hB2 ht hdr
  have HL := Lib.hid hl2; clear hl2
  have HS := Lib.hid hS; clear hS
  by_cases hv : benchB n ps = true ∧ ds.length ≤ 40
  case neg =>
    have HR := Lib.hid (show benchRunR n ps ds = (([], []), 0) by rw [benchRunR, if_neg hv])
    rcases hv2 : benchB n ps with _ | _
    · have HV := Lib.hid hv2; clear hv hv2
      go_enter Tryz.func16, Tryz.ntmps16
      go_wp2_with fail
      try rw [hW]
      refine (BenchValid_I _ _ n ps W S0.out.1 S0.out.2.1 hl0 hl1 HL.out S0.out.2.2.2.2.2.1.1).mono ?_
      rw [HV.out]
      rintro e w1 ⟨rfl, hb⟩
      have hR := S0.out.2.2.2.2.1.below hb (by omega)
      have X := Lib.hid (And.intro (S0.out.2.2.1.trans (hb.mono (by omega))) hR)
      obtain ⟨r0, r1, s0, s1⟩ := blk_pair hR
      clear hb hR b0 b1
      go_wp2
      obtain ⟨q0, q1, _, _⟩ := blk_pair ((X.out.2.set 0 (.slice none 0 0)).set 1 (.slice none 0 0))
      refine bodyPost_ret (v := .tuple #[.agg #[.slice none 0 0, .slice none 0 0], .int .i64 0]) (by simp [results, Tryz.results16, go_sem, q0, q1]) rfl ?_
      rw [HR.out]
      exact ⟨_, _, rfl, Own.nil _ _, .inl ⟨rfl, rfl⟩, (X.out.1.setCell (by simp) _).setCell (by simp) _⟩
    · have HV := Lib.hid hv2
      have h40 : (40 : Int) < ds.length := by
        have : ¬ ds.length ≤ 40 := fun h => hv ⟨hv2, h⟩
        omega
      clear hv hv2
      go_enter Tryz.func16, Tryz.ntmps16
      go_wp2_with fail
      try rw [hW]
      refine (BenchValid_I _ _ n ps W S0.out.1 S0.out.2.1 hl0 hl1 HL.out S0.out.2.2.2.2.2.1.1).mono ?_
      rw [HV.out]
      rintro e w1 ⟨rfl, hb⟩
      have hR := S0.out.2.2.2.2.1.below hb (by omega)
      have X := Lib.hid (And.intro (S0.out.2.2.1.trans (hb.mono (by omega))) hR)
      obtain ⟨r0, r1, s0, s1⟩ := blk_pair hR
      clear hb hR b0 b1
      go_wp2
      obtain ⟨q0, q1, _, _⟩ := blk_pair ((X.out.2.set 0 (.slice none 0 0)).set 1 (.slice none 0 0))
      refine bodyPost_ret (v := .tuple #[.agg #[.slice none 0 0, .slice none 0 0], .int .i64 0]) (by simp [results, Tryz.results16, go_sem, q0, q1]) rfl ?_
      rw [HR.out]
      exact ⟨_, _, rfl, Own.nil _ _, .inl ⟨rfl, rfl⟩, (X.out.1.setCell (by simp) _).setCell (by simp) _⟩
  case pos =>
    have HV := Lib.hid hv.1
    have h40 : (ds.length : Int) ≤ 40 := by have := hv.2; omega
    have HR := Lib.hid (show benchRunR n ps ds = ((deedsR n ps 0 ds).1, ((deedsR n ps 0 ds).2 : Int)) by rw [benchRunR, if_pos hv])
    clear hv
    go_enter Tryz.func16, Tryz.ntmps16
    go_wp2_with fail
    try rw [hW]
    refine (BenchValid_I _ _ n ps W S0.out.1 S0.out.2.1 hl0 hl1 HL.out S0.out.2.2.2.2.2.1.1).mono ?_
    rw [HV.out]
    rintro e w1 ⟨rfl, hb⟩
    have hz1 := hb.size
    have hA := S0.out.2.2.2.1.below hb (by omega)
    have X := Lib.hid (And.intro (S0.out.1.step hb) (And.intro (RdT.step S0.out.2.1 hb) (And.intro (S0.out.2.2.1.trans (hb.mono (by omega))) (And.intro (S0.out.2.2.2.2.1.below hb (by omega)) (And.intro (S0.out.2.2.2.2.2.1.keep hb) (RdBD.below S0.out.2.2.2.2.2.2 (hb.mono (by omega))))))))
    obtain ⟨a0, a1, _, _⟩ := blk_pair hA
    clear hb hA b0 b1 S0
    go_wp2_with fail
    refine (cloneBench_any _ _ n ps w1 X.out.1 X.out.2.1 hl0 hl1).mono ?_
    rintro e w2 ⟨u0, u1, rfl, ho0, ho1, hb⟩
    have hz2 := hb.size
    obtain ⟨A7, c7, rfl, _⟩ := ho0.ints
    obtain ⟨A8, c8, rfl, _⟩ := ho1.rd
    obtain ⟨V, hV⟩ : ∃ V, w2.alloc (.cells #[.slice A7 n.length c7, .slice A8 ps.length c8] 26) = V := ⟨_, rfl⟩
    have hbV : Below w2.heap.size w2 V := by rw [← hV]; exact (Below.refl _ _).alloc (Nat.le_refl _) _
    have hBV : Blk V w2.heap.size #[.slice A7 n.length c7, .slice A8 ps.length c8] 26 := by rw [← hV]; exact Blk.new w2 _ _
    have hzV := hBV.lt
    have hBn : BnAt V w1.heap.size w2.heap.size (.slice A7 n.length c7) (.slice A8 ps.length c8) n ps := ⟨hz2, hBV, ho0.below hbV, (OwnW.below ho1 hbV).mono (Nat.le_refl _) hbV.size⟩
    have hb2V : Below w1.heap.size w1 V := hb.trans (hbV.mono hz2)
    have Y := Lib.hid (And.intro hBn (And.intro (X.out.2.2.1.trans (hb2V.mono (by omega))) (And.intro (X.out.2.2.2.1.below hb2V (by omega)) (And.intro (RdBD.below X.out.2.2.2.2.2 (hb2V.mono (by omega))) (fun w' (h' : Below w1.heap.size V w') => X.out.2.2.2.2.1.keep (hb2V.trans h')))))); clear ho0 ho1 hb hbV hBV hBn hb2V X a0 a1
    go_wp2
    try rw [hV]
    go_loopw [7, 23] (fun cv i wr => ∃ (j : Nat) (b : Bench9) (c : Nat), j ≤ ds.length ∧ i = .int .i64 j ∧ cv = .int .i64 c ∧ c ≤ j ∧ deedsR n ps 0 (ds.take j) = (b, c) ∧ benchB b.1 b.2 = true ∧ Bn wr w1.heap.size w2.heap.size b ∧ Below w1.heap.size V wr) (fun _ i _ => ds.length - (intOf i).toNat)
    case atStart => exact ⟨0, (n, ps), 0, Nat.zero_le _, rfl, rfl, Nat.le_refl _, by simp [deedsR], HV.out, ⟨_, _, Y.out.1⟩, Below.refl _ _⟩
    case round =>
      obtain ⟨j, b, c, hj, rfl, rfl, hcj, hds, hvb, ⟨v0, v1, hbn⟩, hbk⟩ := hrel
      obtain ⟨bn, bp⟩ := b
      dsimp only at hbn hvb
      have hzk := hbk.size
      by_cases hlt : j < ds.length
      · obtain ⟨A', c', he, _, hr1⟩ := Y.out.2.2.2.1
        cases he
        obtain ⟨bb, off, rfl, hbb, hc⟩ := hr1 (by omega)
        obtain ⟨d, hd⟩ : ∃ d, ds[j]? = some d := ⟨_, List.getElem?_eq_getElem hlt⟩
        obtain ⟨q0, q1⟩ := hc j d hd
        have q0 := (hbk.cell (p := ⟨bb, off + j * 2, none⟩) (show bb < w1.heap.size by omega)).trans q0
        have q1 := (hbk.cell (p := ⟨bb, off + j * 2 + 1, none⟩) (show bb < w1.heap.size by omega)).trans q1
        have hSm := HS.out d (List.mem_of_getElem? hd)
        have hsn := deedsR_snoc (ds.take j) d (n := n) (ps := ps) (c := 0)
        rw [show ds.take j ++ [d] = ds.take (j + 1) by rw [List.take_add_one, hd]; rfl, hds] at hsn
        obtain ⟨d1, d2⟩ := d
        dsimp only at q0 q1 hSm hsn
        obtain ⟨D, hD⟩ : ∃ D : ByteArray, (⟨d2.toArray⟩ : ByteArray) = D := ⟨_, rfl⟩
        have hDs : D.size ≤ 100000000 := by rw [← hD]; simp [ByteArray.size]; omega
        have hDb : bytesOf D = d2 := by rw [← hD, bytes_mk]
        rw [hD] at q1
        rw [← hDb] at hsn
        rcases hdo : doR bn bp d1 (bytesOf D) with ⟨b', ok⟩
        rw [hdo] at hsn
        have hvb' := doR_ok (k := d1) (s := bytesOf D) hvb
        rw [hdo] at hvb'
        obtain ⟨U, hU⟩ : ∃ U, wr.alloc (.cells #[.int .i64 d1, .string D] 28) = U := ⟨_, rfl⟩
        have hbU : Below wr.heap.size wr U := by rw [← hU]; exact (Below.refl _ _).alloc (Nat.le_refl _) _
        obtain ⟨x0, x1, _, _⟩ := blk_pair (show Blk U wr.heap.size #[.int .i64 d1, .string D] 28 by rw [← hU]; exact Blk.new wr _ _)
        have hVU : Below w1.heap.size V U := hbk.trans (hbU.mono (by omega))
        have K := Lib.hid (And.intro (hbn.step hbU) (And.intro hVU (And.intro (fun w' (h' : Below w1.heap.size U w') => Y.out.2.2.2.2 w' (hVU.trans h')) (And.intro hdo (And.intro hvb hvb')))))
        have HSN := Lib.hid hsn
        have hltI : (j : Int) < ds.length := by omega
        have hcI : (c : Int) ≤ j := by omega
        clear hbn hbU hVU hdo hvb hvb' hsn hds hbk hD hDb hd hc hr1
        rcases ok with _ | _
        all_goals
          go_wp2_with fail
          try rw [hU]
          refine (do_any w1.heap.size w2.heap.size v0 v1 bn bp d1 D U K.out.1 K.out.2.2.2.2.1 hDs K.out.2.2.1).mono ?_
          rw [K.out.2.2.2.1]
          rintro e w3 ⟨rfl, hbn3, hb⟩
          have Z := Lib.hid (And.intro hbn3 (K.out.2.1.trans hb)); clear hbn3 hb
          go_wp2
          go_roundw
        case rel => exact ⟨j + 1, b', c, by omega, by go_num, rfl, by omega, by rw [HSN.out]; rfl, K.out.2.2.2.2.2, Z.out.1, Z.out.2⟩
        case measure => simp [intOf]; omega
        case rel => exact ⟨j + 1, b', c + 1, by omega, by go_num, by go_num, by omega, by rw [HSN.out]; rfl, K.out.2.2.2.2.2, Z.out.1, Z.out.2⟩
        case measure => simp [intOf]; omega
      · obtain rfl : j = ds.length := by omega
        rw [List.take_length] at hds
        have HD := Lib.hid (show benchRunR n ps ds = ((bn, bp), (c : Int)) by rw [HR.out, hds])
        obtain ⟨A5, c5, rfl, _⟩ := hbn.now.ints
        obtain ⟨A6, c6, rfl, _⟩ := hbn.past.rd
        obtain ⟨e0, e1, _, _⟩ := hbn.cells
        have hR := Y.out.2.2.1.below hbk (by omega)
        obtain ⟨r0, r1, s0, s1⟩ := blk_pair hR
        have Z := Lib.hid (And.intro hbn (And.intro (Y.out.2.1.trans (hbk.mono (by omega))) hR)); clear hbn hR Y hds hvb
        go_wp2
        obtain ⟨q0, q1, _, _⟩ := blk_pair ((Z.out.2.2.set 0 (.slice A5 bn.length c5)).set 1 (.slice A6 bp.length c6))
        refine bodyPost_ret (v := .tuple #[.agg #[.slice A5 bn.length c5, .slice A6 bp.length c6], .int .i64 c]) (by simp [results, Tryz.results16, go_sem, q0, q1]) rfl ?_
        rw [HD.out]
        exact ⟨_, _, rfl, ((Z.out.1.now.far9 (by omega) 0 _).far9 (by omega) 1 _).mono (by omega), ((Z.out.1.past.far9 (by omega) 0 _).far9 (by omega) 1 _).mono (by omega) (by simp [World.setCell]), (Z.out.2.1.setCell (by simp) _).setCell (by simp) _⟩
end Go.Proofs.YtjblecinkedppaaGreatDoor

/- The model's benches: a copy of one. -/
namespace Go.Proofs.YtjblecinkedppaaGreatDoor
set_option maxRecDepth 100000
open Go.RowKit Go.WideShapes Go.Deep

theorem Blk.drewH {w : World} {g : Nat} {cs : Array Value} {T : TypeId} (h : Blk w g cs T) : Blk w.drew g cs T := h
theorem Blk.keepH {w : World} {g : Nat} {cs : Array Value} {T : TypeId} {cs2 : Array Value} {T2 : TypeId} (h : Blk w g cs T) : Blk (w.alloc (.cells cs2 T2)) g cs T := by
  have hl := h.lt
  unfold Blk at h ⊢
  rw [← h]
  exact ((Below.refl w.heap.size w).alloc (Nat.le_refl _) (.cells cs2 T2)).block g hl
theorem Blk.apartH {w w' : World} {g lo hi : Nat} {cs : Array Value} {T : TypeId} (h : Blk w g cs T) (hw : Within lo hi w w') (hd : g < lo ∨ hi ≤ g) : Blk w' g cs T := (hw.block g h.lt (by omega)).trans h
theorem step_append_IH {P : Program} {w : World} {ops : Array Oper} {o : Oper} {a : Act} {K : Act → World → Prop} {Q : Exit → Act → World → Prop} {E : Prop} (hgd : o.guard = none) (s x : Operand) (t : TypeId)
    (ho : o.op = .call { callee := .builtin .append, args := #[s, x], argTypes := #[t, t] })
    (ht : P.underlying t = some (.slice 3)) (hinfo : (P.info? 3).map (fun i => (i.zero, i.size, i.bytes)) = some (some (.int .i64 0), 1, 8))
    (g : Nat) (hs : a.eval s = .slice (some ⟨g, 0, none⟩) 0 0) (hblk : Blk w g #[] 3)
    (u : Value) (ys : List Int) (hx : a.eval x = u) (hr : RdI w u ys) (hlen : ys.length ≤ 900000000)
    (h : ∀ v' w', OwnI w' g w'.heap.size v' ys → Within g (g + 1) w w' → K (a.put o.dst v') w') : if Region.wanted o (yielded ops a.tmps) = true then Oper.wp P o a w K Q else E := by
  have hg := hblk.lt
  have ho0 : Own w g (.slice (some ⟨g, 0, none⟩) 0 0) [] := ⟨⟨rfl, .inr ⟨g, 0, #[], rfl, Nat.le_refl _, hblk, by simp, by simp, by simp, rfl⟩⟩, by simp⟩
  rw [if_pos (by simp [Region.wanted, hgd])]
  obtain ⟨A, c, rfl, hi', _⟩ := hr
  refine wp_append_ints s x t ho g 3 .i64 8 ht hinfo (Nat.le_refl _) _ [] hs ho0.own w.heap.size A ys c hx hi' (by simp; omega) (by omega) ?_
  intro v' w' h1 h2 _
  refine h v' w' (Own.within ⟨by simpa using h1, fun z hz => hi'.wf z (by simpa using hz)⟩) (Within.of_only h2 (fun k hk => by simp [Value.ownBlock] at hk; omega))
theorem step_append_TH {P : Program} {w : World} {ops : Array Oper} {o : Oper} {a : Act} {K : Act → World → Prop} {Q : Exit → Act → World → Prop} {E : Prop} (hgd : o.guard = none) (s x : Operand) (t : TypeId)
    (ho : o.op = .call { callee := .builtin .append, args := #[s, x], argTypes := #[t, t] })
    (ht : P.underlying t = some (.slice 9)) (hinfo : (P.info? 9).map (fun i => (i.zero, i.size, i.bytes)) = some (some (.string ⟨#[]⟩), 1, 16))
    (g : Nat) (hs : a.eval s = .slice (some ⟨g, 0, none⟩) 0 0) (hblk : Blk w g #[] 9)
    (u : Value) (ys : List (List UInt8)) (hx : a.eval x = u) (hr : RdT w u ys) (hlen : ys.length ≤ 2000000)
    (h : ∀ v' w', OwnT w' g w'.heap.size v' ys → Within g (g + 1) w w' → Blk w g #[] 9 → K (a.put o.dst v') w') : if Region.wanted o (yielded ops a.tmps) = true then Oper.wp P o a w K Q else E := by
  have hg := hblk.lt
  have ho0 : w.ownsRow g 9 1 (.slice (some ⟨g, 0, none⟩) 0 0) 0 [] := ⟨rfl, .inr ⟨g, 0, #[], rfl, Nat.le_refl _, hblk, by simp, by simp, by simp, rfl⟩⟩
  rw [if_pos (by simp [Region.wanted, hgd])]
  obtain ⟨i, hi1, hz, hsz, hby⟩ := info_parts hinfo
  obtain ⟨A, c, rfl, hlc, hm, hcell⟩ := hr
  rcases A with _ | ad
  · have h0 : ys = [] := by
      rcases ys with _ | ⟨z, zs⟩
      · rfl
      · obtain ⟨b, off, e, _⟩ := hcell (by simp); cases e
    subst h0
    have hx' : a.eval x = .slice none 0 c := hx
    have hr1 := run_append_none (P := P) w g t o.type 9 i 1 ht hi1 _ 0 [] ho0 c
    unfold Oper.wp execOp
    simp only [ho, resolve, invoke, builtin, Sem.run_bind, Sem.run_pure, Result.andThen_ok, List.map_toArray, List.map_cons, List.map_nil, hs, hx', hr1]
    exact h _ w ⟨ho0, fun q hq => by simp [Value.ownBlock] at hq; omega⟩ (Within.of_below (Below.refl _ _)) hblk
  · have HC : ∀ j y, (strVals ys)[j]? = some y → w.cell? (ad.add j) = some y := fun j y hy => by
      have hj : j < ys.length := by
        have := (List.getElem?_eq_some_iff.1 hy).1
        rwa [strVals_len] at this
      obtain ⟨b, off, e, hb, hc⟩ := hcell (by omega)
      cases e
      rw [Addr.add_lit, hc j _ (List.getElem?_eq_getElem hj), ← hy, strVals_get (List.getElem?_eq_getElem hj)]
    obtain ⟨v', w', hr1, k2, k3, _, k5⟩ := run_append_own_at (P := P) w g t o.type 9 i (.string ⟨#[]⟩) 1 16 ht hi1 hz hsz hby rfl (by omega) _ 0 [] ho0 ad ys.length c (strVals ys) (by simp [strVals]) HC (by
      intro q hq
      obtain ⟨x, _, rfl⟩ := List.mem_map.1 hq
      rfl) (by unfold maxLen; omega) (by omega) (by omega)
    unfold Oper.wp execOp
    simp only [ho, resolve, invoke, builtin, Sem.run_bind, Sem.run_pure, Result.andThen_ok, List.map_toArray, List.map_cons, List.map_nil, hs, hx, hr1]
    exact h v' w' ⟨by simpa using k2, fun q hq => (k2.lt q hq).2⟩ (Within.of_only k3 (fun k hk => by simp [Value.ownBlock] at hk; omega)) hblk
theorem below_allocH {B : Nat} {a w : World} (h : Below B a w) (hB : B ≤ w.heap.size) (cs : Array Value) (T : TypeId) : Below B a (w.alloc (.cells cs T)) := h.alloc hB _
theorem Blk.newH (w : World) (g : Nat) (cs : Array Value) (T : TypeId) (h : g = w.heap.size) : Blk (w.alloc (.cells cs T)) g cs T := by subst h; exact Blk.new w cs T
theorem Own.keepH {X Y : World} {g lo : Nat} {v : Value} {x : List Int} (h : Own X lo v x) (hb : Blk X g #[] 9) (hw : Within g (g + 1) X Y) : Own Y lo v x :=
  ⟨ownsRow_keep h.own fun j hj => hw.block j (h.ge j hj).2 (fun e => by
    have : j = g := by omega
    subst this
    exact ownsRow_ne h.own hb (by decide) hj), h.wf⟩
theorem wayH {W X Y : World} {g : Nat} (hX : Below W.heap.size W X) (hg : W.heap.size ≤ g) (hw : Within g (g + 1) X Y) : Below W.heap.size W Y := hX.trans (hw.below hg hX.size)
set_option maxHeartbeats 4000000 in
theorem l10Copy_any (vn vp : Value) (n : List Int) (ps : List (List UInt8)) (w : World) (h0 : RdI w vn n) (h1 : RdT w vp ps) (hl0 : n.length ≤ 1048576) (hl1 : ps.length ≤ 1048576) :
    Calls Tryz.prog 25 #[.agg #[vn, vp]] w fun e w' => ∃ u0 u1, e = .returned (.agg #[u0, u1]) ∧ Own w' w.heap.size u0 n ∧ OwnWT w' w.heap.size w'.heap.size u1 ps ∧ Below w.heap.size w w' := by
  obtain ⟨W, hW⟩ : ∃ W, (w.alloc (.cells #[vn, vp] 26)).alloc (.cells #[.slice none 0 0, .slice none 0 0] 26) = W := ⟨_, rfl⟩
  have hbW : Below w.heap.size w W := by rw [← hW]; exact ((Below.refl _ _).alloc (Nat.le_refl _) _).alloc (by simp) _
  have hz : W.heap.size = w.heap.size + 2 := by rw [← hW]; simp
  have hB0 : Blk W w.heap.size #[vn, vp] 26 := by rw [← hW]; exact (Blk.new w _ _).below ((Below.refl (w.heap.size + 1) _).alloc (by simp) _) (by omega)
  have hB1 : Blk W (w.heap.size + 1) #[.slice none 0 0, .slice none 0 0] 26 := by
    have := Blk.new (w.alloc (.cells #[vn, vp] 26)) #[.slice none 0 0, .slice none 0 0] 26
    rw [World.size_alloc] at this
    rw [← hW]; exact this
  have D := Lib.hid (And.intro (h0.step hbW) (And.intro (RdT.step h1 hbW) (And.intro hbW (And.intro hB0 hB1))))
  obtain ⟨b0, b1, _, _⟩ := blk_pair hB0
  clear h0 h1 hbW hB0 hB1
  go_enter Tryz.func25, Tryz.ntmps25
  go_wp2
  try rw [hW]
  go_region_held3 (fun w' => w'.cell? ⟨w.heap.size, 0, none⟩ = some vn ∧ w'.cell? ⟨w.heap.size, 1, none⟩ = some vp) (repeat' (first | with_reducible exact b0 | with_reducible exact b1 | with_reducible exact k0 | with_reducible exact k1 | with_reducible exact l0 | with_reducible exact l1 | apply And.intro | rw [World.cell?_drew] | rw [World.cell?_alloc_lt _ _ _ (by first | omega | (simp; omega))] | rw [World.cell?_setCell_far _ _ _ _ (by simp)])) (first
    | (refine step_append_IH rfl _ _ _ rfl Tryz.underlying23 intInfo _ rfl (by (repeat (first | with_reducible refine Blk.drewH ?_ | (refine Blk.newH _ _ _ _ ?_; first | rfl | omega | (simp; done) | (simp; omega)) | with_reducible refine Blk.keepH ?_))) vn n rfl (D.out.1.step (by (repeat (first | with_reducible exact Below.refl _ _ | with_reducible exact b5 | with_reducible refine Below.drew ?_ | with_reducible refine below_allocH ?_ (by first | exact Nat.le_refl _ | omega | (simp; done) | (simp; omega)) _ _)))) (by omega) ?_; intro v5 w5 ho5 hw5; have b5 : Below W.heap.size W w5 := wayH (by (repeat (first | with_reducible exact Below.refl _ _ | with_reducible exact b5 | with_reducible refine Below.drew ?_ | with_reducible refine below_allocH ?_ (by first | exact Nat.le_refl _ | omega | (simp; done) | (simp; omega)) _ _))) (by first | exact Nat.le_refl _ | omega | (simp; done) | (simp; omega)) hw5; have hs5 := b5.size; obtain ⟨A5, c5, rfl, _⟩ := ho5.rd; obtain ⟨k0, k1, _, _⟩ := blk_pair (D.out.2.2.2.1.below b5 (by omega)); have HS5 := Lib.hid (fun gs (h : Blk _ gs #[] 9) hne => Blk.apartH h hw5 hne); have X5 := Lib.hid (And.intro (show Own w5 W.heap.size _ n from ho5.own.mono (by first | exact Nat.le_refl _ | omega | (simp; done) | (simp; omega))) (And.intro (RdT.step D.out.2.1 b5) b5)); clear ho5 hw5)
    | (refine step_append_TH rfl _ _ _ rfl Tryz.underlying24 strInfo _ rfl (by first | (refine Blk.newH _ _ _ _ ?_; first | rfl | omega | (simp; done) | (simp; omega)) | exact HS5.out _ (by (repeat (first | with_reducible refine Blk.drewH ?_ | (refine Blk.newH _ _ _ _ ?_; first | rfl | omega | (simp; done) | (simp; omega)) | with_reducible refine Blk.keepH ?_))) (by first | omega | (simp; done) | (simp; omega))) vp ps rfl (RdT.step D.out.2.1 (by (repeat (first | with_reducible exact Below.refl _ _ | with_reducible exact b5 | with_reducible refine Below.drew ?_ | with_reducible refine below_allocH ?_ (by first | exact Nat.le_refl _ | omega | (simp; done) | (simp; omega)) _ _)))) (by omega) ?_; intro v6 w6 ho6 hw6 hg6; have o6 := Own.keepH (X5.out.1.below (by (repeat (first | with_reducible exact Below.refl _ _ | with_reducible exact b5 | with_reducible refine Below.drew ?_ | with_reducible refine below_allocH ?_ (by first | exact Nat.le_refl _ | omega | (simp; done) | (simp; omega)) _ _)))) hg6 hw6; have b6 : Below W.heap.size W w6 := wayH (by (repeat (first | with_reducible exact Below.refl _ _ | with_reducible exact b5 | with_reducible refine Below.drew ?_ | with_reducible refine below_allocH ?_ (by first | exact Nat.le_refl _ | omega | (simp; done) | (simp; omega)) _ _))) (by first | exact Nat.le_refl _ | omega | (simp; done) | (simp; omega)) hw6; have hs6 := b6.size; obtain ⟨A6, c6, rfl, _⟩ := ho6.rd; obtain ⟨l0, l1, _, _⟩ := blk_pair (D.out.2.2.2.1.below b6 (by omega)); have hR := D.out.2.2.2.2.below b6 (by omega); obtain ⟨r0, r1, s0, s1⟩ := blk_pair hR; have FIN := Lib.hid (And.intro o6 (And.intro (show OwnWT w6 W.heap.size w6.heap.size _ ps from (OwnT.win ho6).mono (by first | exact Nat.le_refl _ | omega | (simp; done) | (simp; omega)) (Nat.le_refl _)) (And.intro b6 hR))); clear ho6 hw6 hg6 o6)
    | fail)
  all_goals (
    go_wp2
    obtain ⟨q0, q1, _, _⟩ := blk_pair ((FIN.out.2.2.2.set 0 (.slice A5 n.length c5)).set 1 (.slice A6 ps.length c6))
    refine bodyPost_ret (v := .agg #[.slice A5 n.length c5, .slice A6 ps.length c6]) (by simp [results, Tryz.results25, go_sem, q0, q1]) rfl ?_
    refine ⟨_, _, rfl, ((FIN.out.1.far9 (by omega) 0 _).far9 (by omega) 1 _).mono (by omega), ((FIN.out.2.1.far9 (by omega) 0 _).far9 (by omega) 1 _).mono (by omega) (by simp [World.setCell]), ((D.out.2.2.1.trans (FIN.out.2.2.1.mono (by omega))).setCell (by simp) _).setCell (by simp) _⟩)
end Go.Proofs.YtjblecinkedppaaGreatDoor
