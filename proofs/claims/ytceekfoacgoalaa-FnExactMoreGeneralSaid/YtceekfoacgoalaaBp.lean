/- Several texts in one. -/
import Derived.Test.YtceekfoacgoalaaTab
import Derived.Test.YtceekfoacgoalaaB1
import Derived.Lib.ItoaNum
import Derived.Lib.Join
/- Rows of strings: read, or the call's own; append of one. -/
namespace Go.Proofs.Ytceekfoacgoalaa
set_option maxRecDepth 100000
open Go.RowKit Go.WideShapes

theorem strInfo : (Try.prog.info? 9).map (fun i => (i.zero, i.size, i.bytes)) = some (some (.string ⟨#[]⟩), 1, 16) := by kernel_rfl

/-- A slice value that reads as the strings ss, all of it below block B. -/
def RdBT (w : World) (B : Nat) (v : Value) (ss : List (List UInt8)) : Prop := ∃ A c, v = .slice A ss.length c ∧ ss.length ≤ c ∧ ss.length ≤ 9223372036854775807 ∧
  (0 < ss.length → ∃ b off, A = some ⟨b, off, none⟩ ∧ b < B ∧ ∀ j s, ss[j]? = some s → w.cell? ⟨b, off + j, none⟩ = some (.string ⟨s.toArray⟩))
abbrev RdT (w : World) (v : Value) (ss : List (List UInt8)) : Prop := RdBT w w.heap.size v ss
theorem RdBT.keep {w w' : World} {B : Nat} {v : Value} {ss : List (List UInt8)} (h : RdBT w B v ss) (hk : ∀ p : Addr, p.block < B → w'.cell? p = w.cell? p) : RdBT w' B v ss := by
  obtain ⟨A, c, rfl, hc, hl, hr⟩ := h
  refine ⟨A, c, rfl, hc, hl, fun h0 => ?_⟩
  obtain ⟨b, off, e, hb, hx⟩ := hr h0
  exact ⟨b, off, e, hb, fun j s hj => (hk _ hb).trans (hx j s hj)⟩
theorem RdBT.below {w w' : World} {B : Nat} {v : Value} {ss : List (List UInt8)} (h : RdBT w B v ss) (hb : Below B w w') : RdBT w' B v ss := h.keep fun _ hp => hb.cell hp
theorem RdBT.mono {w : World} {B B' : Nat} {v : Value} {ss : List (List UInt8)} (h : RdBT w B v ss) (hB : B ≤ B') : RdBT w B' v ss := by
  obtain ⟨A, c, rfl, hc, hl, hr⟩ := h
  refine ⟨A, c, rfl, hc, hl, fun h0 => ?_⟩
  obtain ⟨b, off, e, hb, hx⟩ := hr h0
  exact ⟨b, off, e, by omega, hx⟩
theorem RdT.step {w w' : World} {v : Value} {ss : List (List UInt8)} (h : RdT w v ss) (hb : Below w.heap.size w w') : RdT w' v ss := (RdBT.below h hb).mono hb.size

/-- A row of strings of the call's own, in the blocks from lo on and below hi. -/
structure OwnT (w : World) (lo hi : Nat) (v : Value) (ss : List (List UInt8)) : Prop where
  own : w.ownsRow lo 9 1 v ss.length (strVals ss)
  lt : ∀ g, v.ownBlock = some g → g < hi
theorem strVals_get {ss : List (List UInt8)} {j : Nat} {s : List UInt8} (h : ss[j]? = some s) : (strVals ss)[j]? = some (.string ⟨s.toArray⟩) := by simp [strVals, h]
section
variable {w w' : World} {lo hi : Nat} {v : Value} {ss : List (List UInt8)}
theorem OwnT.rd (h : OwnT w lo hi v ss) : RdT w v ss := by
  rcases hx : h.own.2 with ⟨rfl, h0⟩ | ⟨g, cap, cur, rfl, hb, hh, h1, h2, _⟩
  · have hz : ss = [] := List.eq_nil_of_length_eq_zero h0
    subst hz
    exact ⟨none, 0, rfl, by simp, by simp, fun h => by simp at h⟩
  · refine ⟨_, _, rfl, h1, by unfold maxLen at h2; omega, fun _ => ⟨g, 0, rfl, (h.own.lt g rfl).2, fun j s hj => ?_⟩⟩
    have hjl : j < ss.length := by
      rcases Nat.lt_or_ge j ss.length with h' | h'
      · exact h'
      · rw [List.getElem?_eq_none h'] at hj; cases hj
    rw [Nat.zero_add, h.own.cellAt j (by omega), strVals_get hj]
theorem OwnT.lenV (h : OwnT w lo hi v ss) : ∃ A c, v = .slice A ss.length c := by
  obtain ⟨A, c, rfl, _⟩ := h.rd
  exact ⟨A, c, rfl⟩
theorem OwnT.apart {lo' hi' : Nat} (h : OwnT w lo hi v ss) (hw : Within lo' hi' w w') (hd : hi ≤ lo' ∨ hi' ≤ lo) : OwnT w' lo hi v ss := by
  refine ⟨?_, h.lt⟩
  rcases h.own.2 with h0 | ⟨g, cap, cur, rfl, hb, hh, h1⟩
  · exact ⟨h.own.1, .inl h0⟩
  · have hg := h.lt g rfl
    exact ⟨h.own.1, .inr ⟨g, cap, cur, rfl, hb, (hw.block g (h.own.lt g rfl).2 (by omega)).trans hh, h1⟩⟩
theorem OwnT.below (h : OwnT w lo hi v ss) (hb : Below w.heap.size w w') : OwnT w' lo hi v ss := by
  refine ⟨?_, h.lt⟩
  rcases h.own.2 with h0 | ⟨g, cap, cur, rfl, hb', hh, h1⟩
  · exact ⟨h.own.1, .inl h0⟩
  · exact ⟨h.own.1, .inr ⟨g, cap, cur, rfl, hb', (hb.block g (h.own.lt g rfl).2).trans hh, h1⟩⟩
theorem OwnT.belowB {B : Nat} (h : OwnT w lo hi v ss) (hb : Below B w w') (hB : hi ≤ B) : OwnT w' lo hi v ss := by
  refine ⟨?_, h.lt⟩
  rcases h.own.2 with h0 | ⟨g, cap, cur, rfl, hb', hh, h1⟩
  · exact ⟨h.own.1, .inl h0⟩
  · have := h.lt g rfl
    exact ⟨h.own.1, .inr ⟨g, cap, cur, rfl, hb', (hb.block g (by omega)).trans hh, h1⟩⟩
theorem OwnT.widen {hi' : Nat} (h : OwnT w lo hi v ss) (hh : hi ≤ hi') : OwnT w lo hi' v ss := ⟨h.own, fun g hg => by have := h.lt g hg; omega⟩
theorem OwnT.lower {lo' : Nat} (h : OwnT w lo hi v ss) (hh : lo' ≤ lo) : OwnT w lo' hi v ss := by
  refine ⟨⟨h.own.1, ?_⟩, h.lt⟩
  rcases h.own.2 with h0 | ⟨g, cap, cur, rfl, hb, h1⟩
  · exact .inl h0
  · exact .inr ⟨g, cap, cur, rfl, by omega, h1⟩
theorem OwnT.nil (w : World) (lo hi : Nat) : OwnT w lo hi (.slice none 0 0) [] := ⟨World.ownsRow_nil _ _ _ _, by simp [Value.ownBlock]⟩
end

/-- append(s, x) of a string, laid in a block of its own ahead. -/
theorem wpList_append_str {P : Program} {w : World} {ops : Array Oper} {rest : List Oper} {o : Oper} {a : Act} {Q : Exit → Act → World → Prop} (hgd : o.guard = none) (s x : Operand) (t : TypeId)
    (ho : o.op = .call { callee := .builtin .append, args := #[s, x], argTypes := #[t, t] })
    (ht : P.underlying t = some (.slice 9)) (hinfo : (P.info? 9).map (fun i => (i.zero, i.size, i.bytes)) = some (some (.string ⟨#[]⟩), 1, 16))
    (lo hi : Nat) (v : Value) (ss : List (List UInt8)) (hs : a.eval s = v) (hown : OwnT w lo hi v ss) (hlo : lo ≤ w.heap.size)
    (b : Nat) (u : Value) (z : List UInt8) (hx : a.eval x = .slice (some ⟨b, 0, none⟩) 1 1) (h0 : w.cell? ⟨b, 0, none⟩ = some u) (hu : u = .string ⟨z.toArray⟩) (hlen : ss.length ≤ 1000000000)
    (h : ∀ v' w', OwnT w' lo w'.heap.size v' (ss ++ [z]) → Below lo w w' → w.grownBy w' v.ownBlock → (v'.ownBlock = v.ownBlock ∨ v'.ownBlock = some w.heap.size) → wpList P ops Q rest (a.put o.dst v') w') : wpList P ops Q (o :: rest) a w := by
  obtain ⟨i, hi1, hz, hsz, hby⟩ := info_parts hinfo
  refine wpList_append_own_at w hgd s x t ho lo 9 i (.string ⟨#[]⟩) 1 16 ht hi1 hz hsz hby rfl (by omega) v ss.length _ hs hown.own ⟨b, 0, none⟩ 1 1 [.string ⟨z.toArray⟩] hx rfl ?_ ?_ (by unfold maxLen; omega) (by omega) hlo ?_
  · intro j y hy
    rcases j with _ | j
    · simp at hy; subst hy; rw [← hu]; simpa [Addr.add] using h0
    · simp at hy
  · intro y hy
    simp at hy
    subst hy
    rfl
  · intro v' w' h2 h3 _ h5
    have hlen' : (ss ++ [z]).length = ss.length + 1 := by simp
    refine h v' w' ⟨?_, fun g hg => (h2.lt g hg).2⟩ (below_of_only h3 hlo fun k hk => (hown.own.lt k hk).1) h3 h5
    rw [hlen', strVals, List.map_append]
    exact h2
/-- Literals of strings. -/
theorem OwnT.lits (w : World) (ss : List (List UInt8)) (hn : ss.length ≤ 1000) : OwnT (w.alloc (.cells (strVals ss).toArray 9)) w.heap.size (w.heap.size + 1) (.slice (some ⟨w.heap.size, 0, none⟩) ss.length ss.length) ss := by
  have h := World.ownsRow_lit (base := w.heap.size) (e := 9) (size := 1) w (strVals ss).toArray ss.length (Nat.le_refl _) (by unfold maxLen; omega) (by simp [strVals])
  exact ⟨by simpa using h, by simp [Value.ownBlock]⟩
end Go.Proofs.Ytceekfoacgoalaa

/- Numbers as texts: plain facts on lists of bytes. -/
namespace Go.Proofs.Ytceekfoacgoalaa
set_option maxRecDepth 100000

def dg (c : UInt8) : Bool := decide (48 ≤ (c.toNat : Int)) && decide ((c.toNat : Int) ≤ 57)
/-- As the program reads: digit by digit, never beyond 999. -/
def readFrom : Int → List UInt8 → Option Int
  | n, [] => some n
  | n, c :: r => if dg c = true ∧ 10 * n + ((c.toNat : Int) - 48) ≤ 999 then readFrom (10 * n + ((c.toNat : Int) - 48)) r else none
/-- As the model reads: digit by digit. -/
def digFrom : Int → List UInt8 → Option Int
  | n, [] => some n
  | n, c :: r => if dg c = true then digFrom (10 * n + ((c.toNat : Int) - 48)) r else none
def lead0 (l : List UInt8) : Prop := 1 < l.length ∧ l.head? = some 48
instance (l : List UInt8) : Decidable (lead0 l) := by unfold lead0; infer_instance
def readNumR (l : List UInt8) : Option Int := if l = [] ∨ lead0 l then none else readFrom 0 l
def digitsR (l : List UInt8) : Option Int := if ¬ (1 ≤ l.length ∧ l.length ≤ 3) ∨ lead0 l then none else digFrom 0 l

theorem dg_bd {c : UInt8} (h : dg c = true) : 48 ≤ (c.toNat : Int) ∧ (c.toNat : Int) ≤ 57 := by simpa [dg] using h
theorem readFrom_dig {n m : Int} {l : List UInt8} (h : readFrom n l = some m) : digFrom n l = some m := by
  induction l generalizing n with
  | nil => exact h
  | cons c r ih =>
    rw [readFrom] at h
    split at h
    · rename_i h1; rw [digFrom, if_pos h1.1]; exact ih h
    · cases h
theorem readFrom_le {n m : Int} {l : List UInt8} (h0 : 0 ≤ n ∧ n ≤ 999) (h : readFrom n l = some m) : 0 ≤ m ∧ m ≤ 999 := by
  induction l generalizing n with
  | nil => rw [readFrom] at h; cases h; exact h0
  | cons c r ih =>
    rw [readFrom] at h
    split at h
    · rename_i h1; have := dg_bd h1.1; exact ih ⟨by omega, h1.2⟩ h
    · cases h
theorem readFrom_ge {n m : Int} {l : List UInt8} (h0 : 0 ≤ n) (h : readFrom n l = some m) : n * 10 ^ l.length ≤ m := by
  induction l generalizing n with
  | nil => rw [readFrom] at h; cases h; simp
  | cons c r ih =>
    rw [readFrom] at h
    split at h
    · rename_i h1
      have hb := dg_bd h1.1
      have := ih (by omega) h
      rw [List.length_cons, Int.pow_succ]
      have hp : (0 : Int) ≤ 10 ^ r.length := Int.le_of_lt (Int.pow_pos (by omega))
      have h3 : 10 * n * 10 ^ r.length ≤ (10 * n + ((c.toNat : Int) - 48)) * 10 ^ r.length := Int.mul_le_mul_of_nonneg_right (by omega) hp
      have h4 : n * (10 ^ r.length * 10) = 10 * n * 10 ^ r.length := by rw [Int.mul_comm 10 n, Int.mul_assoc, Int.mul_comm 10 (10 ^ r.length)]
      omega
    · cases h
theorem digFrom_read {n m : Int} {l : List UInt8} (h0 : 0 ≤ n) (hk : (n + 1) * 10 ^ l.length ≤ 1000) (h : digFrom n l = some m) : readFrom n l = some m := by
  induction l generalizing n with
  | nil => exact h
  | cons c r ih =>
    rw [digFrom] at h
    split at h
    · rename_i h1
      have hb := dg_bd h1
      have hp : (1 : Int) ≤ 10 ^ r.length := Int.pow_pos (by omega)
      rw [List.length_cons, Int.pow_succ, Int.mul_comm (10 ^ r.length) 10, ← Int.mul_assoc] at hk
      have h3 : (10 * n + ((c.toNat : Int) - 48) + 1) * 10 ^ r.length ≤ (n + 1) * 10 * 10 ^ r.length := Int.mul_le_mul_of_nonneg_right (by omega) (by omega)
      have h4 : (10 * n + ((c.toNat : Int) - 48) + 1) * 1 ≤ (10 * n + ((c.toNat : Int) - 48) + 1) * 10 ^ r.length := Int.mul_le_mul_of_nonneg_left hp (by omega)
      rw [readFrom, if_pos ⟨h1, by omega⟩]
      exact ih (by omega) (by omega) h
    · cases h
theorem readNum_digits (l : List UInt8) : readNumR l = digitsR l := by
  unfold readNumR digitsR
  by_cases hl : lead0 l
  · rw [if_pos (.inr hl), if_pos (.inr hl)]
  · by_cases he : l = []
    · subst he; simp
    · have hlen : 1 ≤ l.length := List.length_pos_iff.2 he
      rw [if_neg (by simp [he, hl])]
      by_cases h3 : l.length ≤ 3
      · rw [if_neg (by simp [hl]; omega)]
        rcases hr : readFrom 0 l with _ | m
        · rcases hd : digFrom 0 l with _ | m
          · rfl
          · have := digFrom_read (by omega) (by
              rw [Int.zero_add, Int.one_mul]
              have : (10 : Int) ^ l.length ≤ 10 ^ 3 := by
                have := Nat.pow_le_pow_right (n := 10) (by omega) h3
                exact_mod_cast this
              omega) hd
            rw [hr] at this; cases this
        · rw [readFrom_dig hr]
      · rw [if_pos (.inl (by omega))]
        rcases hr : readFrom 0 l with _ | m
        · rfl
        · exfalso
          obtain ⟨c, r, rfl⟩ := List.exists_cons_of_ne_nil he
          rw [readFrom] at hr
          split at hr
          · rename_i h1
            have hb := dg_bd h1.1
            have hc : c.toNat ≠ 48 := by
              intro e
              exact hl ⟨by simp at h3 ⊢; omega, by simp; exact UInt8.toNat_inj.1 e⟩
            have hm := readFrom_le ⟨by omega, h1.2⟩ hr
            have hg := readFrom_ge (by omega) hr
            have hp : (10 : Int) ^ 3 ≤ 10 ^ r.length := by
              have := Nat.pow_le_pow_right (n := 10) (by omega) (show 3 ≤ r.length by simp at h3; omega)
              exact_mod_cast this
            have h5 : (1 : Int) * 10 ^ r.length ≤ (10 * 0 + ((c.toNat : Int) - 48)) * 10 ^ r.length := Int.mul_le_mul_of_nonneg_right (by omega) (by omega)
            omega
          · cases hr
end Go.Proofs.Ytceekfoacgoalaa

/- Contracts of readNum and l1Digits. -/
namespace Go.Proofs.Ytceekfoacgoalaa
set_option maxRecDepth 100000
open Go.RowKit Go.WideShapes

abbrev bytesOf (s : ByteArray) : List UInt8 := s.data.toList
theorem bytes_get (s : ByteArray) (k : Nat) (h : k < s.size) : (bytesOf s)[k]? = some (s[k]'h) := by
  have h' : k < (bytesOf s).length := by simpa using h
  rw [List.getElem?_eq_getElem h']; rfl
theorem drop_cons (s : ByteArray) (k : Nat) (h : k < s.size) : (bytesOf s).drop k = s[k]'h :: (bytesOf s).drop (k + 1) := by
  rw [List.drop_eq_getElem_cons (by simpa using h)]; rfl
theorem drop_end (s : ByteArray) (k : Nat) (h : s.size ≤ k) : (bytesOf s).drop k = [] := List.drop_eq_nil_of_le (by simpa using h)

/-- The pair that a reader gives. -/
def optPair (d : Int) : Option Int → Int × Bool
  | some n => (n, true)
  | none => (d, false)

end Go.Proofs.Ytceekfoacgoalaa

/- Contract of readNum, the program's: a range over a string. -/
namespace Go.Proofs.Ytceekfoacgoalaa
set_option maxRecDepth 100000
open Go.RowKit Go.WideShapes

theorem below_iter (w : World) (s : ByteArray) (pos : Nat) : Below w.heap.size w (w.iter s pos) := (Below.refl _ _).alloc (Nat.le_refl _) _
theorem ret_optPair {a : Int} {b : Bool} {d : Int} {o : Option Int} (h : optPair d o = (a, b)) : Ending.returned (.tuple #[.int .i64 a, .bool b]) = .returned (.tuple #[.int .i64 (optPair d o).1, .bool (optPair d o).2]) := by rw [h]
theorem isNumB_false {n : Int} (h0 : 0 ≤ n) : isNumB n = decide (n ≤ 999) := by simp [isNumB, h0]

end Go.Proofs.Ytceekfoacgoalaa

/- Contracts of ReadWord: the program's (over its table) and the model's. -/
namespace Go.Proofs.Ytceekfoacgoalaa
set_option maxRecDepth 100000
open Go.RowKit Go.WideShapes

/-- The texts of the operations. -/
def opNames : List (List UInt8) := [[100, 117, 112], [100, 114, 111, 112], [115, 119, 97, 112], [100, 105, 112], [99, 97, 108, 108], [43], [45], [42], [60], [105, 102], [116, 105, 109, 101, 115], [91], [93]]
/-- The word of the first text from place k on. -/
def nameAt (l : List UInt8) : Nat → List (List UInt8) → Option Int
  | _, [] => none
  | k, t :: r => if l = t then some (1001 + (k : Int)) else nameAt l (k + 1) r
def readWordR (l : List UInt8) : Option Int := match digitsR l with
  | some n => some n
  | none => nameAt l 0 opNames
theorem nameAt_drop (l : List UInt8) (k : Nat) (t : List UInt8) (h : opNames[k]? = some t) : nameAt l k (opNames.drop k) = if l = t then some (1001 + (k : Int)) else nameAt l (k + 1) (opNames.drop (k + 1)) := by
  have hk : k < opNames.length := by
    rcases Nat.lt_or_ge k opNames.length with h1 | h1
    · exact h1
    · rw [List.getElem?_eq_none h1] at h; cases h
  rw [List.drop_eq_getElem_cons hk, nameAt]
  rw [List.getElem?_eq_getElem hk] at h
  injection h with h
  rw [h]
theorem names_nodigits : ∀ t ∈ opNames, digitsR t = none := by decide
theorem nameAt_mem {l : List UInt8} {n : Int} : ∀ {k : Nat} {ts : List (List UInt8)}, nameAt l k ts = some n → l ∈ ts := by
  intro k ts
  induction ts generalizing k with
  | nil => intro h; simp [nameAt] at h
  | cons t r ih =>
    intro h
    rw [nameAt] at h
    split at h
    · rename_i e; subst e; simp
    · simp [ih h]
theorem readWordR_names {l : List UInt8} : readWordR l = match nameAt l 0 opNames with
  | some n => some n
  | none => digitsR l := by
  unfold readWordR
  rcases hn : nameAt l 0 opNames with _ | n
  · rcases digitsR l with _ | m <;> rfl
  · rw [names_nodigits l (nameAt_mem hn)]
theorem str_eq (s : ByteArray) (t : List UInt8) : (s.toList == t) = decide (bytesOf s = t) := by
  rw [Go.ByteArray.toList_eq, Bool.eq_iff_iff, beq_iff_eq, decide_eq_true_iff]
theorem run_index_strs (P : Program) (w : World) (t e : TypeId) (n : Nat) (ss : List (List UInt8)) (k : Nat) (s : List UInt8) (ht : P.underlying t = some (.array n e)) (he : P.underlying e = some .string) (hsz : (P.info? e).map (·.size) = some 1) (hn : ss.length = n) (hk : ss[k]? = some s) :
    (Instr.index t (.agg (strVals ss).toArray) (.int .i64 k)).run P w = .ok (.string ⟨s.toArray⟩) w := by
  have hlt : k < n := by
    rcases Nat.lt_or_ge k ss.length with h1 | h1
    · omega
    · rw [List.getElem?_eq_none h1] at hk; cases hk
  obtain ⟨i0, hi0, hs0⟩ := Option.map_eq_some_iff.1 hsz
  have hb : (0 : Int) ≤ k ∧ (k : Int) < n := by omega
  have hna : (isAgg e).run P w = .ok false w := by simp [isAgg, run_underlying he]
  have hk' : (strVals ss)[k]? = some (.string ⟨s.toArray⟩) := by simp [strVals, hk]
  simp [Instr.index, asIntOf, run_underlying ht, sizeOf, typeInfo, hi0, hs0, hb, part, hna, hk']
  intro h
  omega

theorem optPair_some {d n : Int} : optPair d (some n) = (n, true) := rfl
theorem str_eq' (s : ByteArray) (t : List UInt8) : (t == s.toList) = decide (bytesOf s = t) := by
  rw [Go.ByteArray.toList_eq, Bool.eq_iff_iff, beq_iff_eq, decide_eq_true_iff]
  exact eq_comm

def NamesPost (w : World) (e : Ending) (w' : World) : Prop := e = .returned (.slice (some ⟨w.heap.size, 0, none⟩) 13 13) ∧ StrTab w' w.heap.size opNames ∧ Below w.heap.size w w'
end Go.Proofs.Ytceekfoacgoalaa

/- Texts of words and programs: plain facts on lists of bytes. -/
namespace Go.Proofs.Ytceekfoacgoalaa
set_option maxRecDepth 100000
open Lib (decDigits)

def wordT (z : Int) : List UInt8 := if isNumB z = true then decDigits z.toNat else if 1001 ≤ z ∧ z ≤ 1013 then opNames.getD (z - 1001).toNat [] else []

theorem dig_toNat {a : Nat} (h : a < 10) : (UInt8.ofNat (48 + a)).toNat = 48 + a := by
  rw [UInt8.toNat_ofNat']; omega
theorem dec1 {n : Nat} (h : n < 10) : decDigits n = [UInt8.ofNat (48 + n)] := by rw [decDigits, dif_pos h]
theorem decS {n : Nat} (h : ¬ n < 10) : decDigits n = decDigits (n / 10) ++ [UInt8.ofNat (48 + n % 10)] := by rw [decDigits, dif_neg h]
theorem dg_of {a : Nat} (h : a < 10) : dg (UInt8.ofNat (48 + a)) = true := by
  simp only [dg, dig_toNat h]; simp; omega
theorem digFrom_app {n m : Int} {l r : List UInt8} (h : digFrom n l = some m) : digFrom n (l ++ r) = digFrom m r := by
  induction l generalizing n with
  | nil => rw [digFrom] at h; cases h; rfl
  | cons c l ih =>
    rw [digFrom] at h
    split at h
    · rename_i h1; rw [List.cons_append, digFrom, if_pos h1]; exact ih h
    · cases h
theorem digFrom_one {n : Int} {a : Nat} (h : a < 10) : digFrom n [UInt8.ofNat (48 + a)] = some (10 * n + a) := by
  rw [digFrom, if_pos (dg_of h), digFrom, dig_toNat h]; congr 1; omega
theorem digFrom_dec (n : Nat) : digFrom 0 (decDigits n) = some (n : Int) := by
  induction n using Nat.strongRecOn with
  | _ n ih =>
    by_cases h : n < 10
    · rw [dec1 h, digFrom_one h]; simp
    · rw [decS h, digFrom_app (ih (n / 10) (by omega)), digFrom_one (by omega)]; congr 1; omega
theorem dec_len {n : Nat} (h : n ≤ 999) : 1 ≤ (decDigits n).length ∧ (decDigits n).length ≤ 3 := by
  by_cases h1 : n < 10
  · rw [dec1 h1]; simp
  · by_cases h2 : n / 10 < 10
    · rw [decS h1, dec1 h2]; simp
    · rw [decS h1, decS h2, dec1 (by omega)]; simp
theorem dec_head {n : Nat} (h : 10 ≤ n) : (decDigits n).head? ≠ some 48 := by
  induction n using Nat.strongRecOn with
  | _ n ih =>
    rw [decS (by omega)]
    by_cases h2 : n / 10 < 10
    · rw [dec1 h2]
      simp only [List.cons_append, List.nil_append, List.head?_cons, ne_eq, Option.some.injEq]
      intro e
      have := congrArg UInt8.toNat e
      rw [dig_toNat h2] at this
      simp at this; omega
    · have := ih (n / 10) (by omega) (by omega)
      have hne : decDigits (n / 10) ≠ [] := by intro e; rw [decS h2] at e; simp at e
      obtain ⟨c, r, e⟩ := List.exists_cons_of_ne_nil hne
      rw [e] at this ⊢; simpa using this
theorem dec_lead {n : Nat} : ¬ lead0 (decDigits n) := by
  rintro ⟨h1, h2⟩
  by_cases h : n < 10
  · rw [dec1 h] at h1; simp at h1
  · exact dec_head (by omega) h2
theorem digits_dec {n : Nat} (h : n ≤ 999) : digitsR (decDigits n) = some (n : Int) := by
  unfold digitsR
  rw [if_neg (fun h1 => h1.elim (fun h1 => h1 (dec_len h)) dec_lead), digFrom_dec]
theorem dg_is {c : UInt8} (h : dg c = true) : ∃ a : Nat, a < 10 ∧ c = UInt8.ofNat (48 + a) ∧ (c.toNat : Int) - 48 = a := by
  have hb := dg_bd h
  refine ⟨c.toNat - 48, by omega, ?_, by omega⟩
  rw [← UInt8.toNat_inj, dig_toNat (by omega)]; omega
theorem digFrom_is {l : List UInt8} : ∀ {n : Nat} {m : Int}, digFrom n l = some m → 1 ≤ n → ∃ k : Nat, m = k ∧ decDigits k = decDigits n ++ l ∧ n ≤ k := by
  induction l with
  | nil => intro n m h _; rw [digFrom] at h; cases h; exact ⟨n, rfl, by simp, Nat.le_refl _⟩
  | cons c r ih =>
    intro n m h hn
    rw [digFrom] at h
    split at h
    · rename_i h1
      obtain ⟨a, ha, rfl, he⟩ := dg_is h1
      rw [he, show (10 * (n : Int) + (a : Int)) = ((10 * n + a : Nat) : Int) by omega] at h
      obtain ⟨k, rfl, hk, hle⟩ := ih h (by omega)
      refine ⟨k, rfl, ?_, by omega⟩
      rw [hk, decS (by omega : ¬ 10 * n + a < 10), show (10 * n + a) / 10 = n by omega, show (10 * n + a) % 10 = a by omega]
      simp
    · cases h
theorem digits_is {l : List UInt8} {m : Int} (h : digitsR l = some m) : ∃ k : Nat, m = k ∧ k ≤ 999 ∧ decDigits k = l := by
  have hle : 0 ≤ m ∧ m ≤ 999 := by
    rw [← readNum_digits, readNumR] at h
    split at h
    · cases h
    · exact readFrom_le ⟨by omega, by omega⟩ h
  unfold digitsR at h
  split at h
  · cases h
  · rename_i hn
    have hlen : 1 ≤ l.length := by
      apply Classical.byContradiction; intro e; exact hn (.inl (by omega))
    have hl0 : ¬ lead0 l := fun e => hn (.inr e)
    obtain ⟨c, r, rfl⟩ := List.exists_cons_of_ne_nil (List.length_pos_iff.1 (by omega : 0 < l.length))
    rw [digFrom] at h
    split at h
    · rename_i h1
      obtain ⟨a, ha, rfl, he⟩ := dg_is h1
      rw [he, show (10 * (0 : Int) + (a : Int)) = ((a : Nat) : Int) by omega] at h
      rcases r with _ | ⟨d, r⟩
      · rw [digFrom] at h; cases h; exact ⟨a, rfl, by omega, dec1 ha⟩
      · have ha0 : 1 ≤ a := by
          apply Classical.byContradiction; intro e
          have : a = 0 := by omega
          subst this
          exact hl0 ⟨by simp, by simp⟩
        obtain ⟨k, rfl, hk, _⟩ := digFrom_is h ha0
        exact ⟨k, rfl, by omega, by rw [hk, dec1 ha]; rfl⟩
    · cases h
theorem names_all : ∀ k : Fin 13, nameAt (opNames.getD k.val []) 0 opNames = some (1001 + (k.val : Int)) ∧ 32 ∉ opNames.getD k.val [] ∧ opNames.getD k.val [] ≠ [] ∧ opNames.getD k.val [] ≠ [45, 45] ∧ (opNames.getD k.val []).length ≤ 5 := by decide +kernel
theorem nameAt_is {l : List UInt8} {n : Int} : ∀ {k : Nat} {ts : List (List UInt8)}, nameAt l k ts = some n → ∃ j : Nat, ts[j]? = some l ∧ n = 1001 + ((k + j : Nat) : Int) := by
  intro k ts
  induction ts generalizing k with
  | nil => intro h; simp [nameAt] at h
  | cons t r ih =>
    intro h
    rw [nameAt] at h
    split at h
    · rename_i e; subst e; cases h; exact ⟨0, rfl, by simp⟩
    · obtain ⟨j, hj, e⟩ := ih h
      exact ⟨j + 1, by simpa using hj, by rw [e]; omega⟩
theorem isNumB_iff {z : Int} : isNumB z = true ↔ 0 ≤ z ∧ z ≤ 999 := by simp [isNumB]
theorem isWordB_iff {z : Int} : isWordB z = true ↔ (0 ≤ z ∧ z ≤ 999) ∨ (1001 ≤ z ∧ z ≤ 1013) := by simp [isWordB, isNumB]
theorem wordT_num {z : Int} (h : 0 ≤ z ∧ z ≤ 999) : wordT z = decDigits z.toNat := by rw [wordT, if_pos (isNumB_iff.2 h)]
theorem wordT_op {z : Int} (h : 1001 ≤ z ∧ z ≤ 1013) : wordT z = opNames.getD (z - 1001).toNat [] := by
  rw [wordT, if_neg (by rw [isNumB_iff]; omega), if_pos h]
theorem wordT_no {z : Int} (h : isWordB z = false) : wordT z = [] := by
  have : ¬ isWordB z = true := by simp [h]
  rw [isWordB_iff] at this
  rw [wordT, if_neg (by rw [isNumB_iff]; omega), if_neg (by omega)]
theorem digits_names {l : List UInt8} {n : Int} (h : nameAt l 0 opNames = some n) : digitsR l = none := names_nodigits l (nameAt_mem h)
/-- ReadWord of WordText. -/
theorem read_word {z : Int} (h : isWordB z = true) : readWordR (wordT z) = some z := by
  rcases isWordB_iff.1 h with h1 | h1
  · rw [wordT_num h1, readWordR, digits_dec (by omega)]; simp only [Option.some.injEq]; omega
  · rw [wordT_op h1]
    have hk := (names_all ⟨(z - 1001).toNat, by omega⟩).1
    simp only at hk
    rw [readWordR, digits_names hk]; simp only [hk, Option.some.injEq]; omega
/-- WordText of ReadWord. -/
theorem word_read {l : List UInt8} {z : Int} (h : readWordR l = some z) : isWordB z = true ∧ wordT z = l := by
  unfold readWordR at h
  rcases hd : digitsR l with _ | m
  · rw [hd] at h
    obtain ⟨j, hj, rfl⟩ := nameAt_is (h : nameAt l 0 opNames = some z)
    have hjl : j < 13 := by
      rcases Nat.lt_or_ge j 13 with h1 | h1
      · exact h1
      · rw [List.getElem?_eq_none (by simpa [opNames] using h1)] at hj; cases hj
    refine ⟨isWordB_iff.2 (.inr (by omega)), ?_⟩
    rw [wordT_op (by omega), show (1001 + ((0 + j : Nat) : Int) - 1001).toNat = j by omega, List.getD, hj]; rfl
  · rw [hd] at h
    cases h
    obtain ⟨k, rfl, hk, e⟩ := digits_is hd
    refine ⟨isWordB_iff.2 (.inl (by omega)), ?_⟩
    rw [wordT_num (by omega)]; simpa using e
theorem dec_mem {n : Nat} {c : UInt8} (h : c ∈ decDigits n) : dg c = true := by
  induction n using Nat.strongRecOn with
  | _ n ih =>
    by_cases h1 : n < 10
    · rw [dec1 h1, List.mem_singleton] at h; subst h; exact dg_of h1
    · rw [decS h1] at h
      rcases List.mem_append.1 h with h | h
      · exact ih _ (by omega) h
      · rw [List.mem_singleton] at h; subst h; exact dg_of (by omega)
theorem wordT_facts {z : Int} (h : isWordB z = true) : 32 ∉ wordT z ∧ wordT z ≠ [] ∧ wordT z ≠ [45, 45] ∧ (wordT z).length ≤ 5 := by
  rcases isWordB_iff.1 h with h1 | h1
  · rw [wordT_num h1]
    have hl := dec_len (n := z.toNat) (by omega)
    refine ⟨fun hm => ?_, fun e => ?_, fun e => ?_, by omega⟩
    · have := dec_mem hm; revert this; decide
    · rw [e] at hl; simp at hl
    · have : (45 : UInt8) ∈ decDigits z.toNat := by rw [e]; simp
      have := dec_mem this; revert this; decide
  · rw [wordT_op h1]
    exact (names_all ⟨(z - 1001).toNat, by omega⟩).2
theorem read_nil : readWordR [] = none := by decide
theorem read_dash : readWordR [45, 45] = none := by decide
theorem read_sp {l : List UInt8} (h : 32 ∈ l) : readWordR l = none := by
  rcases hr : readWordR l with _ | z
  · rfl
  · obtain ⟨h1, h2⟩ := word_read hr
    exact absurd (h2 ▸ h) (wordT_facts h1).1

/-! ### Cutting at spaces -/
def cutL (c : UInt8) : List UInt8 → List (List UInt8)
  | [] => [[]]
  | x :: r => if x = c then [] :: cutL c r else match cutL c r with
    | [] => [[x]]
    | w :: ws => (x :: w) :: ws
theorem cut_ne (c : UInt8) (l : List UInt8) : cutL c l ≠ [] := by
  cases l with
  | nil => simp [cutL]
  | cons x r => rw [cutL]; split; · simp
                split <;> simp
theorem cut_last {c : UInt8} {a : List UInt8} (h : c ∉ a) : cutL c a = [a] := by
  induction a with
  | nil => rfl
  | cons x r ih =>
    rw [cutL, if_neg (fun e => h (by simp [e])), ih (fun e => h (by simp [e]))]
theorem cutL_step {c : UInt8} {a b : List UInt8} (h : c ∉ a) : cutL c (a ++ c :: b) = a :: cutL c b := by
  induction a with
  | nil => rw [List.nil_append, cutL, if_pos rfl]
  | cons x r ih =>
    rw [List.cons_append, cutL, if_neg (fun e => h (by simp [e])), ih (fun e => h (by simp [e]))]
theorem cutL_snoc (c : UInt8) (l : List UInt8) : cutL c (l ++ [c]) = cutL c l ++ [[]] := by
  induction l with
  | nil => simp [cutL]
  | cons x r ih =>
    rw [List.cons_append, cutL, cutL, ih]
    by_cases h : x = c
    · rw [if_pos h, if_pos h]; rfl
    · rw [if_neg h, if_neg h]
      rcases hc : cutL c r with _ | ⟨w, ws⟩
      · exact absurd hc (cut_ne _ _)
      · rfl
theorem join_ne (w : List UInt8) (r : List (List UInt8)) (sep : List UInt8) (h : r ≠ []) : Lib.join (w :: r) sep = w ++ sep ++ Lib.join r sep := by
  obtain ⟨x, r, rfl⟩ := List.exists_cons_of_ne_nil h
  rw [Lib.join_cons, Lib.join_cons]; simp [Lib.joinTail]
theorem cut_join {ws : List (List UInt8)} (h : ∀ w ∈ ws, (32 : UInt8) ∉ w) (hne : ws ≠ []) : cutL 32 (Lib.join ws [32]) = ws := by
  induction ws with
  | nil => exact absurd rfl hne
  | cons w r ih =>
    by_cases hr : r = []
    · subst hr; rw [Lib.join_one]; exact cut_last (h w (by simp))
    · rw [join_ne _ _ _ hr, List.append_assoc, List.singleton_append, cutL_step (h w (by simp)), ih (fun x hx => h x (by simp [hx])) hr]
theorem join_cut (l : List UInt8) : Lib.join (cutL 32 l) [32] = l := by
  induction l with
  | nil => simp [cutL, Lib.join_one]
  | cons x r ih =>
    rw [cutL]
    by_cases h : x = 32
    · rw [if_pos h, join_ne _ _ _ (cut_ne _ _), ih, h]; rfl
    · rw [if_neg h]
      rcases hc : cutL 32 r with _ | ⟨w, ws⟩
      · exact absurd hc (cut_ne _ _)
      · rw [hc] at ih
        rw [Lib.join_cons] at ih ⊢
        show x :: (w ++ Lib.joinTail [32] ws) = _
        rw [ih]
def readAll : List (List UInt8) → Option (List Int)
  | [] => some []
  | w :: r => match readWordR w with
    | none => none
    | some z => (readAll r).map (z :: ·)
theorem readAll_app {a b : List (List UInt8)} : readAll (a ++ b) = (readAll a).bind fun p => (readAll b).map (p ++ ·) := by
  induction a with
  | nil => simp [readAll]
  | cons w r ih =>
    rw [List.cons_append, readAll, readAll]
    rcases readWordR w with _ | z
    · rfl
    · simp only [ih]
      rcases readAll r with _ | p
      · rfl
      · simp only [Option.bind_some, Option.map_some]
        rcases readAll b with _ | q <;> simp
theorem readAll_len {ws : List (List UInt8)} : ∀ {p : List Int}, readAll ws = some p → p.length = ws.length ∧ p.all isWordB = true ∧ ws = p.map wordT := by
  induction ws with
  | nil => intro p h; simp [readAll] at h; subst h; simp
  | cons w r ih =>
    intro p h
    rw [readAll] at h
    rcases hr : readWordR w with _ | z
    · rw [hr] at h; cases h
    · rw [hr] at h
      obtain ⟨q, hq, rfl⟩ := Option.map_eq_some_iff.1 h
      obtain ⟨h1, h2, h3⟩ := ih hq
      obtain ⟨k1, k2⟩ := word_read hr
      exact ⟨by simp [h1], by simp [k1, h2], by simp [k2, ← h3]⟩
theorem readAll_words {p : List Int} (h : p.all isWordB = true) : readAll (p.map wordT) = some p := by
  induction p with
  | nil => rfl
  | cons z r ih =>
    simp only [List.all_cons, Bool.and_eq_true] at h
    rw [List.map_cons, readAll, read_word h.1]
    simp [ih h.2]
/-- ReadProg. -/
def readProgR (l : List UInt8) : Option (List Int) := if l = [45, 45] then some [] else match readAll (cutL 32 l) with
  | none => none
  | some p => if validB p = true then some p else none
/-- ProgText. -/
def progT (p : List Int) : List UInt8 := if validB p = true then (if p = [] then [45, 45] else Lib.join (p.map wordT) [32]) else []
theorem validB_words {p : List Int} (h : validB p = true) : p.all isWordB = true := by
  simp only [validB, Bool.and_eq_true] at h; exact h.1.2
theorem words_nosp {p : List Int} (h : p.all isWordB = true) : ∀ w ∈ p.map wordT, (32 : UInt8) ∉ w := by
  intro w hw
  obtain ⟨z, hz, rfl⟩ := List.mem_map.1 hw
  exact (wordT_facts (List.all_eq_true.1 h z hz)).1
theorem read_prog {p : List Int} (h : validB p = true) : readProgR (progT p) = some p := by
  have hw := validB_words h
  rw [progT, if_pos h]
  by_cases hp : p = []
  · subst hp; rw [if_pos rfl]; rfl
  · rw [if_neg hp]
    have hc := cut_join (words_nosp hw) (by simpa using hp)
    unfold readProgR
    rw [if_neg, hc, readAll_words hw]
    · simp [h]
    · intro e
      rw [e] at hc
      have : cutL 32 [45, 45] = [[45, 45]] := by decide
      rw [this] at hc
      rcases p with _ | ⟨z, _ | ⟨y, r⟩⟩
      · exact hp rfl
      · simp only [List.map_cons, List.map_nil, List.cons.injEq, and_true] at hc
        simp only [List.all_cons, Bool.and_eq_true] at hw
        exact (wordT_facts hw.1).2.2.1 hc.symm
      · simp at hc
theorem prog_read {l : List UInt8} {p : List Int} (h : readProgR l = some p) : validB p = true ∧ progT p = l := by
  unfold readProgR at h
  split at h
  · rename_i e; cases h; subst e; exact ⟨by decide, by decide⟩
  · split at h
    · cases h
    · rename_i q hq
      split at h
      · rename_i hv
        cases h
        refine ⟨hv, ?_⟩
        obtain ⟨h1, h2, h3⟩ := readAll_len hq
        rw [progT, if_pos hv, if_neg, ← h3, join_cut]
        intro e
        rw [e] at h1
        exact cut_ne _ _ (List.eq_nil_of_length_eq_zero h1.symm)
      · cases h
theorem read_prog_sp (l : List UInt8) : readProgR (l ++ [32]) = none := by
  unfold readProgR
  rw [if_neg, cutL_snoc, readAll_app]
  · have : readAll [[]] = none := by rw [readAll, read_nil]
    rw [this]
    rcases readAll (cutL 32 l) with _ | p <;> rfl
  · intro e
    have := congrArg (·.getLast?) e
    simp at this
theorem progT_ne {p : List Int} (h : validB p = true) : progT p ≠ [] := by
  intro e
  have := read_prog h
  rw [e] at this
  have h2 : readProgR [] = none := by decide
  rw [h2] at this; cases this
theorem progT_no {p : List Int} (h : validB p = false) : progT p = [] := by rw [progT, if_neg (by simp [h])]
end Go.Proofs.Ytceekfoacgoalaa
