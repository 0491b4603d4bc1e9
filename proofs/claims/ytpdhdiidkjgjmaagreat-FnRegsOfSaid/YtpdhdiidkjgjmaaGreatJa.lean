/- Shuffles, plain: rows of places, what a shuffle leaves, the shuffle of a row. -/
import Derived.Test.YtpdhdiidkjgjmaaGreatBc
import Derived.Test.YtpdhdiidkjgjmaaGreatB2
namespace Go.Proofs.YtpdhdiidkjgjmaaGreat
set_option maxRecDepth 100000

/-- Words of shuffles. -/
def mvB (z : Int) : Bool := z == 1001 || z == 1002 || z == 1003 || z == 1004 || z == 1012 || z == 1013
def shufFrom : Int → List Int → Bool
  | b, [] => !(b == 1013)
  | b, z :: zs => mvB z && ((z == 1004) == (b == 1013)) && shufFrom z zs
def shufB (p : List Int) : Bool := validB p && shufFrom 1002 p
theorem shufFrom_drop (b : Int) (zs : List Int) (k : Nat) (h : k < zs.length) : shufFrom b (zs.drop k) = (mvB (zs.getD k 0) && ((zs.getD k 0 == 1004) == (b == 1013)) && shufFrom (zs.getD k 0) (zs.drop (k + 1))) := by
  rw [List.drop_eq_getElem_cons h, shufFrom]; simp [List.getD, List.getElem?_eq_getElem h]
theorem shufFrom_same {b c : Int} (l : List Int) (h : (b == 1013) = (c == 1013)) : shufFrom b l = shufFrom c l := by
  cases l with
  | nil => rw [shufFrom, shufFrom, h]
  | cons z zs => rw [shufFrom, shufFrom, h]
theorem shufFrom_end (b : Int) (xs rest : List Int) : shufFrom b (xs ++ 1013 :: rest) = (shufFrom b xs && shufFrom 1013 rest) := by
  induction xs generalizing b with
  | nil => rw [List.nil_append, shufFrom, shufFrom]; cases b == 1013 <;> simp [mvB]
  | cons z zs ih => rw [List.cons_append, shufFrom, shufFrom, ih]; simp [Bool.and_assoc]
theorem shufFrom_append {b : Int} {xs : List Int} (ys : List Int) (h : shufFrom b xs = true) : shufFrom b (xs ++ ys) = shufFrom 1002 ys := by
  induction xs generalizing b with
  | nil =>
    rw [shufFrom] at h
    exact shufFrom_same _ (by rw [Bool.not_eq_true'] at h; rw [h]; rfl)
  | cons z zs ih =>
    rw [shufFrom, Bool.and_eq_true] at h
    rw [List.cons_append, shufFrom, h.1, ih h.2, Bool.true_and]
/-- What opens ends, and where. -/
theorem cut_split (r : List Int) : ∀ o : Int, 0 ≤ o → fitsFrom (o + 1) r = true →
    ∃ inner rest, r = inner ++ 1013 :: rest ∧ fitsFrom o inner = true ∧ fitsFrom 0 rest = true ∧ cutAt (o + 1) r = some (inner.length + 1) := by
  induction r with
  | nil => intro o h0 h; simp [fitsFrom] at h; omega
  | cons z zs ih =>
    intro o h0 h
    rw [fitsFrom] at h
    by_cases hn : o + 1 + brk z < 0
    · simp [hn] at h
    · rw [if_neg hn] at h
      by_cases hz : o + 1 + brk z = 0
      · rcases brk_cases z with ⟨_, h2⟩ | ⟨rfl, h2⟩ | ⟨_, _, h2⟩
        · omega
        · refine ⟨[], zs, rfl, ?_, by rw [hz] at h; exact h, by rw [cutAt, if_pos hz]; rfl⟩
          have : o = 0 := by omega
          subst this; rfl
        · omega
      · obtain ⟨inner, rest, rfl, h1, h2, h3⟩ := ih (o + brk z) (by omega) (by rw [show o + brk z + 1 = o + 1 + brk z from by omega]; exact h)
        refine ⟨z :: inner, rest, rfl, by rw [fitsFrom, if_neg (by omega)]; exact h1, h2, ?_⟩
        rw [cutAt, if_neg hz, show o + 1 + brk z = o + brk z + 1 from by omega, h3]; rfl
theorem cut_open {r : List Int} (h : fitsFrom 0 (1012 :: r) = true) :
    ∃ inner rest, r = inner ++ 1013 :: rest ∧ fitsFrom 0 inner = true ∧ fitsFrom 0 rest = true ∧ cutAt 0 (1012 :: r) = some (inner.length + 2) := by
  have hb : brk 1012 = 1 := rfl
  rw [fitsFrom, hb, if_neg (by omega)] at h
  obtain ⟨inner, rest, h1, h2, h3, h4⟩ := cut_split r 0 (by omega) h
  exact ⟨inner, rest, h1, h2, h3, by rw [cutAt, hb, if_neg (by omega), h4]; rfl⟩

/-- One word of a shuffle: the values that are there, and those put aside, the upper ones first. -/
def mvStep {α : Type} (z : Int) (t a : List α) : Option (List α × List α) :=
  if z = 1001 then (match t with | x :: r => some (x :: x :: r, a) | [] => none)
  else if z = 1002 then (match t with | _ :: r => some (r, a) | [] => none)
  else if z = 1003 then (match t with | x :: y :: r => some (y :: x :: r, a) | _ => none)
  else if z = 1012 then (match t with | x :: r => some (r, x :: a) | [] => none)
  else if z = 1004 then (match a with | x :: r => some (x :: t, r) | [] => none)
  else some (t, a)
def mvRun {α : Type} : List Int → List α → List α → Option (List α × List α)
  | [], t, a => some (t, a)
  | z :: zs, t, a => match mvStep z t a with | some (t', a') => mvRun zs t' a' | none => none
/-- What a shuffle leaves, the upper value first. -/
def rowT {α : Type} (p : List Int) (t : List α) : Option (List α) := (mvRun p t []).map (·.1)
theorem mvRun_drop {α : Type} (zs : List Int) (k : Nat) (h : k < zs.length) (t a : List α) : mvRun (zs.drop k) t a = match mvStep (zs.getD k 0) t a with | some (t', a') => mvRun (zs.drop (k + 1)) t' a' | none => none := by
  rw [List.drop_eq_getElem_cons h, mvRun]; simp [List.getD, List.getElem?_eq_getElem h]
theorem mvRun_append {α : Type} (p q : List Int) (t a : List α) : mvRun (p ++ q) t a = match mvRun p t a with | some (t', a') => mvRun q t' a' | none => none := by
  induction p generalizing t a with
  | nil => rfl
  | cons z zs ih =>
    rw [List.cons_append, mvRun, mvRun]
    rcases mvStep z t a with _ | ⟨t', a'⟩
    · rfl
    · exact ih t' a'
/-- A shuffle is nothing, a word of three and a shuffle, or a shuffle in brackets, OpDip, and a shuffle. -/
theorem shuf_cases {l : List Int} (hf : fitsFrom 0 l = true) (hs : shufFrom 1002 l = true) :
    l = [] ∨ (∃ z r, l = z :: r ∧ (z = 1001 ∨ z = 1002 ∨ z = 1003) ∧ fitsFrom 0 r = true ∧ shufFrom 1002 r = true) ∨
    (∃ inner r, l = 1012 :: (inner ++ 1013 :: 1004 :: r) ∧ fitsFrom 0 inner = true ∧ shufFrom 1002 inner = true ∧ fitsFrom 0 r = true ∧ shufFrom 1002 r = true) := by
  cases l with
  | nil => exact .inl rfl
  | cons z r =>
    right
    have hs0 := hs
    rw [shufFrom, Bool.and_eq_true, Bool.and_eq_true] at hs
    obtain ⟨⟨h1, h2⟩, h3⟩ := hs
    have h4 : z ≠ 1004 := by rintro rfl; simp at h2
    by_cases ho : z = 1012
    · subst ho
      right
      obtain ⟨inner, rest, rfl, i1, i2, _⟩ := cut_open hf
      rw [shufFrom_end, Bool.and_eq_true] at h3
      cases rest with
      | nil => simp [shufFrom] at h3
      | cons y q =>
        have h5 := h3.2
        rw [shufFrom, Bool.and_eq_true, Bool.and_eq_true] at h5
        obtain rfl : y = 1004 := by simpa using h5.1.2
        refine ⟨inner, q, rfl, i1, (shufFrom_same inner (by decide)).trans h3.1, ?_, (shufFrom_same q (by decide)).trans h5.2⟩
        have hb : brk 1004 = 0 := rfl
        rw [fitsFrom, hb, if_neg (by omega)] at i2
        exact i2
    · have hc : z ≠ 1013 := by
        rintro rfl
        have hb : brk 1013 = -1 := rfl
        rw [fitsFrom, hb] at hf; simp at hf
      left
      have hb : brk z = 0 := by unfold brk; rw [if_neg ho, if_neg hc]
      rw [fitsFrom, hb, if_neg (by omega)] at hf
      refine ⟨z, r, rfl, ?_, by simpa using hf, (shufFrom_same r (by simp [hc])).trans h3⟩
      simp [mvB, ho, hc, h4] at h1
      omega
/-- What is aside stays. -/
theorem mvRun_aside {α : Type} (N : Nat) : ∀ (p : List Int) (t a : List α), p.length ≤ N → fitsFrom 0 p = true → shufFrom 1002 p = true → mvRun p t a = (rowT p t).map (·, a) := by
  induction N with
  | zero =>
    intro p t a hl _ _
    have : p = [] := List.eq_nil_of_length_eq_zero (by omega)
    subst this; rfl
  | succ N ih =>
    intro p t a hl hf hs
    rcases shuf_cases hf hs with rfl | ⟨z, r, rfl, hz, h1, h2⟩ | ⟨inner, r, rfl, i1, i2, h1, h2⟩
    · rfl
    · have hl' : r.length ≤ N := by simp at hl; omega
      have key : ∀ b : List α, mvStep z t b = (match mvStep z t ([] : List α) with | some (t', _) => some (t', b) | none => none) := by
        intro b
        rcases hz with rfl | rfl | rfl <;> simp only [mvStep] <;> (try simp) <;> (rcases t with _ | ⟨x, _ | ⟨y, t⟩⟩ <;> rfl)
      unfold rowT
      rw [mvRun, mvRun, key a]
      rcases mvStep z t ([] : List α) with _ | ⟨t', b'⟩
      · rfl
      · dsimp only
        rw [ih r t' a hl' h1 h2, ih r t' b' hl' h1 h2]
        cases rowT r t' <;> rfl
    · simp at hl
      have hin : ∀ b : List α, mvRun (1012 :: (inner ++ 1013 :: 1004 :: r)) t b = match t with | x :: t0 => (match rowT inner t0 with | some t1 => (rowT r (x :: t1)).map (·, b) | none => none) | [] => none := by
        intro b
        rw [mvRun]
        cases t with
        | nil => simp [mvStep]
        | cons x t0 =>
          have e1 : mvStep 1012 (x :: t0) b = some (t0, x :: b) := by simp [mvStep]
          rw [e1]
          dsimp only
          rw [mvRun_append, ih inner t0 (x :: b) (by omega) i1 i2]
          cases rowT inner t0 with
          | none => rfl
          | some t1 =>
            dsimp only [Option.map]
            have e2 : mvStep 1013 t1 (x :: b) = some (t1, x :: b) := by simp [mvStep]
            have e3 : mvStep 1004 t1 (x :: b) = some (x :: t1, b) := by simp [mvStep]
            rw [mvRun, e2]; dsimp only
            rw [mvRun, e3]; dsimp only
            exact ih r (x :: t1) b (by omega) h1 h2
      unfold rowT
      rw [hin a, hin []]
      cases t with
      | nil => rfl
      | cons x t0 =>
        dsimp only
        cases rowT inner t0 with
        | none => rfl
        | some t1 => dsimp only; cases rowT r (x :: t1) <;> rfl
theorem mvRun_row {α : Type} {p : List Int} (hf : fitsFrom 0 p = true) (hs : shufFrom 1002 p = true) (t a : List α) : mvRun p t a = (rowT p t).map (·, a) := mvRun_aside p.length p t a (Nat.le_refl _) hf hs
theorem rowT_nil {α : Type} (t : List α) : rowT [] t = some t := rfl
theorem rowT_open {α : Type} {inner r : List Int} (hi : fitsFrom 0 inner = true) (hs : shufFrom 1002 inner = true) (t : List α) :
    rowT (1012 :: (inner ++ 1013 :: 1004 :: r)) t = match t with | x :: t0 => (match rowT inner t0 with | some t1 => rowT r (x :: t1) | none => none) | [] => none := by
  unfold rowT
  rw [mvRun]
  cases t with
  | nil => simp [mvStep]
  | cons x t0 =>
    have e1 : mvStep 1012 (x :: t0) ([] : List α) = some (t0, [x]) := by simp [mvStep]
    rw [e1]
    dsimp only
    rw [mvRun_append, mvRun_row hi hs t0 [x]]
    unfold rowT
    cases mvRun inner t0 ([] : List α) with
    | none => rfl
    | some y =>
      obtain ⟨t1, a1⟩ := y
      dsimp only [Option.map]
      have e2 : mvStep 1013 t1 [x] = some (t1, [x]) := by simp [mvStep]
      have e3 : mvStep 1004 t1 [x] = some (x :: t1, []) := by simp [mvStep]
      rw [mvRun, e2]; dsimp only
      rw [mvRun, e3]
/-- A step makes at most one value more. -/
theorem mvStep_len {α : Type} {z : Int} {t a t' a' : List α} (h : mvStep z t a = some (t', a')) : t'.length + a'.length ≤ t.length + a.length + 1 := by
  unfold mvStep at h
  split at h
  · rcases t with _ | ⟨x, t⟩
    · cases h
    · simp at h; obtain ⟨rfl, rfl⟩ := h; simp; omega
  split at h
  · rcases t with _ | ⟨x, t⟩
    · cases h
    · simp at h; obtain ⟨rfl, rfl⟩ := h; simp; omega
  split at h
  · rcases t with _ | ⟨x, _ | ⟨y, t⟩⟩
    · cases h
    · cases h
    · simp at h; obtain ⟨rfl, rfl⟩ := h; simp
  split at h
  · rcases t with _ | ⟨x, t⟩
    · cases h
    · simp at h; obtain ⟨rfl, rfl⟩ := h; simp; omega
  split at h
  · rcases a with _ | ⟨x, a⟩
    · cases h
    · simp at h; obtain ⟨rfl, rfl⟩ := h; simp; omega
  · simp at h; obtain ⟨rfl, rfl⟩ := h; omega
theorem mvRun_len {α : Type} {p : List Int} : ∀ {t a t' a' : List α}, mvRun p t a = some (t', a') → t'.length + a'.length ≤ t.length + a.length + p.length := by
  induction p with
  | nil => intro t a t' a' h; simp [mvRun] at h; obtain ⟨rfl, rfl⟩ := h; simp
  | cons z zs ih =>
    intro t a t' a' h
    rw [mvRun] at h
    rcases hq : mvStep z t a with _ | ⟨t1, a1⟩
    · rw [hq] at h; cases h
    · rw [hq] at h
      have h1 := ih h
      have h2 := mvStep_len hq
      simp; omega
theorem rowT_len {α : Type} {p : List Int} {t t' : List α} (h : rowT p t = some t') : t'.length ≤ t.length + p.length := by
  unfold rowT at h
  rcases hq : mvRun p t ([] : List α) with _ | ⟨t1, a1⟩
  · rw [hq] at h; cases h
  · rw [hq] at h; cases h
    have := mvRun_len hq
    simp at this ⊢; omega
theorem mvStep_map {α β : Type} (f : α → β) (z : Int) (t a : List α) : mvStep z (t.map f) (a.map f) = (mvStep z t a).map (fun x => (x.1.map f, x.2.map f)) := by
  unfold mvStep
  split
  · cases t <;> rfl
  split
  · cases t <;> rfl
  split
  · rcases t with _ | ⟨x, _ | ⟨y, t⟩⟩ <;> rfl
  split
  · cases t <;> rfl
  split
  · cases a <;> rfl
  · rfl
theorem mvRun_map {α β : Type} (f : α → β) (p : List Int) : ∀ t a : List α, mvRun p (t.map f) (a.map f) = (mvRun p t a).map (fun x => (x.1.map f, x.2.map f)) := by
  induction p with
  | nil => intro t a; rfl
  | cons z zs ih =>
    intro t a
    rw [mvRun, mvRun, mvStep_map]
    rcases mvStep z t a with _ | ⟨t', a'⟩
    · rfl
    · exact ih t' a'
theorem rowT_map {α β : Type} (f : α → β) (p : List Int) (t : List α) : rowT p (t.map f) = (rowT p t).map (List.map f) := by
  unfold rowT
  have h := mvRun_map f p t []
  rw [List.map_nil] at h
  rw [h]
  cases mvRun p t [] <;> rfl
theorem mvStep_low {α : Type} {z : Int} {t a t' a' : List α} (l : List α) (h : mvStep z t a = some (t', a')) : mvStep z (t ++ l) a = some (t' ++ l, a') := by
  unfold mvStep at h ⊢
  split at h
  · rename_i hz; rw [if_pos hz]
    rcases t with _ | ⟨x, t⟩
    · cases h
    · cases h; rfl
  · rename_i hz; rw [if_neg hz]
    split at h
    · rename_i hz; rw [if_pos hz]
      rcases t with _ | ⟨x, t⟩
      · cases h
      · cases h; rfl
    · rename_i hz; rw [if_neg hz]
      split at h
      · rename_i hz; rw [if_pos hz]
        rcases t with _ | ⟨x, _ | ⟨y, t⟩⟩
        · cases h
        · cases h
        · cases h; rfl
      · rename_i hz; rw [if_neg hz]
        split at h
        · rename_i hz; rw [if_pos hz]
          rcases t with _ | ⟨x, t⟩
          · cases h
          · cases h; rfl
        · rename_i hz; rw [if_neg hz]
          split at h
          · rename_i hz; rw [if_pos hz]
            rcases a with _ | ⟨x, a⟩
            · cases h
            · cases h; rfl
          · rename_i hz; rw [if_neg hz]; cases h; rfl
theorem mvRun_low {α : Type} (l : List α) (p : List Int) : ∀ {t a t' a' : List α}, mvRun p t a = some (t', a') → mvRun p (t ++ l) a = some (t' ++ l, a') := by
  induction p with
  | nil => intro t a t' a' h; cases h; rfl
  | cons z zs ih =>
    intro t a t' a' h
    rw [mvRun] at h ⊢
    rcases hq : mvStep z t a with _ | ⟨t1, a1⟩
    · rw [hq] at h; cases h
    · rw [hq] at h
      rw [mvStep_low l hq]
      exact ih h
theorem rowT_low {α : Type} {p : List Int} {t t' : List α} (l : List α) (h : rowT p t = some t') : rowT p (t ++ l) = some (t' ++ l) := by
  unfold rowT at h ⊢
  rcases hq : mvRun p t ([] : List α) with _ | ⟨t1, a1⟩
  · rw [hq] at h; cases h
  · rw [hq] at h; cases h
    rw [mvRun_low l p hq]; rfl
theorem mvStep_mem {α : Type} {z : Int} {t a t' a' : List α} (h : mvStep z t a = some (t', a')) (x : α) (hx : x ∈ t' ∨ x ∈ a') : x ∈ t ∨ x ∈ a := by
  unfold mvStep at h
  split at h
  · rcases t with _ | ⟨y, t⟩
    · cases h
    · cases h; simp at hx ⊢; exact hx
  split at h
  · rcases t with _ | ⟨y, t⟩
    · cases h
    · cases h; simp at hx ⊢; rcases hx with hx | hx <;> simp [hx]
  split at h
  · rcases t with _ | ⟨y, _ | ⟨y', t⟩⟩
    · cases h
    · cases h
    · cases h; simp at hx ⊢; rcases hx with (hx | hx | hx) | hx <;> simp [hx]
  split at h
  · rcases t with _ | ⟨y, t⟩
    · cases h
    · cases h; simp at hx ⊢; rcases hx with hx | hx | hx <;> simp [hx]
  split at h
  · rcases a with _ | ⟨y, a⟩
    · cases h
    · cases h; simp at hx ⊢; rcases hx with (hx | hx) | hx <;> simp [hx]
  · cases h; exact hx
theorem mvRun_mem {α : Type} {p : List Int} : ∀ {t a t' a' : List α}, mvRun p t a = some (t', a') → ∀ x, x ∈ t' ∨ x ∈ a' → x ∈ t ∨ x ∈ a := by
  induction p with
  | nil => intro t a t' a' h x hx; cases h; exact hx
  | cons z zs ih =>
    intro t a t' a' h x hx
    rw [mvRun] at h
    rcases hq : mvStep z t a with _ | ⟨t1, a1⟩
    · rw [hq] at h; cases h
    · rw [hq] at h
      exact mvStep_mem hq x (ih h x hx)
theorem rowT_mem {α : Type} {p : List Int} {t t' : List α} (h : rowT p t = some t') (x : α) (hx : x ∈ t') : x ∈ t := by
  unfold rowT at h
  rcases hq : mvRun p t ([] : List α) with _ | ⟨t1, a1⟩
  · rw [hq] at h; cases h
  · rw [hq] at h; cases h
    simpa using mvRun_mem hq x (.inl hx)
theorem rowT_append {α : Type} {p : List Int} (hf : fitsFrom 0 p = true) (hs : shufFrom 1002 p = true) (q : List Int) (t : List α) : rowT (p ++ q) t = (rowT p t).bind (rowT q) := by
  unfold rowT
  rw [mvRun_append, mvRun_row hf hs]
  unfold rowT
  rcases mvRun p t ([] : List α) with _ | ⟨t1, a1⟩ <;> rfl

/-- The numbers below n, the greatest one first. -/
def topRow (n : Nat) : List Int := ((List.range n).map (fun k : Nat => (k : Int))).reverse
theorem topRow_len (n : Nat) : (topRow n).length = n := by simp [topRow]
theorem topRow_succ (n : Nat) : topRow (n + 1) = (n : Int) :: topRow n := by simp [topRow, List.range_succ]
theorem topRow_mem {n : Nat} {z : Int} : z ∈ topRow n ↔ 0 ≤ z ∧ z < n := by
  simp [topRow]
  constructor
  · rintro ⟨a, h, rfl⟩; omega
  · rintro ⟨h1, h2⟩; exact ⟨z.toNat, by omega, by omega⟩
theorem topRow_up (n : Nat) : topRow (n + 1) = (topRow n).map (· + 1) ++ [0] := by
  induction n with
  | zero => rfl
  | succ n ih =>
    rw [topRow_succ (n + 1), show (topRow (n + 1)).map (· + 1) = ((n : Int) + 1) :: (topRow n).map (· + 1) from by rw [topRow_succ]; rfl, List.cons_append, ← ih]
    rfl
/-- What PlacesOf tells. -/
def placesR (p : List Int) (many : Int) : List Int × Bool :=
  if shufB p = true ∧ 0 ≤ many ∧ many ≤ 5 then (match rowT p (topRow many.toNat) with
    | some t => if t.length ≤ 20 then (t.reverse, true) else ([], false)
    | none => ([], false))
  else ([], false)
theorem placesR_ok {p : List Int} {many : Int} {y : List Int} (h : placesR p many = (y, true)) : shufB p = true ∧ 0 ≤ many ∧ many ≤ 5 ∧ rowT p (topRow many.toNat) = some y.reverse ∧ y.length ≤ 20 := by
  unfold placesR at h
  split at h
  · rename_i hc
    rcases hq : rowT p (topRow many.toNat) with _ | t
    · rw [hq] at h; cases h
    · rw [hq] at h
      dsimp only at h
      split at h
      · cases h; rw [List.reverse_reverse]; exact ⟨hc.1, hc.2.1, hc.2.2, rfl, by simpa⟩
      · cases h
  · cases h
theorem placesR_no {p : List Int} {many : Int} {y : List Int} (h : placesR p many = (y, false)) : y = [] := by
  unfold placesR at h
  split at h
  · split at h
    · split at h
      · cases h
      · cases h; rfl
    · cases h; rfl
  · cases h; rfl
theorem placesR_mk {p : List Int} {many : Int} {t : List Int} (hs : shufB p = true) (h0 : 0 ≤ many ∧ many ≤ 5) (h : rowT p (topRow many.toNat) = some t) (hl : t.length ≤ 20) : placesR p many = (t.reverse, true) := by
  unfold placesR; rw [if_pos ⟨hs, h0⟩, h]; dsimp only; rw [if_pos hl]
theorem placesR_len (p : List Int) (many : Int) : (placesR p many).1.length ≤ 20 := by
  unfold placesR
  split
  · split
    · split
      · simpa
      · simp
    · simp
  · simp
theorem placesR_up {p : List Int} {many : Int} {y : List Int} (h : placesR p many = (y, true)) (hm : many < 5) (hl : y.length < 20) : placesR p (many + 1) = (0 :: y.map (· + 1), true) := by
  obtain ⟨h1, h2, h3, h4, h5⟩ := placesR_ok h
  have e : (many + 1).toNat = many.toNat + 1 := by omega
  have h6 : rowT p (topRow (many + 1).toNat) = some (y.reverse.map (· + 1) ++ [0]) := by
    rw [e, topRow_up]
    exact rowT_low [0] (by rw [rowT_map, h4]; rfl)
  rw [placesR_mk h1 ⟨by omega, by omega⟩ h6 (by simp; omega)]
  simp [List.map_reverse]
theorem placesR_mem {p : List Int} {many : Int} {y : List Int} (h : placesR p many = (y, true)) (z : Int) (hz : z ∈ y) : 0 ≤ z ∧ z < many := by
  obtain ⟨h1, h2, h3, h4, h5⟩ := placesR_ok h
  have := topRow_mem.1 (rowT_mem h4 z (by simpa using hz))
  omega

/-- The first number from k on, of n, for which PlacesOf tells something. -/
def takesFrom (p : List Int) : Nat → Nat → Int
  | _, 0 => -1
  | k, n + 1 => if (placesR p k).2 = true then (k : Int) else takesFrom p (k + 1) n
def takesR (p : List Int) : Int := takesFrom p 0 6
theorem takesFrom_bd (p : List Int) (n : Nat) : ∀ k, takesFrom p k n = -1 ∨ ((k : Int) ≤ takesFrom p k n ∧ takesFrom p k n < k + n) := by
  induction n with
  | zero => intro k; exact .inl rfl
  | succ n ih =>
    intro k
    rw [takesFrom]
    split
    · right; omega
    · rcases ih (k + 1) with h | h
      · exact .inl h
      · right; omega
theorem takesFrom_le (p : List Int) (n : Nat) : ∀ k m : Nat, k ≤ m → m < k + n → (placesR p m).2 = true → takesFrom p k n ≤ m := by
  induction n with
  | zero => intro k m h1 h2; omega
  | succ n ih =>
    intro k m h1 h2 h3
    rw [takesFrom]
    split
    · omega
    · rename_i hk
      have : k ≠ m := by rintro rfl; exact hk h3
      exact ih (k + 1) m (by omega) (by omega) h3
theorem takesR_le {p : List Int} {many : Int} (h : (placesR p many).2 = true) : takesR p ≤ many := by
  obtain ⟨_, h1, h2, _, _⟩ := placesR_ok (show placesR p many = ((placesR p many).1, true) from by rw [← h])
  have h3 : ((many.toNat : Nat) : Int) = many := by omega
  have := takesFrom_le p 6 0 many.toNat (by omega) (by omega) (by rw [h3]; exact h)
  unfold takesR; omega
def sameShufR (p q : List Int) : Bool := (placesR p 5).2 && (placesR q 5).2 && decide ((placesR p 5).1 = (placesR q 5).1)
def placesThenR (a b : List Int) : List Int × Bool :=
  if a.length ≤ 5 ∧ b.length ≤ 5 ∧ b.all (fun z => decide (0 ≤ z) && decide (z < a.length)) = true then (b.map fun z => a.getD z.toNat 0, true) else ([], false)

/-- Under so many values. -/
def underR : Nat → Int → List Int
  | 0, w => [w]
  | n + 1, w => 1012 :: (underR n w ++ [1013, 1004])
theorem underR_fits (n : Nat) (w : Int) (hw : w = 1001 ∨ w = 1002 ∨ w = 1003) : fitsFrom 0 (underR n w) = true ∧ shufFrom 1002 (underR n w) = true ∧ (underR n w).all isWordB = true := by
  induction n with
  | zero => rcases hw with rfl | rfl | rfl <;> decide
  | succ n ih =>
    obtain ⟨h1, h2, h3⟩ := ih
    rw [underR]
    refine ⟨?_, ?_, ?_⟩
    · have hb : brk 1012 = 1 := rfl
      have key : ∀ (l : List Int) (o : Int), fitsFrom o l = true → fitsFrom (o + 1) (l ++ [1013, 1004]) = true := by
        intro l
        induction l with
        | nil => intro o h; simp [fitsFrom] at h; subst h; decide
        | cons z zs ih2 =>
          intro o h
          rw [fitsFrom] at h
          rw [List.cons_append, fitsFrom]
          by_cases hn : o + brk z < 0
          · simp [hn] at h
          · rw [if_neg hn] at h
            rw [if_neg (by omega), show o + 1 + brk z = o + brk z + 1 from by omega]
            exact ih2 _ h
      rw [fitsFrom, hb, if_neg (by omega)]
      exact key _ 0 h1
    · rw [shufFrom, shufFrom_end, shufFrom_same (c := 1002) _ (by decide), h2]; decide
    · rw [List.all_cons, List.all_append, h3]; decide
theorem rowT_under {α : Type} (w : Int) (hw : w = 1001 ∨ w = 1002 ∨ w = 1003) : ∀ (u t : List α), rowT (underR u.length w) (u ++ t) = (rowT [w] t).map (u ++ ·) := by
  intro u
  induction u with
  | nil => intro t; rw [List.length_nil, underR, List.nil_append]; cases rowT [w] t <;> rfl
  | cons x u ih =>
    intro t
    obtain ⟨h1, h2, _⟩ := underR_fits u.length w hw
    rw [List.length_cons, underR, show (underR u.length w ++ [1013, 1004]) = underR u.length w ++ 1013 :: 1004 :: [] from rfl, List.cons_append]
    have := rowT_open (r := []) h1 h2 (x :: (u ++ t))
    rw [this]
    dsimp only
    rw [ih t]
    cases rowT [w] t <;> rfl
theorem rowT_one {α : Type} (x y : α) (t : List α) : rowT [1001] (x :: t) = some (x :: x :: t) ∧ rowT [1002] (x :: t) = some t ∧ rowT [1003] (x :: y :: t) = some (y :: x :: t) := by
  refine ⟨?_, ?_, ?_⟩ <;> simp [rowT, mvRun, mvStep]
theorem shuf_append {p q : List Int} (hp : fitsFrom 0 p = true ∧ shufFrom 1002 p = true ∧ p.all isWordB = true) (hq : fitsFrom 0 q = true ∧ shufFrom 1002 q = true ∧ q.all isWordB = true) : fitsFrom 0 (p ++ q) = true ∧ shufFrom 1002 (p ++ q) = true ∧ (p ++ q).all isWordB = true :=
  ⟨(fitsFrom_append q hp.1).trans hq.1, (shufFrom_append q hp.2.1).trans hq.2.1, by rw [List.all_append, hp.2.2, hq.2.2]; rfl⟩
theorem shuf_flatten {l : List (List Int)} (h : ∀ p ∈ l, fitsFrom 0 p = true ∧ shufFrom 1002 p = true ∧ p.all isWordB = true) : fitsFrom 0 l.flatten = true ∧ shufFrom 1002 l.flatten = true ∧ l.flatten.all isWordB = true := by
  induction l with
  | nil => exact ⟨rfl, rfl, rfl⟩
  | cons p l ih => exact shuf_append (h p (by simp)) (ih fun q hq => h q (by simp [hq]))
/-- For one place: its value as often as it is in the row. -/
def oftenAt (many : Nat) (places : List Int) (k : Nat) : List Int :=
  if places.count (k : Int) = 0 then underR (many - 1 - k) 1002 else (List.replicate (places.count (k : Int) - 1) (underR (many - 1 - k) 1001)).flatten
def oftenR (many : Nat) (places : List Int) (j : Nat) : List Int := ((List.range j).map (oftenAt many places)).flatten
/-- The places in order. -/
def sortR (places : List Int) (j : Nat) : List Int := ((List.range j).map fun k : Nat => List.replicate (places.count (k : Int)) (k : Int)).flatten
def swapsR (n : Nat) : Nat → List Int
  | 0 => []
  | j + 1 => underR (n - 1 - (j + 1)) 1003 ++ swapsR n j
def orderR : List Int → List Int → List Int
  | _, [] => []
  | s, z :: zs => swapsR s.length (s.idxOf z) ++ orderR (s.erase z) zs
theorem oftenAt_shuf (many : Nat) (places : List Int) (k : Nat) : fitsFrom 0 (oftenAt many places k) = true ∧ shufFrom 1002 (oftenAt many places k) = true ∧ (oftenAt many places k).all isWordB = true := by
  unfold oftenAt
  split
  · exact underR_fits _ _ (by simp)
  · refine shuf_flatten fun p hp => ?_
    rw [List.eq_of_mem_replicate hp]
    exact underR_fits _ _ (by simp)
theorem oftenR_shuf (many : Nat) (places : List Int) (j : Nat) : fitsFrom 0 (oftenR many places j) = true ∧ shufFrom 1002 (oftenR many places j) = true ∧ (oftenR many places j).all isWordB = true := by
  refine shuf_flatten fun p hp => ?_
  obtain ⟨k, _, rfl⟩ := List.mem_map.1 hp
  exact oftenAt_shuf _ _ _
theorem swapsR_shuf (n : Nat) : ∀ j, fitsFrom 0 (swapsR n j) = true ∧ shufFrom 1002 (swapsR n j) = true ∧ (swapsR n j).all isWordB = true := by
  intro j
  induction j with
  | zero => exact ⟨rfl, rfl, rfl⟩
  | succ j ih => exact shuf_append (underR_fits _ _ (by simp)) ih
theorem orderR_shuf : ∀ (zs s : List Int), fitsFrom 0 (orderR s zs) = true ∧ shufFrom 1002 (orderR s zs) = true ∧ (orderR s zs).all isWordB = true := by
  intro zs
  induction zs with
  | nil => intro s; exact ⟨rfl, rfl, rfl⟩
  | cons z zs ih => intro s; exact shuf_append (swapsR_shuf _ _) (ih _)
theorem row_dups {α : Type} (u : List α) (k : α) : ∀ (m : Nat) (S : List α), rowT (List.replicate m (underR u.length 1001)).flatten (u ++ k :: S) = some (u ++ (List.replicate (m + 1) k ++ S)) := by
  intro m
  induction m with
  | zero => intro S; rfl
  | succ m ih =>
    intro S
    obtain ⟨h1, h2, _⟩ := underR_fits u.length 1001 (by simp)
    rw [List.replicate_succ, List.flatten_cons, rowT_append h1 h2, rowT_under 1001 (by simp) u, (rowT_one k k S).1]
    simp only [Option.map_some, Option.bind_some]
    rw [ih (k :: S)]
    congr 2
    rw [show k :: S = [k] ++ S from rfl, ← List.append_assoc, ← List.replicate_succ']
theorem row_oftenAt (many : Nat) (places : List Int) (k : Nat) (u S : List Int) (hu : u.length = many - 1 - k) : rowT (oftenAt many places k) (u ++ (k : Int) :: S) = some (u ++ (List.replicate (places.count (k : Int)) (k : Int) ++ S)) := by
  unfold oftenAt
  rw [← hu]
  split
  · rename_i h0
    rw [h0, rowT_under 1002 (by simp) u, (rowT_one (k : Int) 0 S).2.1]; rfl
  · rename_i h0
    rw [row_dups u (k : Int), show places.count (k : Int) - 1 + 1 = places.count (k : Int) from by omega]
theorem sortR_succ (places : List Int) (j : Nat) : sortR places (j + 1) = sortR places j ++ List.replicate (places.count (j : Int)) (j : Int) := by
  simp [sortR, List.range_succ]
theorem row_often (many : Nat) (places : List Int) : ∀ (j : Nat) (u : List Int), u.length + j = many → rowT (oftenR many places j) (u ++ topRow j) = some (u ++ (sortR places j).reverse) := by
  intro j
  induction j with
  | zero => intro u _; rfl
  | succ j ih =>
    intro u hu
    obtain ⟨h1, h2, _⟩ := oftenR_shuf many places j
    have e : oftenR many places (j + 1) = oftenR many places j ++ oftenAt many places j := by simp [oftenR, List.range_succ]
    rw [e, rowT_append h1 h2, topRow_succ, show u ++ (j : Int) :: topRow j = (u ++ [(j : Int)]) ++ topRow j from by simp, ih (u ++ [(j : Int)]) (by simp; omega)]
    simp only [Option.bind_some]
    rw [show u ++ [(j : Int)] ++ (sortR places j).reverse = u ++ (j : Int) :: (sortR places j).reverse from by simp, row_oftenAt many places j u _ (by omega), sortR_succ, List.reverse_append, List.reverse_replicate]
theorem sortR_count (places : List Int) (x : Int) : ∀ j : Nat, (sortR places j).count x = if 0 ≤ x ∧ x < j then places.count x else 0 := by
  intro j
  induction j with
  | zero => rw [if_neg (by omega)]; rfl
  | succ j ih =>
    rw [sortR_succ, List.count_append, ih, List.count_replicate]
    by_cases h : (j : Int) = x
    · subst h
      rw [if_neg (by omega), if_pos (by simp), if_pos (by omega)]; omega
    · have hb : ((j : Int) == x) = false := by simpa using h
      rw [hb]
      by_cases h2 : 0 ≤ x ∧ x < j
      · have h3 : 0 ≤ x ∧ x < ((j + 1 : Nat) : Int) := by omega
        rw [if_pos h2, if_pos h3]; simp
      · have h3 : ¬ (0 ≤ x ∧ x < ((j + 1 : Nat) : Int)) := by omega
        rw [if_neg h2, if_neg h3]; simp
def allB (many : Int) (l : List Int) : Bool := l.all fun z => decide (0 ≤ z) && decide (z < many)
theorem allB_mem {many : Int} {l : List Int} (h : allB many l = true) (z : Int) (hz : z ∈ l) : 0 ≤ z ∧ z < many := by
  simpa using List.all_eq_true.1 h z hz
theorem sortR_perm {many : Nat} {places : List Int} (h : allB many places = true) : (sortR places many).Perm places := by
  rw [List.perm_iff_count]
  intro x
  rw [sortR_count]
  split
  · rfl
  · rename_i hx
    exact (List.count_eq_zero.2 fun hm => hx (allB_mem h x hm)).symm
theorem sortR_sorted (places : List Int) : ∀ j : Nat, (sortR places j).Pairwise (· ≤ ·) ∧ ∀ z ∈ sortR places j, z < j := by
  intro j
  induction j with
  | zero => exact ⟨List.Pairwise.nil, by simp [sortR]⟩
  | succ j ih =>
    rw [sortR_succ]
    refine ⟨List.pairwise_append.2 ⟨ih.1, ?_, fun a ha b hb => ?_⟩, fun z hz => ?_⟩
    · rw [List.pairwise_replicate]; right; omega
    · rw [List.eq_of_mem_replicate hb]
      have := ih.2 a ha; omega
    · rcases List.mem_append.1 hz with h | h
      · have := ih.2 z h; omega
      · rw [List.eq_of_mem_replicate h]; omega
theorem sorted_unique : ∀ {a b : List Int}, a.Perm b → a.Pairwise (· ≤ ·) → b.Pairwise (· ≤ ·) → a = b := by
  intro a
  induction a with
  | nil => intro b h _ _; exact (List.nil_perm.1 h).symm ▸ rfl
  | cons x a ih =>
    intro b h ha hb
    cases b with
    | nil => exact absurd h (by simp)
    | cons y b =>
      have hxy : x = y := by
        have hx : x ∈ y :: b := h.mem_iff.1 (by simp)
        have hy : y ∈ x :: a := h.mem_iff.2 (by simp)
        rcases List.mem_cons.1 hx with e | hx
        · exact e
        · rcases List.mem_cons.1 hy with e | hy
          · exact e.symm
          · have h1 := (List.pairwise_cons.1 hb).1 x hx
            have h2 := (List.pairwise_cons.1 ha).1 y hy
            omega
      subst hxy
      rw [ih (List.perm_cons x |>.1 h) (List.pairwise_cons.1 ha).2 (List.pairwise_cons.1 hb).2]
theorem row_swaps {α : Type} (z : α) : ∀ (n : Nat) (a b D : List α), a.length = n → rowT (swapsR (a.length + 1 + b.length) n) ((a ++ z :: b).reverse ++ D) = some ((z :: (a ++ b)).reverse ++ D) := by
  intro n
  induction n with
  | zero =>
    intro a b D h
    obtain rfl := List.eq_nil_of_length_eq_zero h
    rfl
  | succ n ih =>
    intro a b D h
    rcases List.eq_nil_or_concat a with rfl | ⟨a, x, rfl⟩
    · simp at h
    · rw [List.concat_eq_append] at h ⊢
      have hn : a.length = n := by simpa using h
      rw [swapsR]
      have e1 : (a ++ [x]).length + 1 + b.length - 1 - (n + 1) = b.reverse.length := by simp; omega
      obtain ⟨h1, h2, _⟩ := underR_fits b.reverse.length 1003 (by simp)
      rw [e1, rowT_append h1 h2, show ((a ++ [x]) ++ z :: b).reverse ++ D = b.reverse ++ (z :: x :: (a.reverse ++ D)) from by simp, rowT_under 1003 (by simp) b.reverse, (rowT_one z x (a.reverse ++ D)).2.2]
      simp only [Option.map_some, Option.bind_some]
      have h3 := ih a (x :: b) D hn
      rw [show a.length + 1 + (x :: b).length = (a ++ [x]).length + 1 + b.length from by simp; omega] at h3
      rw [show b.reverse ++ x :: z :: (a.reverse ++ D) = (a ++ z :: x :: b).reverse ++ D from by simp, h3]
      simp
theorem row_order : ∀ (zs s D : List Int), s.Perm zs → rowT (orderR s zs) (s.reverse ++ D) = some (zs.reverse ++ D) := by
  intro zs
  induction zs with
  | nil =>
    intro s D h
    obtain rfl := List.perm_nil.1 h
    rfl
  | cons z zs ih =>
    intro s D h
    have hz : z ∈ s := h.mem_iff.2 (by simp)
    obtain ⟨a, b, hza, hs, he⟩ := List.exists_erase_eq hz
    have hi : s.idxOf z = a.length := by rw [hs, List.idxOf_append, if_neg hza]; simp
    have hp : (a ++ b).Perm zs := by
      have h2 := h.erase z
      rw [List.erase_cons_head, he] at h2
      exact h2
    rw [orderR, hi, he]
    obtain ⟨h1, h2, _⟩ := swapsR_shuf s.length a.length
    rw [rowT_append h1 h2]
    have h3 := row_swaps z a.length a b D rfl
    rw [show s.length = a.length + 1 + b.length from by rw [hs]; simp; omega, hs, h3]
    simp only [Option.bind_some]
    have h4 := ih (a ++ b) (z :: D) hp
    rw [show (z :: (a ++ b)).reverse ++ D = (a ++ b).reverse ++ (z :: D) from by simp, h4]
    simp
/-- The program for a row of places. -/
def forR (many : Nat) (places : List Int) : List Int := oftenR many places many ++ orderR (sortR places many) places
def shuffleForR (many : Int) (places : List Int) : List Int × Bool :=
  if 0 ≤ many ∧ many ≤ 5 ∧ places.length ≤ 5 ∧ allB many places = true ∧ (forR many.toNat places).length ≤ 60 then (forR many.toNat places, true) else ([], false)
theorem forR_shuf (many : Nat) (places : List Int) : fitsFrom 0 (forR many places) = true ∧ shufFrom 1002 (forR many places) = true ∧ (forR many places).all isWordB = true := shuf_append (oftenR_shuf _ _ _) (orderR_shuf _ _)
theorem forR_valid (many : Nat) (places : List Int) : validB (forR many places) = decide ((forR many places).length ≤ 60) := by
  obtain ⟨h1, _, h3⟩ := forR_shuf many places
  rw [validB, h1, h3]; simp
theorem forR_row {many : Nat} {places : List Int} (h : allB many places = true) : rowT (forR many places) (topRow many) = some places.reverse := by
  obtain ⟨h1, h2, _⟩ := oftenR_shuf many places many
  have h3 := row_often many places many [] (by simp)
  rw [List.nil_append, List.nil_append] at h3
  have h4 := row_order places (sortR places many) [] (sortR_perm h)
  rw [List.append_nil, List.append_nil] at h4
  rw [forR, rowT_append h1 h2, h3]
  exact h4
theorem shuffleForR_ok {many : Int} {places p : List Int} (h : shuffleForR many places = (p, true)) : shufB p = true ∧ placesR p many = (places, true) ∧ takesR p ≤ many ∧ p.length ≤ 60 ∧ 0 ≤ many ∧ many ≤ 5 ∧ places.length ≤ 5 ∧ allB many places = true := by
  unfold shuffleForR at h
  split at h
  · rename_i hc
    cases h
    obtain ⟨h0, h5, hl, ha, hn⟩ := hc
    have hs : shufB (forR many.toNat places) = true := by
      rw [shufB, forR_valid, decide_eq_true hn, (forR_shuf many.toNat places).2.1]; rfl
    have e : ((many.toNat : Nat) : Int) = many := by omega
    have hp : placesR (forR many.toNat places) many = (places, true) := by
      rw [placesR_mk hs ⟨h0, h5⟩ (forR_row (by rw [e]; exact ha)) (by simp; omega), List.reverse_reverse]
    exact ⟨hs, hp, takesR_le (by rw [hp]), hn, h0, h5, hl, ha⟩
  · cases h
theorem shuffleForR_no {many : Int} {places p : List Int} (h : shuffleForR many places = (p, false)) : p = [] := by
  unfold shuffleForR at h
  split at h <;> cases h
  rfl
theorem shuffleForR_len (many : Int) (places : List Int) : (shuffleForR many places).1.length ≤ 60 := by
  unfold shuffleForR
  split
  · rename_i h; exact h.2.2.2.2
  · simp
theorem shufB_then {p q : List Int} (hp : shufB p = true) (hq : shufB q = true) (hl : (p ++ q).length ≤ 60) : shufB (p ++ q) = true := by
  rw [shufB, Bool.and_eq_true] at hp hq ⊢
  refine ⟨?_, (shufFrom_append q hp.2).trans hq.2⟩
  rw [validB_append hp.1 hq.1, decide_eq_true_eq]
  simpa using hl
theorem topRow_map (l : List Int) : (topRow l.length).map (fun z => l.getD z.toNat 0) = l.reverse := by
  rw [topRow, List.map_reverse, List.map_map]
  congr 1
  apply List.ext_getElem
  · simp
  · intro i h1 h2
    simp [List.getD, List.getElem?_eq_getElem h2]
/-- Shuffles one behind the other. -/
theorem places_then {m : Int} {a b c p q : List Int} (hc : placesThenR a b = (c, true)) (hp : shuffleForR m a = (p, true)) (hq : shuffleForR a.length b = (q, true)) (hl : (p ++ q).length ≤ 60) : placesR (p ++ q) m = (c, true) := by
  obtain ⟨p1, p2, _⟩ := shuffleForR_ok hp
  obtain ⟨q1, q2, _, _, _, _, q5, _⟩ := shuffleForR_ok hq
  obtain ⟨_, r1, r2, r3, _⟩ := placesR_ok p2
  obtain ⟨_, _, _, s3, _⟩ := placesR_ok q2
  have hs := shufB_then p1 q1 hl
  have hpf : fitsFrom 0 p = true ∧ shufFrom 1002 p = true := by
    rw [shufB, Bool.and_eq_true] at p1
    simp only [validB, Bool.and_eq_true] at p1
    exact ⟨p1.1.2, p1.2⟩
  unfold placesThenR at hc
  split at hc
  · cases hc
    have hrow : rowT (p ++ q) (topRow m.toNat) = some (b.map fun z => a.getD z.toNat 0).reverse := by
      rw [rowT_append hpf.1 hpf.2, r3]
      simp only [Option.bind_some]
      rw [← topRow_map a, rowT_map, show topRow a.length = topRow (a.length : Int).toNat from by simp, s3]
      simp
    rw [placesR_mk hs ⟨r1, r2⟩ hrow (by simp; omega), List.reverse_reverse]
  · cases hc
end Go.Proofs.YtpdhdiidkjgjmaaGreat
