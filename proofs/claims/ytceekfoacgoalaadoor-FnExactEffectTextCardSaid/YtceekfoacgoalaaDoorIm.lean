/- The text of a row or a type tells it. -/
import Derived.Test.YtceekfoacgoalaaDoorIl
namespace Go.Proofs.YtceekfoacgoalaaDoor
set_option maxRecDepth 100000
open Go.RowKit Go.WideShapes
open Lib (decDigits)

def ndT (r : List UInt8) : Prop := ∀ c, r.head? = some c → dg c = false
def stT (r : List UInt8) : Prop := r = [] ∨ (∃ t, r = 41 :: t) ∨ ∃ t, r = 32 :: 45 :: t
theorem stT.nd {r : List UInt8} (h : stT r) : ndT r := by
  rcases h with rfl | ⟨t, rfl⟩ | ⟨t, rfl⟩
  · intro c hc; cases hc
  · intro c hc; cases hc; decide
  · intro c hc; cases hc; decide
theorem take_dec (n : Nat) {r : List UInt8} (h : ndT r) : (decDigits n ++ r).takeWhile dg = decDigits n := by
  rw [List.takeWhile_append_of_pos (fun c hc => dec_mem hc)]
  rcases r with _ | ⟨c, r⟩
  · simp
  · rw [List.takeWhile_cons_of_neg (by rw [h c rfl]; simp), List.append_nil]
theorem dec_apart {n m : Nat} {r s : List UInt8} (hr : ndT r) (hs : ndT s) (h : decDigits n ++ r = decDigits m ++ s) : n = m ∧ r = s := by
  have e : decDigits n = decDigits m := by rw [← take_dec n hr, h, take_dec m hs]
  have e1 := digFrom_dec n
  rw [e, digFrom_dec m] at e1
  have : n = m := by injection e1 with e1; omega
  subst this
  exact ⟨rfl, List.append_cancel_left h⟩
def flatT (ts : List Ty) : List UInt8 := ts.flatMap (fun t => 32 :: t.txt)
theorem txt_spine (ts : List Ty) (a : Ty) : (ts.foldl .put a).txt = a.txt ++ flatT ts := by
  induction ts generalizing a with
  | nil => simp [flatT]
  | cons t ts ih => rw [List.foldl_cons, ih]; simp [Ty.txt, flatT]
theorem nums_spine (ts : List Ty) (a : Ty) : a.nums.length ≤ (ts.foldl .put a).nums.length := by
  induction ts generalizing a with
  | nil => simp
  | cons t ts ih => rw [List.foldl_cons]; have := ih (a.put t); simp [Ty.nums] at this; omega
theorem spine {S : Ty} (h : S.ok true) : ∃ (n : Int) (ts : List Ty), S = ts.foldl .put (.rest n) ∧ 0 ≤ n ∧ ∀ t ∈ ts, t.ok false ∧ t.nums.length < S.nums.length := by
  induction S with
  | num => cases h
  | any n => cases h
  | prog a b => cases h
  | rest n => exact ⟨n, [], rfl, h.1, by simp⟩
  | put a b iha =>
    obtain ⟨n, ts, e, h0, h1⟩ := iha h.1
    refine ⟨n, ts ++ [b], by rw [List.foldl_append, ← e]; rfl, h0, fun t ht => ?_⟩
    rcases List.mem_append.1 ht with ht | ht
    · have := h1 t ht; exact ⟨this.1, by simp [Ty.nums]; omega⟩
    · obtain rfl : t = b := by simpa using ht
      exact ⟨h.2, by have := nums_pos a; simp [Ty.nums]; omega⟩
theorem flat_nd (ts : List Ty) {r : List UInt8} (h : stT r) : ndT (flatT ts ++ r) := by
  rcases ts with _ | ⟨t, ts⟩
  · exact h.nd
  · intro c hc; simp [flatT] at hc; subst hc; decide
theorem txt_head {t : Ty} (h : t.ok false) : ∃ c r, t.txt = c :: r ∧ c ≠ 45 := by
  cases t with
  | num => exact ⟨_, _, rfl, by decide⟩
  | any n => exact ⟨_, _, rfl, by decide⟩
  | prog a b => exact ⟨_, _, rfl, by decide⟩
  | rest n => cases h
  | put a b => cases h
theorem flat_apart (k : Nat) (hA : ∀ (S T : Ty) (r s : List UInt8), S.ok false → T.ok false → S.nums.length < k → ndT r → ndT s → S.txt ++ r = T.txt ++ s → S = T ∧ r = s) (ts us : List Ty) (hts : ∀ t ∈ ts, t.ok false ∧ t.nums.length < k) (hus : ∀ t ∈ us, t.ok false) {r s : List UInt8} (hr : stT r) (hs : stT s) (h : flatT ts ++ r = flatT us ++ s) : ts = us ∧ r = s := by
  have no : ∀ (t : Ty) (x r : List UInt8), t.ok false → stT r → r ≠ 32 :: (t.txt ++ x) := fun t x r ht hr e => by
    obtain ⟨c, y, ey, hc⟩ := txt_head ht
    rcases hr with rfl | ⟨z, rfl⟩ | ⟨z, rfl⟩
    · cases e
    · cases e
    · rw [ey] at e; injection e with _ e; injection e with e _; exact hc e.symm
  induction ts generalizing us with
  | nil =>
    rcases us with _ | ⟨u, us⟩
    · exact ⟨rfl, h⟩
    · exfalso; refine no u (flatT us ++ s) r (hus u (by simp)) hr ?_
      simpa [flatT] using h
  | cons t ts ih =>
    rcases us with _ | ⟨u, us⟩
    · exfalso; refine no t (flatT ts ++ r) s (hts t (by simp)).1 hs ?_
      simpa [flatT] using h.symm
    · have h' : t.txt ++ (flatT ts ++ r) = u.txt ++ (flatT us ++ s) := by simpa [flatT] using h
      obtain ⟨e1, e2⟩ := hA t u _ _ (hts t (by simp)).1 (hus u (by simp)) (hts t (by simp)).2 (flat_nd ts hr) (flat_nd us hs) h'
      obtain ⟨e3, e4⟩ := ih us (fun x hx => hts x (by simp [hx])) (fun x hx => hus x (by simp [hx])) e2
      exact ⟨by rw [e1, e3], e4⟩
theorem row_apart (k : Nat) (hA : ∀ (S T : Ty) (r s : List UInt8), S.ok false → T.ok false → S.nums.length < k → ndT r → ndT s → S.txt ++ r = T.txt ++ s → S = T ∧ r = s) {S T : Ty} {r s : List UInt8} (h1 : S.ok true) (h2 : T.ok true) (hk : S.nums.length ≤ k) (hr : stT r) (hs : stT s) (h : S.txt ++ r = T.txt ++ s) : S = T ∧ r = s := by
  obtain ⟨n, ts, rfl, n0, hts⟩ := spine h1
  obtain ⟨m, us, rfl, m0, hus⟩ := spine h2
  rw [txt_spine, txt_spine] at h
  simp only [Ty.txt, List.cons_append, List.append_assoc] at h
  injection h with _ h
  obtain ⟨e1, e2⟩ := dec_apart (flat_nd ts hr) (flat_nd us hs) h
  obtain ⟨e3, e4⟩ := flat_apart k hA ts us (fun t ht => ⟨(hts t ht).1, by have := (hts t ht).2; omega⟩) (fun t ht => (hus t ht).1) hr hs e2
  have : n = m := by omega
  exact ⟨by rw [this, e3], e4⟩
theorem type_apart (k : Nat) : ∀ (S T : Ty) (r s : List UInt8), S.ok false → T.ok false → S.nums.length < k → ndT r → ndT s → S.txt ++ r = T.txt ++ s → S = T ∧ r = s := by
  induction k with
  | zero => intro S T r s _ _ h; omega
  | succ k ih =>
    intro S T r s h1 h2 hk hr hs h
    cases S with
    | num =>
      cases T with
      | num => simp [Ty.txt] at h; exact ⟨rfl, h⟩
      | any n => simp [Ty.txt] at h
      | prog a b => simp [Ty.txt] at h
      | rest n => cases h2
      | put a b => cases h2
    | any n =>
      cases T with
      | num => simp [Ty.txt] at h
      | any m =>
        simp only [Ty.txt, List.cons_append] at h
        injection h with _ h
        obtain ⟨e1, e2⟩ := dec_apart hr hs h
        have a1 : 0 ≤ n := h1.1
        have a2 : 0 ≤ m := h2.1
        have : n = m := by omega
        exact ⟨by rw [this], e2⟩
      | prog a b => simp [Ty.txt] at h
      | rest n => cases h2
      | put a b => cases h2
    | prog a b =>
      cases T with
      | num => simp [Ty.txt] at h
      | any m => simp [Ty.txt] at h
      | prog c d =>
        simp only [Ty.txt, List.cons_append, List.append_assoc] at h
        injection h with _ h
        have hl : a.nums.length + b.nums.length ≤ k := by simp [Ty.nums] at hk; omega
        obtain ⟨e1, e2⟩ := row_apart k ih h1.1 h2.1 (by omega) (.inr (.inr ⟨_, rfl⟩)) (.inr (.inr ⟨_, rfl⟩)) h
        simp only [List.nil_append] at e2
        injection e2 with _ e2
        injection e2 with _ e2
        injection e2 with _ e2
        injection e2 with _ e2
        obtain ⟨e3, e4⟩ := row_apart k ih h1.2 h2.2 (by omega) (.inr (.inl ⟨_, rfl⟩)) (.inr (.inl ⟨_, rfl⟩)) e2
        injection e4 with _ e4
        exact ⟨by rw [e1, e3], e4⟩
      | rest n => cases h2
      | put a b => cases h2
    | rest n => cases h1
    | put a b => cases h1
theorem effect_apart {A B C D : Ty} (ha : A.ok true) (hb : B.ok true) (hc : C.ok true) (hd : D.ok true) (h : A.txt ++ ([32, 45, 62, 32] ++ B.txt) = C.txt ++ ([32, 45, 62, 32] ++ D.txt)) : A = C ∧ B = D := by
  obtain ⟨e1, e2⟩ := row_apart _ (type_apart _) ha hc (Nat.le_refl _) (.inr (.inr ⟨_, rfl⟩)) (.inr (.inr ⟨_, rfl⟩)) h
  have e3 : B.txt ++ [] = D.txt ++ [] := by simpa using e2
  exact ⟨e1, (row_apart _ (type_apart _) hb hd (Nat.le_refl _) (.inl rfl) (.inl rfl) e3).1⟩
end Go.Proofs.YtceekfoacgoalaaDoor
