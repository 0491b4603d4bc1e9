/- The program's runner: contracts of put, takeNum, takeProg, dup, swap, reckon, call, choose, dip. -/
import Derived.Test.YtgiemajjmdjfkaaDoorRa
import Derived.Test.YtgiemajjmdjfkaaDoorH
namespace Go.Proofs.YtgiemajjmdjfkaaDoor
set_option maxRecDepth 100000
open Go.RowKit Go.WideShapes

/-- What a step comes to: whether it can be done; and then what is left; if it can't, whether this is because of too many values (F). -/
def Did (lo g : Nat) (w : World) (o : Option (List Int × List (List Int))) (F : Bool) (e : Ending) (w' : World) : Prop :=
  ∃ b, e = .returned (.bool b) ∧ Keeps lo g w w' ∧ (o = none → b = false ∧ w'.cell? ⟨g, 2, none⟩ = some (.bool F)) ∧ (∀ x, o = some x → b = true ∧ Run w' lo g x.1 x.2)
theorem Did.no {lo g : Nat} {w w' : World} {r : List Int} {s : List (List Int)} (h : Keeps lo g w w') (hr : Run w' lo g r s) : Did lo g w none false (.returned (.bool false)) w' := ⟨_, rfl, h, fun _ => ⟨rfl, hr.flag.1⟩, fun x hx => by cases hx⟩
theorem Did.full {lo g : Nat} {w : World} {r : List Int} {s : List (List Int)} (hr : Run w lo g r s) : Did lo g w none true (.returned (.bool false)) (w.setCell ⟨g, 2, none⟩ (.bool true)) := ⟨_, rfl, hr.mark.1, fun _ => ⟨rfl, hr.mark.2⟩, fun x hx => by cases hx⟩
theorem Did.yes {lo g : Nat} {w w' : World} {F : Bool} {x : List Int × List (List Int)} (h : Keeps lo g w w') (hr : Run w' lo g x.1 x.2) : Did lo g w (some x) F (.returned (.bool true)) w' := ⟨_, rfl, h, (fun h => by cases h), fun y hy => by cases hy; exact ⟨rfl, hr⟩⟩
theorem Did.after {lo g : Nat} {a w w' : World} {o : Option (List Int × List (List Int))} {F : Bool} {e : Ending} (h : Keeps lo g a w) (d : Did lo g w o F e w') : Did lo g a o F e w' := by
  obtain ⟨b, he, hk, h1, h2⟩ := d
  exact ⟨b, he, h.trans hk, h1, h2⟩
theorem Did.as {lo g : Nat} {w w' : World} {o : Option (List Int × List (List Int))} {F F' : Bool} {e : Ending} (d : Did lo g w o F e w') (h : o = none → F = F') : Did lo g w o F' e w' := by
  obtain ⟨b, he, hk, h1, h2⟩ := d
  exact ⟨b, he, hk, fun h0 => by rw [← h h0]; exact h1 h0, h2⟩

theorem ownsRow_form {w : World} {lo n : Nat} {e : TypeId} {v : Value} {xs : List Value} (h : w.ownsRow lo e 1 v n xs) : ∃ A c, v = .slice A n c := by
  rcases h.2 with ⟨rfl, h0⟩ | ⟨g', cap, cur, rfl, _⟩
  · exact ⟨none, 0, by rw [h0]⟩
  · exact ⟨_, _, rfl⟩
theorem Run.cells {w : World} {lo g : Nat} {rest : List Int} {st : List (List Int)} (h : Run w lo g rest st) : ∃ A c A' c', w.cell? ⟨g, 0, none⟩ = some (.slice A rest.length c) ∧ w.cell? ⟨g, 1, none⟩ = some (.slice A' st.length c') := by
  obtain ⟨vr, vs, us, h⟩ := h
  obtain ⟨A, c, rfl⟩ := ownsRow_form h.words
  obtain ⟨A', c', rfl⟩ := ownsRow_form h.vals
  exact ⟨A, c, A', c', by simpa using h.blk.cell 0, by simpa using h.blk.cell 1⟩

def putR (zs rest : List Int) (st : List (List Int)) : Option (List Int × List (List Int)) := if zs.length ≤ 60 ∧ st.length < 20 then some (rest, zs :: st) else none
theorem put_any (lo g : Nat) (rest : List Int) (st : List (List Int)) (u : Value) (zs : List Int) (w : World) (h : Run w lo g rest st) (hv : Val w g u zs) (hl : st.length ≤ 20) :
    Calls Tryd.prog 107 #[.pointer (some ⟨g, 0, none⟩), u] w (Did lo g w (putR zs rest st) true) := by
  have hlt := h.lt
  have H := Lib.hid (And.intro h hv)
  obtain ⟨_, _, A', c', _, hc⟩ := h.cells
  obtain ⟨cf, ff⟩ := h.flag
  have hm := hv.1.len_le
  obtain ⟨A, c, rfl, _⟩ := hv.1
  clear h hv
  by_cases h60 : zs.length ≤ 60
  · by_cases h20 : st.length < 20
    · have hb : ((st.length : Int) == 20) = false := by simp; omega
      have hR : putR zs rest st = some (rest, zs :: st) := by rw [putR, if_pos ⟨h60, h20⟩]
      rw [hR]
      go_enter Tryd.func107, Tryd.ntmps107
      go_wp2_with fail
      refine (pushV lo g rest st _ zs _ H.out.1 H.out.2 (by omega)).mono ?_
      rintro e w' ⟨rfl, q1, q2, _⟩
      have X := Lib.hid (And.intro q1 q2); clear q1 q2
      go_wp2
      go_ret
      exact Did.yes X.out.2 X.out.1
    · have hb : ((st.length : Int) == 20) = true := by simp; omega
      have hR : putR zs rest st = none := by rw [putR, if_neg (fun h => h20 h.2)]
      rw [hR]
      go_enter Tryd.func107, Tryd.ntmps107
      go_wp2
      go_ret
      exact Did.full H.out.1
  · have hR : putR zs rest st = none := by rw [putR, if_neg (fun h => h60 h.1)]
    rw [hR]
    go_enter Tryd.func107, Tryd.ntmps107
    go_wp2
    go_ret
    exact Did.full H.out.1

def numR : List (List Int) → Int × Bool
  | [] => (0, false)
  | a :: _ => if 1 < a.length then (0, false) else (a.getD 0 0, true)
theorem takeNum_any (lo g : Nat) (rest : List Int) (st : List (List Int)) (w : World) (h : Run w lo g rest st) (hl : st.length ≤ 20) (hv : ∀ v ∈ st, valueB v = true) :
    Calls Tryd.prog 124 #[.pointer (some ⟨g, 0, none⟩)] w fun e w' => e = .returned (.tuple #[.int .i64 (numR st).1, .bool (numR st).2]) ∧ Run w' lo g rest st.tail ∧ Keeps lo g w w' := by
  have hlt := h.lt
  rcases st with _ | ⟨a, s1⟩
  · have H := Lib.hid h; clear h
    go_enter Tryd.func124, Tryd.ntmps124
    go_wp2_with fail
    refine (popV_none lo g rest _ H.out).mono ?_
    rintro e w' ⟨rfl, rfl⟩
    go_wp2
    go_ret2
    exact ⟨rfl, H.out, Keeps.refl _ _ _⟩
  · have va := hv a (by simp)
    have hq := valueB_isQ va
    have hla := valueB_len va
    have H := Lib.hid h; clear h hv
    have Hva := Lib.hid va; clear va
    rw [List.length_cons] at hl
    by_cases h1 : 1 < a.length
    · rw [decide_eq_true h1] at hq
      have Hq := Lib.hid hq; clear hq
      have HR : Hid (numR (a :: s1) = (0, false)) := Lib.hid (by rw [numR, if_pos h1])
      rw [HR.out]
      go_enter Tryd.func124, Tryd.ntmps124
      go_wp2_with fail
      refine (popV lo g rest a s1 _ H.out (by omega)).mono ?_
      rintro e w1 ⟨u, rfl, q1, q2, q3⟩
      have X := Lib.hid (And.intro q1 (And.intro q2 q3)); clear q1 q2 q3
      go_wp2_with (go_at_call 119; refine (isQuoted_any _ a _ X.out.1.1).mono ?_; rw [Hq.out]; rintro e w' ⟨rfl, rfl⟩)
      go_ret2
      exact ⟨rfl, X.out.2⟩
    · rw [decide_eq_false h1] at hq
      have Hq := Lib.hid hq; clear hq
      obtain ⟨z, hz⟩ : ∃ z, a.getD 0 0 = z := ⟨_, rfl⟩
      have Hz := Lib.hid hz
      have HR : Hid (numR (a :: s1) = (z, true)) := Lib.hid (by rw [numR, if_neg h1, hz])
      clear hz
      rw [HR.out]
      go_enter Tryd.func124, Tryd.ntmps124
      go_wp2_with fail
      refine (popV lo g rest a s1 _ H.out (by omega)).mono ?_
      rintro e w1 ⟨u, rfl, q1, q2, q3⟩
      have hrd := q1.1
      obtain ⟨A, c, rfl, hi, _⟩ := hrd
      obtain ⟨b, off, rfl, _, hc⟩ := hi.at_ (by omega)
      have hc0 := hc 0 (by omega)
      rw [Nat.add_zero, Hz.out] at hc0
      have X := Lib.hid (And.intro q1 (And.intro q2 q3)); clear q1 q2 q3 hc hi
      have h0 : 0 < a.length := by omega
      go_wp2_with (go_at_call 119; refine (isQuoted_any _ a _ X.out.1.1).mono ?_; rw [Hq.out]; rintro e w' ⟨rfl, rfl⟩)
      go_ret2
      exact ⟨rfl, X.out.2⟩

def TakeP (lo g : Nat) (rest : List Int) (st : List (List Int)) (w : World) (e : Ending) (w' : World) : Prop :=
  ∃ u b, e = .returned (.tuple #[u, .bool b]) ∧ Run w' lo g rest st.tail ∧ Keeps lo g w w' ∧ (st = [] → b = false) ∧ ∀ a s1, st = a :: s1 → b = decide (1 < a.length) ∧ Val w' g u a
theorem takeProg_any (lo g : Nat) (rest : List Int) (st : List (List Int)) (w : World) (h : Run w lo g rest st) (hl : st.length ≤ 20) (hv : ∀ v ∈ st, valueB v = true) :
    Calls Tryd.prog 123 #[.pointer (some ⟨g, 0, none⟩)] w (TakeP lo g rest st w) := by
  have hlt := h.lt
  rcases st with _ | ⟨a, s1⟩
  · have H := Lib.hid h; clear h
    go_enter Tryd.func123, Tryd.ntmps123
    go_wp2_with fail
    refine (popV_none lo g rest _ H.out).mono ?_
    rintro e w' ⟨rfl, rfl⟩
    go_wp2
    go_ret2
    exact ⟨_, _, rfl, H.out, Keeps.refl _ _ _, (fun _ => rfl), (fun a s1 h => by cases h)⟩
  · have va := hv a (by simp)
    have hq := valueB_isQ va
    have H := Lib.hid h; clear h hv
    have Hva := Lib.hid va; clear va
    rw [List.length_cons] at hl
    have Hq := Lib.hid hq; clear hq
    go_enter Tryd.func123, Tryd.ntmps123
    go_wp2_with fail
    refine (popV lo g rest a s1 _ H.out (by omega)).mono ?_
    rintro e w1 ⟨u, rfl, q1, q2, q3⟩
    have X := Lib.hid (And.intro q1 (And.intro q2 q3)); clear q1 q2 q3
    go_wp2_with (go_at_call 119; refine (isQuoted_any _ a _ X.out.1.1).mono ?_; rw [Hq.out]; rintro e w' ⟨rfl, rfl⟩)
    go_ret2
    exact ⟨_, _, rfl, X.out.2.1, X.out.2.2, (fun h => by cases h), fun a' s1' h => by cases h; exact ⟨rfl, X.out.1⟩⟩

def dupR (rest : List Int) : List (List Int) → Option (List Int × List (List Int))
  | [] => none
  | a :: s1 => if s1.length + 2 ≤ 20 then some (rest, a :: a :: s1) else none
theorem dup_any (lo g : Nat) (rest : List Int) (st : List (List Int)) (w : World) (h : Run w lo g rest st) (hl : st.length ≤ 20) (hv : ∀ v ∈ st, valueB v = true) :
    Calls Tryd.prog 109 #[.pointer (some ⟨g, 0, none⟩)] w (Did lo g w (dupR rest st) (!st.isEmpty)) := by
  have hlt := h.lt
  rcases st with _ | ⟨a, s1⟩
  · have H := Lib.hid h; clear h
    go_enter Tryd.func109, Tryd.ntmps109
    go_wp2_with fail
    refine (popV_none lo g rest _ H.out).mono ?_
    rintro e w' ⟨rfl, rfl⟩
    go_wp2
    go_ret
    exact Did.no (Keeps.refl _ _ _) H.out
  · have hla := (valueB_len (hv a (by simp))).2
    have H := Lib.hid h; clear h hv
    rw [List.length_cons] at hl
    have HP : Hid (putR a rest s1 = some (rest, a :: s1)) := Lib.hid (by rw [putR, if_pos ⟨hla, by omega⟩])
    have HQ : Hid (putR a rest (a :: s1) = dupR rest (a :: s1)) := Lib.hid (by
      rw [putR, dupR]
      by_cases h2 : s1.length + 2 ≤ 20
      · rw [if_pos h2, if_pos ⟨hla, by rw [List.length_cons]; omega⟩]
      · rw [if_neg h2, if_neg (fun h => h2 (by have := h.2; rw [List.length_cons] at this; omega))])
    go_enter Tryd.func109, Tryd.ntmps109
    go_wp2_with fail
    refine (popV lo g rest a s1 _ H.out (by omega)).mono ?_
    rintro e w1 ⟨u, rfl, q1, q2, q3⟩
    have X := Lib.hid (And.intro q1 (And.intro q2 q3)); clear q1 q2 q3
    go_wp2_with fail
    refine (put_any lo g rest s1 u a _ X.out.2.1 X.out.1 (by omega)).mono ?_
    rw [HP.out]
    rintro e w2 ⟨b, rfl, k2, _, hy⟩
    obtain ⟨rfl, r2⟩ := hy _ rfl
    have Y := Lib.hid (And.intro r2 (And.intro (k2.val X.out.1) (X.out.2.2.trans k2))); clear r2 k2 hy
    go_wp2_with fail
    refine (put_any lo g rest (a :: s1) u a _ Y.out.1 Y.out.2.1 (by rw [List.length_cons]; omega)).mono ?_
    rw [HQ.out]
    rintro e w3 hd
    have Z := Lib.hid (hd.after Y.out.2.2); clear hd
    obtain ⟨b, rfl, _⟩ := Z.out
    go_wp2
    go_ret
    exact Z.out

def swapR (rest : List Int) : List (List Int) → Option (List Int × List (List Int))
  | a :: b :: s2 => some (rest, b :: a :: s2)
  | _ => none
theorem swap_any (lo g : Nat) (rest : List Int) (st : List (List Int)) (w : World) (h : Run w lo g rest st) (hl : st.length ≤ 20) (hv : ∀ v ∈ st, valueB v = true) :
    Calls Tryd.prog 111 #[.pointer (some ⟨g, 0, none⟩)] w (Did lo g w (swapR rest st) false) := by
  have hlt := h.lt
  rcases st with _ | ⟨a, _ | ⟨b, s2⟩⟩
  · have H := Lib.hid h; clear h
    go_enter Tryd.func111, Tryd.ntmps111
    go_wp2_with fail
    refine (popV_none lo g rest _ H.out).mono ?_
    rintro e w' ⟨rfl, rfl⟩
    go_wp2_with fail
    refine (popV_none lo g rest _ H.out).mono ?_
    rintro e w' ⟨rfl, rfl⟩
    go_wp2
    go_ret
    exact Did.no (Keeps.refl _ _ _) H.out
  · have H := Lib.hid h; clear h hv
    go_enter Tryd.func111, Tryd.ntmps111
    go_wp2_with fail
    refine (popV lo g rest a [] _ H.out (by simp)).mono ?_
    rintro e w1 ⟨u, rfl, q1, q2, q3⟩
    have X := Lib.hid (And.intro q1 (And.intro q2 q3)); clear q1 q2 q3
    have hlt1 := X.out.2.1.lt
    go_wp2_with fail
    refine (popV_none lo g rest _ X.out.2.1).mono ?_
    rintro e w' ⟨rfl, rfl⟩
    go_wp2
    go_ret
    exact Did.no X.out.2.2 X.out.2.1
  · have hla := (valueB_len (hv a (by simp))).2
    have hlb := (valueB_len (hv b (by simp))).2
    have H := Lib.hid h; clear h hv
    rw [List.length_cons, List.length_cons] at hl
    have HP : Hid (putR a rest s2 = some (rest, a :: s2)) := Lib.hid (by rw [putR, if_pos ⟨hla, by omega⟩])
    have HQ : Hid (putR b rest (a :: s2) = swapR rest (a :: b :: s2)) := Lib.hid (by rw [putR, if_pos ⟨hlb, by rw [List.length_cons]; omega⟩]; rfl)
    go_enter Tryd.func111, Tryd.ntmps111
    go_wp2_with fail
    refine (popV lo g rest a (b :: s2) _ H.out (by rw [List.length_cons]; omega)).mono ?_
    rintro e w1 ⟨u, rfl, q1, q2, q3⟩
    have X := Lib.hid (And.intro q1 (And.intro q2 q3)); clear q1 q2 q3
    have hlt1 := X.out.2.1.lt
    go_wp2_with fail
    refine (popV lo g rest b s2 _ X.out.2.1 (by omega)).mono ?_
    rintro e w2 ⟨v, rfl, q1, q2, q3⟩
    have Y := Lib.hid (And.intro (q3.val X.out.1) (And.intro q1 (And.intro q2 (X.out.2.2.trans q3)))); clear q1 q2 q3
    have hlt2 := Y.out.2.2.1.lt
    go_wp2_with fail
    refine (put_any lo g rest s2 u a _ Y.out.2.2.1 Y.out.1 (by omega)).mono ?_
    rw [HP.out]
    rintro e w3 ⟨t, rfl, k2, _, hy⟩
    obtain ⟨rfl, r2⟩ := hy _ rfl
    have Z := Lib.hid (And.intro r2 (And.intro (k2.val Y.out.2.1) (Y.out.2.2.2.trans k2))); clear r2 k2 hy
    go_wp2_with fail
    refine (put_any lo g rest (a :: s2) v b _ Z.out.1 Z.out.2.1 (by rw [List.length_cons]; omega)).mono ?_
    rw [HQ.out]
    rintro e w4 hd
    have V := Lib.hid (hd.after Z.out.2.2); clear hd
    obtain ⟨t, rfl, _⟩ := V.out
    go_wp2
    go_ret
    exact V.out.as (fun h => by cases h)
end Go.Proofs.YtgiemajjmdjfkaaDoor
