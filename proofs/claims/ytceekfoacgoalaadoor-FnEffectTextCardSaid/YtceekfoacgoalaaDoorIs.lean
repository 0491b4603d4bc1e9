/- EffectText of the program: the text of a term. -/
import Derived.Test.YtceekfoacgoalaaDoorIr
import Derived.Test.YtceekfoacgoalaaDoorIm
import Derived.Test.YtceekfoacgoalaaDoorNc
import Derived.Test.YtceekfoacgoalaaDoorBo
import Derived.Deep.RegionHeld3
namespace Go.Proofs.YtceekfoacgoalaaDoor
set_option maxRecDepth 100000
open Go.RowKit Go.WideShapes Go.Deep
open Lib (decDigits)

theorem txt_len {T : Ty} {b : Bool} (h : T.ok b) : T.txt.length ≤ 6 * T.nums.length := by
  induction T generalizing b with
  | num => simp [Ty.txt, Ty.nums]
  | any n => cases b with | false => have h2 : 0 ≤ n ∧ n ≤ 999 := h; have := (dec_len (n := n.toNat) (by omega)).2; simp [Ty.txt, Ty.nums]; omega | true => cases h
  | rest n => cases b with | false => cases h | true => have h2 : 0 ≤ n ∧ n ≤ 999 := h; have := (dec_len (n := n.toNat) (by omega)).2; simp [Ty.txt, Ty.nums]; omega
  | prog S T ihs iht => cases b with | false => have h1 := ihs h.1; have h2 := iht h.2; simp [Ty.txt, Ty.nums]; omega | true => cases h
  | put S T ihs iht => cases b with | false => cases h | true => have h1 := ihs h.1; have h2 := iht h.2; simp [Ty.txt, Ty.nums]; omega
theorem add_ll (a b : List UInt8) (h : a.length + b.length ≤ 100000) (W : World) : (Op.stringOp .add ⟨a.toArray⟩ ⟨b.toArray⟩).run Tryd.prog W = .ok (.string ⟨(a ++ b).toArray⟩) W := by
  have ha : (⟨a.toArray⟩ : ByteArray).size = a.length := by simp [ByteArray.size]
  have hb : (⟨b.toArray⟩ : ByteArray).size = b.length := by simp [ByteArray.size]
  rw [run_string_add_sum W _ _ (by omega), sum_bytes, bytes_mk]
/-- A term that can be read: with its letters. -/
def Tx (X : World) (T : Ty) (p : Option Addr) : Prop := ∃ M, Sk X (fun _ => True) M T p ∧ ∀ kn b, M kn b → LtB X b kn
theorem Tx.step {X Y : World} {T : Ty} {p : Option Addr} (h : Tx X T p) (hb : Below X.heap.size X Y) : Tx Y T p := by
  obtain ⟨M, h1, h2⟩ := h
  exact ⟨M, h1.keep (fun k _ hk => ⟨hb.block k hk, trivial⟩) fun _ _ h => h, fun kn b hm => (h2 kn b hm).below hb (h2 kn b hm).lt⟩
theorem Two.txa {X : World} {lo : Nat} {M : Int × Int → Nat → Prop} {A B : Ty} {p q : Option Addr} (h : Two X lo M A B p q) : Tx X A p := ⟨M, h.sa, fun kn b hm => (h.lt kn b hm).2⟩
theorem Two.txb {X : World} {lo : Nat} {M : Int × Int → Nat → Prop} {A B : Ty} {p q : Option Addr} (h : Two X lo M A B p q) : Tx X B q := ⟨M, h.sb, fun kn b hm => (h.lt kn b hm).2⟩
def TextPost (T : Ty) (w : World) (e : Ending) (w' : World) : Prop := e = .returned (.string ⟨T.txt.toArray⟩) ∧ Below w.heap.size w w'
/-- The text of two rows, out of the texts of each. -/
theorem rows_text (S T : Ty) (p q : Option Addr) (w : World) (hl : S.txt.length + T.txt.length ≤ 9000)
    (h1 : Calls Tryd.prog 32 #[.pointer p] w (TextPost S w)) (h2 : ∀ X, Below w.heap.size w X → Calls Tryd.prog 32 #[.pointer q] X (TextPost T X)) :
    Calls Tryd.prog 19 #[.pointer p, .pointer q] w fun e w' => e = .returned (.string ⟨(S.txt ++ ([32, 45, 62, 32] ++ T.txt)).toArray⟩) ∧ Below w.heap.size w w' := by
  have e1 := add_ll S.txt [32, 45, 62, 32] (by simp; omega)
  have e2 := add_ll (S.txt ++ [32, 45, 62, 32]) T.txt (by simp; omega)
  rw [List.append_assoc] at e2
  have H1 := Lib.hid h1; have H2 := Lib.hid h2; clear h1 h2 hl
  go_enter Tryd.func19, Tryd.ntmps19
  go_wp2_with fail
  refine H1.out.mono ?_
  rintro e w1 ⟨rfl, hb⟩
  have B1 := Lib.hid hb; clear hb
  go_wp2_with fail
  refine (H2.out _ B1.out).mono ?_
  rintro e w2 ⟨rfl, hb⟩
  have B2 := Lib.hid (B1.out.trans (hb.mono B1.out.size)); clear hb
  go_wp2
  go_ret
  exact ⟨rfl, B2.out⟩
set_option maxHeartbeats 2000000 in
theorem text_ty (T : Ty) (b : Bool) (p : Option Addr) (w : World) (hok : T.ok b) (hT : Tx w T p) (hp : Pow w) (hl : T.nums.length ≤ 1000) : Calls Tryd.prog 32 #[.pointer p] w (TextPost T w) := by
  induction T generalizing b p w with
  | num =>
    obtain ⟨M, ⟨d, rfl, _, hd⟩, _⟩ := hT
    have c0 := hd.cell 0
    simp only [List.getElem?_toArray, List.getElem?_cons_zero] at c0
    clear hd hp hok
    go_enter Tryd.func32, Tryd.ntmps32
    go_wp2
    go_ret
    exact ⟨rfl, Below.refl _ _⟩
  | any n =>
    obtain ⟨M, ⟨d, rfl, hm⟩, hlt⟩ := hT
    have hd := hlt _ _ hm
    have hn : 0 ≤ n ∧ n ≤ 999 := by cases b with | false => exact hok | true => cases hok
    have c0 := hd.cell 0
    have c1 := hd.cell 1
    simp only [List.getElem?_toArray, List.getElem?_cons_zero, List.getElem?_cons_succ] at c0 c1
    have e1 := add_ll [116] (decDigits n.toNat) (by have := (dec_len (n := n.toNat) (by omega)).2; simp; omega)
    have HP := Lib.hid hp; clear hd hp hok hlt hm
    go_enter Tryd.func32, Tryd.ntmps32
    go_wp2_with fail
    refine (Itoa_any n _ hn.1 (by omega) HP.out).mono ?_
    rintro e w1 ⟨rfl, hb⟩
    have B := Lib.hid hb; clear hb
    go_wp2
    go_ret
    exact ⟨rfl, B.out⟩
  | rest n =>
    obtain ⟨M, ⟨d, rfl, hm⟩, hlt⟩ := hT
    have hd := hlt _ _ hm
    have hn : 0 ≤ n ∧ n ≤ 999 := by cases b with | false => cases hok | true => exact hok
    have c0 := hd.cell 0
    have c1 := hd.cell 1
    simp only [List.getElem?_toArray, List.getElem?_cons_zero, List.getElem?_cons_succ] at c0 c1
    have e1 := add_ll [114] (decDigits n.toNat) (by have := (dec_len (n := n.toNat) (by omega)).2; simp; omega)
    have HP := Lib.hid hp; clear hd hp hok hlt hm
    go_enter Tryd.func32, Tryd.ntmps32
    go_wp2_with fail
    refine (Itoa_any n _ hn.1 (by omega) HP.out).mono ?_
    rintro e w1 ⟨rfl, hb⟩
    have B := Lib.hid hb; clear hb
    go_wp2
    go_ret
    exact ⟨rfl, B.out⟩
  | prog S T ihs iht =>
    obtain ⟨hS, hT2⟩ : S.ok true ∧ T.ok true := by cases b with | false => exact hok | true => cases hok
    obtain ⟨M, ⟨d, g, q, r, rfl, _, _, hd, hg, h5, h6⟩, hlt⟩ := hT
    have hll : S.nums.length + T.nums.length ≤ 999 := by simp [Ty.nums] at hl; omega
    have t1 := txt_len hS
    have t2 := txt_len hT2
    obtain ⟨m0, hm0⟩ : ∃ m, S.txt ++ ([32, 45, 62, 32] ++ T.txt) = m := ⟨_, rfl⟩
    obtain ⟨m1, hm1⟩ : ∃ m, [40] ++ m0 = m := ⟨_, rfl⟩
    obtain ⟨m2, hm2⟩ : ∃ m, m1 ++ [41] = m := ⟨_, rfl⟩
    have hml : m0.length ≤ 9000 := by rw [← hm0]; simp; omega
    have HR : Hid (∀ X, Below w.heap.size w X → Calls Tryd.prog 19 #[.pointer q, .pointer r] X fun e w' => e = .returned (.string ⟨m0.toArray⟩) ∧ Below X.heap.size X w') := Lib.hid fun X hX => by
      rw [← hm0]
      exact rows_text S T q r X (by omega) (ihs true q X hS (Tx.step ⟨M, h5, hlt⟩ hX) (hp.below hX) (by omega)) fun Y hY => iht true r Y hT2 (Tx.step (Tx.step ⟨M, h6, hlt⟩ hX) hY) ((hp.below hX).below hY) (by omega)
    have c0 := hd.cell 0
    have c2 := hd.cell 2
    have d0 := hg.cell 0
    have d1 := hg.cell 1
    have kd := hd.lt
    have kg := hg.lt
    simp only [List.getElem?_toArray, List.getElem?_cons_zero, List.getElem?_cons_succ] at c0 c2 d0 d1
    have e1 := add_ll [40] m0 (by simp; omega)
    rw [hm1] at e1
    have e2 := add_ll m1 [41] (by rw [← hm1]; simp; omega)
    rw [hm2] at e2
    have hfin : Hid (m2 = (Ty.prog S T).txt) := Lib.hid (by rw [← hm2, ← hm1, ← hm0]; simp [Ty.txt])
    clear hm0 hm1 hm2
    have bD : Below w.heap.size w w.drew := (Below.refl _ _).drew
    clear ihs iht hS hT2 hok hd hg h5 h6 hlt hp
    go_enter Tryd.func32, Tryd.ntmps32
    go_wp2
    go_region_held3 (fun w' => w'.cell? ⟨d, 2, none⟩ = some (.slice (some ⟨g, 0, none⟩) 2 2) ∧ w'.cell? ⟨g, 0, none⟩ = some (.pointer q) ∧ w'.cell? ⟨g, 1, none⟩ = some (.pointer r)) (repeat' (first | with_reducible exact c2 | with_reducible exact d0 | with_reducible exact d1 | with_reducible exact l0 | with_reducible exact l1 | with_reducible exact l2 | apply And.intro | rw [World.cell?_drew])) (first
      | (go_at_call 19; refine (HR.out _ (by first | exact bD | exact Below.refl _ _)).mono ?_; rintro e w1 ⟨rfl, hb⟩; have b9 : Below w.heap.size w w1 := (by first | exact bD.trans hb | exact hb); have l0 := (b9.cell (p := ⟨d, 2, none⟩) kd).trans c2; have l1 := (b9.cell (p := ⟨g, 0, none⟩) kg).trans d0; have l2 := (b9.cell (p := ⟨g, 1, none⟩) kg).trans d1; have B := Lib.hid b9; clear hb b9)
      | fail)
    go_wp2
    go_ret
    exact ⟨congrArg (fun l : List UInt8 => Ending.returned (.string ⟨l.toArray⟩)) hfin.out, B.out⟩
  | put S T ihs iht =>
    obtain ⟨hS, hT2⟩ : S.ok true ∧ T.ok false := by cases b with | false => cases hok | true => exact hok
    obtain ⟨M, ⟨d, g, q, r, rfl, _, _, hd, hg, h5, h6⟩, hlt⟩ := hT
    have hll : S.nums.length + T.nums.length ≤ 999 := by simp [Ty.nums] at hl; omega
    have t1 := txt_len hS
    have t2 := txt_len hT2
    have H1 : Hid (∀ X, Below w.heap.size w X → Calls Tryd.prog 32 #[.pointer q] X (TextPost S X)) := Lib.hid fun X hX => ihs true q X hS (Tx.step ⟨M, h5, hlt⟩ hX) (hp.below hX) (by omega)
    have H2 : Hid (∀ X, Below w.heap.size w X → Calls Tryd.prog 32 #[.pointer r] X (TextPost T X)) := Lib.hid fun X hX => iht false r X hT2 (Tx.step ⟨M, h6, hlt⟩ hX) (hp.below hX) (by omega)
    have c0 := hd.cell 0
    have c2 := hd.cell 2
    have d0 := hg.cell 0
    have d1 := hg.cell 1
    have kd := hd.lt
    have kg := hg.lt
    simp only [List.getElem?_toArray, List.getElem?_cons_zero, List.getElem?_cons_succ] at c0 c2 d0 d1
    obtain ⟨m1, hm1⟩ : ∃ m, S.txt ++ [32] = m := ⟨_, rfl⟩
    obtain ⟨m2, hm2⟩ : ∃ m, m1 ++ T.txt = m := ⟨_, rfl⟩
    have e1 := add_ll S.txt [32] (by simp; omega)
    rw [hm1] at e1
    have e2 := add_ll m1 T.txt (by rw [← hm1]; simp; omega)
    rw [hm2] at e2
    have hfin : Hid (m2 = (Ty.put S T).txt) := Lib.hid (by rw [← hm2, ← hm1]; simp [Ty.txt])
    clear hm1 hm2
    have bD : Below w.heap.size w w.drew := (Below.refl _ _).drew
    clear ihs iht hS hT2 hok hd hg h5 h6 hlt hp
    go_enter Tryd.func32, Tryd.ntmps32
    go_wp2
    go_region_held3 (fun w' => w'.cell? ⟨d, 2, none⟩ = some (.slice (some ⟨g, 0, none⟩) 2 2) ∧ w'.cell? ⟨g, 0, none⟩ = some (.pointer q) ∧ w'.cell? ⟨g, 1, none⟩ = some (.pointer r)) (repeat' (first | with_reducible exact c2 | with_reducible exact d0 | with_reducible exact d1 | with_reducible exact l0 | with_reducible exact l1 | with_reducible exact l2 | apply And.intro | rw [World.cell?_drew])) (first
      | (have h9 := F1; clear h9; go_at_call 32; refine (H2.out _ F1.out).mono ?_; rintro e w2 ⟨rfl, hb⟩; have b9 : Below w.heap.size w w2 := F1.out.trans (hb.mono F1.out.size); clear l0 l1 l2; have l0 := (b9.cell (p := ⟨d, 2, none⟩) kd).trans c2; have l1 := (b9.cell (p := ⟨g, 0, none⟩) kg).trans d0; have l2 := (b9.cell (p := ⟨g, 1, none⟩) kg).trans d1; have B := Lib.hid b9; clear hb b9)
      | (go_at_call 32; refine (H1.out _ (by first | exact bD | exact Below.refl _ _)).mono ?_; rintro e w1 ⟨rfl, hb⟩; have b9 : Below w.heap.size w w1 := (by first | exact bD.trans hb | exact hb); have l0 := (b9.cell (p := ⟨d, 2, none⟩) kd).trans c2; have l1 := (b9.cell (p := ⟨g, 0, none⟩) kg).trans d0; have l2 := (b9.cell (p := ⟨g, 1, none⟩) kg).trans d1; have F1 := Lib.hid b9; clear hb b9)
      | fail)
    go_wp2
    go_ret
    exact ⟨congrArg (fun l : List UInt8 => Ending.returned (.string ⟨l.toArray⟩)) hfin.out, B.out⟩
theorem eff_ty {a b : List Int} (h : effB a b = true) : ∃ A B : Ty, A.ok true ∧ B.ok true ∧ a = A.nums ∧ b = B.nums ∧ A.nums.length ≤ 150 ∧ B.nums.length ≤ 150 ∧ nameB 0 0 (B.lets (A.lets [])) = true := by
  have hr : ∀ {a : List Int}, rowB a = true → ∃ A : Ty, A.ok true ∧ a = A.nums ∧ a.length ≤ 150 ∧ ∀ ls, lets a.length true a ls = A.lets ls := fun {a} ha => by
    obtain ⟨h1, h2, _⟩ := wholeR_some (wholeR_of_row ha [])
    obtain ⟨A, k1, k2, k3⟩ := eat_ty h2
    exact ⟨A, k1, by simpa using k2, h1, k3⟩
  have ha : rowB a = true := by
    rcases ha : rowB a with _ | _
    · rw [effB_no (.inl ha)] at h; cases h
    · rfl
  have hb : rowB b = true := by
    rcases hb : rowB b with _ | _
    · rw [effB_no (.inr hb)] at h; cases h
    · rfl
  obtain ⟨la, lb, h1, h2, h3⟩ := effB_yes ha hb
  obtain ⟨_, _, rfl⟩ := wholeR_some h1
  obtain ⟨_, _, rfl⟩ := wholeR_some h2
  obtain ⟨A, a1, a2, a3, a4⟩ := hr ha
  obtain ⟨B, b1, b2, b3, b4⟩ := hr hb
  exact ⟨A, B, a1, b1, a2, b2, by rw [← a2]; exact a3, by rw [← b2]; exact b3, by rw [← b4, ← a4, ← h3]; exact h⟩
end Go.Proofs.YtceekfoacgoalaaDoor
