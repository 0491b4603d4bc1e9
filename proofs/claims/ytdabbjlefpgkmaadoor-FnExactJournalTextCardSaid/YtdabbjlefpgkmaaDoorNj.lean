/- ProgText of the program and of the model. -/
import Derived.Test.YtdabbjlefpgkmaaDoorNi
import Derived.Test.YtdabbjlefpgkmaaDoorB2
namespace Go.Proofs.YtdabbjlefpgkmaaDoor
set_option maxRecDepth 100000
open Go.RowKit Go.WideShapes

/-- The texts of a program's words, one after another, and what is still empty. -/
def wordsT (p : List Int) (k : Nat) : List (List UInt8) := (p.take k).map wordT ++ List.replicate (p.length - k) []
theorem wordsT_len (p : List Int) (k : Nat) (hk : k ≤ p.length) : (wordsT p k).length = p.length := by simp [wordsT]; omega
theorem wordsT_set (p : List Int) (k : Nat) (h : k < p.length) : (wordsT p k).set k (wordT (p.getD k 0)) = wordsT p (k + 1) := by
  have hl : ((p.take k).map wordT).length = k := by simp; omega
  have hrep : List.replicate (p.length - k) ([] : List UInt8) = [] :: List.replicate (p.length - (k + 1)) [] := by
    rw [show p.length - k = (p.length - (k + 1)) + 1 from by omega, List.replicate_succ]
  rw [wordsT, hrep, List.set_append_right _ _ (by omega), hl, Nat.sub_self, List.set_cons_zero, wordsT, List.take_add_one, List.getElem?_eq_getElem h, List.map_append]
  simp only [Option.toList_some, List.map_cons, List.map_nil, List.append_assoc, List.cons_append, List.nil_append, List.getD, List.getElem?_eq_getElem h, Option.getD_some]
theorem wordsT_all (p : List Int) : wordsT p p.length = p.map wordT := by simp [wordsT]
theorem join_le (ws : List (List UInt8)) (h : ∀ w ∈ ws, w.length ≤ 5) : (Lib.join ws [32]).length ≤ 6 * ws.length := by
  induction ws with
  | nil => simp [Lib.join_nil]
  | cons w r ih =>
    rw [Lib.join_cons, List.length_append, Lib.joinTail_length]
    have h1 := h w (by simp)
    have h2 : Lib.lens r ≤ 5 * r.length := by
      have : ∀ x ∈ r, x.length ≤ 5 := fun x hx => h x (by simp [hx])
      clear ih h h1
      induction r with
      | nil => simp [Lib.lens]
      | cons y r ih =>
        have := ih fun x hx => this x (by simp [hx])
        have h3 := ‹∀ x ∈ y :: r, x.length ≤ 5› y (by simp)
        simp only [Lib.lens, List.map_cons, List.sum_cons, List.length_cons] at this ⊢
        omega
    simp; omega
theorem wordT_len {p : List Int} (h : p.all isWordB = true) : ∀ w ∈ p.map wordT, w.length ≤ 5 := by
  intro w hw
  obtain ⟨z, hz, rfl⟩ := List.mem_map.1 hw
  exact (wordT_facts (List.all_eq_true.1 h z hz)).2.2.2
theorem progT_len (p : List Int) : (progT p).length ≤ 400 := by
  unfold progT
  by_cases h : validB p = true
  · rw [if_pos h]
    by_cases hp : p = []
    · rw [if_pos hp]; simp
    · rw [if_neg hp]
      have := join_le _ (wordT_len (validB_words h))
      have hl := validB_len h
      rw [List.length_map] at this; omega
  · rw [if_neg h]; simp
theorem strVals_set (ss : List (List UInt8)) (k : Nat) (z : List UInt8) : (strVals ss).set k (.string ⟨z.toArray⟩) = strVals (ss.set k z) := by simp [strVals, List.map_set]

theorem join_snoc (ws : List (List UInt8)) (w : List UInt8) (h : ws ≠ []) : Lib.join (ws ++ [w]) [32] = Lib.join ws [32] ++ [32] ++ w := by
  obtain ⟨x, r, rfl⟩ := List.exists_cons_of_ne_nil h
  rw [List.cons_append, Lib.join_cons, Lib.join_cons]
  simp [Lib.joinTail]
def joinK (p : List Int) (k : Nat) : List UInt8 := Lib.join ((p.take k).map wordT) [32]
theorem joinK_len {p : List Int} (h : p.all isWordB = true) (k : Nat) : (joinK p k).length ≤ 6 * p.length := by
  have := join_le ((p.take k).map wordT) fun w hw => wordT_len h w (by
    obtain ⟨z, hz, rfl⟩ := List.mem_map.1 hw
    exact List.mem_map.2 ⟨z, List.mem_of_mem_take hz, rfl⟩)
  rw [List.length_map, List.length_take] at this
  unfold joinK; omega
theorem joinK_succ {p : List Int} {k : Nat} (h1 : 1 ≤ k) (h : k < p.length) : joinK p (k + 1) = joinK p k ++ [32] ++ wordT (p.getD k 0) := by
  unfold joinK
  rw [List.take_add_one, List.getElem?_eq_getElem h, List.map_append]
  simp only [Option.toList_some, List.map_cons, List.map_nil]
  rw [join_snoc _ _ (fun e => by
    have e2 : ((p.take k).map wordT).length = 0 := by rw [e]; rfl
    rw [List.length_map, List.length_take] at e2; omega)]
  simp [List.getD, List.getElem?_eq_getElem h]
theorem add_strs (x : ByteArray) (l : List UInt8) (h : x.size + l.length ≤ 100000) : ∃ y : ByteArray, bytesOf y = bytesOf x ++ l ∧ ∀ W, (Op.stringOp .add x ⟨l.toArray⟩).run Tryd.prog W = .ok (.string y) W := by
  refine ⟨⟨(bytesOf x ++ l).toArray⟩, bytes_mk _, fun W => ?_⟩
  have hsz : (⟨l.toArray⟩ : ByteArray).size = l.length := by simp [ByteArray.size]
  rw [run_string_add_sum W _ _ (by rw [hsz]; omega), sum_bytes x l]

set_option maxHeartbeats 2000000 in
theorem ProgText_S (v0 : Value) (x0 : List Int) (w : World) (h0 : RdI w v0 x0) :
    Calls Tryd.prog 76 #[v0] w fun e w' => e = .returned (.string ⟨(progT x0).toArray⟩) ∧ Below w.heap.size w w' := by
  obtain ⟨A, c, rfl, hi, hc⟩ := h0
  have H := Lib.hid hi
  rcases hv : validB x0 with _ | _
  · have HR := Lib.hid (progT_no hv)
    have HV := Lib.hid hv
    clear hv hi
    go_enter Tryd.func76, Tryd.ntmps76
    go_wp2_with fail
    refine (specValid_any A c x0 _ H.out).mono ?_
    rw [HV.out]
    rintro e w' ⟨rfl, rfl⟩
    go_wp2
    go_ret
    rw [HR.out]
    exact ⟨rfl, Below.refl _ _⟩
  · have HV := Lib.hid hv
    have hl := validB_len hv
    have hw := validB_words hv
    by_cases hnil : x0 = []
    · subst hnil
      have HR : Hid (progT [] = [45, 45]) := Lib.hid (by decide)
      clear hv hi hw
      simp only [List.length_nil] at *
      go_enter Tryd.func76, Tryd.ntmps76
      go_wp2_with fail
      refine (specValid_any A c [] _ H.out).mono ?_
      rw [HV.out]
      rintro e w' ⟨rfl, rfl⟩
      go_wp2
      go_ret
      rw [HR.out]
      exact ⟨rfl, Below.refl _ _⟩
    · have hpos : 0 < x0.length := List.length_pos_iff.2 hnil
      have hx : ((x0.length : Int) == 0) = false := by rw [beq_eq_false_iff_ne]; omega
      have HR : Hid (progT x0 = joinK x0 x0.length) := Lib.hid (by rw [progT, if_pos hv, if_neg hnil, joinK, List.take_of_length_le (Nat.le_refl _)])
      have HL := Lib.hid (fun k => joinK_len hw k)
      obtain ⟨b, off, rfl, hb, hcx⟩ := hi.at_ hpos
      have HC := Lib.hid hcx
      have hcell := hcx 0 hpos
      rw [Nat.add_zero] at hcell
      have hposI : (0 : Int) < x0.length := by omega
      have H1 : Hid (joinK x0 1 = wordT (x0.getD 0 0)) := Lib.hid (by
        unfold joinK
        obtain ⟨z, r, rfl⟩ := List.exists_cons_of_ne_nil hnil
        simp [Lib.join_one])
      clear hv hw hnil hcx hi
      generalize x0.getD 0 0 = z0 at *
      go_enter Tryd.func76, Tryd.ntmps76
      go_wp2_with fail
      refine (specValid_any (some ⟨b, off, none⟩) c x0 _ H.out).mono ?_
      rw [HV.out]
      rintro e w' ⟨rfl, rfl⟩
      go_wp2_with fail
      refine (WordText_S z0 _).mono ?_
      rintro e w1 ⟨rfl, hb1⟩
      have B1 := Lib.hid hb1; clear hb1
      clear hcell
      go_wp2
      go_loopw [3, 4] (fun o i wr => ∃ (k : Nat) (X : ByteArray), k ≤ x0.length ∧ 1 ≤ k ∧ i = .int .i64 k ∧ o = .string X ∧ bytesOf X = joinK x0 k ∧ Below w.heap.size w wr) (fun _ i _ => x0.length - (intOf i).toNat)
      case atStart => exact ⟨1, _, hpos, Nat.le_refl _, rfl, rfl, by rw [bytes_mk, H1.out], B1.out⟩
      case round =>
        clear B1
        obtain ⟨k, X, hk, hk1, rfl, rfl, hX, hbk⟩ := hrel
        have HX := Lib.hid hX; clear hX
        have HB := Lib.hid hbk
        by_cases hlt : k < x0.length
        · have hcell := (hbk.cell (p := ⟨b, off + k, none⟩) hb).trans (HC.out k hlt)
          have hltI : (k : Int) < x0.length := by omega
          have hnext := joinK_succ hk1 hlt
          have hXl : X.size ≤ 360 := by have := HL.out k; rw [← HX.out, bytes_len] at this; omega
          clear hbk
          generalize x0.getD k 0 = z at *
          have hlen2 := HL.out (k + 1)
          obtain ⟨Y, hY, hadd1⟩ := add_strs X [32] (by simp; omega)
          have hYl : Y.size + (wordT z).length ≤ 100000 := by
            rw [← bytes_len Y, hY]
            rw [hnext, ← HX.out, ← hY, List.length_append] at hlen2
            rw [hY] at hlen2
            omega
          obtain ⟨T, hT, hadd2⟩ := add_strs Y (wordT z) hYl
          rw [hY, HX.out, ← hnext] at hT
          have HT := Lib.hid hT
          clear hY hT hnext hlen2 hYl hXl
          go_wp2_with fail
          refine (WordText_S z _).mono ?_
          rintro e w2 ⟨rfl, hb2⟩
          have B2 := Lib.hid (HB.out.trans (hb2.mono HB.out.size)); clear hb2
          go_wp2
          go_roundw
          case rel => exact ⟨k + 1, T, by omega, by omega, by go_num, rfl, HT.out, B2.out⟩
          case measure => simp [intOf]; omega
        · obtain rfl : k = x0.length := by omega
          clear hbk
          go_wp2
          go_ret
          refine ⟨?_, HB.out⟩
          rw [HR.out, ← HX.out, ba_eta]
          rfl
end Go.Proofs.YtdabbjlefpgkmaaDoor
