/- Words as texts: strconv.Itoa, WordText of the program; l1Number, WordText of the model. -/
import Derived.Test.YtjblecinkedppaaGreatDoorBp
import Derived.Test.YtjblecinkedppaaGreatDoorSh
import Derived.Test.YtjblecinkedppaaGreatDoorBb
import Derived.Sort.Grow
namespace Go.Proofs.YtjblecinkedppaaGreatDoor
set_option maxRecDepth 100000
open Go.RowKit Go.WideShapes
open Lib (decDigits)

theorem below_grow0 (w : World) (k : Nat) (os : Array Obj) : Below w.heap.size w (Sort.grow (w.drewN k) os) :=
  ⟨rfl, rfl, rfl, by simp [Sort.grow, World.drewN], fun i hi => by simp [Sort.grow, World.drewN, Array.getElem?_append_left hi]⟩
/-- The library's table of powers of ten. -/
def Pow (w : World) : Prop := Lib.TabIs Tryz.prog w "internal/strconv.uint64pow10" .u64 Lib.pow10Tab
theorem pow_named : Tryz.prog.globalNamed "internal/strconv.uint64pow10" = some 2 := by kernel_rfl
theorem Pow.below {w w' : World} (h : Pow w) (hb : Below w.heap.size w w') : Pow w' := var_below pow_named h hb
theorem Itoa_any (n : Int) (w : World) (h0 : 0 ≤ n) (h1 : n ≤ 1000000000) (hp : Pow w) :
    Calls Tryz.prog 120 #[.int .i64 n] w fun e w' => e = .returned (.string ⟨(decDigits n.toNat).toArray⟩) ∧ Below w.heap.size w w' := by
  refine (Tryz.strconv_Itoa n (by omega) (by omega) w hp).mono ?_
  rintro e w' ⟨rfl, k, os, rfl⟩
  refine ⟨?_, below_grow0 _ _ _⟩
  rw [Lib.itoa, if_neg (by omega)]

theorem WordText_I (z : Int) (w : World) (ht : StrTab w 0 opNames) (hp : Pow w) :
    Calls Tryz.prog 110 #[.int .i64 z] w fun e w' => e = .returned (.string ⟨(wordT z).toArray⟩) ∧ Below w.heap.size w w' := by
  have HT := Lib.hid ht
  have HP := Lib.hid hp; clear hp
  rcases hw : isWordB z with _ | _
  · have HR := Lib.hid (wordT_no hw)
    have HW := Lib.hid hw; clear hw ht
    go_enter Tryz.func110, Tryz.ntmps110
    go_wp2_with (go_at_call 92; refine (isWord_any _ _).mono ?_; rw [HW.out]; rintro e w' ⟨rfl, rfl⟩)
    go_ret
    rw [HR.out]
    exact ⟨rfl, Below.refl _ _⟩
  · have HW := Lib.hid hw
    rcases hn : isNumB z with _ | _
    · have hb : 1001 ≤ z ∧ z ≤ 1013 := by
        rcases isWordB_iff.1 hw with h | h
        · rw [isNumB_iff.2 h] at hn; cases hn
        · exact h
      have HR := Lib.hid (wordT_op hb)
      have HN := Lib.hid hn
      obtain ⟨T, hh⟩ := ht
      obtain ⟨k, rfl⟩ : ∃ k : Nat, z = 1001 + k := ⟨(z - 1001).toNat, by omega⟩
      have hk : k ≤ 12 := by omega
      obtain ⟨t, htk⟩ : ∃ t, opNames[k]? = some t := ⟨_, List.getElem?_eq_getElem (show k < opNames.length by simp [opNames]; omega)⟩
      have hcell : w.cell? ⟨0, k, none⟩ = some (.string ⟨t.toArray⟩) := by
        rw [cell_of_row _ _ _ _ _ _ hh]; simp [strVals, htk]
      have HV : Hid (opNames.getD (1001 + (k : Int) - 1001).toNat [] = t) := Lib.hid (by rw [show (1001 + (k : Int) - 1001).toNat = k by omega, List.getD, htk]; rfl)
      have hkI : (1001 + (k : Int) - 1001) = k := by omega
      have hw1 : IntKind.i64.wrap (1001 + (k : Int) - 1001) = k := by rw [hkI]; exact IntWalk.i64_in _ (by omega)
      clear hw hn hh hb htk hkI
      go_enter Tryz.func110, Tryz.ntmps110
      go_wp2_with (first
        | (go_at_call 92; refine (isWord_any _ _).mono ?_; rw [HW.out]; rintro e w' ⟨rfl, rfl⟩)
        | (go_at_call 93; refine (isNum_any _ _).mono ?_; rw [HN.out]; rintro e w' ⟨rfl, rfl⟩))
      go_ret
      rw [HR.out, HV.out]
      exact ⟨rfl, Below.refl _ _⟩
    · have hb := isNumB_iff.1 hn
      have HR := Lib.hid (wordT_num hb)
      have HN := Lib.hid hn
      clear hw hn ht
      go_enter Tryz.func110, Tryz.ntmps110
      go_wp2_with (first
        | (go_at_call 92; refine (isWord_any _ _).mono ?_; rw [HW.out]; rintro e w' ⟨rfl, rfl⟩)
        | (go_at_call 93; refine (isNum_any _ _).mono ?_; rw [HN.out]; rintro e w' ⟨rfl, rfl⟩))
      refine (Itoa_any z _ hb.1 (by omega) HP.out).mono ?_
      rintro e w1 ⟨rfl, hb1⟩
      have B := Lib.hid hb1; clear hb1
      go_wp2
      go_ret
      rw [HR.out]
      exact ⟨rfl, B.out⟩
end Go.Proofs.YtjblecinkedppaaGreatDoor
