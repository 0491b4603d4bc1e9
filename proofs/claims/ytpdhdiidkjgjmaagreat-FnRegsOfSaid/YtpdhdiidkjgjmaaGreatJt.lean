/- Chapter 7: PlacesThen, the program's and the model's. -/
import Derived.Test.YtpdhdiidkjgjmaaGreatJb
import Derived.Test.YtpdhdiidkjgjmaaGreatJh
import Derived.Test.YtpdhdiidkjgjmaaGreatB1
namespace Go.Proofs.YtpdhdiidkjgjmaaGreat
set_option maxRecDepth 100000
open Go.RowKit Go.WideShapes

theorem allB_drop (many : Int) (zs : List Int) (k : Nat) (h : k < zs.length) : allB many (zs.drop k) = (decide (0 ≤ zs.getD k 0) && decide (zs.getD k 0 < many) && allB many (zs.drop (k + 1))) := by
  unfold allB
  rw [List.drop_eq_getElem_cons h, List.all_cons]; simp [List.getD, List.getElem?_eq_getElem h]
theorem allBelow_any (m : Int) (A : Option Addr) (c : Nat) (zs : List Int) (w : World) (h : Ints w A zs) :
    Calls Tryz.prog 30 #[.int .i64 m, .slice A zs.length c] w fun e w' => e = .returned (.bool (allB m zs)) ∧ w = w' := by
  have hm := h.len
  obtain ⟨-, -, hr⟩ := h
  have Hr := Lib.hid hr; clear hr
  go_enter Tryz.func30, Tryz.ntmps30
  go_wp2
  go_loop [9] (fun i => ∃ k : Nat, k ≤ zs.length ∧ i = .int .i64 k ∧ allB m (zs.drop k) = allB m zs) (fun i => zs.length - (intOf i).toNat)
  case atStart => exact ⟨0, Nat.zero_le _, rfl, by simp⟩
  case round =>
    obtain ⟨k, hk, rfl, hall⟩ := hrel
    by_cases hlt : k < zs.length
    · rw [allB_drop m zs k hlt] at hall
      have Hall := Lib.hid hall; clear hall
      obtain ⟨bb, off, rfl, hb, hc⟩ := Hr.out (by omega)
      have hcell := hc k hlt
      clear hc
      generalize zs.getD k 0 = z at *
      by_cases h0 : z < 0
      · go_wp2
        go_ret
        exact ⟨ret_bool (by rw [← Hall.out, show decide (0 ≤ z) = false from decide_eq_false (by omega)]; rfl), rfl⟩
      · by_cases h1 : m ≤ z
        · go_wp2
          go_ret
          exact ⟨ret_bool (by rw [← Hall.out, show decide (z < m) = false from decide_eq_false (by omega)]; simp), rfl⟩
        · go_wp2
          go_round
          case rel => exact ⟨k + 1, by omega, by go_num, by rw [← Hall.out, show decide (z < m) = true from decide_eq_true (by omega), show decide (0 ≤ z) = true from decide_eq_true (by omega)]; rfl⟩
          case measure => simp [intOf]; omega
    · rw [List.drop_eq_nil_of_le (by omega)] at hall
      have Hall := Lib.hid hall; clear hall
      go_wp2
      go_ret
      exact ⟨ret_bool (by rw [← Hall.out]; rfl), rfl⟩
theorem fillGet (ys : List Int) (n k : Nat) (hn : ys.length = n) (h : k < n) : ((ys.take k ++ List.replicate (n - k) 0).map (Value.int .i64))[k]? = some (.int .i64 0) := by subst hn; exact fill_get ys k h
theorem fillSet (ys : List Int) (n k : Nat) (hn : ys.length = n) (h : k < n) : ((ys.take k ++ List.replicate (n - k) 0).map (Value.int .i64)).set k (.int .i64 (ys.getD k 0)) = (ys.take (k + 1) ++ List.replicate (n - (k + 1)) 0).map (Value.int .i64) := by subst hn; exact fill_set ys k h
theorem allB_get {m : Int} {zs : List Int} (h : allB m zs = true) (k : Nat) (hk : k < zs.length) : ∃ n : Nat, zs.getD k 0 = n ∧ (n : Int) < m := by
  have h1 := allB_mem h (zs.getD k 0) (by simp [List.getD, List.getElem?_eq_getElem hk])
  exact ⟨(zs.getD k 0).toNat, by omega, by omega⟩

def thenL (a b : List Int) (k : Nat) : List Int := (b.take k).map fun z => a.getD z.toNat 0
theorem thenL_len (a b : List Int) (k : Nat) : (thenL a b k).length ≤ b.length := by unfold thenL; simp; omega
theorem thenOne {a b : List Int} {k : Nat} (hk : k < b.length) : thenL a b (k + 1) = thenL a b k ++ [a.getD (b.getD k 0).toNat 0] := by
  unfold thenL
  rw [List.take_add_one, List.map_append]; simp [List.getD, List.getElem?_eq_getElem hk]
theorem placesThenR_len (a b : List Int) : szI (placesThenR a b).1 ≤ 1000000 := by
  unfold placesThenR szI
  split
  · rename_i h; rw [List.length_map]; omega
  · simp
end Go.Proofs.YtpdhdiidkjgjmaaGreat
