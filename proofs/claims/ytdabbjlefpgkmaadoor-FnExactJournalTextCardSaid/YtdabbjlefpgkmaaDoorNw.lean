/- Contracts of readNum and l1Digits. -/
import Derived.Test.YtdabbjlefpgkmaaDoorNp
import Derived.Test.YtdabbjlefpgkmaaDoorB1
namespace Go.Proofs.YtdabbjlefpgkmaaDoor
set_option maxRecDepth 100000
open Go.RowKit Go.WideShapes

abbrev bytesOf (s : ByteArray) : List UInt8 := s.data.toList
theorem bytes_get (s : ByteArray) (k : Nat) (h : k < s.size) : (bytesOf s)[k]? = some (s[k]'h) := by
  have h' : k < (bytesOf s).length := by simpa using h
  rw [List.getElem?_eq_getElem h']; rfl
theorem drop_cons (s : ByteArray) (k : Nat) (h : k < s.size) : (bytesOf s).drop k = s[k]'h :: (bytesOf s).drop (k + 1) := by
  rw [List.drop_eq_getElem_cons (by simpa using h)]; rfl
theorem drop_end (s : ByteArray) (k : Nat) (h : s.size ≤ k) : (bytesOf s).drop k = [] := List.drop_eq_nil_of_le (by simpa using h)

/-- The pair that a reader gives. -/
def optPair (d : Int) : Option Int → Int × Bool
  | some n => (n, true)
  | none => (d, false)

theorem l1Digits_any (s : ByteArray) (w : World) (hm : s.size ≤ 9223372036854775807) :
    Calls Tryd.prog 88 #[.string s] w fun e w' => e = .returned (.int .i64 ((digitsR (bytesOf s)).getD (-1))) ∧ w = w' := by
  have Hlen : Hid ((bytesOf s).length = s.size) := Lib.hid (by simp)
  by_cases h1 : 1 ≤ s.size ∧ s.size ≤ 3
  · obtain ⟨h1a, h1b⟩ := h1
    have hd : (decide ((1 : Int) ≤ s.size) && decide ((s.size : Int) ≤ 3)) = true := by simp; omega
    have Hd := Lib.hid hd; clear hd
    obtain ⟨c0, hc0⟩ : ∃ c0, (bytesOf s)[0]? = some c0 := ⟨_, bytes_get s 0 (by omega)⟩
    have hs0 : s[0]'(by omega) = c0 := by rw [bytes_get s 0 (by omega)] at hc0; injection hc0
    by_cases hz : 1 < s.size ∧ c0 = 48
    · have HR : Hid (digitsR (bytesOf s) = none) := Lib.hid (by
        rw [digitsR, if_pos (.inr ⟨by rw [Hlen.out]; exact hz.1, by rw [List.head?_eq_getElem?, hc0, hz.2]⟩)])
      obtain ⟨hz1, rfl⟩ := hz
      have hI : (1 : Int) < s.size := by omega
      have h48 : ((((48 : UInt8).toNat : Nat) : Int) == 48) = true := by decide
      clear hc0
      go_enter Tryd.func88, Tryd.ntmps88
      go_wp2_with (go_at_call 104; refine (l1In_any _ 1 3 _).mono ?_; rw [Hd.out]; rintro e w' ⟨rfl, rfl⟩)
      go_ret
      exact ⟨ret_i64 (by rw [HR.out]; rfl), rfl⟩
    · have hnl : ¬ lead0 (bytesOf s) := by
        rintro ⟨h1, h2⟩
        rw [Hlen.out] at h1
        rw [List.head?_eq_getElem?, hc0] at h2
        injection h2 with h2
        exact hz ⟨h1, h2⟩
      have HR : Hid (digitsR (bytesOf s) = digFrom 0 (bytesOf s)) := Lib.hid (by rw [digitsR, if_neg (by rw [Hlen.out]; exact fun h => h.elim (fun h => h ⟨h1a, h1b⟩) hnl)])
      have h48 : (1 : Int) < s.size → ((c0.toNat : Int) == 48) = false := fun h => by
        rw [beq_eq_false_iff_ne]
        intro e
        exact hz ⟨by omega, UInt8.toNat_inj.1 (by exact_mod_cast e)⟩
      clear hz hc0 hnl
      by_cases h1s : (1 : Int) < s.size
      have h48' := h48 h1s
      all_goals
        clear h48
        go_enter Tryd.func88, Tryd.ntmps88
        go_wp2_with (go_at_call 104; refine (l1In_any _ 1 3 _).mono ?_; rw [Hd.out]; rintro e w' ⟨rfl, rfl⟩)
        go_loop [3, 4] (fun n i => ∃ (k : Nat) (x : Int), k ≤ s.size ∧ i = .int .i64 k ∧ n = .int .i64 x ∧ 0 ≤ x ∧ x ≤ 999 ∧ (k = 0 → x ≤ 0) ∧ (k = 1 → x ≤ 9) ∧ (k = 2 → x ≤ 99) ∧ digFrom 0 (bytesOf s) = digFrom x ((bytesOf s).drop k)) (fun _ i => s.size - (intOf i).toNat)
        case atStart => exact ⟨0, 0, Nat.zero_le _, rfl, rfl, by omega, by omega, by omega, by omega, by omega, by simp⟩
        case round =>
          obtain ⟨k, x, hk, rfl, rfl, hx0, hx9, hk0, hk1, hk2, hall⟩ := hrel
          by_cases hlt : k < s.size
          · rw [drop_cons s k hlt] at hall
            have hx : x ≤ 99 := by
              rcases (show k = 0 ∨ k = 1 ∨ k = 2 by omega) with h | h | h
              · have := hk0 h; omega
              · have := hk1 h; omega
              · exact hk2 h
            have hxa : k = 0 → x ≤ 0 := hk0
            have hxb : k + 1 = 1 → 10 * x + 9 ≤ 9 := by intro h; have := hk0 (by omega); omega
            have hxc : k + 1 = 2 → 10 * x + 9 ≤ 99 := by intro h; have := hk1 (by omega); omega
            have Hxb := Lib.hid hxb; have Hxc := Lib.hid hxc
            clear hk0 hk1 hk2 hxa hxb hxc
            have hlI : (k : Int) < s.size := by omega
            rw [digFrom] at hall
            have Hall := Lib.hid hall; clear hall
            clear hs0
            go_wp2
            · have hd0 : ¬ dg (s[k]'hlt) = true := by
                intro h
                have := dg_bd h
                rcases ‹(s[k].toNat : Int) < 48 ∨ 57 < (s[k].toNat : Int)› with h | h <;> omega
              go_ret
              exact ⟨ret_i64 (by rw [HR.out, Hall.out, if_neg hd0]; rfl), rfl⟩
            · have hin : 48 ≤ (s[k].toNat : Int) ∧ (s[k].toNat : Int) ≤ 57 := by assumption
              have hd1 : dg (s[k]'hlt) = true := by simp [dg, hin]
              go_round
              case rel => exact ⟨k + 1, 10 * x + ((s[k].toNat : Int) - 48), by omega, by go_num, by go_num, by omega, by omega, by omega, fun h => by have := Hxb.out h; omega, fun h => by have := Hxc.out h; omega, by rw [Hall.out, if_pos hd1]⟩
              case measure => simp [intOf]; omega
            · have hd0 : ¬ dg (s[k]'hlt) = true := by
                intro h
                have := dg_bd h
                omega
              go_ret
              exact ⟨ret_i64 (by rw [HR.out, Hall.out, if_neg hd0]; rfl), rfl⟩
          · have Hall := Lib.hid hall; clear hall
            go_wp2
            go_ret
            exact ⟨ret_i64 (by rw [HR.out, Hall.out, drop_end s k (by omega)]; rfl), rfl⟩
  · have HR : Hid (digitsR (bytesOf s) = none) := Lib.hid (by rw [digitsR, if_pos (.inl (by rw [Hlen.out]; exact h1))])
    have hd : (decide ((1 : Int) ≤ s.size) && decide ((s.size : Int) ≤ 3)) = false := by
      rw [Bool.and_eq_false_iff, decide_eq_false_iff_not, decide_eq_false_iff_not]
      omega
    have Hd := Lib.hid hd; clear hd h1
    go_enter Tryd.func88, Tryd.ntmps88
    go_wp2_with (go_at_call 104; refine (l1In_any _ 1 3 _).mono ?_; rw [Hd.out]; rintro e w' ⟨rfl, rfl⟩)
    go_ret
    exact ⟨ret_i64 (by rw [HR.out]; rfl), rfl⟩
end Go.Proofs.YtdabbjlefpgkmaaDoor
