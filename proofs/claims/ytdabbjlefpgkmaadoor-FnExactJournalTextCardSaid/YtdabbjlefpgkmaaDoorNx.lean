/- Contract of readNum, the program's: a range over a string. -/
import Derived.Test.YtdabbjlefpgkmaaDoorNw
namespace Go.Proofs.YtdabbjlefpgkmaaDoor
set_option maxRecDepth 100000
open Go.RowKit Go.WideShapes

theorem below_iter (w : World) (s : ByteArray) (pos : Nat) : Below w.heap.size w (w.iter s pos) := (Below.refl _ _).alloc (Nat.le_refl _) _
theorem ret_optPair {a : Int} {b : Bool} {d : Int} {o : Option Int} (h : optPair d o = (a, b)) : Ending.returned (.tuple #[.int .i64 a, .bool b]) = .returned (.tuple #[.int .i64 (optPair d o).1, .bool (optPair d o).2]) := by rw [h]
theorem isNumB_false {n : Int} (h0 : 0 ≤ n) : isNumB n = decide (n ≤ 999) := by simp [isNumB, h0]

theorem readNum_any (s : ByteArray) (w : World) (hm : s.size ≤ 9223372036854775807) :
    Calls Tryd.prog 89 #[.string s] w fun e w' => e = .returned (.tuple #[.int .i64 (optPair (-1) (digitsR (bytesOf s))).1, .bool (optPair (-1) (digitsR (bytesOf s))).2]) ∧ Below w.heap.size w w' := by
  rw [← readNum_digits]
  have Hlen : Hid ((bytesOf s).length = s.size) := Lib.hid (by simp)
  by_cases he : s.size = 0
  · have hnil : bytesOf s = [] := List.eq_nil_of_length_eq_zero (by rw [Hlen.out, he])
    have HR : Hid (readNumR (bytesOf s) = none) := Lib.hid (by rw [readNumR, if_pos (.inl hnil)])
    obtain rfl : s = ⟨#[]⟩ := by
      rcases s with ⟨⟨l⟩⟩
      have h : l = [] := hnil
      subst h; rfl
    clear hnil hm he Hlen
    go_enter Tryd.func89, Tryd.ntmps89
    go_wp2
    go_ret2
    rw [HR.out]
    exact ⟨rfl, Below.refl _ _⟩
  · have hne : ¬ s.data.toList = [] := by intro h; have := Hlen.out; unfold bytesOf at this; rw [h] at this; simp at this; omega
    have hs1 : s.toList.isEmpty = false := by rw [Go.ByteArray.toList_eq]; simpa using hne
    obtain ⟨c0, hc0⟩ : ∃ c0, (bytesOf s)[0]? = some c0 := ⟨_, bytes_get s 0 (by omega)⟩
    have hs0 : s[0]'(by omega) = c0 := by rw [bytes_get s 0 (by omega)] at hc0; injection hc0
    by_cases hz : 1 < s.size ∧ c0 = 48
    · have HR : Hid (readNumR (bytesOf s) = none) := Lib.hid (by
        rw [readNumR, if_pos (.inr ⟨by rw [Hlen.out]; exact hz.1, by rw [List.head?_eq_getElem?, hc0, hz.2]⟩)])
      obtain ⟨hz1, rfl⟩ := hz
      have hI : (1 : Int) < s.size := by omega
      have h48 : ((((48 : UInt8).toNat : Nat) : Int) == 48) = true := by decide
      clear hc0
      go_enter Tryd.func89, Tryd.ntmps89
      go_wp2
      go_ret2
      rw [HR.out]
      exact ⟨rfl, Below.refl _ _⟩
    · have hnl : ¬ lead0 (bytesOf s) := by
        rintro ⟨h1, h2⟩
        rw [Hlen.out] at h1
        rw [List.head?_eq_getElem?, hc0] at h2
        injection h2 with h2
        exact hz ⟨h1, h2⟩
      have HR : Hid (readNumR (bytesOf s) = readFrom 0 (bytesOf s)) := Lib.hid (by rw [readNumR, if_neg (fun h => h.elim hne hnl)])
      have h48 : (1 : Int) < s.size → ((c0.toNat : Int) == 48) = false := fun h => by
        rw [beq_eq_false_iff_ne]
        intro e
        exact hz ⟨by omega, UInt8.toNat_inj.1 (by exact_mod_cast e)⟩
      clear hz hc0 hnl
      by_cases h1s : (1 : Int) < s.size
      have h48' := h48 h1s
      all_goals
        clear h48
        go_enter Tryd.func89, Tryd.ntmps89
        go_wp2
        go_loopw [4] (fun n wr => ∃ (k : Nat) (x : Int), k ≤ s.size ∧ wr = w.iter s k ∧ n = .int .i64 x ∧ 0 ≤ x ∧ x ≤ 999 ∧ readFrom 0 (bytesOf s) = readFrom x ((bytesOf s).drop k)) (fun _ wr => s.size - wr.iterPos w.heap.size)
        case atStart => exact ⟨0, 0, Nat.zero_le _, rfl, rfl, by omega, by omega, by simp⟩
        case round =>
          obtain ⟨k, x, hk, rfl, rfl, hx0, hx9, hall⟩ := hrel
          clear hs0
          by_cases hlt : k < s.size
          · rw [drop_cons s k hlt, readFrom] at hall
            have Hall := Lib.hid hall; clear hall
            by_cases ha : (s[k]'hlt).toNat < 128
            · have hnx : ∀ ty, (Instr.next (.pointer (some ⟨w.heap.size, 0, none⟩)) true ty).run Tryd.prog (w.iter s k) = _ := fun ty => run_next_ascii w s k ty hlt ha
              have Ha := Lib.hid ha; clear ha
              by_cases hdg : dg (s[k]'hlt) = true
              · have hbd := dg_bd hdg
                have Hdg := Lib.hid hdg; clear hdg
                by_cases hn : 10 * x + ((s[k].toNat : Int) - 48) ≤ 999
                · have hib : isNumB (10 * x + ((s[k].toNat : Int) - 48)) = true := by rw [isNumB_false (by omega)]; exact decide_eq_true hn
                  have Hib := Lib.hid hib; clear hib
                  have Hbd := Lib.hid (And.intro hbd hn); clear hbd hn
                  go_wp2_with (go_at_call 107; refine (isNum_any _ _).mono ?_; rw [Hib.out]; rintro e w' ⟨rfl, rfl⟩)
                  all_goals first
                    | (exfalso; have h1 := Hbd.out; have h2 : (s[k].toNat : Int) < 48 ∨ 57 < (s[k].toNat : Int) := by assumption
                       omega)
                    | (exfalso; have h1 := Hbd.out; have h2 : (s[k].toNat : Int) < 48 := by assumption
                       omega)
                    | (go_roundw
                       case rel => exact ⟨k + 1, 10 * x + ((s[k].toNat : Int) - 48), by omega, rfl, by go_num, by have := Hbd.out; omega, by have := Hbd.out; omega, by rw [Hall.out, if_pos ⟨Hdg.out, Hbd.out.2⟩]⟩
                       case measure => simp; omega)
                · have hib : isNumB (10 * x + ((s[k].toNat : Int) - 48)) = false := by rw [isNumB_false (by omega)]; exact decide_eq_false hn
                  have Hib := Lib.hid hib; clear hib
                  have Hbd := Lib.hid (And.intro hbd hn); clear hbd hn
                  go_wp2_with (go_at_call 107; refine (isNum_any _ _).mono ?_; rw [Hib.out]; rintro e w' ⟨rfl, rfl⟩)
                  all_goals first
                    | (exfalso; have h1 := Hbd.out; have h2 : (s[k].toNat : Int) < 48 ∨ 57 < (s[k].toNat : Int) := by assumption
                       omega)
                    | (exfalso; have h1 := Hbd.out; have h2 : (s[k].toNat : Int) < 48 := by assumption
                       omega)
                    | (go_ret2
                       rw [HR.out, Hall.out, if_neg (fun h => by have h1 := Hbd.out; have h2 := h.2; omega)]
                       exact ⟨rfl, below_iter _ _ _⟩)
              · have Hdg := Lib.hid hdg; clear hdg
                go_wp2_with fail
                all_goals first
                  | (exfalso; have h2 : 48 ≤ (s[k].toNat : Int) ∧ (s[k].toNat : Int) ≤ 57 := by assumption
                     exact Hdg.out (by simp [dg, h2]))
                  | (go_ret2
                     rw [HR.out, Hall.out, if_neg (fun h => Hdg.out h.1)]
                     exact ⟨rfl, below_iter _ _ _⟩)
            · have hnx : ∀ ty, (Instr.next (.pointer (some ⟨w.heap.size, 0, none⟩)) true ty).run Tryd.prog (w.iter s k) = _ := fun ty => run_next_any w s k ty hlt
              have hd := decode_high s k hlt (by omega)
              have hdg : ¬ dg (s[k]'hlt) = true := by intro h; have := dg_bd h; omega
              have Hdg := Lib.hid hdg; clear hdg
              have Ha := Lib.hid ha; clear ha
              have hd1 : (57 : Int) < ((Utf8.decode s k).1 : Int) := by omega
              clear hd
              go_wp2
              all_goals go_ret2
              all_goals rw [HR.out, Hall.out, if_neg (fun h => Hdg.out h.1)]
              all_goals exact ⟨rfl, below_iter _ _ _⟩
          · have Hall := Lib.hid hall; clear hall
            have hnx : ∀ ty, (Instr.next (.pointer (some ⟨w.heap.size, 0, none⟩)) true ty).run Tryd.prog (w.iter s k) = _ := fun ty => run_next_end w s k ty hlt
            go_wp2
            go_ret2
            rw [HR.out, Hall.out, drop_end s k (by omega)]
            exact ⟨rfl, below_iter _ _ _⟩
end Go.Proofs.YtdabbjlefpgkmaaDoor
