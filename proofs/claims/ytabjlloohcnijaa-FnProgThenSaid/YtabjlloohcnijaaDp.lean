/- Contracts of ProgDepth, the program's and the model's. -/
import Derived.Test.YtabjlloohcnijaaV
namespace Go.Proofs.Ytabjlloohcnijaa
open Go.RowKit Go.WideShapes

/-- From o brackets open, m the most so far: the most. -/
def depthFrom : Int → Int → List Int → Int
  | _, m, [] => m
  | o, m, z :: zs => depthFrom (o + brk z) (if m < o + brk z then o + brk z else m) zs
theorem depthFrom_drop (o m : Int) (zs : List Int) (k : Nat) (h : k < zs.length) :
    depthFrom o m (zs.drop k) = depthFrom (o + brk (zs.getD k 0)) (if m < o + brk (zs.getD k 0) then o + brk (zs.getD k 0) else m) (zs.drop (k + 1)) := by
  rw [List.drop_eq_getElem_cons h, depthFrom]; simp [List.getD, List.getElem?_eq_getElem h]
def depthR (p : List Int) : Int := if validB p = true then depthFrom 0 0 p else -1

theorem ProgDepth_any (A : Option Addr) (c : Nat) (zs : List Int) (w : World) (h : Ints w A zs) :
    Calls Try.prog 25 #[.slice A zs.length c] w fun e w' => e = .returned (.int .i64 (depthR zs)) ∧ w = w' := by
  have hm := h.len
  have H := Lib.hid h; clear h
  rcases hv : validB zs with _ | _ <;> have Hv := Lib.hid hv <;> clear hv
  · go_enter Try.func25, Try.ntmps25
    go_wp2_with (go_at_call 14; refine (ProgValid_any A c zs _ H.out).mono ?_; rw [Hv.out]; rintro e w' ⟨rfl, rfl⟩)
    go_ret
    exact ⟨ret_i64 (by rw [depthR, if_neg (by simp [Hv.out])]), rfl⟩
  · have hl := validB_len Hv.out
    go_enter Try.func25, Try.ntmps25
    go_wp2_with (go_at_call 14; refine (ProgValid_any A c zs _ H.out).mono ?_; rw [Hv.out]; rintro e w' ⟨rfl, rfl⟩)
    go_loop [3, 4, 12] (fun o m i => ∃ (k : Nat) (x y : Int), k ≤ zs.length ∧ i = .int .i64 k ∧ o = .int .i64 x ∧ m = .int .i64 y ∧ -k ≤ x ∧ x ≤ k ∧ 0 ≤ y ∧ y ≤ k ∧ depthFrom 0 0 zs = depthFrom x y (zs.drop k)) (fun _ _ i => zs.length - (intOf i).toNat)
    case atStart => exact ⟨0, 0, 0, Nat.zero_le _, rfl, rfl, rfl, by omega, by omega, by omega, by omega, by simp⟩
    case round =>
      obtain ⟨k, x, y, hk, rfl, rfl, rfl, hx0, hxk, hy0, hyk, hall⟩ := hrel
      by_cases hlt : k < zs.length
      · rw [depthFrom_drop x y zs k hlt] at hall
        have Hall := Lib.hid hall; clear hall
        obtain ⟨b, off, rfl, hb, hc⟩ := H.out.at_ (by omega)
        have hcell := hc k hlt
        clear hc
        have hbd := brk_bd (zs.getD k 0)
        generalize zs.getD k 0 = z at *
        go_wp2_with (go_at_call 44; refine (bracketChange_any _ _).mono ?_; rintro e w' ⟨rfl, rfl⟩)
        go_round
        case rel => exact ⟨k + 1, x + brk z, _, by omega, by go_num, rfl, rfl, by omega, by omega, by split <;> omega, by split <;> omega, Hall.out⟩
        case measure => simp [intOf]; omega
      · have Hall := Lib.hid hall; clear hall
        go_wp2
        go_ret
        exact ⟨ret_i64 (by rw [depthR, if_pos Hv.out, Hall.out, List.drop_eq_nil_of_le (by omega)]; rfl), rfl⟩

theorem specDepth_any (A : Option Addr) (c : Nat) (zs : List Int) (w : World) (h : Ints w A zs) :
    Calls Try.prog 30 #[.slice A zs.length c] w fun e w' => e = .returned (.int .i64 (depthR zs)) ∧ w = w' := by
  have hm := h.len
  have H := Lib.hid h; clear h
  rcases hv : validB zs with _ | _ <;> have Hv := Lib.hid hv <;> clear hv
  · go_enter Try.func30, Try.ntmps30
    go_wp2_with (go_at_call 15; refine (specValid_any A c zs _ H.out).mono ?_; rw [Hv.out]; rintro e w' ⟨rfl, rfl⟩)
    go_ret
    exact ⟨ret_i64 (by rw [depthR, if_neg (by simp [Hv.out])]), rfl⟩
  · have hl := validB_len Hv.out
    go_enter Try.func30, Try.ntmps30
    go_wp2_with (go_at_call 15; refine (specValid_any A c zs _ H.out).mono ?_; rw [Hv.out]; rintro e w' ⟨rfl, rfl⟩)
    go_loop [3, 4, 5] (fun o m i => ∃ (k : Nat) (x y : Int), k ≤ zs.length ∧ i = .int .i64 k ∧ o = .int .i64 x ∧ m = .int .i64 y ∧ -k ≤ x ∧ x ≤ k ∧ 0 ≤ y ∧ y ≤ k ∧ depthFrom 0 0 zs = depthFrom x y (zs.drop k)) (fun _ _ i => zs.length - (intOf i).toNat)
    case atStart => exact ⟨0, 0, 0, Nat.zero_le _, rfl, rfl, rfl, by omega, by omega, by omega, by omega, by simp⟩
    case round =>
      obtain ⟨k, x, y, hk, rfl, rfl, rfl, hx0, hxk, hy0, hyk, hall⟩ := hrel
      by_cases hlt : k < zs.length
      · rw [depthFrom_drop x y zs k hlt] at hall
        obtain ⟨b, off, rfl, hb, hc⟩ := H.out.at_ (by omega)
        have hcell := hc k hlt
        clear hc
        generalize zs.getD k 0 = z at *
        have Hcs := Lib.hid (brk_cases z)
        have Hall := Lib.hid hall; clear hall
        go_wp2
        · have hbz : brk z = 1 := by rw [show z = 1012 from by simpa using ‹(z == 1012) = true›]; rfl
          go_round
          case rel => exact ⟨k + 1, x + 1, _, by omega, by go_num, rfl, rfl, by omega, by omega, by split <;> omega, by split <;> omega, by rw [Hall.out, hbz]⟩
          case measure => simp [intOf]; omega
        · have hbz : brk z = -1 := by rw [show z = 1013 from by simpa using ‹(z == 1013) = true›]; rfl
          go_round
          case rel => exact ⟨k + 1, x - 1, _, by omega, by go_num, rfl, rfl, by omega, by omega, by split <;> omega, by split <;> omega, by rw [Hall.out, hbz]; rfl⟩
          case measure => simp [intOf]; omega
        · have hbz : brk z = 0 := by
            have h1 : z ≠ 1012 := by simpa using ‹(z == 1012) = false›
            have h2 : z ≠ 1013 := by simpa using ‹(z == 1013) = false›
            simp [brk, h1, h2]
          go_round
          case rel => exact ⟨k + 1, x, _, by omega, by go_num, rfl, rfl, by omega, by omega, by split <;> omega, by split <;> omega, by rw [Hall.out, hbz, Int.add_zero]⟩
          case measure => simp [intOf]; omega
      · have Hall := Lib.hid hall; clear hall
        go_wp2
        go_ret
        exact ⟨ret_i64 (by rw [depthR, if_pos Hv.out, Hall.out, List.drop_eq_nil_of_le (by omega)]; rfl), rfl⟩

theorem ProgDepth_I (v0 : Value) (x0 : List Int) (w : World) (h0 : RdI w v0 x0) (_ : x0.length ≤ 1048576) (y0 : Int) (hR : depthR x0 = y0) :
    Calls Try.prog 25 #[v0] w fun e w' => e = .returned (.int .i64 y0) ∧ Below w.heap.size w w' := by
  obtain ⟨A, c, rfl, hi0, _⟩ := h0
  refine (ProgDepth_any A c x0 w hi0).mono ?_
  rw [hR]
  rintro e w' ⟨rfl, rfl⟩
  exact ⟨rfl, Below.refl _ _⟩
theorem ProgDepth_S (v0 : Value) (x0 : List Int) (w : World) (h0 : RdI w v0 x0) (_ : x0.length ≤ 1048576) (y0 : Int) (hR : depthR x0 = y0) :
    Calls Try.prog 30 #[v0] w fun e w' => e = .returned (.int .i64 y0) ∧ Below w.heap.size w w' := by
  obtain ⟨A, c, rfl, hi0, _⟩ := h0
  refine (specDepth_any A c x0 w hi0).mono ?_
  rw [hR]
  rintro e w' ⟨rfl, rfl⟩
  exact ⟨rfl, Below.refl _ _⟩
theorem ProgValid_I (v0 : Value) (x0 : List Int) (w : World) (h0 : RdI w v0 x0) (_ : x0.length ≤ 1048576) (y0 : Bool) (hR : validB x0 = y0) :
    Calls Try.prog 14 #[v0] w fun e w' => e = .returned (.bool y0) ∧ Below w.heap.size w w' := by
  obtain ⟨A, c, rfl, hi0, _⟩ := h0
  refine (ProgValid_any A c x0 w hi0).mono ?_
  rw [hR]
  rintro e w' ⟨rfl, rfl⟩
  exact ⟨rfl, Below.refl _ _⟩
theorem ProgValid_S (v0 : Value) (x0 : List Int) (w : World) (h0 : RdI w v0 x0) (_ : x0.length ≤ 1048576) (y0 : Bool) (hR : validB x0 = y0) :
    Calls Try.prog 15 #[v0] w fun e w' => e = .returned (.bool y0) ∧ Below w.heap.size w w' := by
  obtain ⟨A, c, rfl, hi0, _⟩ := h0
  refine (specValid_any A c x0 w hi0).mono ?_
  rw [hR]
  rintro e w' ⟨rfl, rfl⟩
  exact ⟨rfl, Below.refl _ _⟩
end Go.Proofs.Ytabjlloohcnijaa
