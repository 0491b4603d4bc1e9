/- Terms compared: equals of the program. -/
import Derived.Test.YtceekfoacgoalaaIr
import Derived.Test.YtceekfoacgoalaaQa
import Derived.Deep.RegionHeld3
import Derived.Deep.RegionLaw
import Derived.BigQuiet
namespace Go.Proofs.Ytceekfoacgoalaa
set_option maxRecDepth 100000
open Go.RowKit Go.WideShapes Go.Deep

/-- EqualFunc at two parts each. -/
theorem eqf_two_e (g h : Nat) (q0 q1 r0 r1 : Option Addr) (w : World) (P : World → Prop) (Q : Bool → World → Prop)
    (hb : ∀ w', (w' = w ∨ P w') → Blk w' g #[.pointer q0, .pointer q1] 49 ∧ Blk w' h #[.pointer r0, .pointer r1] 49)
    (h1 : Calls Try.prog 59 #[.pointer q0, .pointer r0] w (fun e w' => ∃ b, e = .returned (.bool b) ∧ (b = false → Q false w') ∧ (b = true → P w')))
    (h2 : ∀ w', P w' → Calls Try.prog 59 #[.pointer q1, .pointer r1] w' (fun e w2 => ∃ b, e = .returned (.bool b) ∧ Q b w2)) :
    Calls Try.prog 60 #[.slice (some ⟨g, 0, none⟩) 2 2, .slice (some ⟨h, 0, none⟩) 2 2, .func (.func 59) #[] #[]] w (fun e w' => ∃ b, e = .returned (.bool b) ∧ Q b w') := by
  have HB := Lib.hid hb; have H1 := Lib.hid h1; have H2 := Lib.hid h2; clear hb h1 h2
  go_enter Try.func60, Try.ntmps60
  go_wp2
  go_loopw [17] (fun i wr => (i = .int .i64 0 ∧ wr = w) ∨ (i = .int .i64 1 ∧ P wr) ∨ (i = .int .i64 2 ∧ Q true wr)) (fun i _ => 2 - (intOf i).toNat)
  case atStart => exact .inl ⟨by first | rfl | simp, rfl⟩
  case round =>
    rcases hrel with ⟨rfl, rfl⟩ | ⟨rfl, hP⟩ | ⟨rfl, hQ⟩
    · obtain ⟨b1, b2⟩ := HB.out _ (.inl rfl)
      have c0 := b1.cell 0
      have d0 := b2.cell 0
      simp only [List.getElem?_toArray, List.getElem?_cons_zero] at c0 d0
      clear b1 b2
      go_wp2_with fail
      refine H1.out.mono ?_
      rintro e w1 ⟨b, rfl, k1, k2⟩
      rcases b with _ | _
      · have K := Lib.hid (k1 rfl); clear k1 k2
        go_wp2
        go_ret
        exact ⟨_, rfl, K.out⟩
      · have K := Lib.hid (k2 rfl); clear k1 k2
        go_wp2
        go_roundw
        case rel => exact .inr (.inl ⟨by first | rfl | simp, K.out⟩)
        case measure => simp [intOf]
    · obtain ⟨b1, b2⟩ := HB.out _ (.inr hP)
      have c1 := b1.cell 1
      have d1 := b2.cell 1
      simp only [List.getElem?_toArray, List.getElem?_cons_zero, List.getElem?_cons_succ] at c1 d1
      have HP := Lib.hid hP; clear b1 b2 hP
      go_wp2_with fail
      refine (H2.out _ HP.out).mono ?_
      rintro e w1 ⟨b, rfl, k1⟩
      have K := Lib.hid k1; clear k1
      rcases b with _ | _
      · go_wp2
        go_ret
        exact ⟨_, rfl, K.out⟩
      · go_wp2
        go_roundw
        case rel => exact .inr (.inr ⟨by first | rfl | simp, K.out⟩)
        case measure => simp [intOf]
    · have K := Lib.hid hQ; clear hQ
      go_wp2
      go_ret
      exact ⟨_, rfl, K.out⟩
theorem eqf_nil_e (w : World) : Calls Try.prog 60 #[.slice none 0 0, .slice none 0 0, .func (.func 59) #[] #[]] w (fun e w' => e = .returned (.bool true) ∧ w' = w) := by
  go_enter Try.func60, Try.ntmps60
  go_wp2
  go_loopw [17] (fun i wr => i = .int .i64 0 ∧ wr = w) (fun _ _ => 0)
  case atStart => exact ⟨by first | rfl | simp, rfl⟩
  case round =>
    obtain ⟨rfl, rfl⟩ := hrel
    go_wp2
    go_ret
    exact ⟨rfl, rfl⟩
/-- EqualFunc at two parts each. -/
theorem eqf_two_c (g h : Nat) (q0 q1 r0 r1 : Option Addr) (w : World) (P : World → Prop) (Q : Bool → World → Prop)
    (hb : ∀ w', (w' = w ∨ P w') → Blk w' g #[.pointer q0, .pointer q1] 49 ∧ Blk w' h #[.pointer r0, .pointer r1] 49)
    (h1 : Calls Try.prog 39 #[.pointer q0, .pointer r0] w (fun e w' => ∃ b, e = .returned (.bool b) ∧ (b = false → Q false w') ∧ (b = true → P w')))
    (h2 : ∀ w', P w' → Calls Try.prog 39 #[.pointer q1, .pointer r1] w' (fun e w2 => ∃ b, e = .returned (.bool b) ∧ Q b w2)) :
    Calls Try.prog 60 #[.slice (some ⟨g, 0, none⟩) 2 2, .slice (some ⟨h, 0, none⟩) 2 2, .func (.func 39) #[] #[]] w (fun e w' => ∃ b, e = .returned (.bool b) ∧ Q b w') := by
  have HB := Lib.hid hb; have H1 := Lib.hid h1; have H2 := Lib.hid h2; clear hb h1 h2
  go_enter Try.func60, Try.ntmps60
  go_wp2
  go_loopw [17] (fun i wr => (i = .int .i64 0 ∧ wr = w) ∨ (i = .int .i64 1 ∧ P wr) ∨ (i = .int .i64 2 ∧ Q true wr)) (fun i _ => 2 - (intOf i).toNat)
  case atStart => exact .inl ⟨by first | rfl | simp, rfl⟩
  case round =>
    rcases hrel with ⟨rfl, rfl⟩ | ⟨rfl, hP⟩ | ⟨rfl, hQ⟩
    · obtain ⟨b1, b2⟩ := HB.out _ (.inl rfl)
      have c0 := b1.cell 0
      have d0 := b2.cell 0
      simp only [List.getElem?_toArray, List.getElem?_cons_zero] at c0 d0
      clear b1 b2
      go_wp2_with fail
      refine H1.out.mono ?_
      rintro e w1 ⟨b, rfl, k1, k2⟩
      rcases b with _ | _
      · have K := Lib.hid (k1 rfl); clear k1 k2
        go_wp2
        go_ret
        exact ⟨_, rfl, K.out⟩
      · have K := Lib.hid (k2 rfl); clear k1 k2
        go_wp2
        go_roundw
        case rel => exact .inr (.inl ⟨by first | rfl | simp, K.out⟩)
        case measure => simp [intOf]
    · obtain ⟨b1, b2⟩ := HB.out _ (.inr hP)
      have c1 := b1.cell 1
      have d1 := b2.cell 1
      simp only [List.getElem?_toArray, List.getElem?_cons_zero, List.getElem?_cons_succ] at c1 d1
      have HP := Lib.hid hP; clear b1 b2 hP
      go_wp2_with fail
      refine (H2.out _ HP.out).mono ?_
      rintro e w1 ⟨b, rfl, k1⟩
      have K := Lib.hid k1; clear k1
      rcases b with _ | _
      · go_wp2
        go_ret
        exact ⟨_, rfl, K.out⟩
      · go_wp2
        go_roundw
        case rel => exact .inr (.inr ⟨by first | rfl | simp, K.out⟩)
        case measure => simp [intOf]
    · have K := Lib.hid hQ; clear hQ
      go_wp2
      go_ret
      exact ⟨_, rfl, K.out⟩
theorem eqf_nil_c (w : World) : Calls Try.prog 60 #[.slice none 0 0, .slice none 0 0, .func (.func 39) #[] #[]] w (fun e w' => e = .returned (.bool true) ∧ w' = w) := by
  go_enter Try.func60, Try.ntmps60
  go_wp2
  go_loopw [17] (fun i wr => i = .int .i64 0 ∧ wr = w) (fun _ _ => 0)
  case atStart => exact ⟨by first | rfl | simp, rfl⟩
  case round =>
    obtain ⟨rfl, rfl⟩ := hrel
    go_wp2
    go_ret
    exact ⟨rfl, rfl⟩
end Go.Proofs.Ytceekfoacgoalaa
