/- A deed read from a text: what it is; by the program and by the model. -/
import Derived.Test.YtjblecinkedppaaDoorBj
import Derived.Test.YtjblecinkedppaaDoorSh
namespace Go.Proofs.YtjblecinkedppaaDoor
set_option maxRecDepth 100000
open Go.RowKit Go.WideShapes Go.Deep

/-- The deed of a text. -/
def deedR (t : List UInt8) : (Int × List UInt8) × Bool := if t = clearL then ((1, []), true) else if t = backL then ((2, []), true) else if Lib.hasPrefix t doL && (readProgP (Lib.trimPrefix t doL)).2 then ((0, Lib.trimPrefix t doL), true) else ((0, []), false)
/-- The deeds that a text may be of. -/
def deedsOf (t : List UInt8) : Deeds := [(1, []), (2, [])] ++ (if 3 < t.length then [(0, t.drop 3)] else [])
theorem readP_nil : (readProgP []).2 = false := by decide
theorem prefix_do (t : List UInt8) : Lib.hasPrefix (doL ++ t) doL = true ∧ Lib.trimPrefix (doL ++ t) doL = t := by
  have h : Lib.hasPrefix (doL ++ t) doL = true := by simp [Lib.hasPrefix, doL, List.isPrefixOf]
  refine ⟨h, ?_⟩
  rw [Lib.trimPrefix, if_pos h]; rfl
theorem prefix_of {t : List UInt8} (h : Lib.hasPrefix t doL = true) : t = doL ++ Lib.trimPrefix t doL := by
  rw [Lib.trimPrefix, if_pos h]
  obtain ⟨s, rfl⟩ := List.isPrefixOf_iff_prefix.1 h
  simp
theorem deedR_do {t : List UInt8} (h : (readProgP t).2 = true) : deedR (doL ++ t) = ((0, t), true) := by
  unfold deedR
  rw [if_neg (by simp [doL, clearL]), if_neg (by simp [doL, backL]), (prefix_do t).1, (prefix_do t).2, h]
  rfl
theorem deedR_hit {t : List UInt8} {k : Nat} {d : Int × List UInt8} (hk : (deedsOf t)[k]? = some d) (h0 : t ≠ []) (h : deedT d.1 d.2 = t) : deedR t = (d, true) := by
  have hm := List.mem_of_getElem? hk
  unfold deedsOf at hm
  rw [List.mem_append] at hm
  rcases hm with hm | hm
  · simp only [List.mem_cons, List.not_mem_nil, or_false] at hm
    rcases hm with rfl | rfl
    · subst h; rfl
    · subst h; rfl
  · split at hm
    · simp only [List.mem_cons, List.not_mem_nil, or_false] at hm
      subst hm
      unfold deedT at h
      rw [if_pos rfl] at h
      split at h
      · rename_i hp
        have := deedR_do hp
        rwa [h] at this
      · exact absurd h.symm h0
    · cases hm
theorem deedR_miss {t : List UInt8} (h : ∀ d ∈ deedsOf t, deedT d.1 d.2 ≠ t) : deedR t = ((0, []), false) := by
  have h1 : t ≠ clearL := fun e => h (1, []) (by simp [deedsOf]) (by rw [e]; rfl)
  have h2 : t ≠ backL := fun e => h (2, []) (by simp [deedsOf]) (by rw [e]; rfl)
  unfold deedR
  rw [if_neg h1, if_neg h2, if_neg]
  intro hp
  rw [Bool.and_eq_true] at hp
  have e := prefix_of hp.1
  have hne : Lib.trimPrefix t doL ≠ [] := fun e2 => by
    have := hp.2
    rw [e2, readP_nil] at this; cases this
  have hlen : 3 < t.length := by
    rw [e, List.length_append]
    have := List.length_pos_iff.2 hne
    have : doL.length = 3 := rfl
    omega
  have hd : t.drop 3 = Lib.trimPrefix t doL := by
    conv => lhs; rw [e]
    rfl
  refine h (0, t.drop 3) (by simp [deedsOf, hlen]) ?_
  unfold deedT
  rw [if_pos rfl, hd, if_pos hp.2]
  exact e.symm
theorem deedR_nil : deedR [] = ((0, []), false) := by decide
theorem deedsOf_len (t : List UInt8) : (deedsOf t).length ≤ 3 := by
  unfold deedsOf; split <;> simp
theorem deedR_len (t : List UInt8) : (deedR t).1.2.length ≤ 400 := by
  unfold deedR
  split
  · simp
  · split
    · simp
    · split
      · rename_i h
        rw [Bool.and_eq_true] at h
        exact readP_len h.2
      · simp
theorem deedsOf_mem {t : List UInt8} {d : Int × List UInt8} (h : d ∈ deedsOf t) : d.2.length ≤ t.length := by
  unfold deedsOf at h
  rw [List.mem_append] at h
  rcases h with h | h
  · simp at h; rcases h with rfl | rfl <;> simp
  · split at h
    · simp at h; subst h; simp
    · cases h
/-- What ReadDeed gives. -/
def deedV (d : Int × List UInt8) : Value := .agg #[.int .i64 d.1, .string ⟨d.2.toArray⟩]

theorem cutDo (S X : ByteArray) (b : Bool) (w : World) (h1 : (⟨(Lib.trimPrefix (bytesOf S) doL).toArray⟩ : ByteArray) = X) (h2 : Lib.hasPrefix (bytesOf S) doL = b) :
    Calls Tryd.prog 32 #[.string S, .string ⟨#[100, 111, 32]⟩] w fun e w' => e = .returned (.tuple #[.string X, .bool b]) ∧ w' = w := by
  subst h1 h2
  exact Tryd.strings_CutPrefix S ⟨#[100, 111, 32]⟩ w
theorem two_cells (w : World) (a b : Value) (T : TypeId) : (w.alloc (.cells #[a, b] T)).cell? ⟨w.heap.size, 0, none⟩ = some a ∧ (w.alloc (.cells #[a, b] T)).cell? ⟨w.heap.size, 1, none⟩ = some b :=
  ⟨(blk_pair (Blk.new w #[a, b] T)).1, (blk_pair (Blk.new w #[a, b] T)).2.1⟩
theorem trim_le (t : List UInt8) : (Lib.trimPrefix t doL).length ≤ t.length := by
  unfold Lib.trimPrefix; split <;> simp

set_option maxHeartbeats 1000000 in
theorem ReadDeed_I (S : ByteArray) (w : World) (h0 : S.size ≤ 100000000) (ht : StrTab w 0 opNames) :
    Calls Tryd.prog 14 #[.string S] w fun e w' => e = .returned (.tuple #[deedV (deedR (bytesOf S)).1, .bool (deedR (bytesOf S)).2]) ∧ Below w.heap.size w w' := by
  have hgl := ht.lt
  by_cases hc : bytesOf S = clearL
  · have hR := Lib.hid (show deedR (bytesOf S) = ((1, []), true) by rw [hc]; rfl)
    have hse : (S.toList == [99, 108, 101, 97, 114]) = true := by rw [str_eq]; simpa [clearL] using hc
    obtain ⟨c0, c1⟩ := two_cells w (.int .i64 1) (.string ⟨#[]⟩) 32
    have C := Lib.hid (And.intro c0 c1); clear c0 c1
    clear hc
    go_enter Tryd.func14, Tryd.ntmps14
    go_wp2
    obtain ⟨c0, c1⟩ := C.out
    refine bodyPost_ret (v := .tuple #[.agg #[.int .i64 1, .string ⟨#[]⟩], .bool true]) (by simp [results, Tryd.results14, go_sem, c0, c1]) rfl ?_
    rw [hR.out]
    exact ⟨rfl, (Below.refl _ _).alloc (Nat.le_refl _) _⟩
  have hse : (S.toList == [99, 108, 101, 97, 114]) = false := by rw [str_eq]; simpa [clearL] using hc
  by_cases hk : bytesOf S = backL
  · have hR := Lib.hid (show deedR (bytesOf S) = ((2, []), true) by rw [hk]; rfl)
    have hse2 : (S.toList == [98, 97, 99, 107]) = true := by rw [str_eq]; simpa [backL] using hk
    obtain ⟨c0, c1⟩ := two_cells w (.int .i64 2) (.string ⟨#[]⟩) 32
    have C := Lib.hid (And.intro c0 c1); clear c0 c1
    clear hc hk
    go_enter Tryd.func14, Tryd.ntmps14
    go_wp2
    obtain ⟨c0, c1⟩ := C.out
    refine bodyPost_ret (v := .tuple #[.agg #[.int .i64 2, .string ⟨#[]⟩], .bool true]) (by simp [results, Tryd.results14, go_sem, c0, c1]) rfl ?_
    rw [hR.out]
    exact ⟨rfl, (Below.refl _ _).alloc (Nat.le_refl _) _⟩
  have hse2 : (S.toList == [98, 97, 99, 107]) = false := by rw [str_eq]; simpa [backL] using hk
  have hal : Below w.heap.size w (w.alloc (.cells #[.int .i64 0, .string ⟨#[]⟩] 32)) := (Below.refl _ _).alloc (Nat.le_refl _) _
  have S0 := Lib.hid (And.intro hal (And.intro (Blk.new w #[.int .i64 0, .string ⟨#[]⟩] 32) (ht.below hal hgl))); clear hal ht
  obtain ⟨t, hT⟩ : ∃ t, Lib.trimPrefix (bytesOf S) doL = t := ⟨_, rfl⟩
  obtain ⟨X, hX⟩ : ∃ X : ByteArray, (⟨t.toArray⟩ : ByteArray) = X := ⟨_, rfl⟩
  have hXz : X.size ≤ 100000000 := by
    have := trim_le (bytesOf S)
    rw [hT, bytes_len] at this
    rw [← hX]; simp [ByteArray.size]; omega
  have hXb : bytesOf X = t := by rw [← hX, bytes_mk]
  rcases hr : readProgP t with ⟨p, b⟩
  obtain ⟨b', hP⟩ : ∃ b', Lib.hasPrefix (bytesOf S) doL = b' := ⟨_, rfl⟩
  have HR := Lib.hid (show readProgP (bytesOf X) = (p, b) by rw [hXb, hr])
  have HC := Lib.hid (show (⟨(Lib.trimPrefix (bytesOf S) doL).toArray⟩ : ByteArray) = X by rw [hT, hX])
  have HP := Lib.hid hP
  have HD : Hid (deedR (bytesOf S) = if b' && b then ((0, t), true) else ((0, []), false)) := Lib.hid (by
    unfold deedR
    rw [if_neg hc, if_neg hk, hT, hP, hr])
  have HX := Lib.hid hX
  clear hc hk hT hX hXb hr hP
  rcases b' with _ | _ <;> rcases b with _ | _
  all_goals
    go_enter Tryd.func14, Tryd.ntmps14
    go_wp2_with fail
    refine (cutDo S X _ _ HC.out HP.out).mono ?_
    rintro e w1 ⟨rfl, rfl⟩
    go_wp2_with fail
    refine (ReadProg_I X _ hXz _ _ HR.out S0.out.2.2).mono ?_
    rintro e w1 ⟨u, rfl, ho, hb⟩
    have hB := S0.out.2.1.below hb (by simp)
    obtain ⟨b10, b11, f10, f11⟩ := blk_pair hB
    have B := Lib.hid (And.intro (S0.out.1.trans (hb.mono (by simp))) hB); clear hb ho hB S0
    go_wp2
  · obtain ⟨c0, c1, _, _⟩ := blk_pair ((B.out.2.set 0 (.int .i64 0)).set 1 (.string ⟨#[]⟩))
    refine bodyPost_ret (v := .tuple #[.agg #[.int .i64 0, .string ⟨#[]⟩], .bool false]) (by simp [results, Tryd.results14, go_sem, c0, c1]) rfl ?_
    rw [HD.out]
    exact ⟨rfl, (B.out.1.setCell (Nat.le_refl _) _).setCell (Nat.le_refl _) _⟩
  · obtain ⟨c0, c1, _, _⟩ := blk_pair ((B.out.2.set 0 (.int .i64 0)).set 1 (.string ⟨#[]⟩))
    refine bodyPost_ret (v := .tuple #[.agg #[.int .i64 0, .string ⟨#[]⟩], .bool false]) (by simp [results, Tryd.results14, go_sem, c0, c1]) rfl ?_
    rw [HD.out]
    exact ⟨rfl, (B.out.1.setCell (Nat.le_refl _) _).setCell (Nat.le_refl _) _⟩
  · obtain ⟨c0, c1, _, _⟩ := blk_pair ((B.out.2.set 0 (.int .i64 0)).set 1 (.string ⟨#[]⟩))
    refine bodyPost_ret (v := .tuple #[.agg #[.int .i64 0, .string ⟨#[]⟩], .bool false]) (by simp [results, Tryd.results14, go_sem, c0, c1]) rfl ?_
    rw [HD.out]
    exact ⟨rfl, (B.out.1.setCell (Nat.le_refl _) _).setCell (Nat.le_refl _) _⟩
  · obtain ⟨c0, c1, _, _⟩ := blk_pair ((B.out.2.set 0 (.int .i64 0)).set 1 (.string X))
    refine bodyPost_ret (v := .tuple #[.agg #[.int .i64 0, .string X], .bool true]) (by simp [results, Tryd.results14, go_sem, c0, c1]) rfl ?_
    rw [HD.out, ← HX.out]
    exact ⟨rfl, (B.out.1.setCell (Nat.le_refl _) _).setCell (Nat.le_refl _) _⟩
end Go.Proofs.YtjblecinkedppaaDoor
