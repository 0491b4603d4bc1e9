/- Several texts in one. -/
import Derived.Test.YtjblecinkedppaaDoorBj
import Derived.Test.YtjblecinkedppaaDoorSh
/- A deed read from a text: what it is; by the program and by the model. -/
namespace Go.Proofs.YtjblecinkedppaaDoor
set_option maxRecDepth 100000
open Go.RowKit Go.WideShapes Go.Deep

/-- The deed of a text. -/
def deedR (t : List UInt8) : (Int × List UInt8) × Bool := if t = clearL then ((1, []), true) else if t = backL then ((2, []), true) else if Lib.hasPrefix t doL && (readProgP (Lib.trimPrefix t doL)).2 then ((0, Lib.trimPrefix t doL), true) else ((0, []), false)
/-- The deeds that a text may be of. -/
def deedsOf (t : List UInt8) : Deeds := [(1, []), (2, [])] ++ (if 3 < t.length then [(0, t.drop 3)] else [])
theorem readP_nil : (readProgP []).2 = false := by decide
theorem prefix_do (t : List UInt8) : Lib.hasPrefix (doL ++ t) doL = true ∧ Lib.trimPrefix (doL ++ t) doL = t := by
  have h : Lib.hasPrefix (doL ++ t) doL = true := by simp [Lib.hasPrefix, doL, List.isPrefixOf]
  refine ⟨h, ?_⟩
  rw [Lib.trimPrefix, if_pos h]; rfl
theorem prefix_of {t : List UInt8} (h : Lib.hasPrefix t doL = true) : t = doL ++ Lib.trimPrefix t doL := by
  rw [Lib.trimPrefix, if_pos h]
  obtain ⟨s, rfl⟩ := List.isPrefixOf_iff_prefix.1 h
  simp
theorem deedR_do {t : List UInt8} (h : (readProgP t).2 = true) : deedR (doL ++ t) = ((0, t), true) := by
  unfold deedR
  rw [if_neg (by simp [doL, clearL]), if_neg (by simp [doL, backL]), (prefix_do t).1, (prefix_do t).2, h]
  rfl
theorem deedR_hit {t : List UInt8} {k : Nat} {d : Int × List UInt8} (hk : (deedsOf t)[k]? = some d) (h0 : t ≠ []) (h : deedT d.1 d.2 = t) : deedR t = (d, true) := by
  have hm := List.mem_of_getElem? hk
  unfold deedsOf at hm
  rw [List.mem_append] at hm
  rcases hm with hm | hm
  · simp only [List.mem_cons, List.not_mem_nil, or_false] at hm
    rcases hm with rfl | rfl
    · subst h; rfl
    · subst h; rfl
  · split at hm
    · simp only [List.mem_cons, List.not_mem_nil, or_false] at hm
      subst hm
      unfold deedT at h
      rw [if_pos rfl] at h
      split at h
      · rename_i hp
        have := deedR_do hp
        rwa [h] at this
      · exact absurd h.symm h0
    · cases hm
theorem deedR_miss {t : List UInt8} (h : ∀ d ∈ deedsOf t, deedT d.1 d.2 ≠ t) : deedR t = ((0, []), false) := by
  have h1 : t ≠ clearL := fun e => h (1, []) (by simp [deedsOf]) (by rw [e]; rfl)
  have h2 : t ≠ backL := fun e => h (2, []) (by simp [deedsOf]) (by rw [e]; rfl)
  unfold deedR
  rw [if_neg h1, if_neg h2, if_neg]
  intro hp
  rw [Bool.and_eq_true] at hp
  have e := prefix_of hp.1
  have hne : Lib.trimPrefix t doL ≠ [] := fun e2 => by
    have := hp.2
    rw [e2, readP_nil] at this; cases this
  have hlen : 3 < t.length := by
    rw [e, List.length_append]
    have := List.length_pos_iff.2 hne
    have : doL.length = 3 := rfl
    omega
  have hd : t.drop 3 = Lib.trimPrefix t doL := by
    conv => lhs; rw [e]
    rfl
  refine h (0, t.drop 3) (by simp [deedsOf, hlen]) ?_
  unfold deedT
  rw [if_pos rfl, hd, if_pos hp.2]
  exact e.symm
theorem deedR_nil : deedR [] = ((0, []), false) := by decide
theorem deedsOf_len (t : List UInt8) : (deedsOf t).length ≤ 3 := by
  unfold deedsOf; split <;> simp
theorem deedR_len (t : List UInt8) : (deedR t).1.2.length ≤ 400 := by
  unfold deedR
  split
  · simp
  · split
    · simp
    · split
      · rename_i h
        rw [Bool.and_eq_true] at h
        exact readP_len h.2
      · simp
theorem deedsOf_mem {t : List UInt8} {d : Int × List UInt8} (h : d ∈ deedsOf t) : d.2.length ≤ t.length := by
  unfold deedsOf at h
  rw [List.mem_append] at h
  rcases h with h | h
  · simp at h; rcases h with rfl | rfl <;> simp
  · split at h
    · simp at h; subst h; simp
    · cases h
/-- What ReadDeed gives. -/
def deedV (d : Int × List UInt8) : Value := .agg #[.int .i64 d.1, .string ⟨d.2.toArray⟩]

theorem cutDo (S X : ByteArray) (b : Bool) (w : World) (h1 : (⟨(Lib.trimPrefix (bytesOf S) doL).toArray⟩ : ByteArray) = X) (h2 : Lib.hasPrefix (bytesOf S) doL = b) :
    Calls Tryd.prog 32 #[.string S, .string ⟨#[100, 111, 32]⟩] w fun e w' => e = .returned (.tuple #[.string X, .bool b]) ∧ w' = w := by
  subst h1 h2
  exact Tryd.strings_CutPrefix S ⟨#[100, 111, 32]⟩ w
theorem two_cells (w : World) (a b : Value) (T : TypeId) : (w.alloc (.cells #[a, b] T)).cell? ⟨w.heap.size, 0, none⟩ = some a ∧ (w.alloc (.cells #[a, b] T)).cell? ⟨w.heap.size, 1, none⟩ = some b :=
  ⟨(blk_pair (Blk.new w #[a, b] T)).1, (blk_pair (Blk.new w #[a, b] T)).2.1⟩
theorem trim_le (t : List UInt8) : (Lib.trimPrefix t doL).length ≤ t.length := by
  unfold Lib.trimPrefix; split <;> simp

set_option maxHeartbeats 1000000 in
theorem ReadDeed_I (S : ByteArray) (w : World) (h0 : S.size ≤ 100000000) (ht : StrTab w 0 opNames) :
    Calls Tryd.prog 14 #[.string S] w fun e w' => e = .returned (.tuple #[deedV (deedR (bytesOf S)).1, .bool (deedR (bytesOf S)).2]) ∧ Below w.heap.size w w' := by
  have hgl := ht.lt
  by_cases hc : bytesOf S = clearL
  · have hR := Lib.hid (show deedR (bytesOf S) = ((1, []), true) by rw [hc]; rfl)
    have hse : (S.toList == [99, 108, 101, 97, 114]) = true := by rw [str_eq]; simpa [clearL] using hc
    obtain ⟨c0, c1⟩ := two_cells w (.int .i64 1) (.string ⟨#[]⟩) 32
    have C := Lib.hid (And.intro c0 c1); clear c0 c1
    clear hc
    go_enter Tryd.func14, Tryd.ntmps14
    go_wp2
    obtain ⟨c0, c1⟩ := C.out
    refine bodyPost_ret (v := .tuple #[.agg #[.int .i64 1, .string ⟨#[]⟩], .bool true]) (by simp [results, Tryd.results14, go_sem, c0, c1]) rfl ?_
    rw [hR.out]
    exact ⟨rfl, (Below.refl _ _).alloc (Nat.le_refl _) _⟩
  have hse : (S.toList == [99, 108, 101, 97, 114]) = false := by rw [str_eq]; simpa [clearL] using hc
  by_cases hk : bytesOf S = backL
  · have hR := Lib.hid (show deedR (bytesOf S) = ((2, []), true) by rw [hk]; rfl)
    have hse2 : (S.toList == [98, 97, 99, 107]) = true := by rw [str_eq]; simpa [backL] using hk
    obtain ⟨c0, c1⟩ := two_cells w (.int .i64 2) (.string ⟨#[]⟩) 32
    have C := Lib.hid (And.intro c0 c1); clear c0 c1
    clear hc hk
    go_enter Tryd.func14, Tryd.ntmps14
    go_wp2
    obtain ⟨c0, c1⟩ := C.out
    refine bodyPost_ret (v := .tuple #[.agg #[.int .i64 2, .string ⟨#[]⟩], .bool true]) (by simp [results, Tryd.results14, go_sem, c0, c1]) rfl ?_
    rw [hR.out]
    exact ⟨rfl, (Below.refl _ _).alloc (Nat.le_refl _) _⟩
  have hse2 : (S.toList == [98, 97, 99, 107]) = false := by rw [str_eq]; simpa [backL] using hk
  have hal : Below w.heap.size w (w.alloc (.cells #[.int .i64 0, .string ⟨#[]⟩] 32)) := (Below.refl _ _).alloc (Nat.le_refl _) _
  have S0 := Lib.hid (And.intro hal (And.intro (Blk.new w #[.int .i64 0, .string ⟨#[]⟩] 32) (ht.below hal hgl))); clear hal ht
  obtain ⟨t, hT⟩ : ∃ t, Lib.trimPrefix (bytesOf S) doL = t := ⟨_, rfl⟩
  obtain ⟨X, hX⟩ : ∃ X : ByteArray, (⟨t.toArray⟩ : ByteArray) = X := ⟨_, rfl⟩
  have hXz : X.size ≤ 100000000 := by
    have := trim_le (bytesOf S)
    rw [hT, bytes_len] at this
    rw [← hX]; simp [ByteArray.size]; omega
  have hXb : bytesOf X = t := by rw [← hX, bytes_mk]
  rcases hr : readProgP t with ⟨p, b⟩
  obtain ⟨b', hP⟩ : ∃ b', Lib.hasPrefix (bytesOf S) doL = b' := ⟨_, rfl⟩
  have HR := Lib.hid (show readProgP (bytesOf X) = (p, b) by rw [hXb, hr])
  have HC := Lib.hid (show (⟨(Lib.trimPrefix (bytesOf S) doL).toArray⟩ : ByteArray) = X by rw [hT, hX])
  have HP := Lib.hid hP
  have HD : Hid (deedR (bytesOf S) = if b' && b then ((0, t), true) else ((0, []), false)) := Lib.hid (by
    unfold deedR
    rw [if_neg hc, if_neg hk, hT, hP, hr])
  have HX := Lib.hid hX
  clear hc hk hT hX hXb hr hP
  rcases b' with _ | _ <;> rcases b with _ | _
  all_goals
    go_enter Tryd.func14, Tryd.ntmps14
    go_wp2_with fail
    refine (cutDo S X _ _ HC.out HP.out).mono ?_
    rintro e w1 ⟨rfl, rfl⟩
    go_wp2_with fail
    refine (ReadProg_I X _ hXz _ _ HR.out S0.out.2.2).mono ?_
    rintro e w1 ⟨u, rfl, ho, hb⟩
    have hB := S0.out.2.1.below hb (by simp)
    obtain ⟨b10, b11, f10, f11⟩ := blk_pair hB
    have B := Lib.hid (And.intro (S0.out.1.trans (hb.mono (by simp))) hB); clear hb ho hB S0
    go_wp2
  · obtain ⟨c0, c1, _, _⟩ := blk_pair ((B.out.2.set 0 (.int .i64 0)).set 1 (.string ⟨#[]⟩))
    refine bodyPost_ret (v := .tuple #[.agg #[.int .i64 0, .string ⟨#[]⟩], .bool false]) (by simp [results, Tryd.results14, go_sem, c0, c1]) rfl ?_
    rw [HD.out]
    exact ⟨rfl, (B.out.1.setCell (Nat.le_refl _) _).setCell (Nat.le_refl _) _⟩
  · obtain ⟨c0, c1, _, _⟩ := blk_pair ((B.out.2.set 0 (.int .i64 0)).set 1 (.string ⟨#[]⟩))
    refine bodyPost_ret (v := .tuple #[.agg #[.int .i64 0, .string ⟨#[]⟩], .bool false]) (by simp [results, Tryd.results14, go_sem, c0, c1]) rfl ?_
    rw [HD.out]
    exact ⟨rfl, (B.out.1.setCell (Nat.le_refl _) _).setCell (Nat.le_refl _) _⟩
  · obtain ⟨c0, c1, _, _⟩ := blk_pair ((B.out.2.set 0 (.int .i64 0)).set 1 (.string ⟨#[]⟩))
    refine bodyPost_ret (v := .tuple #[.agg #[.int .i64 0, .string ⟨#[]⟩], .bool false]) (by simp [results, Tryd.results14, go_sem, c0, c1]) rfl ?_
    rw [HD.out]
    exact ⟨rfl, (B.out.1.setCell (Nat.le_refl _) _).setCell (Nat.le_refl _) _⟩
  · obtain ⟨c0, c1, _, _⟩ := blk_pair ((B.out.2.set 0 (.int .i64 0)).set 1 (.string X))
    refine bodyPost_ret (v := .tuple #[.agg #[.int .i64 0, .string X], .bool true]) (by simp [results, Tryd.results14, go_sem, c0, c1]) rfl ?_
    rw [HD.out, ← HX.out]
    exact ⟨rfl, (B.out.1.setCell (Nat.le_refl _) _).setCell (Nat.le_refl _) _⟩
end Go.Proofs.YtjblecinkedppaaDoor

/- A deed read from a text, by the model. -/
namespace Go.Proofs.YtjblecinkedppaaDoor
set_option maxRecDepth 100000
open Go.RowKit Go.WideShapes Go.Deep

set_option maxHeartbeats 1000000 in
theorem ReadDeed_Snil (w : World) :
    Calls Tryd.prog 16 #[.string ⟨#[]⟩] w fun e w' => e = .returned (.tuple #[deedV ((0, []) : Int × List UInt8), .bool false]) ∧ Below w.heap.size w w' := by
  have hal : Below w.heap.size w ((w.alloc (.cells #[.int .i64 0, .string ⟨#[]⟩] 32)).alloc (.cells #[.int .i64 1, .string ⟨#[]⟩, .int .i64 2, .string ⟨#[]⟩] 32)) := ((Below.refl _ _).alloc (Nat.le_refl _) _).alloc (by simp) _
  have hB := (Blk.new w #[.int .i64 0, .string ⟨#[]⟩] 32).below ((Below.refl (w.heap.size + 1) _).alloc (by simp) (.cells #[.int .i64 1, .string ⟨#[]⟩, .int .i64 2, .string ⟨#[]⟩] 32)) (by omega)
  have S0 := Lib.hid (And.intro hal hB); clear hal hB
  go_enter Tryd.func16, Tryd.ntmps16
  go_wp2
  go_loopw [5] (fun i wr => wr = ((w.alloc (.cells #[.int .i64 0, .string ⟨#[]⟩] 32)).alloc (.cells #[.int .i64 1, .string ⟨#[]⟩, .int .i64 2, .string ⟨#[]⟩] 32)) ∧ ∃ k : Nat, k ≤ 2 ∧ i = .int .i64 k) (fun i _ => 2 - (intOf i).toNat)
  case atStart => exact ⟨rfl, 0, by omega, rfl⟩
  case round =>
    obtain ⟨rfl, k, hk, rfl⟩ := hrel
    by_cases hlt : k < 2
    · have hltI : (k : Int) < 2 := by omega
      go_wp2
      go_roundw
      case rel => exact ⟨trivial, k + 1, by omega, by go_num⟩
      case measure => simp [intOf]; omega
    · obtain rfl : k = 2 := by omega
      go_wp2
      obtain ⟨c0, c1, _, _⟩ := blk_pair S0.out.2
      refine bodyPost_ret (v := .tuple #[.agg #[.int .i64 0, .string ⟨#[]⟩], .bool false]) (by simp [results, Tryd.results16, go_sem, c0, c1]) rfl ?_
      exact ⟨rfl, S0.out.1⟩

theorem deed_missed {t : List UInt8} {n : Nat} (hn : (deedsOf t).length = n) (h : ∀ j < n, ∀ d, (deedsOf t)[j]? = some d → deedT d.1 d.2 ≠ t) : deedR t = ((0, []), false) :=
  deedR_miss fun d hd => by
    obtain ⟨j, hj, e⟩ := List.getElem_of_mem hd
    exact h j (by omega) d (by rw [List.getElem?_eq_getElem hj, e])
set_option maxHeartbeats 2000000 in
theorem ReadDeed_S (S : ByteArray) (w : World) (h0 : S.size ≤ 100000000) :
    Calls Tryd.prog 16 #[.string S] w fun e w' => e = .returned (.tuple #[deedV (deedR (bytesOf S)).1, .bool (deedR (bytesOf S)).2]) ∧ Below w.heap.size w w' := by
  by_cases hne : bytesOf S = []
  · obtain rfl := ba_nil hne
    exact ReadDeed_Snil w
  have hse := ba_ne hne
  have hsl : (bytesOf S).length = S.size := bytes_len S
  have hal : Below w.heap.size w ((w.alloc (.cells #[.int .i64 0, .string ⟨#[]⟩] 32)).alloc (.cells #[.int .i64 1, .string ⟨#[]⟩, .int .i64 2, .string ⟨#[]⟩] 32)) := ((Below.refl _ _).alloc (Nat.le_refl _) _).alloc (by simp) _
  have hB := (Blk.new w #[.int .i64 0, .string ⟨#[]⟩] 32).below ((Below.refl (w.heap.size + 1) _).alloc (by simp) (.cells #[.int .i64 1, .string ⟨#[]⟩, .int .i64 2, .string ⟨#[]⟩] 32)) (by omega)
  have hL : OwnD ((w.alloc (.cells #[.int .i64 0, .string ⟨#[]⟩] 32)).alloc (.cells #[.int .i64 1, .string ⟨#[]⟩, .int .i64 2, .string ⟨#[]⟩] 32)) (w.heap.size + 1) (w.heap.size + 2) (.slice (some ⟨w.heap.size + 1, 0, none⟩) 2 2) [(1, []), (2, [])] := by
    have h := OwnD.lits (w.alloc (.cells #[.int .i64 0, .string ⟨#[]⟩] 32)) [(1, []), (2, [])] (by simp)
    rw [World.size_alloc] at h
    exact h
  have S0 := Lib.hid (And.intro hal (And.intro hB hL)); clear hal hB hL
  by_cases h3 : (3 : Int) < S.size
  · obtain ⟨R, hRx⟩ : ∃ R : ByteArray, S.extract 3 S.size = R := ⟨_, rfl⟩
    have hRb : bytesOf R = (bytesOf S).drop 3 := by
      rw [← hRx, bytes_extract, List.take_of_length_le]
      rw [List.length_drop]; omega
    have hds : deedsOf (bytesOf S) = [(1, []), (2, [])] ++ [(0, bytesOf R)] := by
      rw [deedsOf, if_pos (by omega), hRb]
    have HR := Lib.hid hRb; clear hRb
    have HDS := Lib.hid hds; clear hds
    have hba : Below (w.heap.size + 2) ((w.alloc (.cells #[.int .i64 0, .string ⟨#[]⟩] 32)).alloc (.cells #[.int .i64 1, .string ⟨#[]⟩, .int .i64 2, .string ⟨#[]⟩] 32)) (((w.alloc (.cells #[.int .i64 0, .string ⟨#[]⟩] 32)).alloc (.cells #[.int .i64 1, .string ⟨#[]⟩, .int .i64 2, .string ⟨#[]⟩] 32)).alloc (.cells #[.int .i64 0, .string R] 32)) := (Below.refl _ _).alloc (by simp) _
    have hnb := Blk.new ((w.alloc (.cells #[.int .i64 0, .string ⟨#[]⟩] 32)).alloc (.cells #[.int .i64 1, .string ⟨#[]⟩, .int .i64 2, .string ⟨#[]⟩] 32)) #[.int .i64 0, .string R] 32
    rw [World.size_alloc, World.size_alloc] at hnb
    have L0 := Lib.hid (And.intro (OwnD.belowB S0.out.2.2 hba (Nat.le_refl _)) (And.intro (blk_pair hnb).1 (And.intro (blk_pair hnb).2.1 (And.intro (S0.out.1.trans (hba.mono (by omega))) (S0.out.2.1.below hba (by omega)))))); clear hba hnb
    go_enter Tryd.func16, Tryd.ntmps16
    go_wp2_with (at_builtin; go_loud (refine wpList_append_D rfl _ _ _ rfl Tryd.underlying38 deedInfo (w.heap.size + 1) (w.heap.size + 2) _ [(1, []), (2, [])] rfl L0.out.1 (by simp) (w.heap.size + 2) 0 (.string R) (bytesOf R) rfl L0.out.2.1 L0.out.2.2.1 (by rw [ba_eta]) (by simp) ?_))
    intro v' wz hom hb5 hg5 _
    have hz5 := hg5.size
    simp only [World.size_alloc] at hz5
    obtain ⟨A, c, hv, _⟩ := hom.rd
    have hv' : v' = .slice A 3 c := hv
    subst hv'
    have L : Hid (Below w.heap.size w wz ∧ w.heap.size < wz.heap.size ∧ Blk wz w.heap.size #[.int .i64 0, .string ⟨#[]⟩] 32 ∧ RdBD wz wz.heap.size (.slice A 3 c) (deedsOf (bytesOf S)) ∧ (deedsOf (bytesOf S)).length = 3) := Lib.hid ⟨L0.out.2.2.2.1.trans (hb5.mono (by omega)), by omega, L0.out.2.2.2.2.below hb5 (by omega), by rw [HDS.out]; exact hom.rd, by rw [HDS.out]; rfl⟩
    clear S0 L0 hom hb5 hg5 hv
    go_wp2
    go_loopw [5] (fun i wr => ∃ k : Nat, k ≤ 3 ∧ i = .int .i64 k ∧ (∀ j < k, ∀ d, (deedsOf (bytesOf S))[j]? = some d → deedT d.1 d.2 ≠ bytesOf S) ∧ Below (wz).heap.size (wz) wr) (fun i _ => 3 - (intOf i).toNat)
    case atStart => exact ⟨0, by omega, rfl, fun j hj => absurd hj (by omega), Below.refl _ _⟩
    case round =>
      obtain ⟨k, hk, rfl, hall, hbk⟩ := hrel
      have hzk := hbk.size
      have hBk := L.out.2.2.1.below hbk L.out.2.1
      obtain ⟨r0, r1, f0, f1⟩ := blk_pair hBk
      by_cases hlt : k < 3
      · obtain ⟨d, hd⟩ : ∃ d, (deedsOf (bytesOf S))[k]? = some d := ⟨_, List.getElem?_eq_getElem (by rw [L.out.2.2.2.2]; exact hlt)⟩
        have hds := deedsOf_mem (List.mem_of_getElem? hd)
        obtain ⟨A, c, he, _, hr⟩ := L.out.2.2.2.1
        rw [L.out.2.2.2.2] at he hr
        cases he
        obtain ⟨b, off, he2, hbb, hc⟩ := hr (by omega)
        cases he2
        obtain ⟨q0, q1⟩ := hc k d hd
        have q0 := (hbk.cell (p := ⟨_, _ + k * 2, none⟩) hbb).trans q0
        have q1 := (hbk.cell (p := ⟨_, _ + k * 2 + 1, none⟩) hbb).trans q1
        obtain ⟨d1, d2⟩ := d
        dsimp only at q0 q1 hds
        try simp only [Nat.zero_add] at q0 q1
        obtain ⟨D, hD⟩ : ∃ D : ByteArray, (⟨d2.toArray⟩ : ByteArray) = D := ⟨_, rfl⟩
        have hDz : D.size ≤ 100000000 := by rw [← hD]; simp [ByteArray.size]; omega
        have hDb : bytesOf D = d2 := by rw [← hD, bytes_mk]
        rw [hD] at q1
        obtain ⟨T, hT⟩ : ∃ T : ByteArray, (⟨(deedT d1 (bytesOf D)).toArray⟩ : ByteArray) = T := ⟨_, rfl⟩
        have hTb : bytesOf T = deedT d1 d2 := by rw [← hT, bytes_mk, hDb]
        have HT := Lib.hid hT
        have X := Lib.hid (And.intro hall (And.intro hbk (And.intro hBk (And.intro hd hD))))
        have hltI : (k : Int) < 3 := by omega
        clear hall hbk hBk hd hD hT hr hc hds
        by_cases heq : deedT d1 d2 = bytesOf S
        · have hTS : (T.toList == S.toList) = true := by rw [Go.ByteArray.toList_eq, Go.ByteArray.toList_eq, beq_iff_eq]; exact hTb.trans heq
          have HE := Lib.hid (deedR_hit X.out.2.2.2.1 hne heq)
          clear heq hDb hTb
          go_wp2_with fail
          refine (DeedText_S d1 D _ hDz).mono ?_
          rw [HT.out]
          rintro e w2 ⟨rfl, hb⟩
          have hB2 := X.out.2.2.1.below hb (by have := L.out.2.1; omega)
          obtain ⟨s0, s1, e0, e1⟩ := blk_pair hB2
          have p0 := (hb.cell (Nat.lt_of_lt_of_le hbb hzk)).trans q0
          have p1 := (hb.cell (Nat.lt_of_lt_of_le hbb hzk)).trans q1
          have K := Lib.hid (And.intro (L.out.1.trans ((X.out.2.1.trans (hb.mono hzk)).mono (by have := L.out.2.1; omega))) hB2); clear hb hB2 q0 q1 r0 r1 f0 f1
          go_wp2
          obtain ⟨c0, c1, _, _⟩ := blk_pair ((K.out.2.set 0 (.int .i64 d1)).set 1 (.string D))
          refine bodyPost_ret (v := .tuple #[.agg #[.int .i64 d1, .string D], .bool true]) (by simp [results, Tryd.results16, go_sem, c0, c1]) rfl ?_
          rw [HE.out, ← X.out.2.2.2.2]
          exact ⟨rfl, (K.out.1.setCell (Nat.le_refl _) _).setCell (Nat.le_refl _) _⟩
        · have hTS : (T.toList == S.toList) = false := by
            rw [Go.ByteArray.toList_eq, Go.ByteArray.toList_eq, beq_eq_false_iff_ne]
            intro e9; exact heq (hTb.symm.trans e9)
          have HE := Lib.hid heq
          clear heq hDb hTb
          go_wp2_with fail
          refine (DeedText_S d1 D _ hDz).mono ?_
          rw [HT.out]
          rintro e w2 ⟨rfl, hb⟩
          have K := Lib.hid (And.intro (show ∀ j < k + 1, ∀ d, (deedsOf (bytesOf S))[j]? = some d → deedT d.1 d.2 ≠ bytesOf S from fun j hj d hd => by
            by_cases hjk : j = k
            · subst hjk
              rw [X.out.2.2.2.1] at hd
              cases hd
              exact HE.out
            · exact X.out.1 j (by omega) d hd) (X.out.2.1.trans (hb.mono hzk))); clear hb
          go_wp2
          go_roundw
          case rel => exact ⟨k + 1, by omega, by go_num, K.out⟩
          case measure => simp [intOf]; omega
      · obtain rfl : k = 3 := by omega
        have HE := Lib.hid (deed_missed L.out.2.2.2.2 hall)
        have K := Lib.hid (And.intro (L.out.1.trans (hbk.mono (by have := L.out.2.1; omega))) hBk)
        clear hall hbk hBk
        go_wp2
        obtain ⟨c0, c1, _, _⟩ := blk_pair ((K.out.2.set 0 (.int .i64 0)).set 1 (.string ⟨#[]⟩))
        refine bodyPost_ret (v := .tuple #[.agg #[.int .i64 0, .string ⟨#[]⟩], .bool false]) (by simp [results, Tryd.results16, go_sem, c0, c1]) rfl ?_
        rw [HE.out]
        exact ⟨rfl, (K.out.1.setCell (Nat.le_refl _) _).setCell (Nat.le_refl _) _⟩
  · have hds : deedsOf (bytesOf S) = [(1, []), (2, [])] := by
      rw [deedsOf, if_neg (by omega)]; rfl
    have HDS := Lib.hid hds; clear hds
    go_enter Tryd.func16, Tryd.ntmps16
    go_wp2
    generalize hwz : ((w.alloc (.cells #[.int .i64 0, .string ⟨#[]⟩] 32)).alloc (.cells #[.int .i64 1, .string ⟨#[]⟩, .int .i64 2, .string ⟨#[]⟩] 32)) = wz at *
    have L : Hid (Below w.heap.size w wz ∧ w.heap.size < wz.heap.size ∧ Blk wz w.heap.size #[.int .i64 0, .string ⟨#[]⟩] 32 ∧ RdBD wz wz.heap.size (.slice (some ⟨w.heap.size + 1, 0, none⟩) 2 2) (deedsOf (bytesOf S)) ∧ (deedsOf (bytesOf S)).length = 2) := Lib.hid ⟨S0.out.1, by rw [← hwz]; simp; omega, S0.out.2.1, by rw [HDS.out]; exact OwnD.rd S0.out.2.2, by rw [HDS.out]; rfl⟩
    clear S0 hwz
    go_loopw [5] (fun i wr => ∃ k : Nat, k ≤ 2 ∧ i = .int .i64 k ∧ (∀ j < k, ∀ d, (deedsOf (bytesOf S))[j]? = some d → deedT d.1 d.2 ≠ bytesOf S) ∧ Below (wz).heap.size (wz) wr) (fun i _ => 2 - (intOf i).toNat)
    case atStart => exact ⟨0, by omega, rfl, fun j hj => absurd hj (by omega), Below.refl _ _⟩
    case round =>
      obtain ⟨k, hk, rfl, hall, hbk⟩ := hrel
      have hzk := hbk.size
      have hBk := L.out.2.2.1.below hbk L.out.2.1
      obtain ⟨r0, r1, f0, f1⟩ := blk_pair hBk
      by_cases hlt : k < 2
      · obtain ⟨d, hd⟩ : ∃ d, (deedsOf (bytesOf S))[k]? = some d := ⟨_, List.getElem?_eq_getElem (by rw [L.out.2.2.2.2]; exact hlt)⟩
        have hds := deedsOf_mem (List.mem_of_getElem? hd)
        obtain ⟨A, c, he, _, hr⟩ := L.out.2.2.2.1
        rw [L.out.2.2.2.2] at he hr
        cases he
        obtain ⟨b, off, he2, hbb, hc⟩ := hr (by omega)
        cases he2
        obtain ⟨q0, q1⟩ := hc k d hd
        have q0 := (hbk.cell (p := ⟨_, _ + k * 2, none⟩) hbb).trans q0
        have q1 := (hbk.cell (p := ⟨_, _ + k * 2 + 1, none⟩) hbb).trans q1
        obtain ⟨d1, d2⟩ := d
        dsimp only at q0 q1 hds
        try simp only [Nat.zero_add] at q0 q1
        obtain ⟨D, hD⟩ : ∃ D : ByteArray, (⟨d2.toArray⟩ : ByteArray) = D := ⟨_, rfl⟩
        have hDz : D.size ≤ 100000000 := by rw [← hD]; simp [ByteArray.size]; omega
        have hDb : bytesOf D = d2 := by rw [← hD, bytes_mk]
        rw [hD] at q1
        obtain ⟨T, hT⟩ : ∃ T : ByteArray, (⟨(deedT d1 (bytesOf D)).toArray⟩ : ByteArray) = T := ⟨_, rfl⟩
        have hTb : bytesOf T = deedT d1 d2 := by rw [← hT, bytes_mk, hDb]
        have HT := Lib.hid hT
        have X := Lib.hid (And.intro hall (And.intro hbk (And.intro hBk (And.intro hd hD))))
        have hltI : (k : Int) < 2 := by omega
        clear hall hbk hBk hd hD hT hr hc hds
        by_cases heq : deedT d1 d2 = bytesOf S
        · have hTS : (T.toList == S.toList) = true := by rw [Go.ByteArray.toList_eq, Go.ByteArray.toList_eq, beq_iff_eq]; exact hTb.trans heq
          have HE := Lib.hid (deedR_hit X.out.2.2.2.1 hne heq)
          clear heq hDb hTb
          go_wp2_with fail
          refine (DeedText_S d1 D _ hDz).mono ?_
          rw [HT.out]
          rintro e w2 ⟨rfl, hb⟩
          have hB2 := X.out.2.2.1.below hb (by have := L.out.2.1; omega)
          obtain ⟨s0, s1, e0, e1⟩ := blk_pair hB2
          have p0 := (hb.cell (Nat.lt_of_lt_of_le hbb hzk)).trans q0
          have p1 := (hb.cell (Nat.lt_of_lt_of_le hbb hzk)).trans q1
          have K := Lib.hid (And.intro (L.out.1.trans ((X.out.2.1.trans (hb.mono hzk)).mono (by have := L.out.2.1; omega))) hB2); clear hb hB2 q0 q1 r0 r1 f0 f1
          go_wp2
          obtain ⟨c0, c1, _, _⟩ := blk_pair ((K.out.2.set 0 (.int .i64 d1)).set 1 (.string D))
          refine bodyPost_ret (v := .tuple #[.agg #[.int .i64 d1, .string D], .bool true]) (by simp [results, Tryd.results16, go_sem, c0, c1]) rfl ?_
          rw [HE.out, ← X.out.2.2.2.2]
          exact ⟨rfl, (K.out.1.setCell (Nat.le_refl _) _).setCell (Nat.le_refl _) _⟩
        · have hTS : (T.toList == S.toList) = false := by
            rw [Go.ByteArray.toList_eq, Go.ByteArray.toList_eq, beq_eq_false_iff_ne]
            intro e9; exact heq (hTb.symm.trans e9)
          have HE := Lib.hid heq
          clear heq hDb hTb
          go_wp2_with fail
          refine (DeedText_S d1 D _ hDz).mono ?_
          rw [HT.out]
          rintro e w2 ⟨rfl, hb⟩
          have K := Lib.hid (And.intro (show ∀ j < k + 1, ∀ d, (deedsOf (bytesOf S))[j]? = some d → deedT d.1 d.2 ≠ bytesOf S from fun j hj d hd => by
            by_cases hjk : j = k
            · subst hjk
              rw [X.out.2.2.2.1] at hd
              cases hd
              exact HE.out
            · exact X.out.1 j (by omega) d hd) (X.out.2.1.trans (hb.mono hzk))); clear hb
          go_wp2
          go_roundw
          case rel => exact ⟨k + 1, by omega, by go_num, K.out⟩
          case measure => simp [intOf]; omega
      · obtain rfl : k = 2 := by omega
        have HE := Lib.hid (deed_missed L.out.2.2.2.2 hall)
        have K := Lib.hid (And.intro (L.out.1.trans (hbk.mono (by have := L.out.2.1; omega))) hBk)
        clear hall hbk hBk
        go_wp2
        obtain ⟨c0, c1, _, _⟩ := blk_pair ((K.out.2.set 0 (.int .i64 0)).set 1 (.string ⟨#[]⟩))
        refine bodyPost_ret (v := .tuple #[.agg #[.int .i64 0, .string ⟨#[]⟩], .bool false]) (by simp [results, Tryd.results16, go_sem, c0, c1]) rfl ?_
        rw [HE.out]
        exact ⟨rfl, (K.out.1.setCell (Nat.le_refl _) _).setCell (Nat.le_refl _) _⟩
end Go.Proofs.YtjblecinkedppaaDoor

/- Journals: their deeds, line by line; cutting at the first newline. -/
namespace Go.Proofs.YtjblecinkedppaaDoor
set_option maxRecDepth 100000
open Go.RowKit Go.WideShapes Go.Deep

/-- The line with which a text begins, and what is behind its newline. -/
def lineR : List UInt8 → Option (List UInt8 × List UInt8)
  | [] => none
  | c :: r => if c = 10 then some ([], r) else (lineR r).map fun x => (c :: x.1, x.2)
theorem lineR_split {t l r : List UInt8} (h : lineR t = some (l, r)) : t = l ++ 10 :: r := by
  induction t generalizing l with
  | nil => cases h
  | cons c t ih =>
    rw [lineR] at h
    split at h
    · rename_i e; cases h; subst e; rfl
    · rcases hl : lineR t with _ | ⟨a, b⟩
      · rw [hl] at h; cases h
      · rw [hl] at h; cases h
        rw [ih hl]; rfl
theorem lineR_len {t l r : List UInt8} (h : lineR t = some (l, r)) : t.length = l.length + 1 + r.length ∧ t.drop (l.length + 1) = r ∧ t.take l.length = l := by
  have e := lineR_split h
  subst e
  refine ⟨by simp; omega, ?_, by simp⟩
  rw [show l.length + 1 = (l ++ [10]).length by simp, show l ++ 10 :: r = (l ++ [10]) ++ r by simp, List.drop_left]
theorem idx_line (t : List UInt8) : Lib.index t [10] = match lineR t with | none => -1 | some x => (x.1.length : Int) := by
  induction t with
  | nil => rfl
  | cons c t ih =>
    rw [Lib.index, lineR]
    by_cases hc : c = 10
    · subst hc; rw [if_pos rfl, if_pos (by simp [List.isPrefixOf])]; rfl
    · rw [if_neg hc, if_neg (by simp [List.isPrefixOf]; exact fun e => hc e.symm), ih]
      rcases hl : lineR t with _ | ⟨a, b⟩
      · rfl
      · simp only [Option.map_some]
        rw [if_neg (by simp)]
        simp
theorem cut_line (t : List UInt8) : Lib.cut t [10] = match lineR t with | none => (t, [], false) | some x => (x.1, x.2, true) := by
  unfold Lib.cut
  rw [idx_line]
  rcases hl : lineR t with _ | ⟨a, b⟩
  · rfl
  · simp only
    rw [if_pos (by omega)]
    obtain ⟨_, h2, h3⟩ := lineR_len hl
    simp only [Int.toNat_natCast, List.length_singleton]
    rw [h3, h2]
/-- The deeds of a journal, and how many bytes their lines have. -/
def jrnF : Nat → List UInt8 → Deeds × Nat
  | 0, _ => ([], 0)
  | n + 1, t => match lineR t with
    | none => ([], 0)
    | some x => if (deedR x.1).2 = true then ((deedR x.1).1 :: (jrnF n x.2).1, x.1.length + 1 + (jrnF n x.2).2) else ([], 0)
theorem jrnF_more (n m : Nat) (t : List UInt8) (hn : t.length ≤ n) (hm : t.length ≤ m) : jrnF n t = jrnF m t := by
  induction n generalizing m t with
  | zero =>
    have : t = [] := List.eq_nil_of_length_eq_zero (by omega)
    subst this
    rcases m with _ | m <;> rfl
  | succ n ih =>
    rcases m with _ | m
    · have : t = [] := List.eq_nil_of_length_eq_zero (by omega)
      subst this; rfl
    · rw [jrnF, jrnF]
      rcases hl : lineR t with _ | ⟨a, b⟩
      · rfl
      · have := (lineR_len hl).1
        simp only
        rw [ih m b (by omega) (by omega)]
def jrn (t : List UInt8) : Deeds × Nat := jrnF t.length t
theorem jrn_none {t : List UInt8} (h : lineR t = none) : jrn t = ([], 0) := by
  unfold jrn
  rcases hn : t.length with _ | n
  · rfl
  · rw [jrnF, h]
theorem jrn_bad {t l r : List UInt8} (h : lineR t = some (l, r)) (hd : (deedR l).2 = false) : jrn t = ([], 0) := by
  unfold jrn
  rcases hn : t.length with _ | n
  · rfl
  · rw [jrnF, h]; simp [hd]
theorem jrn_some {t l r : List UInt8} (h : lineR t = some (l, r)) (hd : (deedR l).2 = true) : jrn t = ((deedR l).1 :: (jrn r).1, l.length + 1 + (jrn r).2) := by
  have hlen := (lineR_len h).1
  unfold jrn
  rcases hn : t.length with _ | n
  · omega
  · rw [jrnF, h]
    simp only [hd, if_true]
    rw [jrnF_more n r.length r (by omega) (Nat.le_refl _)]
theorem jrnF_le (n : Nat) (t : List UInt8) : (jrnF n t).1.length ≤ t.length ∧ (jrnF n t).2 ≤ t.length := by
  induction n generalizing t with
  | zero => simp [jrnF]
  | succ n ih =>
    rw [jrnF]
    rcases hl : lineR t with _ | ⟨a, b⟩
    · simp
    · have := (lineR_len hl).1
      have h2 := ih b
      simp only
      split
      · simp; omega
      · simp
theorem jrn_le (t : List UInt8) : (jrn t).1.length ≤ t.length ∧ (jrn t).2 ≤ t.length := jrnF_le _ t
/-- So far, so many deeds in so many bytes. -/
def JrnAt (t : List UInt8) (from_ : Nat) (ds : Deeds) : Prop := from_ ≤ t.length ∧ ds.length ≤ from_ ∧ jrn t = (ds ++ (jrn (t.drop from_)).1, from_ + (jrn (t.drop from_)).2)
theorem JrnAt.start (t : List UInt8) : JrnAt t 0 [] := ⟨by omega, by simp, by simp⟩
theorem JrnAt.stop {t : List UInt8} {f : Nat} {ds : Deeds} (h : JrnAt t f ds) (hs : jrn (t.drop f) = ([], 0)) : jrn t = (ds, f) := by
  rw [h.2.2, hs]; simp
theorem JrnAt.more {t l r : List UInt8} {f : Nat} {ds : Deeds} (h : JrnAt t f ds) (hl : lineR (t.drop f) = some (l, r)) (hd : (deedR l).2 = true) : JrnAt t (f + (l.length + 1)) (ds ++ [(deedR l).1]) := by
  obtain ⟨h1, h2, h3⟩ := h
  obtain ⟨e1, e2, _⟩ := lineR_len hl
  rw [List.length_drop] at e1
  refine ⟨by omega, by simp; omega, ?_⟩
  rw [h3, jrn_some hl hd, ← e2, List.drop_drop]
  simp; omega

/-- The library's variable of the longest text that is looked for at once. -/
def MLen (w : World) : Prop := 1 < w.heap.size ∧ ∃ m, w.cell? ⟨1, 0, none⟩ = some (.int .i64 m)
theorem MLen.below {w w' : World} {B : Nat} (h : MLen w) (hb : Below B w w') (hg : 1 < B) : MLen w' := by
  obtain ⟨h1, m, hm⟩ := h
  refine ⟨?_, m, (hb.cell (p := ⟨1, 0, none⟩) hg).trans hm⟩
  exact Nat.lt_of_lt_of_le h1 hb.size
theorem MLen.of_shaped {w : World} (h : w.ShapedOpen Tryd.prog) : MLen w := by
  obtain ⟨m, hm⟩ := Tryd.laysM145.s1_3 w h
  exact ⟨lt_of_cell hm, m, hm⟩
theorem cutNl (S L : ByteArray) (R : ByteArray) (b : Bool) (w : World) (h : MLen w) (hs : S.size < 4294967281) (h1 : (⟨(Lib.cut (bytesOf S) [10]).1.toArray⟩ : ByteArray) = L) (h2 : (⟨(Lib.cut (bytesOf S) [10]).2.1.toArray⟩ : ByteArray) = R) (h3 : (Lib.cut (bytesOf S) [10]).2.2 = b) :
    Calls Tryd.prog 40 #[.string S, .string ⟨#[10]⟩] w fun e w' => e = .returned (.tuple #[.string L, .string R, .bool b]) ∧ Below w.heap.size w w' := by
  subst h1 h2 h3
  obtain ⟨_, m, hm⟩ := h
  refine (Any.strings_Cut { Tryd.laysM145 with } S ⟨#[10]⟩ m w hs hm).mono ?_
  rintro e w' ⟨rfl, n, rfl⟩
  exact ⟨rfl, by
    induction n with
    | zero => exact Below.refl _ _
    | succ n ih => exact ih.trans (by first | exact (Below.refl _ _).drew | (show Below _ _ _; exact (Below.refl _ _).drew))⟩
end Go.Proofs.YtjblecinkedppaaDoor

/- The deeds of a journal, by the program. -/
namespace Go.Proofs.YtjblecinkedppaaDoor
set_option maxRecDepth 100000
open Go.RowKit Go.WideShapes Go.Deep

def RjPost (w : World) (t : List UInt8) (e : Ending) (w' : World) : Prop := ∃ v, e = .returned (.tuple #[v, .int .i64 ((jrn t).2 : Nat)]) ∧ OwnD w' w.heap.size w'.heap.size v (jrn t).1 ∧ Below w.heap.size w w'
set_option maxHeartbeats 2000000 in
theorem ReadJournal_I (S : ByteArray) (w : World) (h0 : S.size ≤ 100000000) (ht : StrTab w 0 opNames) (hm : MLen w) :
    Calls Tryd.prog 20 #[.string S] w (RjPost w (bytesOf S)) := by
  have hgl := ht.lt
  have hgm := hm.1
  have S0 := Lib.hid (And.intro ht hm); clear ht hm
  have hsl : (bytesOf S).length = S.size := bytes_len S
  go_enter Tryd.func20, Tryd.ntmps20
  go_wp2
  go_loopw [4, 5] (fun v i wr => ∃ (f : Nat) (ds : Deeds), i = .int .i64 f ∧ JrnAt (bytesOf S) f ds ∧ OwnD wr w.heap.size wr.heap.size v ds ∧ Below w.heap.size w wr) (fun _ i _ => S.size - (intOf i).toNat)
  case atStart => exact ⟨0, [], rfl, JrnAt.start _, OwnD.nil _ _ _, Below.refl _ _⟩
  case round =>
    obtain ⟨f, ds, rfl, hj, ho, hb⟩ := hrel
    have hf : f ≤ S.size := by have := hj.1; omega
    have hdl : ds.length ≤ 1000000000 := by have := hj.2.1; omega
    obtain ⟨T, hTx⟩ : ∃ T : ByteArray, S.extract f S.size = T := ⟨_, rfl⟩
    have hTb : bytesOf T = (bytesOf S).drop f := by
      rw [← hTx, bytes_extract, List.take_of_length_le]
      rw [List.length_drop]; omega
    have hTz : T.size ≤ 100000000 := by rw [← bytes_len T, hTb, List.length_drop]; omega
    have hz := hb.size
    obtain ⟨Av, cv, rfl, _⟩ := ho.rd
    rcases hl : lineR ((bytesOf S).drop f) with _ | ⟨l, r⟩
    · have hcut := cut_line (bytesOf T)
      rw [hTb, hl] at hcut
      simp only at hcut
      have C := Lib.hid (show (⟨(Lib.cut (bytesOf T) [10]).1.toArray⟩ : ByteArray) = T ∧ (⟨(Lib.cut (bytesOf T) [10]).2.1.toArray⟩ : ByteArray) = ⟨#[]⟩ ∧ (Lib.cut (bytesOf T) [10]).2.2 = false from by
        rw [hTb, hcut]; exact ⟨by rw [← hTb, ba_eta], rfl, rfl⟩)
      have HE := Lib.hid (hj.stop (jrn_none hl))
      rcases hR : deedR (bytesOf T) with ⟨⟨d1, d2⟩, b⟩
      obtain ⟨D, hD⟩ : ∃ D : ByteArray, (⟨d2.toArray⟩ : ByteArray) = D := ⟨_, rfl⟩
      have HS : Hid (deedV (deedR (bytesOf T)).1 = .agg #[.int .i64 d1, .string D] ∧ (deedR (bytesOf T)).2 = b) := Lib.hid (by rw [hR]; exact ⟨by rw [← hD]; rfl, rfl⟩)
      have X := Lib.hid (And.intro ho hb); clear ho hb hj hl hcut hR hD hTb
      go_wp2_with fail
      refine (cutNl T T ⟨#[]⟩ false _ (S0.out.2.below X.out.2 hgm) (by omega) C.out.1 C.out.2.1 C.out.2.2).mono ?_
      rintro e w1 ⟨rfl, hb⟩
      have hz1 := hb.size
      have X1 := Lib.hid (And.intro (X.out.1.below hb) (X.out.2.trans (hb.mono hz))); clear hb X
      go_wp2_with fail
      refine (ReadDeed_I T _ hTz (S0.out.1.below X1.out.2 hgl)).mono ?_
      rw [HS.out.1, HS.out.2]
      rintro e w2 ⟨rfl, hb⟩
      have hz2 := hb.size
      have hba : Below w2.heap.size w2 (w2.alloc (.cells #[.int .i64 d1, .string D] 32)) := (Below.refl _ _).alloc (Nat.le_refl _) _
      have X2 := Lib.hid (And.intro (show OwnD (w2.alloc (.cells #[.int .i64 d1, .string D] 32)) w.heap.size (w2.alloc (.cells #[.int .i64 d1, .string D] 32)).heap.size _ ds from OwnD.mono (OwnD.below (OwnD.below X1.out.1 hb) hba) (Nat.le_refl _) (by rw [World.size_alloc]; omega)) ((X1.out.2.trans (hb.mono (by omega))).trans (hba.mono (by omega)))); clear hb hba X1
      go_wp2
      go_ret2
      exact ⟨_, by rw [HE.out]; rfl, by rw [HE.out]; exact X2.out.1, X2.out.2⟩
    · have hcut := cut_line (bytesOf T)
      rw [hTb, hl] at hcut
      simp only at hcut
      obtain ⟨L, hL⟩ : ∃ L : ByteArray, (⟨l.toArray⟩ : ByteArray) = L := ⟨_, rfl⟩
      obtain ⟨R, hRr⟩ : ∃ R : ByteArray, (⟨r.toArray⟩ : ByteArray) = R := ⟨_, rfl⟩
      have C := Lib.hid (show (⟨(Lib.cut (bytesOf T) [10]).1.toArray⟩ : ByteArray) = L ∧ (⟨(Lib.cut (bytesOf T) [10]).2.1.toArray⟩ : ByteArray) = R ∧ (Lib.cut (bytesOf T) [10]).2.2 = true from by
        rw [hTb, hcut]; exact ⟨hL, hRr, rfl⟩)
      have hll := (lineR_len hl).1
      rw [List.length_drop] at hll
      have hLb : bytesOf L = l := by rw [← hL, bytes_mk]
      have hLz : L.size = l.length := by rw [← bytes_len L, hLb]
      rcases hR : deedR (bytesOf L) with ⟨⟨d1, d2⟩, b⟩
      obtain ⟨D, hD⟩ : ∃ D : ByteArray, (⟨d2.toArray⟩ : ByteArray) = D := ⟨_, rfl⟩
      have HS : Hid (deedV (deedR (bytesOf L)).1 = .agg #[.int .i64 d1, .string D] ∧ (deedR (bytesOf L)).2 = b) := Lib.hid (by rw [hR]; exact ⟨by rw [← hD]; rfl, rfl⟩)
      rw [hLb] at hR
      have hD' := Lib.hid hD
      rcases b with _ | _
      · have HE := Lib.hid (hj.stop (jrn_bad hl (by rw [hR])))
        have hLz2 : L.size ≤ 100000000 := by omega
        have X := Lib.hid (And.intro ho hb); clear ho hb hj hl hcut hR hD hTb hLb hL hRr
        go_wp2_with fail
        refine (cutNl T L R true _ (S0.out.2.below X.out.2 hgm) (by omega) C.out.1 C.out.2.1 C.out.2.2).mono ?_
        rintro e w1 ⟨rfl, hb⟩
        have hz1 := hb.size
        have X1 := Lib.hid (And.intro (X.out.1.below hb) (X.out.2.trans (hb.mono hz))); clear hb X
        go_wp2_with fail
        refine (ReadDeed_I L _ hLz2 (S0.out.1.below X1.out.2 hgl)).mono ?_
        rw [HS.out.1, HS.out.2]
        rintro e w2 ⟨rfl, hb⟩
        have hz2 := hb.size
        have hba : Below w2.heap.size w2 (w2.alloc (.cells #[.int .i64 d1, .string D] 32)) := (Below.refl _ _).alloc (Nat.le_refl _) _
        have X2 := Lib.hid (And.intro (show OwnD (w2.alloc (.cells #[.int .i64 d1, .string D] 32)) w.heap.size (w2.alloc (.cells #[.int .i64 d1, .string D] 32)).heap.size _ ds from OwnD.mono (OwnD.below (OwnD.below X1.out.1 hb) hba) (Nat.le_refl _) (by rw [World.size_alloc]; omega)) ((X1.out.2.trans (hb.mono (by omega))).trans (hba.mono (by omega)))); clear hb hba X1
        go_wp2
        go_ret2
        exact ⟨_, by rw [HE.out]; rfl, by rw [HE.out]; exact X2.out.1, X2.out.2⟩
      · have HE : Hid (JrnAt (bytesOf S) (f + (L.size + 1)) (ds ++ [(d1, d2)])) := Lib.hid (by
          have := hj.more hl (by rw [hR])
          rw [hR] at this
          rw [hLz]; exact this)
        have hLz2 : f + L.size + 1 ≤ S.size := by omega
        have X := Lib.hid (And.intro ho hb); clear ho hb hj hl hcut hR hD hTb hLb hL hRr
        go_wp2_with fail
        refine (cutNl T L R true _ (S0.out.2.below X.out.2 hgm) (by omega) C.out.1 C.out.2.1 C.out.2.2).mono ?_
        rintro e w1 ⟨rfl, hb⟩
        have hz1 := hb.size
        have X1 := Lib.hid (And.intro (X.out.1.below hb) (X.out.2.trans (hb.mono hz))); clear hb X
        go_wp2_with fail
        refine (ReadDeed_I L _ (by omega) (S0.out.1.below X1.out.2 hgl)).mono ?_
        rw [HS.out.1, HS.out.2]
        rintro e w2 ⟨rfl, hb⟩
        have hz2 := hb.size
        have hba : Below w2.heap.size w2 ((w2.alloc (.cells #[.int .i64 d1, .string D] 32)).alloc (.cells #[.int .i64 d1, .string D] 32)) := ((Below.refl _ _).alloc (Nat.le_refl _) _).alloc (by simp) _
        have hnb := Blk.new (w2.alloc (.cells #[.int .i64 d1, .string D] 32)) #[.int .i64 d1, .string D] 32
        rw [World.size_alloc] at hnb
        have X2 := Lib.hid (And.intro (OwnD.below (OwnD.below X1.out.1 hb) hba) (And.intro (blk_pair hnb).1 (And.intro (blk_pair hnb).2.1 ((X1.out.2.trans (hb.mono (by omega))).trans (hba.mono (by omega)))))); clear hb hba X1 hnb
        go_wp2_with (at_builtin; go_loud (refine wpList_append_D rfl _ _ _ rfl Tryd.underlying38 deedInfo w.heap.size _ _ ds rfl X2.out.1 (by simp; omega) (w2.heap.size + 1) d1 (.string D) d2 rfl X2.out.2.1 X2.out.2.2.1 (by rw [hD'.out]) hdl ?_))
        intro v' w5 hom hb5 hg5 _
        obtain ⟨A5, c5, rfl, _⟩ := hom.rd
        have X5 := Lib.hid (And.intro hom (X2.out.2.2.2.trans hb5)); clear hom hb5 hg5 X2
        go_wp2
        go_roundw
        case rel => exact ⟨f + (L.size + 1), ds ++ [(d1, d2)], by go_num, HE.out, X5.out.1, X5.out.2⟩
        case measure => simp [intOf]; omega
end Go.Proofs.YtjblecinkedppaaDoor

/- The deeds of a journal, by the model. -/
namespace Go.Proofs.YtjblecinkedppaaDoor
set_option maxRecDepth 100000
open Go.RowKit Go.WideShapes Go.Deep

theorem line_step {t : List UInt8} {k : Nat} {c : UInt8} (h : t[k]? = some c) : lineR (t.drop k) = if c = 10 then some ([], t.drop (k + 1)) else (lineR (t.drop (k + 1))).map fun x => (c :: x.1, x.2) := by
  obtain ⟨hk, e⟩ := List.getElem?_eq_some_iff.1 h
  rw [List.drop_eq_getElem_cons hk, e, lineR]
/-- No newline from f on up to k. -/
def NoNl (t : List UInt8) (f k : Nat) : Prop := lineR (t.drop f) = (lineR (t.drop k)).map fun x => ((t.drop f).take (k - f) ++ x.1, x.2)
theorem NoNl.start (t : List UInt8) (f : Nat) : NoNl t f f := by
  unfold NoNl
  rcases lineR (t.drop f) with _ | ⟨a, b⟩ <;> simp
theorem NoNl.next {t : List UInt8} {f k : Nat} {c : UInt8} (h : NoNl t f k) (hf : f ≤ k) (hc : t[k]? = some c) (hn : c ≠ 10) : NoNl t f (k + 1) := by
  unfold NoNl at *
  rw [h, line_step hc, if_neg hn, take_drop_snoc hf hc]
  rcases lineR (t.drop (k + 1)) with _ | ⟨a, b⟩ <;> simp
theorem NoNl.hit {t : List UInt8} {f k : Nat} (h : NoNl t f k) (hc : t[k]? = some 10) : lineR (t.drop f) = some ((t.drop f).take (k - f), t.drop (k + 1)) := by
  unfold NoNl at h
  rw [h, line_step hc, if_pos rfl]; simp
theorem NoNl.end_ {t : List UInt8} {f : Nat} (h : NoNl t f t.length) : lineR (t.drop f) = none := by
  unfold NoNl at h
  rw [h, List.drop_length]; rfl

end Go.Proofs.YtjblecinkedppaaDoor
