/- Deeds: their texts, by the program and by the model; laws' copies. -/
import Derived.Test.YtdabbjlefpgkmaaDoorAd
namespace Go.Proofs.YtdabbjlefpgkmaaDoor
set_option maxRecDepth 100000
open Go.RowKit Go.WideShapes Go.Joins

def doL : List UInt8 := [100, 111, 32]
def clearL : List UInt8 := [99, 108, 101, 97, 114]
def backL : List UInt8 := [98, 97, 99, 107]
/-- The text of a deed. -/
def deedT (k : Int) (t : List UInt8) : List UInt8 := if k = 0 then (if (readProgP t).2 = true then doL ++ t else []) else if t ≠ [] then [] else if k = 1 then clearL else if k = 2 then backL else []
theorem readP_len {t : List UInt8} (h : (readProgP t).2 = true) : t.length ≤ 400 := by
  unfold readProgP at h
  rcases hr : readProgR t with _ | p
  · rw [hr] at h; cases h
  · rw [← (prog_read hr).2]; exact progT_len p
theorem deedT_len (k : Int) (t : List UInt8) : (deedT k t).length ≤ 403 := by
  unfold deedT
  split
  · split
    · rename_i h; have := readP_len h; simp [doL]; omega
    · simp
  · split
    · simp
    · split
      · simp [clearL]
      · split <;> simp [backL]
theorem add_do (S : ByteArray) (h : S.size ≤ 1000) (W : World) : (Op.stringOp .add ⟨#[100, 111, 32]⟩ S).run Tryd.prog W = .ok (.string ⟨(doL ++ bytesOf S).toArray⟩) W := by
  have e : (⟨(doL ++ bytesOf S).toArray⟩ : ByteArray) = ⟨#[100, 111, 32]⟩ ++ S := by
    rw [← ba_eta (⟨#[100, 111, 32]⟩ ++ S)]
    congr 2
  have hz : (⟨#[100, 111, 32]⟩ : ByteArray).size = 3 := rfl
  rw [run_string_add_sum W _ _ (by omega), e]
theorem ba_ne {S : ByteArray} (h : bytesOf S ≠ []) : (S.toList == []) = false := by
  rw [str_eq]; simpa using h
theorem ba_nil {S : ByteArray} (h : bytesOf S = []) : S = ⟨#[]⟩ := by
  rw [← ba_eta S, h]

theorem szD_any (k : Int) (S : ByteArray) (w : World) (h : S.size ≤ 9223372036854775807) :
    Calls Tryd.prog 16 #[.agg #[.int .i64 k, .string S], .int .i64 1048576] w fun e w' => e = .returned (.int .i64 (if (1048576 : Int) - S.size < 0 then -1 else 1048576 - S.size)) ∧ Below w.heap.size w w' := by
  have hb : Below w.heap.size w (w.alloc (.cells #[.int .i64 k, .string S] 33)) := (Below.refl _ _).alloc (Nat.le_refl _) _
  have HB := Lib.hid hb; clear hb
  by_cases hq : (1048576 : Int) - S.size < 0
  · rw [if_pos hq]
    go_enter Tryd.func16, Tryd.ntmps16
    go_wp2
    go_ret
    exact ⟨rfl, HB.out⟩
  · rw [if_neg hq]
    go_enter Tryd.func16, Tryd.ntmps16
    go_wp2
    go_ret
    exact ⟨rfl, HB.out⟩

theorem toD_any (k : Int) (S : ByteArray) (w : World) :
    Calls Tryd.prog 18 #[.agg #[.int .i64 k, .string S]] w fun e w' => e = .returned (.agg #[.int .i64 k, .string S]) ∧ Below w.heap.size w w' := by
  have hb : Below w.heap.size w (((w.alloc (.cells #[.int .i64 k, .string S] 33)).alloc (.cells #[.int .i64 k, .string S] 36)).alloc (.cells #[.int .i64 k, .string S] 36)) := (((Below.refl _ _).alloc (Nat.le_refl _) _).alloc (by simp) _).alloc (by simp; omega) _
  have hk := (Blk.new (w.alloc (.cells #[.int .i64 k, .string S] 33)) #[.int .i64 k, .string S] 36).below ((Below.refl _ _).alloc (Nat.le_refl _) (.cells #[.int .i64 k, .string S] 36)) (by simp)
  rw [World.size_alloc] at hk
  obtain ⟨c0, c1, _, _⟩ := blk_pair (show Blk _ (w.heap.size + 1) #[.int .i64 k, .string S] 36 from hk)
  have H := Lib.hid (And.intro hb (And.intro c0 c1)); clear hb hk c0 c1
  go_enter Tryd.func18, Tryd.ntmps18
  go_wp2
  obtain ⟨hb, c0, c1⟩ := H.out
  refine bodyPost_ret (v := .agg #[.int .i64 k, .string S]) (by simp [results, Tryd.results18, go_sem, c0, c1]) rfl ?_
  exact ⟨rfl, hb⟩

def dealt (k : Int) (S : ByteArray) (w : World) : World := w.alloc (.cells #[.int .i64 k, .string S] 36)
theorem dealt_below (k : Int) (S : ByteArray) (w : World) : Below w.heap.size w (w.alloc (.cells #[.int .i64 k, .string S] 36)) := (Below.refl _ _).alloc (Nat.le_refl _) _

theorem DeedText_I (k : Int) (S : ByteArray) (w : World) (h0 : S.size ≤ 100000000) (ht : StrTab w 0 opNames) :
    Calls Tryd.prog 19 #[.agg #[.int .i64 k, .string S]] w fun e w' => e = .returned (.string ⟨(deedT k (bytesOf S)).toArray⟩) ∧ Below w.heap.size w w' := by
  have hal := dealt_below k S w
  have hbk := Blk.new w #[.int .i64 k, .string S] 36
  have S0 := Lib.hid (And.intro hal (And.intro hbk (ht.below hal ht.lt))); clear hal ht
  obtain ⟨b00, b01, _, _⟩ := blk_pair hbk
  clear hbk
  by_cases hk0 : k = 0
  · subst hk0
    rcases hr : readProgP (bytesOf S) with ⟨p, b⟩
    have HR := Lib.hid hr
    rcases b with _ | _
    · have HT := Lib.hid (show deedT 0 (bytesOf S) = [] by rw [deedT, if_pos rfl, hr, if_neg (by simp)]); clear hr
      go_enter Tryd.func19, Tryd.ntmps19
      go_wp2_with fail
      refine (ReadProg_I S _ h0 _ _ HR.out S0.out.2.2).mono ?_
      rintro e w1 ⟨u, rfl, ho, hb⟩
      have B := Lib.hid (S0.out.1.trans (hb.mono (by simp))); clear hb ho
      go_wp2
      go_ret
      rw [HT.out]
      exact ⟨rfl, B.out⟩
    · have HT := Lib.hid (show deedT 0 (bytesOf S) = doL ++ bytesOf S by rw [deedT, if_pos rfl, hr, if_pos rfl])
      have hl := readP_len (show (readProgP (bytesOf S)).2 = true by rw [hr])
      rw [bytes_len] at hl
      have hadd := add_do S (by omega)
      clear hr
      go_enter Tryd.func19, Tryd.ntmps19
      go_wp2_with fail
      refine (ReadProg_I S _ h0 _ _ HR.out S0.out.2.2).mono ?_
      rintro e w1 ⟨u, rfl, ho, hb⟩
      have hB := S0.out.2.1.below hb (by simp)
      obtain ⟨b10, b11, _, _⟩ := blk_pair hB
      have B := Lib.hid (S0.out.1.trans (hb.mono (by simp))); clear hb ho hB
      go_wp2
      go_ret
      rw [HT.out]
      exact ⟨rfl, B.out⟩
  · by_cases hs : bytesOf S = []
    · have HT := Lib.hid (show deedT k (bytesOf S) = if k = 1 then clearL else if k = 2 then backL else [] by rw [deedT, if_neg hk0, if_neg (by simp [hs])])
      obtain rfl := ba_nil hs
      clear hs
      by_cases hk1 : k = 1
      · subst hk1
        go_enter Tryd.func19, Tryd.ntmps19
        go_wp2
        go_ret
        rw [HT.out]
        exact ⟨rfl, S0.out.1⟩
      · by_cases hk2 : k = 2
        · subst hk2
          go_enter Tryd.func19, Tryd.ntmps19
          go_wp2
          go_ret
          rw [HT.out]
          exact ⟨rfl, S0.out.1⟩
        · go_enter Tryd.func19, Tryd.ntmps19
          go_wp2
          go_ret
          rw [HT.out, if_neg hk1, if_neg hk2]
          exact ⟨rfl, S0.out.1⟩
    · have HT := Lib.hid (show deedT k (bytesOf S) = [] by rw [deedT, if_neg hk0, if_pos hs])
      have hse := ba_ne hs
      clear hs
      go_enter Tryd.func19, Tryd.ntmps19
      go_wp2
      go_ret
      rw [HT.out]
      exact ⟨rfl, S0.out.1⟩

theorem DeedText_S (k : Int) (S : ByteArray) (w : World) (h0 : S.size ≤ 100000000) :
    Calls Tryd.prog 17 #[.agg #[.int .i64 k, .string S]] w fun e w' => e = .returned (.string ⟨(deedT k (bytesOf S)).toArray⟩) ∧ Below w.heap.size w w' := by
  have hal := dealt_below k S w
  have hbk := Blk.new w #[.int .i64 k, .string S] 36
  have S0 := Lib.hid (And.intro hal hbk); clear hal
  obtain ⟨b00, b01, _, _⟩ := blk_pair hbk
  clear hbk
  rcases hr : readProgP (bytesOf S) with ⟨p, b⟩
  have HR := Lib.hid hr
  have hl : b = true → S.size ≤ 400 := by
    intro hb; subst hb
    have := readP_len (show (readProgP (bytesOf S)).2 = true by rw [hr])
    rwa [bytes_len] at this
  by_cases hk0 : k = 0
  · subst hk0
    rcases b with _ | _
    · have HT := Lib.hid (show deedT 0 (bytesOf S) = [] by rw [deedT, if_pos rfl, hr, if_neg (by simp)]); clear hr
      go_enter Tryd.func17, Tryd.ntmps17
      go_wp2_with fail
      refine (ReadProg_S S _ h0 _ _ HR.out).mono ?_
      rintro e w1 ⟨u, rfl, ho, hb⟩
      have hB := S0.out.2.below hb (by simp)
      obtain ⟨b10, b11, _, _⟩ := blk_pair hB
      have B := Lib.hid (S0.out.1.trans (hb.mono (by simp))); clear hb ho hB
      go_wp2
      go_ret
      rw [HT.out]
      exact ⟨rfl, B.out⟩
    · have HT := Lib.hid (show deedT 0 (bytesOf S) = doL ++ bytesOf S by rw [deedT, if_pos rfl, hr, if_pos rfl])
      have hadd := add_do S (by have := hl rfl; omega)
      clear hr
      go_enter Tryd.func17, Tryd.ntmps17
      go_wp2_with fail
      refine (ReadProg_S S _ h0 _ _ HR.out).mono ?_
      rintro e w1 ⟨u, rfl, ho, hb⟩
      have hB := S0.out.2.below hb (by simp)
      obtain ⟨b10, b11, _, _⟩ := blk_pair hB
      have B := Lib.hid (S0.out.1.trans (hb.mono (by simp))); clear hb ho hB
      go_wp2
      go_ret
      rw [HT.out]
      exact ⟨rfl, B.out⟩
  · by_cases hs : bytesOf S = []
    · have HT := Lib.hid (show deedT k (bytesOf S) = if k = 1 then clearL else if k = 2 then backL else [] by rw [deedT, if_neg hk0, if_neg (by simp [hs])])
      obtain rfl := ba_nil hs
      clear hs hr
      by_cases hk1 : k = 1
      · subst hk1
        go_enter Tryd.func17, Tryd.ntmps17
        go_wp2_with fail
        refine (ReadProg_S _ _ h0 _ _ HR.out).mono ?_
        rintro e w1 ⟨u, rfl, ho, hb⟩
        have hB := S0.out.2.below hb (by simp)
        obtain ⟨b10, b11, _, _⟩ := blk_pair hB
        have B := Lib.hid (S0.out.1.trans (hb.mono (by simp))); clear hb ho hB
        go_wp2
        go_ret
        rw [HT.out]
        exact ⟨rfl, B.out⟩
      · by_cases hk2 : k = 2
        · subst hk2
          go_enter Tryd.func17, Tryd.ntmps17
          go_wp2_with fail
          refine (ReadProg_S _ _ h0 _ _ HR.out).mono ?_
          rintro e w1 ⟨u, rfl, ho, hb⟩
          have hB := S0.out.2.below hb (by simp)
          obtain ⟨b10, b11, _, _⟩ := blk_pair hB
          have B := Lib.hid (S0.out.1.trans (hb.mono (by simp))); clear hb ho hB
          go_wp2
          go_ret
          rw [HT.out]
          exact ⟨rfl, B.out⟩
        · go_enter Tryd.func17, Tryd.ntmps17
          go_wp2_with fail
          refine (ReadProg_S _ _ h0 _ _ HR.out).mono ?_
          rintro e w1 ⟨u, rfl, ho, hb⟩
          have hB := S0.out.2.below hb (by simp)
          obtain ⟨b10, b11, _, _⟩ := blk_pair hB
          have B := Lib.hid (S0.out.1.trans (hb.mono (by simp))); clear hb ho hB
          go_wp2
          go_ret
          rw [HT.out, if_neg hk1, if_neg hk2]
          exact ⟨rfl, B.out⟩
    · have HT := Lib.hid (show deedT k (bytesOf S) = [] by rw [deedT, if_neg hk0, if_pos hs])
      have hse := ba_ne hs
      clear hs hr
      have hk12 : k = 1 ∨ k = 2 ∨ (k ≠ 1 ∧ k ≠ 2) := by omega
      go_enter Tryd.func17, Tryd.ntmps17
      go_wp2_with fail
      refine (ReadProg_S _ _ h0 _ _ HR.out).mono ?_
      rintro e w1 ⟨u, rfl, ho, hb⟩
      have hB := S0.out.2.below hb (by simp)
      obtain ⟨b10, b11, _, _⟩ := blk_pair hB
      have B := Lib.hid (S0.out.1.trans (hb.mono (by simp))); clear hb ho hB
      rcases hk12 with rfl | rfl | ⟨hk1, hk2⟩ <;>
      · go_wp2
        go_ret
        rw [HT.out]
        exact ⟨rfl, B.out⟩

theorem deed_of_trod {H : Type} {enc : TypeId × Value → H} {W : World} {v : Value} {d : DataW H} {ps : List MemPlace} {base : Nat}
    (hval : Value.okWide Tryd.prog W .any base 33 v) (h : DataW.Trod enc Tryd.prog W 0 (fun _ => true) true 33 v d ps) : ∃ a S, v = .agg #[.int .i64 a, .string S] ∧ S.size ≤ maxLen := by
  obtain ⟨v0, v1, y0, y1, n, rfl, _, _, h0, h1⟩ := Go.Joins.open_agg2 Tryd.underlying33 (by kernel_rfl) (by kernel_rfl) hval h
  obtain ⟨a, ha, _, _⟩ := DataW.trod_int Tryd.underlying3 h0
  obtain ⟨S, hb, _, hz⟩ := DataW.trod_string Tryd.underlying9 h1
  obtain rfl : v0 = .int .i64 a := by simpa using ha
  obtain rfl : v1 = .string S := by simpa using hb
  exact ⟨a, S, rfl, hz⟩
end Go.Proofs.YtdabbjlefpgkmaaDoor
