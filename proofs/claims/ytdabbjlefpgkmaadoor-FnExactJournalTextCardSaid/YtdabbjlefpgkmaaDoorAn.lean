/- The text of a journal, by the program and by the model. -/
import Derived.Test.YtdabbjlefpgkmaaDoorAm
import Derived.Test.YtdabbjlefpgkmaaDoorSb
namespace Go.Proofs.YtdabbjlefpgkmaaDoor
set_option maxRecDepth 100000
open Go.RowKit Go.WideShapes Go.Deep

def jpart (ds : Deeds) : List UInt8 := ds.flatMap fun d => deedT d.1 d.2 ++ [10]
/-- The text of a journal. -/
def jtx (ds : Deeds) : List UInt8 := if ∀ d ∈ ds, deedT d.1 d.2 ≠ [] then jpart ds else []
theorem jpart_succ {ds : Deeds} {k : Nat} {d : Int × List UInt8} (h : ds[k]? = some d) : jpart (ds.take (k + 1)) = jpart (ds.take k) ++ deedT d.1 d.2 ++ [10] := by
  unfold jpart
  rw [List.take_add_one, h, List.flatMap_append]; simp
theorem jpart_len (ds : Deeds) : (jpart ds).length ≤ 404 * ds.length := by
  induction ds with
  | nil => simp [jpart]
  | cons d r ih =>
    have h1 := deedT_len d.1 d.2
    have : jpart (d :: r) = deedT d.1 d.2 ++ [10] ++ jpart r := rfl
    rw [this]; simp; omega
theorem jtx_no {ds : Deeds} {k : Nat} {d : Int × List UInt8} (h : ds[k]? = some d) (hd : deedT d.1 d.2 = []) : jtx ds = [] := by
  unfold jtx
  rw [if_neg]
  intro ha
  exact ha d (List.mem_of_getElem? h) hd
theorem jtx_all {ds : Deeds} (h : ∀ (j : Nat) d, j < ds.length → ds[j]? = some d → deedT d.1 d.2 ≠ []) : jtx ds = jpart ds := by
  unfold jtx
  rw [if_pos]
  intro d hd
  obtain ⟨j, hj, e⟩ := List.getElem_of_mem hd
  exact h j d hj (by rw [List.getElem?_eq_getElem hj, e])

/-- A builder of the call's own with so many bytes. -/
def IB (w : World) (b : Nat) (l : List UInt8) : Prop := Lib.IsBuilderF 75 5 b b (Lib.byteCells l) w
theorem IB.lt {w : World} {b : Nat} {l : List UInt8} (h : IB w b l) : b < w.heap.size := by
  rcases h with h | h <;> exact h.lt
theorem IB.below {w w' : World} {b : Nat} {l : List UInt8} (h : IB w b l) (hb : Below w.heap.size w w') : IB w' b l := by
  have hlt := IB.lt h
  rcases h with ⟨hB, v, h1, h2, h3⟩ | ⟨hB, v, h1, h2, h3⟩
  · exact .inl ⟨hB, v, (hb.block b hlt).trans h1, h2.kept (only_of_below hb none) (Classical.em _), h3⟩
  · exact .inr ⟨hB, v, (hb.block b hlt).trans h1, h2.kept (only_of_below hb none) (Classical.em _), h3⟩
theorem IB.new (w : World) : IB (w.alloc (.cells #[.pointer none, .slice none 0 0] 75)) w.heap.size [] :=
  .inl ⟨Nat.le_refl _, .slice none 0 0, (Blk.new w #[.pointer none, .slice none 0 0] 75), World.ownsRowF_nil _ _ _ _, by simp [Value.ownBlock]⟩
theorem writeS (b : Nat) (l : List UInt8) (S : ByteArray) (w : World) (h : IB w b l) (hl : l.length + S.size ≤ 140737488355328) :
    Calls Tryd.prog 50 #[.pointer (some ⟨b, 0, none⟩), .string S] w fun e w' => e = .returned (.tuple #[.int .i64 S.size, .nilIface]) ∧ IB w' b (l ++ bytesOf S) ∧ Below b w w' := by
  refine (Any.Builder_WriteString_k lays166 extra166 b b (Lib.byteCells l) S w h (by rw [Lib.byteCells_length]; exact hl) (Nat.le_of_lt (IB.lt h))).mono ?_
  rintro e w' ⟨rfl, h1, h2, _⟩
  refine ⟨rfl, .inr ?_, h2⟩
  rw [Lib.byteCells_append]; exact h1
theorem writeB (b : Nat) (l : List UInt8) (w : World) (h : IB w b l) (hl : l.length + 1 ≤ 140737488355328) :
    Calls Tryd.prog 51 #[.pointer (some ⟨b, 0, none⟩), .int .u8 10] w fun e w' => e = .returned .nilIface ∧ IB w' b (l ++ [10]) ∧ Below b w w' := by
  refine (Any.Builder_WriteByte_k lays167 extra167 b b (Lib.byteCells l) 10 w h (by rw [Lib.byteCells_length]; exact hl) (Nat.le_of_lt (IB.lt h))).mono ?_
  rintro e w' ⟨rfl, h1, h2, _⟩
  refine ⟨rfl, .inr ?_, h2⟩
  rw [Lib.byteCells_append]; exact h1
theorem buildT (b : Nat) (l : List UInt8) (w : World) (h : IB w b l) :
    Calls Tryd.prog 52 #[.pointer (some ⟨b, 0, none⟩)] w fun e w' => e = .returned (.string ⟨l.toArray⟩) ∧ Below b w w' := by
  refine (Tryd.Builder_String_any_k b b l w h (Nat.le_of_lt (IB.lt h))).mono ?_
  rintro e w' ⟨rfl, _, h2, _⟩
  exact ⟨rfl, h2⟩

set_option maxHeartbeats 1000000 in
theorem JournalText_I (v : Value) (ds : Deeds) (w : World) (h : RdD w v ds) (hl : ds.length ≤ 1048576) (hz : ∀ d ∈ ds, d.2.length ≤ 100000000) (ht : StrTab w 0 opNames) :
    Calls Tryd.prog 26 #[v] w fun e w' => e = .returned (.string ⟨(jtx ds).toArray⟩) ∧ Below w.heap.size w w' := by
  have hgl := ht.lt
  have H := Lib.hid (And.intro h (And.intro ht hz)); clear ht hz
  obtain ⟨A, c, rfl, _, _⟩ := h
  have hib := IB.new w
  have hal : Below w.heap.size w (w.alloc (.cells #[.pointer none, .slice none 0 0] 75)) := (Below.refl _ _).alloc (Nat.le_refl _) _
  have S0 := Lib.hid (And.intro hib hal); clear hib hal
  go_enter Tryd.func26, Tryd.ntmps26
  go_wp2
  go_loopw [9] (fun i wr => ∃ k : Nat, k ≤ ds.length ∧ i = .int .i64 k ∧ (∀ (j : Nat) d, j < k → ds[j]? = some d → deedT d.1 d.2 ≠ []) ∧ IB wr w.heap.size (jpart (ds.take k)) ∧ Below w.heap.size w wr) (fun i _ => ds.length - (intOf i).toNat)
  case atStart => exact ⟨0, Nat.zero_le _, rfl, fun j d hj => absurd hj (by omega), by simpa [jpart] using S0.out.1, S0.out.2⟩
  case round =>
    clear S0
    obtain ⟨k, hk, rfl, hall, hib, hb⟩ := hrel
    have hzr := hb.size
    by_cases hlt : k < ds.length
    · obtain ⟨d, hd⟩ : ∃ d, ds[k]? = some d := ⟨_, List.getElem?_eq_getElem hlt⟩
      obtain ⟨A', c', he, _, hr⟩ := H.out.1
      cases he
      obtain ⟨p, off, rfl, hp, hc⟩ := hr (by omega)
      obtain ⟨q0, q1⟩ := hc k d hd
      have q0 := (hb.cell (p := ⟨p, off + k * 2, none⟩) hp).trans q0
      have q1 := (hb.cell (p := ⟨p, off + k * 2 + 1, none⟩) hp).trans q1
      have hds := H.out.2.2 d (List.mem_of_getElem? hd)
      have hsucc := jpart_succ hd
      have hno := Lib.hid (jtx_no hd)
      obtain ⟨d1, d2⟩ := d
      dsimp only at q0 q1 hds hsucc
      obtain ⟨D, hD⟩ : ∃ D : ByteArray, (⟨d2.toArray⟩ : ByteArray) = D := ⟨_, rfl⟩
      have hDz : D.size ≤ 100000000 := by rw [← hD]; simp [ByteArray.size]; omega
      have hDb : bytesOf D = d2 := by rw [← hD, bytes_mk]
      rw [hD] at q1
      obtain ⟨T, hT⟩ : ∃ T : ByteArray, (⟨(deedT d1 (bytesOf D)).toArray⟩ : ByteArray) = T := ⟨_, rfl⟩
      have hTb : bytesOf T = deedT d1 d2 := by rw [← hT, bytes_mk, hDb]
      have hTz : T.size ≤ 403 := by rw [← bytes_len T, hTb]; exact deedT_len _ _
      have hjl := jpart_len (ds.take k)
      rw [List.length_take] at hjl
      have hjl2 : (jpart (ds.take k)).length ≤ 1000000000 := by omega
      have HT := Lib.hid hT
      have hba : Below wr.heap.size wr (wr.alloc (.cells #[.int .i64 d1, .string D] 36)) := (Below.refl _ _).alloc (Nat.le_refl _) _
      have X := Lib.hid (And.intro (IB.below hib hba) (And.intro (hb.trans (hba.mono hzr)) (And.intro hall hd)))
      have hltI : (k : Int) < ds.length := by omega
      clear hib hb hba hall hd hD hT hr hc hjl
      by_cases hte : deedT d1 d2 = []
      · have hTS : (T.toList == []) = true := by rw [str_eq, hTb]; simpa using hte
        have HE := Lib.hid (hno.out hte)
        clear hte hTb hDb hsucc
        go_wp2_with fail
        refine (DeedText_I d1 D _ hDz (H.out.2.1.below X.out.2.1 hgl)).mono ?_
        rw [HT.out]
        rintro e w2 ⟨rfl, hb⟩
        have B2 := Lib.hid (X.out.2.1.trans (hb.mono (by rw [World.size_alloc]; omega))); clear hb
        go_wp2
        go_ret
        rw [HE.out]
        exact ⟨rfl, B2.out⟩
      · have hTS : (T.toList == []) = false := by rw [str_eq, hTb]; simpa using hte
        have HE := Lib.hid (And.intro hte (And.intro hsucc hTb))
        clear hte hTb hDb hsucc
        go_wp2_with fail
        refine (DeedText_I d1 D _ hDz (H.out.2.1.below X.out.2.1 hgl)).mono ?_
        rw [HT.out]
        rintro e w2 ⟨rfl, hb⟩
        have hz2 := hb.size
        rw [World.size_alloc] at hz2
        have B2 := Lib.hid (And.intro (X.out.1.below hb) (X.out.2.1.trans (hb.mono (by rw [World.size_alloc]; omega)))); clear hb
        go_wp2_with fail
        refine (writeS w.heap.size (jpart (ds.take k)) T _ B2.out.1 (by omega)).mono ?_
        rintro e w3 ⟨rfl, hib, hb⟩
        have B3 := Lib.hid (And.intro hib (B2.out.2.trans hb)); clear hib hb B2
        go_wp2_with fail
        refine (writeB w.heap.size (jpart (ds.take k) ++ bytesOf T) _ B3.out.1 (by rw [List.length_append, bytes_len]; omega)).mono ?_
        rintro e w4 ⟨rfl, hib, hb⟩
        rw [HE.out.2.2, ← HE.out.2.1] at hib
        have B4 := Lib.hid (And.intro (show ∀ (j : Nat) d, j < k + 1 → ds[j]? = some d → deedT d.1 d.2 ≠ [] from fun j d hj hd => by
          by_cases hjk : j = k
          · subst hjk
            rw [X.out.2.2.2] at hd
            cases hd
            exact HE.out.1
          · exact X.out.2.2.1 j d (by omega) hd) (And.intro hib (B3.out.2.trans hb))); clear hib hb B3
        go_wp2
        go_roundw
        case rel => exact ⟨k + 1, by omega, by go_num, B4.out⟩
        case measure => simp [intOf]; omega
    · obtain rfl : k = ds.length := by omega
      rw [List.take_length] at hib
      have HE := Lib.hid (jtx_all fun j d hj hd => hall j d hj hd)
      have X := Lib.hid (And.intro hib hb); clear hib hb hall
      go_wp2_with fail
      refine (buildT w.heap.size (jpart ds) _ X.out.1).mono ?_
      rintro e w2 ⟨rfl, hb⟩
      have B2 := Lib.hid (X.out.2.trans hb); clear hb
      go_wp2
      go_ret
      rw [HE.out]
      exact ⟨rfl, B2.out⟩
end Go.Proofs.YtdabbjlefpgkmaaDoor
