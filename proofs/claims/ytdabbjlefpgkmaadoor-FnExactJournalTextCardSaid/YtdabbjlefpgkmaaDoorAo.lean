/- The text of a journal, by the model; the laws' helpers on rows of deeds: weighed, copied; what the reader gives of one. -/
import Derived.Test.YtdabbjlefpgkmaaDoorAn
namespace Go.Proofs.YtdabbjlefpgkmaaDoor
set_option maxRecDepth 100000
open Go.RowKit Go.WideShapes Go.ChangeShapes Go.Deep

theorem add_bytes (X Y : ByteArray) (h : X.size + Y.size ≤ 9223372036854775807) : ∃ Z : ByteArray, bytesOf Z = bytesOf X ++ bytesOf Y ∧ ∀ W, (Op.stringOp .add X Y).run Tryd.prog W = .ok (.string Z) W :=
  ⟨X ++ Y, by simp [bytesOf, ByteArray.data_append], fun W => run_string_add_sum W _ _ h⟩
set_option maxHeartbeats 1000000 in
theorem JournalText_S (v : Value) (ds : Deeds) (w : World) (h : RdD w v ds) (hl : ds.length ≤ 1048576) (hz : ∀ d ∈ ds, d.2.length ≤ 100000000) :
    Calls Tryd.prog 24 #[v] w fun e w' => e = .returned (.string ⟨(jtx ds).toArray⟩) ∧ Below w.heap.size w w' := by
  have H := Lib.hid (And.intro h hz); clear hz
  obtain ⟨A, c, rfl, _, _⟩ := h
  go_enter Tryd.func24, Tryd.ntmps24
  go_wp2
  go_loopw [3, 4] (fun o i wr => ∃ (k : Nat) (X : ByteArray), k ≤ ds.length ∧ i = .int .i64 k ∧ o = .string X ∧ (∀ (j : Nat) d, j < k → ds[j]? = some d → deedT d.1 d.2 ≠ []) ∧ bytesOf X = jpart (ds.take k) ∧ Below w.heap.size w wr) (fun _ i _ => ds.length - (intOf i).toNat)
  case atStart => exact ⟨0, ⟨#[]⟩, Nat.zero_le _, rfl, rfl, fun j d hj => absurd hj (by omega), by simp [jpart, bytesOf], Below.refl _ _⟩
  case round =>
    obtain ⟨k, X, hk, rfl, rfl, hall, hX, hb⟩ := hrel
    have hzr := hb.size
    by_cases hlt : k < ds.length
    · obtain ⟨d, hd⟩ : ∃ d, ds[k]? = some d := ⟨_, List.getElem?_eq_getElem hlt⟩
      obtain ⟨A', c', he, _, hr⟩ := H.out.1
      cases he
      obtain ⟨p, off, rfl, hp, hc⟩ := hr (by omega)
      obtain ⟨q0, q1⟩ := hc k d hd
      have q0 := (hb.cell (p := ⟨p, off + k * 2, none⟩) hp).trans q0
      have q1 := (hb.cell (p := ⟨p, off + k * 2 + 1, none⟩) hp).trans q1
      have hds := H.out.2 d (List.mem_of_getElem? hd)
      have hsucc := jpart_succ hd
      have hno := Lib.hid (jtx_no hd)
      obtain ⟨d1, d2⟩ := d
      dsimp only at q0 q1 hds hsucc
      obtain ⟨D, hD⟩ : ∃ D : ByteArray, (⟨d2.toArray⟩ : ByteArray) = D := ⟨_, rfl⟩
      have hDz : D.size ≤ 100000000 := by rw [← hD]; simp [ByteArray.size]; omega
      have hDb : bytesOf D = d2 := by rw [← hD, bytes_mk]
      rw [hD] at q1
      obtain ⟨T, hT⟩ : ∃ T : ByteArray, (⟨(deedT d1 (bytesOf D)).toArray⟩ : ByteArray) = T := ⟨_, rfl⟩
      have hTb : bytesOf T = deedT d1 d2 := by rw [← hT, bytes_mk, hDb]
      have hTz : T.size ≤ 403 := by rw [← bytes_len T, hTb]; exact deedT_len _ _
      have hjl := jpart_len (ds.take k)
      rw [List.length_take] at hjl
      have hXz : X.size ≤ 1000000000 := by rw [← bytes_len X, hX]; omega
      have HT := Lib.hid hT
      have Y := Lib.hid (And.intro hb (And.intro hall hd))
      have hltI : (k : Int) < ds.length := by omega
      clear hb hall hd hD hT hr hc hjl
      by_cases hte : deedT d1 d2 = []
      · have hTS : (T.toList == []) = true := by rw [str_eq, hTb]; simpa using hte
        have HE := Lib.hid (hno.out hte)
        clear hte hTb hDb hsucc hX
        go_wp2_with fail
        refine (DeedText_S d1 D _ hDz).mono ?_
        rw [HT.out]
        rintro e w2 ⟨rfl, hb⟩
        have B2 := Lib.hid (Y.out.1.trans (hb.mono hzr)); clear hb
        go_wp2
        go_ret
        rw [HE.out]
        exact ⟨rfl, B2.out⟩
      · have hTS : (T.toList == []) = false := by rw [str_eq, hTb]; simpa using hte
        obtain ⟨Z, hZb, hadd⟩ := add_bytes X T (by omega)
        have hZz : Z.size ≤ 1000000403 := by rw [← bytes_len Z, hZb, List.length_append, bytes_len, bytes_len]; omega
        obtain ⟨V, hVb, hadd2⟩ := add_bytes Z ⟨#[10]⟩ (by have : (⟨#[10]⟩ : ByteArray).size = 1 := rfl; omega)
        have HE := Lib.hid (And.intro hte (show bytesOf V = jpart (ds.take (k + 1)) by rw [hVb, hZb, hX, hTb, hsucc]))
        clear hte hTb hDb hsucc hX hZb hVb
        go_wp2_with fail
        refine (DeedText_S d1 D _ hDz).mono ?_
        rw [HT.out]
        rintro e w2 ⟨rfl, hb⟩
        have hz2 := hb.size
        have p0 := (hb.cell (p := ⟨p, off + k * 2, none⟩) (Nat.lt_of_lt_of_le hp hzr)).trans q0
        have p1 := (hb.cell (p := ⟨p, off + k * 2 + 1, none⟩) (Nat.lt_of_lt_of_le hp hzr)).trans q1
        have B2 := Lib.hid (Y.out.1.trans (hb.mono hzr)); clear hb q0 q1
        go_wp2_with fail
        refine (DeedText_S d1 D _ hDz).mono ?_
        rw [HT.out]
        rintro e w3 ⟨rfl, hb⟩
        have B3 := Lib.hid (And.intro (show ∀ (j : Nat) d, j < k + 1 → ds[j]? = some d → deedT d.1 d.2 ≠ [] from fun j d hj hd => by
          by_cases hjk : j = k
          · subst hjk
            rw [Y.out.2.2] at hd
            cases hd
            exact HE.out.1
          · exact Y.out.2.1 j d (by omega) hd) (And.intro HE.out.2 (B2.out.trans (hb.mono (by omega))))); clear hb B2
        go_wp2
        go_roundw
        case rel => exact ⟨k + 1, V, by omega, by go_num, rfl, B3.out⟩
        case measure => simp [intOf]; omega
    · obtain rfl : k = ds.length := by omega
      rw [List.take_length] at hX
      have HE := Lib.hid (And.intro (jtx_all fun j d hj hd => hall j d hj hd) (And.intro hX hb)); clear hX hb hall
      go_wp2
      go_ret
      rw [HE.out.1, ← HE.out.2.1, ba_eta]
      exact ⟨rfl, HE.out.2.2⟩
end Go.Proofs.YtdabbjlefpgkmaaDoor
