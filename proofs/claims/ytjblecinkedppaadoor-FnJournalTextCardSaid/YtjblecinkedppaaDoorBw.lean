/- Several texts in one. -/
import Derived.Test.YtjblecinkedppaaDoorSh
import Derived.Test.YtjblecinkedppaaDoorBn
import Derived.Test.YtjblecinkedppaaDoorBv
import Derived.Test.YtjblecinkedppaaDoorHv
import Derived.Test.YtjblecinkedppaaDoorI
/- strings.Builder at this program: WriteString and WriteByte, laid by hand. -/
namespace Go.Proofs.YtjblecinkedppaaDoor
set_option maxRecDepth 100000
open Go.Shelf

theorem sz_of {P : Program} {t : TypeId} {n : Nat} (h : (P.info? t).map (·.size) = some n) : ∀ w, (Go.sizeOf t).run P w = .ok n w := by
  intro w
  obtain ⟨i, hi, hs⟩ := Option.map_eq_some_iff.1 h
  simp [Go.sizeOf, typeInfo, hi, hs]
theorem zv_of {P : Program} {t : TypeId} {v : Value} (h : (P.info? t).map (·.zero) = some (some v)) : ∀ w, (zeroValue t).run P w = .ok v w := by
  intro w
  obtain ⟨i, hi, hs⟩ := Option.map_eq_some_iff.1 h
  simp [zeroValue, typeInfo, hi, hs]
def lays167_ren : Go.Shelf.Ren := ⟨fun | 167 => 38 | 240 => 58 | 276 => 79 | n => n, fun | 0 => 0 | 4 => 4 | 5 => 5 | 9 => 9 | 20 => 20 | 37 => 22 | 70 => 61 | 72 => 63 | 75 => 65 | 80 => 69 | 164 => 102 | n => n, fun | n => n⟩
theorem lays167 : Go.Proofs.Lays.n167 Tryd.prog lays167_ren := {
  mixed := by kernel_rfl
  f167 := Tryd.func38.trans (congrArg some (by kernel_rfl))
  f240 := Tryd.func58.trans (congrArg some (by kernel_rfl))
  f276 := Tryd.func79.trans (congrArg some (by kernel_rfl))
  t0 := by kernel_rfl
  a0 := run_isAgg_plain (show Tryd.prog.underlying 0 = some (.tuple #[]) by kernel_rfl) rfl
  z0 := sz_of (by kernel_rfl)
  v0 := zv_of (by kernel_rfl)
  t4 := by kernel_rfl
  a4 := run_isAgg_plain (show Tryd.prog.underlying 4 = some .bool by kernel_rfl) rfl
  z4 := sz_of (by kernel_rfl)
  v4 := zv_of (by kernel_rfl)
  t5 := by kernel_rfl
  a5 := run_isAgg_plain (show Tryd.prog.underlying 5 = some (.int .u8) by kernel_rfl) rfl
  z5 := sz_of (by kernel_rfl)
  v5 := zv_of (by kernel_rfl)
  t9 := by kernel_rfl
  a9 := run_isAgg_plain (show Tryd.prog.underlying 9 = some .string by kernel_rfl) rfl
  z9 := sz_of (by kernel_rfl)
  v9 := zv_of (by kernel_rfl)
  t20 := by kernel_rfl
  a20 := run_isAgg_plain (show Tryd.prog.underlying 20 = some (.interface #[]) by kernel_rfl) rfl
  z20 := sz_of (by kernel_rfl)
  v20 := zv_of (by kernel_rfl)
  t37 := by kernel_rfl
  a37 := run_isAgg_plain (show Tryd.prog.underlying 22 = some (.slice 5) by kernel_rfl) rfl
  z37 := sz_of (by kernel_rfl)
  v37 := zv_of (by kernel_rfl)
  t70 := by kernel_rfl
  a70 := run_isAgg_plain (show Tryd.prog.underlying 61 = some (.pointer 63) by kernel_rfl) rfl
  z70 := sz_of (by kernel_rfl)
  v70 := zv_of (by kernel_rfl)
  t72 := by kernel_rfl
  a72 := Tryd.isAgg63
  z72 := sz_of (by kernel_rfl)
  v72 := zv_of (by kernel_rfl)
  t75 := by kernel_rfl
  a75 := run_isAgg_plain (show Tryd.prog.underlying 65 = some (.interface #[("Error", 69)]) by kernel_rfl) rfl
  z75 := sz_of (by kernel_rfl)
  v75 := zv_of (by kernel_rfl)
  t164 := by kernel_rfl
  a164 := run_isAgg_plain (show Tryd.prog.underlying 102 = some .unsafePointer by kernel_rfl) rfl
  z164 := sz_of (by kernel_rfl)
  v164 := zv_of (by kernel_rfl) }
theorem extra167 : Builder.Extra Tryd.prog lays167_ren := {
  sizeBuilder := by kernel_rfl
  liesBuilder := by kernel_rfl
  t5 := by kernel_rfl
  a5 := run_isAgg_plain (show Tryd.prog.underlying 5 = some (.int .u8) by kernel_rfl) rfl
  z5 := sz_of (by kernel_rfl)
  v5 := zv_of (by kernel_rfl)
  infoByte := by kernel_rfl
  cellsByte := by kernel_rfl
  sizeByte := by kernel_rfl
  neB5 := by decide }
def lays166_ren : Go.Shelf.Ren := ⟨fun | 166 => 37 | 240 => 58 | 276 => 79 | n => n, fun | 0 => 0 | 3 => 3 | 4 => 4 | 9 => 9 | 20 => 20 | 37 => 22 | 70 => 61 | 72 => 63 | 75 => 65 | 80 => 69 | 164 => 102 | n => n, fun | n => n⟩
theorem lays166 : Go.Proofs.Lays.n166 Tryd.prog lays166_ren := {
  mixed := by kernel_rfl
  f166 := Tryd.func37.trans (congrArg some (by kernel_rfl))
  f240 := Tryd.func58.trans (congrArg some (by kernel_rfl))
  f276 := Tryd.func79.trans (congrArg some (by kernel_rfl))
  t0 := by kernel_rfl
  a0 := run_isAgg_plain (show Tryd.prog.underlying 0 = some (.tuple #[]) by kernel_rfl) rfl
  z0 := sz_of (by kernel_rfl)
  v0 := zv_of (by kernel_rfl)
  t3 := by kernel_rfl
  a3 := run_isAgg_plain (show Tryd.prog.underlying 3 = some (.int .i64) by kernel_rfl) rfl
  z3 := sz_of (by kernel_rfl)
  v3 := zv_of (by kernel_rfl)
  t4 := by kernel_rfl
  a4 := run_isAgg_plain (show Tryd.prog.underlying 4 = some .bool by kernel_rfl) rfl
  z4 := sz_of (by kernel_rfl)
  v4 := zv_of (by kernel_rfl)
  t9 := by kernel_rfl
  a9 := run_isAgg_plain (show Tryd.prog.underlying 9 = some .string by kernel_rfl) rfl
  z9 := sz_of (by kernel_rfl)
  v9 := zv_of (by kernel_rfl)
  t20 := by kernel_rfl
  a20 := run_isAgg_plain (show Tryd.prog.underlying 20 = some (.interface #[]) by kernel_rfl) rfl
  z20 := sz_of (by kernel_rfl)
  v20 := zv_of (by kernel_rfl)
  t37 := by kernel_rfl
  a37 := run_isAgg_plain (show Tryd.prog.underlying 22 = some (.slice 5) by kernel_rfl) rfl
  z37 := sz_of (by kernel_rfl)
  v37 := zv_of (by kernel_rfl)
  t70 := by kernel_rfl
  a70 := run_isAgg_plain (show Tryd.prog.underlying 61 = some (.pointer 63) by kernel_rfl) rfl
  z70 := sz_of (by kernel_rfl)
  v70 := zv_of (by kernel_rfl)
  t72 := by kernel_rfl
  a72 := Tryd.isAgg63
  z72 := sz_of (by kernel_rfl)
  v72 := zv_of (by kernel_rfl)
  t75 := by kernel_rfl
  a75 := run_isAgg_plain (show Tryd.prog.underlying 65 = some (.interface #[("Error", 69)]) by kernel_rfl) rfl
  z75 := sz_of (by kernel_rfl)
  v75 := zv_of (by kernel_rfl)
  t164 := by kernel_rfl
  a164 := run_isAgg_plain (show Tryd.prog.underlying 102 = some .unsafePointer by kernel_rfl) rfl
  z164 := sz_of (by kernel_rfl)
  v164 := zv_of (by kernel_rfl) }
theorem extra166 : Builder.Extra Tryd.prog lays166_ren := {
  sizeBuilder := by kernel_rfl
  liesBuilder := by kernel_rfl
  t5 := by kernel_rfl
  a5 := run_isAgg_plain (show Tryd.prog.underlying 5 = some (.int .u8) by kernel_rfl) rfl
  z5 := sz_of (by kernel_rfl)
  v5 := zv_of (by kernel_rfl)
  infoByte := by kernel_rfl
  cellsByte := by kernel_rfl
  sizeByte := by kernel_rfl
  neB5 := by decide }
end Go.Proofs.YtjblecinkedppaaDoor

/- The text of a journal, by the program and by the model. -/
namespace Go.Proofs.YtjblecinkedppaaDoor
set_option maxRecDepth 100000
open Go.RowKit Go.WideShapes Go.Deep

def jpart (ds : Deeds) : List UInt8 := ds.flatMap fun d => deedT d.1 d.2 ++ [10]
/-- The text of a journal. -/
def jtx (ds : Deeds) : List UInt8 := if ∀ d ∈ ds, deedT d.1 d.2 ≠ [] then jpart ds else []
theorem jpart_succ {ds : Deeds} {k : Nat} {d : Int × List UInt8} (h : ds[k]? = some d) : jpart (ds.take (k + 1)) = jpart (ds.take k) ++ deedT d.1 d.2 ++ [10] := by
  unfold jpart
  rw [List.take_add_one, h, List.flatMap_append]; simp
theorem jpart_len (ds : Deeds) : (jpart ds).length ≤ 404 * ds.length := by
  induction ds with
  | nil => simp [jpart]
  | cons d r ih =>
    have h1 := deedT_len d.1 d.2
    have : jpart (d :: r) = deedT d.1 d.2 ++ [10] ++ jpart r := rfl
    rw [this]; simp; omega
theorem jtx_no {ds : Deeds} {k : Nat} {d : Int × List UInt8} (h : ds[k]? = some d) (hd : deedT d.1 d.2 = []) : jtx ds = [] := by
  unfold jtx
  rw [if_neg]
  intro ha
  exact ha d (List.mem_of_getElem? h) hd
theorem jtx_all {ds : Deeds} (h : ∀ (j : Nat) d, j < ds.length → ds[j]? = some d → deedT d.1 d.2 ≠ []) : jtx ds = jpart ds := by
  unfold jtx
  rw [if_pos]
  intro d hd
  obtain ⟨j, hj, e⟩ := List.getElem_of_mem hd
  exact h j d hj (by rw [List.getElem?_eq_getElem hj, e])

/-- A builder of the call's own with so many bytes. -/
def IB (w : World) (b : Nat) (l : List UInt8) : Prop := Lib.IsBuilderF 63 5 b b (Lib.byteCells l) w
theorem IB.lt {w : World} {b : Nat} {l : List UInt8} (h : IB w b l) : b < w.heap.size := by
  rcases h with h | h <;> exact h.lt
theorem IB.below {w w' : World} {b : Nat} {l : List UInt8} (h : IB w b l) (hb : Below w.heap.size w w') : IB w' b l := by
  have hlt := IB.lt h
  rcases h with ⟨hB, v, h1, h2, h3⟩ | ⟨hB, v, h1, h2, h3⟩
  · exact .inl ⟨hB, v, (hb.block b hlt).trans h1, h2.kept (only_of_below hb none) (Classical.em _), h3⟩
  · exact .inr ⟨hB, v, (hb.block b hlt).trans h1, h2.kept (only_of_below hb none) (Classical.em _), h3⟩
theorem IB.new (w : World) : IB (w.alloc (.cells #[.pointer none, .slice none 0 0] 63)) w.heap.size [] :=
  .inl ⟨Nat.le_refl _, .slice none 0 0, (Blk.new w #[.pointer none, .slice none 0 0] 63), World.ownsRowF_nil _ _ _ _, by simp [Value.ownBlock]⟩
theorem writeS (b : Nat) (l : List UInt8) (S : ByteArray) (w : World) (h : IB w b l) (hl : l.length + S.size ≤ 140737488355328) :
    Calls Tryd.prog 37 #[.pointer (some ⟨b, 0, none⟩), .string S] w fun e w' => e = .returned (.tuple #[.int .i64 S.size, .nilIface]) ∧ IB w' b (l ++ bytesOf S) ∧ Below b w w' := by
  refine (Any.Builder_WriteString_k lays166 extra166 b b (Lib.byteCells l) S w h (by rw [Lib.byteCells_length]; exact hl) (Nat.le_of_lt (IB.lt h))).mono ?_
  rintro e w' ⟨rfl, h1, h2, _⟩
  refine ⟨rfl, .inr ?_, h2⟩
  rw [Lib.byteCells_append]; exact h1
theorem writeB (b : Nat) (l : List UInt8) (w : World) (h : IB w b l) (hl : l.length + 1 ≤ 140737488355328) :
    Calls Tryd.prog 38 #[.pointer (some ⟨b, 0, none⟩), .int .u8 10] w fun e w' => e = .returned .nilIface ∧ IB w' b (l ++ [10]) ∧ Below b w w' := by
  refine (Any.Builder_WriteByte_k lays167 extra167 b b (Lib.byteCells l) 10 w h (by rw [Lib.byteCells_length]; exact hl) (Nat.le_of_lt (IB.lt h))).mono ?_
  rintro e w' ⟨rfl, h1, h2, _⟩
  refine ⟨rfl, .inr ?_, h2⟩
  rw [Lib.byteCells_append]; exact h1
theorem buildT (b : Nat) (l : List UInt8) (w : World) (h : IB w b l) :
    Calls Tryd.prog 39 #[.pointer (some ⟨b, 0, none⟩)] w fun e w' => e = .returned (.string ⟨l.toArray⟩) ∧ Below b w w' := by
  refine (Tryd.Builder_String_any_k b b l w h (Nat.le_of_lt (IB.lt h))).mono ?_
  rintro e w' ⟨rfl, _, h2, _⟩
  exact ⟨rfl, h2⟩

set_option maxHeartbeats 1000000 in
theorem JournalText_I (v : Value) (ds : Deeds) (w : World) (h : RdD w v ds) (hl : ds.length ≤ 1048576) (hz : ∀ d ∈ ds, d.2.length ≤ 100000000) (ht : StrTab w 0 opNames) :
    Calls Tryd.prog 18 #[v] w fun e w' => e = .returned (.string ⟨(jtx ds).toArray⟩) ∧ Below w.heap.size w w' := by
  have hgl := ht.lt
  have H := Lib.hid (And.intro h (And.intro ht hz)); clear ht hz
  obtain ⟨A, c, rfl, _, _⟩ := h
  have hib := IB.new w
  have hal : Below w.heap.size w (w.alloc (.cells #[.pointer none, .slice none 0 0] 63)) := (Below.refl _ _).alloc (Nat.le_refl _) _
  have S0 := Lib.hid (And.intro hib hal); clear hib hal
  go_enter Tryd.func18, Tryd.ntmps18
  go_wp2
  go_loopw [9] (fun i wr => ∃ k : Nat, k ≤ ds.length ∧ i = .int .i64 k ∧ (∀ (j : Nat) d, j < k → ds[j]? = some d → deedT d.1 d.2 ≠ []) ∧ IB wr w.heap.size (jpart (ds.take k)) ∧ Below w.heap.size w wr) (fun i _ => ds.length - (intOf i).toNat)
  case atStart => exact ⟨0, Nat.zero_le _, rfl, fun j d hj => absurd hj (by omega), by simpa [jpart] using S0.out.1, S0.out.2⟩
  case round =>
    clear S0
    obtain ⟨k, hk, rfl, hall, hib, hb⟩ := hrel
    have hzr := hb.size
    by_cases hlt : k < ds.length
    · obtain ⟨d, hd⟩ : ∃ d, ds[k]? = some d := ⟨_, List.getElem?_eq_getElem hlt⟩
      obtain ⟨A', c', he, _, hr⟩ := H.out.1
      cases he
      obtain ⟨p, off, rfl, hp, hc⟩ := hr (by omega)
      obtain ⟨q0, q1⟩ := hc k d hd
      have q0 := (hb.cell (p := ⟨p, off + k * 2, none⟩) hp).trans q0
      have q1 := (hb.cell (p := ⟨p, off + k * 2 + 1, none⟩) hp).trans q1
      have hds := H.out.2.2 d (List.mem_of_getElem? hd)
      have hsucc := jpart_succ hd
      have hno := Lib.hid (jtx_no hd)
      obtain ⟨d1, d2⟩ := d
      dsimp only at q0 q1 hds hsucc
      obtain ⟨D, hD⟩ : ∃ D : ByteArray, (⟨d2.toArray⟩ : ByteArray) = D := ⟨_, rfl⟩
      have hDz : D.size ≤ 100000000 := by rw [← hD]; simp [ByteArray.size]; omega
      have hDb : bytesOf D = d2 := by rw [← hD, bytes_mk]
      rw [hD] at q1
      obtain ⟨T, hT⟩ : ∃ T : ByteArray, (⟨(deedT d1 (bytesOf D)).toArray⟩ : ByteArray) = T := ⟨_, rfl⟩
      have hTb : bytesOf T = deedT d1 d2 := by rw [← hT, bytes_mk, hDb]
      have hTz : T.size ≤ 403 := by rw [← bytes_len T, hTb]; exact deedT_len _ _
      have hjl := jpart_len (ds.take k)
      rw [List.length_take] at hjl
      have hjl2 : (jpart (ds.take k)).length ≤ 1000000000 := by omega
      have HT := Lib.hid hT
      have hba : Below wr.heap.size wr (wr.alloc (.cells #[.int .i64 d1, .string D] 32)) := (Below.refl _ _).alloc (Nat.le_refl _) _
      have X := Lib.hid (And.intro (IB.below hib hba) (And.intro (hb.trans (hba.mono hzr)) (And.intro hall hd)))
      have hltI : (k : Int) < ds.length := by omega
      clear hib hb hba hall hd hD hT hr hc hjl
      by_cases hte : deedT d1 d2 = []
      · have hTS : (T.toList == []) = true := by rw [str_eq, hTb]; simpa using hte
        have HE := Lib.hid (hno.out hte)
        clear hte hTb hDb hsucc
        go_wp2_with fail
        refine (DeedText_I d1 D _ hDz (H.out.2.1.below X.out.2.1 hgl)).mono ?_
        rw [HT.out]
        rintro e w2 ⟨rfl, hb⟩
        have B2 := Lib.hid (X.out.2.1.trans (hb.mono (by rw [World.size_alloc]; omega))); clear hb
        go_wp2
        go_ret
        rw [HE.out]
        exact ⟨rfl, B2.out⟩
      · have hTS : (T.toList == []) = false := by rw [str_eq, hTb]; simpa using hte
        have HE := Lib.hid (And.intro hte (And.intro hsucc hTb))
        clear hte hTb hDb hsucc
        go_wp2_with fail
        refine (DeedText_I d1 D _ hDz (H.out.2.1.below X.out.2.1 hgl)).mono ?_
        rw [HT.out]
        rintro e w2 ⟨rfl, hb⟩
        have hz2 := hb.size
        rw [World.size_alloc] at hz2
        have B2 := Lib.hid (And.intro (X.out.1.below hb) (X.out.2.1.trans (hb.mono (by rw [World.size_alloc]; omega)))); clear hb
        go_wp2_with fail
        refine (writeS w.heap.size (jpart (ds.take k)) T _ B2.out.1 (by omega)).mono ?_
        rintro e w3 ⟨rfl, hib, hb⟩
        have B3 := Lib.hid (And.intro hib (B2.out.2.trans hb)); clear hib hb B2
        go_wp2_with fail
        refine (writeB w.heap.size (jpart (ds.take k) ++ bytesOf T) _ B3.out.1 (by rw [List.length_append, bytes_len]; omega)).mono ?_
        rintro e w4 ⟨rfl, hib, hb⟩
        rw [HE.out.2.2, ← HE.out.2.1] at hib
        have B4 := Lib.hid (And.intro (show ∀ (j : Nat) d, j < k + 1 → ds[j]? = some d → deedT d.1 d.2 ≠ [] from fun j d hj hd => by
          by_cases hjk : j = k
          · subst hjk
            rw [X.out.2.2.2] at hd
            cases hd
            exact HE.out.1
          · exact X.out.2.2.1 j d (by omega) hd) (And.intro hib (B3.out.2.trans hb))); clear hib hb B3
        go_wp2
        go_roundw
        case rel => exact ⟨k + 1, by omega, by go_num, B4.out⟩
        case measure => simp [intOf]; omega
    · obtain rfl : k = ds.length := by omega
      rw [List.take_length] at hib
      have HE := Lib.hid (jtx_all fun j d hj hd => hall j d hj hd)
      have X := Lib.hid (And.intro hib hb); clear hib hb hall
      go_wp2_with fail
      refine (buildT w.heap.size (jpart ds) _ X.out.1).mono ?_
      rintro e w2 ⟨rfl, hb⟩
      have B2 := Lib.hid (X.out.2.trans hb); clear hb
      go_wp2
      go_ret
      rw [HE.out]
      exact ⟨rfl, B2.out⟩
end Go.Proofs.YtjblecinkedppaaDoor

/- The text of a journal, by the model; the laws' helpers on rows of deeds: weighed, copied; what the reader gives of one. -/
namespace Go.Proofs.YtjblecinkedppaaDoor
set_option maxRecDepth 100000
open Go.RowKit Go.WideShapes Go.ChangeShapes Go.Deep

theorem add_bytes (X Y : ByteArray) (h : X.size + Y.size ≤ 9223372036854775807) : ∃ Z : ByteArray, bytesOf Z = bytesOf X ++ bytesOf Y ∧ ∀ W, (Op.stringOp .add X Y).run Tryd.prog W = .ok (.string Z) W :=
  ⟨X ++ Y, by simp [bytesOf, ByteArray.data_append], fun W => run_string_add_sum W _ _ h⟩
set_option maxHeartbeats 1000000 in
theorem JournalText_S (v : Value) (ds : Deeds) (w : World) (h : RdD w v ds) (hl : ds.length ≤ 1048576) (hz : ∀ d ∈ ds, d.2.length ≤ 100000000) :
    Calls Tryd.prog 19 #[v] w fun e w' => e = .returned (.string ⟨(jtx ds).toArray⟩) ∧ Below w.heap.size w w' := by
  have H := Lib.hid (And.intro h hz); clear hz
  obtain ⟨A, c, rfl, _, _⟩ := h
  go_enter Tryd.func19, Tryd.ntmps19
  go_wp2
  go_loopw [3, 4] (fun o i wr => ∃ (k : Nat) (X : ByteArray), k ≤ ds.length ∧ i = .int .i64 k ∧ o = .string X ∧ (∀ (j : Nat) d, j < k → ds[j]? = some d → deedT d.1 d.2 ≠ []) ∧ bytesOf X = jpart (ds.take k) ∧ Below w.heap.size w wr) (fun _ i _ => ds.length - (intOf i).toNat)
  case atStart => exact ⟨0, ⟨#[]⟩, Nat.zero_le _, rfl, rfl, fun j d hj => absurd hj (by omega), by simp [jpart, bytesOf], Below.refl _ _⟩
  case round =>
    obtain ⟨k, X, hk, rfl, rfl, hall, hX, hb⟩ := hrel
    have hzr := hb.size
    by_cases hlt : k < ds.length
    · obtain ⟨d, hd⟩ : ∃ d, ds[k]? = some d := ⟨_, List.getElem?_eq_getElem hlt⟩
      obtain ⟨A', c', he, _, hr⟩ := H.out.1
      cases he
      obtain ⟨p, off, rfl, hp, hc⟩ := hr (by omega)
      obtain ⟨q0, q1⟩ := hc k d hd
      have q0 := (hb.cell (p := ⟨p, off + k * 2, none⟩) hp).trans q0
      have q1 := (hb.cell (p := ⟨p, off + k * 2 + 1, none⟩) hp).trans q1
      have hds := H.out.2 d (List.mem_of_getElem? hd)
      have hsucc := jpart_succ hd
      have hno := Lib.hid (jtx_no hd)
      obtain ⟨d1, d2⟩ := d
      dsimp only at q0 q1 hds hsucc
      obtain ⟨D, hD⟩ : ∃ D : ByteArray, (⟨d2.toArray⟩ : ByteArray) = D := ⟨_, rfl⟩
      have hDz : D.size ≤ 100000000 := by rw [← hD]; simp [ByteArray.size]; omega
      have hDb : bytesOf D = d2 := by rw [← hD, bytes_mk]
      rw [hD] at q1
      obtain ⟨T, hT⟩ : ∃ T : ByteArray, (⟨(deedT d1 (bytesOf D)).toArray⟩ : ByteArray) = T := ⟨_, rfl⟩
      have hTb : bytesOf T = deedT d1 d2 := by rw [← hT, bytes_mk, hDb]
      have hTz : T.size ≤ 403 := by rw [← bytes_len T, hTb]; exact deedT_len _ _
      have hjl := jpart_len (ds.take k)
      rw [List.length_take] at hjl
      have hXz : X.size ≤ 1000000000 := by rw [← bytes_len X, hX]; omega
      have HT := Lib.hid hT
      have Y := Lib.hid (And.intro hb (And.intro hall hd))
      have hltI : (k : Int) < ds.length := by omega
      clear hb hall hd hD hT hr hc hjl
      by_cases hte : deedT d1 d2 = []
      · have hTS : (T.toList == []) = true := by rw [str_eq, hTb]; simpa using hte
        have HE := Lib.hid (hno.out hte)
        clear hte hTb hDb hsucc hX
        go_wp2_with fail
        refine (DeedText_S d1 D _ hDz).mono ?_
        rw [HT.out]
        rintro e w2 ⟨rfl, hb⟩
        have B2 := Lib.hid (Y.out.1.trans (hb.mono hzr)); clear hb
        go_wp2
        go_ret
        rw [HE.out]
        exact ⟨rfl, B2.out⟩
      · have hTS : (T.toList == []) = false := by rw [str_eq, hTb]; simpa using hte
        obtain ⟨Z, hZb, hadd⟩ := add_bytes X T (by omega)
        have hZz : Z.size ≤ 1000000403 := by rw [← bytes_len Z, hZb, List.length_append, bytes_len, bytes_len]; omega
        obtain ⟨V, hVb, hadd2⟩ := add_bytes Z ⟨#[10]⟩ (by have : (⟨#[10]⟩ : ByteArray).size = 1 := rfl; omega)
        have HE := Lib.hid (And.intro hte (show bytesOf V = jpart (ds.take (k + 1)) by rw [hVb, hZb, hX, hTb, hsucc]))
        clear hte hTb hDb hsucc hX hZb hVb
        go_wp2_with fail
        refine (DeedText_S d1 D _ hDz).mono ?_
        rw [HT.out]
        rintro e w2 ⟨rfl, hb⟩
        have hz2 := hb.size
        have p0 := (hb.cell (p := ⟨p, off + k * 2, none⟩) (Nat.lt_of_lt_of_le hp hzr)).trans q0
        have p1 := (hb.cell (p := ⟨p, off + k * 2 + 1, none⟩) (Nat.lt_of_lt_of_le hp hzr)).trans q1
        have B2 := Lib.hid (Y.out.1.trans (hb.mono hzr)); clear hb q0 q1
        go_wp2_with fail
        refine (DeedText_S d1 D _ hDz).mono ?_
        rw [HT.out]
        rintro e w3 ⟨rfl, hb⟩
        have B3 := Lib.hid (And.intro (show ∀ (j : Nat) d, j < k + 1 → ds[j]? = some d → deedT d.1 d.2 ≠ [] from fun j d hj hd => by
          by_cases hjk : j = k
          · subst hjk
            rw [Y.out.2.2] at hd
            cases hd
            exact HE.out.1
          · exact Y.out.2.1 j d (by omega) hd) (And.intro HE.out.2 (B2.out.trans (hb.mono (by omega))))); clear hb B2
        go_wp2
        go_roundw
        case rel => exact ⟨k + 1, V, by omega, by go_num, rfl, B3.out⟩
        case measure => simp [intOf]; omega
    · obtain rfl : k = ds.length := by omega
      rw [List.take_length] at hX
      have HE := Lib.hid (And.intro (jtx_all fun j d hj hd => hall j d hj hd) (And.intro hX hb)); clear hX hb hall
      go_wp2
      go_ret
      rw [HE.out.1, ← HE.out.2.1, ba_eta]
      exact ⟨rfl, HE.out.2.2⟩
end Go.Proofs.YtjblecinkedppaaDoor

/- Journals of drawn deeds: plain facts; the draws l20Written, DrawJournalText. -/
namespace Go.Proofs.YtjblecinkedppaaDoor
set_option maxRecDepth 100000
open Go.RowKit Go.WideShapes Go.Deep

theorem names_no10 : ∀ k : Fin 13, 10 ∉ opNames.getD k.val [] := by decide +kernel
theorem word_no10 {z : Int} (h : isWordB z = true) : (10 : UInt8) ∉ wordT z := by
  rcases isWordB_iff.1 h with h1 | h1
  · rw [wordT_num h1]
    intro hm
    have := dec_mem hm; revert this; decide
  · rw [wordT_op h1]
    exact names_no10 ⟨(z - 1001).toNat, by omega⟩
theorem join_no10 : ∀ {ws : List (List UInt8)}, (∀ w ∈ ws, (10 : UInt8) ∉ w) → (10 : UInt8) ∉ Lib.join ws [32] := by
  intro ws
  rcases ws with _ | ⟨w, ws⟩
  · intro _; simp [Lib.join]
  · intro h
    rw [Lib.join_cons, List.mem_append]
    rintro (h1 | h1)
    · exact h w (by simp) h1
    · have key : ∀ (r : List (List UInt8)), (∀ w ∈ r, (10 : UInt8) ∉ w) → (10 : UInt8) ∉ Lib.joinTail [32] r := by
        intro r
        induction r with
        | nil => intro _; simp [Lib.joinTail]
        | cons x r ih =>
          intro hr hm
          have hm' : (10 : UInt8) ∈ [32] ++ (x ++ Lib.joinTail [32] r) := by simpa [Lib.joinTail] using hm
          rcases List.mem_append.1 hm' with h2 | h2
          · simp at h2
          · rcases List.mem_append.1 h2 with h3 | h3
            · exact hr x (by simp) h3
            · exact ih (fun w hw => hr w (by simp [hw])) h3
      exact key ws (fun x hx => h x (by simp [hx])) h1
theorem progT_no10 (p : List Int) : (10 : UInt8) ∉ progT p := by
  unfold progT
  split
  · rename_i hv
    split
    · decide
    · refine join_no10 fun w hw => ?_
      obtain ⟨z, hz, rfl⟩ := List.mem_map.1 hw
      exact word_no10 (List.all_eq_true.1 (validB_words hv) z hz)
  · simp
theorem deedT_no10 (k : Int) (t : List UInt8) : (10 : UInt8) ∉ deedT k t := by
  unfold deedT
  split
  · split
    · rename_i h
      unfold readProgP at h
      rcases hr : readProgR t with _ | p
      · rw [hr] at h; cases h
      · rw [← (prog_read hr).2, List.mem_append]
        rintro (h1 | h1)
        · revert h1; decide
        · exact progT_no10 p h1
    · simp
  · split
    · simp
    · split
      · decide
      · split
        · decide
        · simp
theorem lineR_app {l r : List UInt8} (h : (10 : UInt8) ∉ l) : lineR (l ++ 10 :: r) = some (l, r) := by
  induction l with
  | nil => rfl
  | cons c l ih =>
    rw [List.cons_append, lineR, if_neg (fun e => h (by simp [e])), ih (fun e => h (by simp [e]))]
    rfl
theorem deed_read9 {k : Int} {t : List UInt8} (h : deedT k t ≠ []) : deedR (deedT k t) = ((k, t), true) := by
  unfold deedT at h ⊢
  split at h
  · rename_i h0
    subst h0
    split at h
    · rename_i h1
      rw [if_pos rfl, if_pos h1, deedR_do h1]
    · exact absurd rfl h
  · rename_i h0
    rw [if_neg h0]
    split at h
    · exact absurd rfl h
    · rename_i h1
      have ht : t = [] := Classical.not_not.1 h1
      subst ht
      rw [if_neg (by simp)]
      split at h
      · rename_i h2
        rw [if_pos h2, h2]; decide
      · rename_i h2
        rw [if_neg h2]
        split at h
        · rename_i h3
          rw [if_pos h3, h3]; decide
        · exact absurd rfl h
theorem jrn_jpart : ∀ {ds : Deeds}, (∀ d ∈ ds, deedT d.1 d.2 ≠ []) → jrn (jpart ds) = (ds, (jpart ds).length) := by
  intro ds
  induction ds with
  | nil => intro _; rfl
  | cons d ds ih =>
    intro h
    have hd := deed_read9 (h d (by simp))
    have e : jpart (d :: ds) = deedT d.1 d.2 ++ 10 :: jpart ds := by simp [jpart]
    rw [e, jrn_some (lineR_app (deedT_no10 d.1 d.2)) (by rw [hd]), hd, ih (fun x hx => h x (by simp [hx]))]
    simp only [List.length_append, List.length_cons]
    refine Prod.ext rfl ?_
    show _ = _
    omega
theorem jrn_jtx {ds : Deeds} (h : jtx ds ≠ []) : jrn (jtx ds) = (ds, (jtx ds).length) := by
  unfold jtx at h ⊢
  split
  · rename_i h1; exact jrn_jpart h1
  · rename_i h1; rw [if_neg h1] at h; exact absurd rfl h
theorem jtx_len (ds : Deeds) : (jtx ds).length ≤ 404 * ds.length := by
  unfold jtx
  split
  · exact jpart_len ds
  · simp
theorem OwnD.keepG {w w' : World} {lo hi : Nat} {v : Value} {ds : Deeds} {row : Option Nat} (h : OwnD w lo hi v ds) (hg : w.grownBy w' row) (hne : ∀ k, v.ownBlock = some k → row ≠ some k) : OwnD w' lo hi v ds := by
  refine ⟨⟨h.own.1, ?_⟩, h.lt⟩
  rcases h.own.2 with h0 | ⟨b, cap, cur, rfl, hb, hh, h1⟩
  · exact .inl h0
  · exact .inr ⟨b, cap, cur, rfl, hb, (hg.block b (h.own.lt b rfl).2 (fun e => hne b rfl e.symm)).trans hh, h1⟩
def WrPost (w0 : World) (g p : Nat) (bs : List Int) (w : World) (e : Ending) (w' : World) : Prop :=
  ∃ (u : Value) (ds : Deeds) (p' : Nat), e = .returned u ∧ OwnD w' w.heap.size w'.heap.size u ds ∧ ds.length ≤ 6 ∧ (∀ d ∈ ds, d.2.length ≤ 402) ∧ RS w0 w' g bs p' ∧ p' ≤ p + 300000 ∧ Within g (g + 1) w w'
set_option maxHeartbeats 4000000 in
theorem written (w0 : World) (g p : Nat) (bs : List Int) (w : World) (h : RS w0 w g bs p) (hp : p ≤ 100000000000) :
    Calls Tryd.prog 35 #[.pointer (some ⟨g, 0, none⟩)] w (WrPost w0 g p bs w) := by
  have hgw := h.rdr.lt
  have hs0 : w0.heap.size ≤ w.heap.size := h.size
  obtain ⟨W, hW⟩ : ∃ W, w.alloc (.cells #[] 32) = W := ⟨_, rfl⟩
  have hbW : Below w.heap.size w W := by rw [← hW]; exact (Below.refl _ _).alloc (Nat.le_refl _) _
  have hz : W.heap.size = w.heap.size + 1 := by rw [← hW]; simp
  have oW : OwnD W w.heap.size (w.heap.size + 1) (.slice (some ⟨w.heap.size, 0, none⟩) 0 0) [] := by rw [← hW]; exact OwnD.lits w [] (by simp)
  have S0 := Lib.hid (And.intro (h.below hbW hs0) (And.intro oW (Within.of_below (lo := g) (hi := g + 1) hbW))); clear h hbW oW
  go_enter Tryd.func35, Tryd.ntmps35
  go_wp2_with fail
  try rw [hW]
  refine (bench 0 w0 g p bs W (by omega) S0.out.1 (by omega)).mono ?_
  rintro e w1 ⟨vn, vp, n, ps, p1, rfl, hn, hq, hl1, hl2, hl3, hr1, hp1, hw1⟩
  have hz1 := hw1.size
  have S1 := Lib.hid (And.intro hr1 (And.intro (S0.out.2.1.apart hw1 (.inr (by omega))) (And.intro (S0.out.2.2.trans hw1) (And.intro hn (And.intro hq hl3))))); clear hr1 hw1 hn hq hl3 S0
  go_wp2_with fail
  refine (deeds w0 g p1 bs vn vp n ps w1 W.heap.size S1.out.1 (by omega) S1.out.2.2.2.1 S1.out.2.2.2.2.1 (by omega) hl1 hl2 S1.out.2.2.2.2.2 hz1).mono ?_
  rintro e w4 ⟨u, ls, p2, rfl, hls, hll, hlm, hr4, hp4, hw4⟩
  have hz4 := hw4.size
  obtain ⟨Al, cl, rfl, _⟩ := hls.rd
  have S4 := Lib.hid (And.intro hr4 (And.intro (S1.out.2.1.apart hw4 (.inr (by omega))) (And.intro (S1.out.2.2.1.trans hw4) (And.intro hls hlm)))); clear hr4 hw4 hls hlm S1
  go_wp2
  go_loopw [3, 5] (fun v k wr => ∃ (j : Nat) (ds : Deeds), k = .int .i64 j ∧ j ≤ ls.length ∧ ds.length ≤ j ∧ (∀ d ∈ ds, d.2.length ≤ 402) ∧ OwnD wr w.heap.size wr.heap.size v ds ∧ (∀ b, v.ownBlock = some b → b = w.heap.size ∨ w4.heap.size ≤ b) ∧ OwnD wr w1.heap.size w4.heap.size (.slice Al ls.length cl) ls ∧ Below w.heap.size w4 wr) (fun _ k _ => ls.length - (intOf k).toNat)
  case atStart => exact ⟨0, [], rfl, by omega, by simp, by simp, ⟨S4.out.2.1.own, fun b hb => by have := S4.out.2.1.lt b hb; omega⟩, fun b hb => by simp [Value.ownBlock] at hb; omega, S4.out.2.2.2.1, Below.refl _ _⟩
  case round =>
    obtain ⟨j, ds, rfl, hj, hdj, hdm, hod, hbk, hls, hbl⟩ := hrel
    have hzr := hbl.size
    obtain ⟨Ad, cd, rfl, _⟩ := hod.rd
    by_cases hlt : j < ls.length
    · have hltI : (j : Int) < (ls.length : Int) := by omega
      obtain ⟨A', c', he, _, hr1⟩ := hls.rd
      cases he
      obtain ⟨bb, off, rfl, hbb, hc⟩ := hr1 (by omega)
      obtain ⟨d, hd⟩ : ∃ d, ls[j]? = some d := ⟨_, List.getElem?_eq_getElem hlt⟩
      obtain ⟨q0, q1⟩ := hc j d hd
      have hd4 := S4.out.2.2.2.2 d (List.mem_of_getElem? hd)
      obtain ⟨dk, dt⟩ := d
      dsimp only at q0 q1 hd4
      obtain ⟨D, hD⟩ : ∃ D : ByteArray, (⟨dt.toArray⟩ : ByteArray) = D := ⟨_, rfl⟩
      have hDb : bytesOf D = dt := by rw [← hD, bytes_mk]
      have hDz : D.size ≤ 402 := by rw [← hD]; simpa [ByteArray.size] using hd4
      rw [hD] at q1
      have HM := Lib.hid hdm; have HBK := Lib.hid hbk; have HDB := Lib.hid hDb
      have K := Lib.hid (And.intro hod (And.intro hls hbl)); clear hod hls hbl hdm hbk hr1 hc hd hD hDb
      go_wp2_with fail
      refine (DeedText_S dk D wr (by omega)).mono ?_
      rintro e w5 ⟨rfl, hb5⟩
      have hz5 := hb5.size
      have q0' := (hb5.cell (p := ⟨bb, off + j * 2, none⟩) hbb).trans q0
      have q1' := (hb5.cell (p := ⟨bb, off + j * 2 + 1, none⟩) hbb).trans q1
      have Y := Lib.hid (And.intro (show OwnD w5 w.heap.size w5.heap.size (.slice Ad ds.length cd) ds from ⟨(K.out.1.below hb5).own, fun b hb => by have := K.out.1.lt b hb; omega⟩) (And.intro (K.out.2.1.belowB hb5 hzr) (K.out.2.2.trans (hb5.mono (by omega))))); clear hb5 K q0 q1
      obtain ⟨T, hT⟩ : ∃ T : ByteArray, (⟨(deedT dk (bytesOf D)).toArray⟩ : ByteArray) = T := ⟨_, rfl⟩
      rw [hT]
      by_cases hte : bytesOf T = []
      · have hTe : (T.toList == []) = true := by rw [str_eq]; exact decide_eq_true hte
        clear hT hte
        go_wp2
        go_roundw
        case rel => exact ⟨j + 1, ds, by go_num, by omega, by omega, HM.out, Y.out.1, HBK.out, Y.out.2.1, Y.out.2.2⟩
        case measure => simp [intOf]; omega
      · have hTe : (T.toList == []) = false := by rw [str_eq]; exact decide_eq_false hte
        clear hT hte
        have hba : Below w5.heap.size w5 (w5.alloc (.cells #[.int .i64 dk, .string D] 32)) := (Below.refl _ _).alloc (Nat.le_refl _) _
        have kL := Lib.hid (Blk.new w5 #[.int .i64 dk, .string D] 32)
        have hzL : (w5.alloc (.cells #[.int .i64 dk, .string D] 32)).heap.size = w5.heap.size + 1 := by simp
        have L := Lib.hid (And.intro (Y.out.1.below hba) (And.intro (Y.out.2.1.belowB hba (by omega)) (Y.out.2.2.trans (hba.mono (by omega))))); clear hba Y
        obtain ⟨qs, hqs⟩ : ∃ qs, ds ++ [(dk, bytesOf D)] = qs := ⟨_, rfl⟩
        have hql : qs.length = ds.length + 1 := by rw [← hqs]; simp
        have hqm : ∀ d ∈ qs, d.2.length ≤ 402 := by
          intro d hd
          rw [← hqs] at hd
          rcases List.mem_append.1 hd with h | h
          · exact HM.out d h
          · simp only [List.mem_cons, List.not_mem_nil, or_false] at h; subst h; simpa using hDz
        have HQ := Lib.hid hqs; have HQM := Lib.hid hqm; have HQL := Lib.hid hql; clear hqs hqm hql
        go_wp2_with (at_builtin; go_loud (refine wpList_append_D rfl _ _ _ rfl Tryd.underlying38 deedInfo w.heap.size _ _ ds rfl L.out.1 (by simp; omega) w5.heap.size dk (.string D) (bytesOf D) rfl (kL.out.cell 0) (kL.out.cell 1) (by rw [ba_eta]) (by omega) ?_))
        intro v6 w6 ho6 hb6 hg6 hv6
        rw [HQ.out] at ho6
        have hbk6 : ∀ b, v6.ownBlock = some b → b = w.heap.size ∨ w4.heap.size ≤ b := by
          intro b hb
          rcases hv6 with e | e
          · exact HBK.out b (e.symm.trans hb)
          · rw [hb] at e
            have e' : b = w5.heap.size + 1 := Option.some.inj e
            right; omega
        have hls6 := L.out.2.1.keepG hg6 (fun k hk e => by
          have h1 := HBK.out k e
          have h2 := L.out.2.1.blk hk
          have h3 := L.out.2.1.lt k hk
          omega)
        obtain ⟨A6, c6, rfl, _⟩ := ho6.rd
        have R := Lib.hid (And.intro ho6 (And.intro hbk6 (And.intro hls6 (L.out.2.2.trans hb6)))); clear L ho6 hb6 hg6 hv6 hbk6 hls6 kL q0' q1'
        go_wp2
        go_roundw
        case rel => exact ⟨j + 1, qs, by go_num, by omega, by have := HQL.out; omega, HQM.out, R.out.1, R.out.2.1, R.out.2.2.1, R.out.2.2.2⟩
        case measure => simp [intOf]; omega
    · have hltI : ¬ (j : Int) < (ls.length : Int) := by omega
      have K := Lib.hid (And.intro hod (And.intro hbl hdm)); clear hod hls hbl hdm hbk
      go_wp2
      go_ret
      exact ⟨_, ds, p2, rfl, K.out.1, by omega, K.out.2.2, S4.out.1.below K.out.2.1 hs0, by omega, S4.out.2.2.1.then_below K.out.2.1 (Nat.le_refl _)⟩
def DrawnJT (w : World) (e : Ending) (w' : World) : Prop := ∃ (u : Value) (ds : Deeds), e = .returned u ∧ RdD w' u ds ∧ ds.length ≤ 7 ∧ (∀ d ∈ ds, d.2.length ≤ 402) ∧ Below w.heap.size w w'
theorem DrawJournalText_any (v : Value) (zs : List Int) (w : World) (h : RdC w v zs) : Calls Tryd.prog 17 #[v] w (DrawnJT w) := by
  have H := Lib.hid h; clear h
  go_enter Tryd.func17, Tryd.ntmps17
  go_wp2_with fail
  refine (l20Open_any v zs w H.out).mono ?_
  rintro e w1 ⟨g, bs, rfl, hr, hg, hb⟩
  have hgl := hr.lt
  have hz1 := hb.size
  have X := Lib.hid (And.intro hr hb); clear hr hb
  go_wp2_with fail
  refine (written w1 g 0 bs w1 (RS.refl X.out.1) (by omega)).mono ?_
  rintro e w2 ⟨u, ds, p2, rfl, hod, hdl, hdm, hr2, hp2, hw2⟩
  have hz2 := hw2.size
  obtain ⟨Ad, cd, rfl, _⟩ := hod.rd
  have Y := Lib.hid (And.intro hod (And.intro hr2 (And.intro hw2 hdm))); clear hod hr2 hw2 hdm
  go_wp2_with fail
  refine (odd w1 g p2 12 bs w2 Y.out.2.1 (by omega) (by omega)).mono ?_
  rintro e w3 ⟨b, rfl, hr3, hg3⟩
  have hz3 := hg3.size
  have Z := Lib.hid (And.intro (show OwnD w3 w1.heap.size w3.heap.size (.slice Ad ds.length cd) ds from ⟨(Y.out.1.apart hg3 (.inr hgl)).own, fun b hb => by have := Y.out.1.lt b hb; omega⟩) (below_of_within X.out.2 hg (Y.out.2.2.1.trans hg3))); clear hr3 hg3
  rcases b with _ | _
  · go_wp2
    go_ret
    exact ⟨_, ds, rfl, Z.out.1.rd, by omega, Y.out.2.2.2, Z.out.2⟩
  · have hba : Below w3.heap.size w3 (w3.alloc (.cells #[.int .i64 9, .string ⟨#[]⟩] 32)) := (Below.refl _ _).alloc (Nat.le_refl _) _
    have kL := Lib.hid (Blk.new w3 #[.int .i64 9, .string ⟨#[]⟩] 32)
    have L := Lib.hid (And.intro (Z.out.1.below hba) (Z.out.2.trans (hba.mono (by omega)))); clear hba Z
    obtain ⟨qs, hqs⟩ : ∃ qs, ds ++ [((9 : Int), ([] : List UInt8))] = qs := ⟨_, rfl⟩
    have hql : qs.length = ds.length + 1 := by rw [← hqs]; simp
    have hqm : ∀ d ∈ qs, d.2.length ≤ 402 := by
      intro d hd
      rw [← hqs] at hd
      rcases List.mem_append.1 hd with h | h
      · exact Y.out.2.2.2 d h
      · simp only [List.mem_cons, List.not_mem_nil, or_false] at h; subst h; simp
    have HQ := Lib.hid hqs; have HQM := Lib.hid hqm; have HQL := Lib.hid hql; clear hqs hqm hql
    go_wp2_with (at_builtin; go_loud (refine wpList_append_D rfl _ _ _ rfl Tryd.underlying38 deedInfo w1.heap.size _ _ ds rfl L.out.1 (by simp; omega) w3.heap.size 9 (.string ⟨#[]⟩) [] rfl (kL.out.cell 0) (kL.out.cell 1) rfl (by omega) ?_))
    intro v6 w6 ho6 hb6 _ _
    rw [HQ.out] at ho6
    obtain ⟨A6, c6, rfl, _⟩ := ho6.rd
    have R := Lib.hid (And.intro ho6.rd (L.out.2.trans (hb6.mono (by omega)))); clear L ho6 hb6 kL
    go_wp2
    go_ret
    exact ⟨_, qs, rfl, R.out.1, by have := HQL.out; omega, HQM.out, R.out.2⟩
end Go.Proofs.YtjblecinkedppaaDoor
