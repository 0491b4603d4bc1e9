/- strings.Builder at this program: WriteString and WriteByte, laid by hand. -/
import Derived.Test.YtdabbjlefpgkmaaDoorSh
namespace Go.Proofs.YtdabbjlefpgkmaaDoor
set_option maxRecDepth 100000
open Go.Shelf

theorem sz_of {P : Program} {t : TypeId} {n : Nat} (h : (P.info? t).map (·.size) = some n) : ∀ w, (Go.sizeOf t).run P w = .ok n w := by
  intro w
  obtain ⟨i, hi, hs⟩ := Option.map_eq_some_iff.1 h
  simp [Go.sizeOf, typeInfo, hi, hs]
theorem zv_of {P : Program} {t : TypeId} {v : Value} (h : (P.info? t).map (·.zero) = some (some v)) : ∀ w, (zeroValue t).run P w = .ok v w := by
  intro w
  obtain ⟨i, hi, hs⟩ := Option.map_eq_some_iff.1 h
  simp [zeroValue, typeInfo, hi, hs]
def lays167_ren : Go.Shelf.Ren := ⟨fun | 167 => 51 | 240 => 72 | 276 => 92 | n => n, fun | 0 => 0 | 4 => 4 | 5 => 5 | 9 => 9 | 20 => 20 | 37 => 53 | 70 => 73 | 72 => 75 | 75 => 77 | 80 => 81 | 164 => 114 | n => n, fun | n => n⟩
theorem lays167 : Go.Proofs.Lays.n167 Tryd.prog lays167_ren := {
  mixed := by kernel_rfl
  f167 := Tryd.func51.trans (congrArg some (by kernel_rfl))
  f240 := Tryd.func72.trans (congrArg some (by kernel_rfl))
  f276 := Tryd.func92.trans (congrArg some (by kernel_rfl))
  t0 := by kernel_rfl
  a0 := run_isAgg_plain (show Tryd.prog.underlying 0 = some (.tuple #[]) by kernel_rfl) rfl
  z0 := sz_of (by kernel_rfl)
  v0 := zv_of (by kernel_rfl)
  t4 := by kernel_rfl
  a4 := run_isAgg_plain (show Tryd.prog.underlying 4 = some .bool by kernel_rfl) rfl
  z4 := sz_of (by kernel_rfl)
  v4 := zv_of (by kernel_rfl)
  t5 := by kernel_rfl
  a5 := run_isAgg_plain (show Tryd.prog.underlying 5 = some (.int .u8) by kernel_rfl) rfl
  z5 := sz_of (by kernel_rfl)
  v5 := zv_of (by kernel_rfl)
  t9 := by kernel_rfl
  a9 := run_isAgg_plain (show Tryd.prog.underlying 9 = some .string by kernel_rfl) rfl
  z9 := sz_of (by kernel_rfl)
  v9 := zv_of (by kernel_rfl)
  t20 := by kernel_rfl
  a20 := run_isAgg_plain (show Tryd.prog.underlying 20 = some (.interface #[]) by kernel_rfl) rfl
  z20 := sz_of (by kernel_rfl)
  v20 := zv_of (by kernel_rfl)
  t37 := by kernel_rfl
  a37 := run_isAgg_plain (show Tryd.prog.underlying 53 = some (.slice 5) by kernel_rfl) rfl
  z37 := sz_of (by kernel_rfl)
  v37 := zv_of (by kernel_rfl)
  t70 := by kernel_rfl
  a70 := run_isAgg_plain (show Tryd.prog.underlying 73 = some (.pointer 75) by kernel_rfl) rfl
  z70 := sz_of (by kernel_rfl)
  v70 := zv_of (by kernel_rfl)
  t72 := by kernel_rfl
  a72 := Tryd.isAgg75
  z72 := sz_of (by kernel_rfl)
  v72 := zv_of (by kernel_rfl)
  t75 := by kernel_rfl
  a75 := run_isAgg_plain (show Tryd.prog.underlying 77 = some (.interface #[("Error", 81)]) by kernel_rfl) rfl
  z75 := sz_of (by kernel_rfl)
  v75 := zv_of (by kernel_rfl)
  t164 := by kernel_rfl
  a164 := run_isAgg_plain (show Tryd.prog.underlying 114 = some .unsafePointer by kernel_rfl) rfl
  z164 := sz_of (by kernel_rfl)
  v164 := zv_of (by kernel_rfl) }
theorem extra167 : Builder.Extra Tryd.prog lays167_ren := {
  sizeBuilder := by kernel_rfl
  liesBuilder := by kernel_rfl
  t5 := by kernel_rfl
  a5 := run_isAgg_plain (show Tryd.prog.underlying 5 = some (.int .u8) by kernel_rfl) rfl
  z5 := sz_of (by kernel_rfl)
  v5 := zv_of (by kernel_rfl)
  infoByte := by kernel_rfl
  cellsByte := by kernel_rfl
  sizeByte := by kernel_rfl
  neB5 := by decide }
def lays166_ren : Go.Shelf.Ren := ⟨fun | 166 => 50 | 240 => 72 | 276 => 92 | n => n, fun | 0 => 0 | 3 => 3 | 4 => 4 | 9 => 9 | 20 => 20 | 37 => 53 | 70 => 73 | 72 => 75 | 75 => 77 | 80 => 81 | 164 => 114 | n => n, fun | n => n⟩
theorem lays166 : Go.Proofs.Lays.n166 Tryd.prog lays166_ren := {
  mixed := by kernel_rfl
  f166 := Tryd.func50.trans (congrArg some (by kernel_rfl))
  f240 := Tryd.func72.trans (congrArg some (by kernel_rfl))
  f276 := Tryd.func92.trans (congrArg some (by kernel_rfl))
  t0 := by kernel_rfl
  a0 := run_isAgg_plain (show Tryd.prog.underlying 0 = some (.tuple #[]) by kernel_rfl) rfl
  z0 := sz_of (by kernel_rfl)
  v0 := zv_of (by kernel_rfl)
  t3 := by kernel_rfl
  a3 := run_isAgg_plain (show Tryd.prog.underlying 3 = some (.int .i64) by kernel_rfl) rfl
  z3 := sz_of (by kernel_rfl)
  v3 := zv_of (by kernel_rfl)
  t4 := by kernel_rfl
  a4 := run_isAgg_plain (show Tryd.prog.underlying 4 = some .bool by kernel_rfl) rfl
  z4 := sz_of (by kernel_rfl)
  v4 := zv_of (by kernel_rfl)
  t9 := by kernel_rfl
  a9 := run_isAgg_plain (show Tryd.prog.underlying 9 = some .string by kernel_rfl) rfl
  z9 := sz_of (by kernel_rfl)
  v9 := zv_of (by kernel_rfl)
  t20 := by kernel_rfl
  a20 := run_isAgg_plain (show Tryd.prog.underlying 20 = some (.interface #[]) by kernel_rfl) rfl
  z20 := sz_of (by kernel_rfl)
  v20 := zv_of (by kernel_rfl)
  t37 := by kernel_rfl
  a37 := run_isAgg_plain (show Tryd.prog.underlying 53 = some (.slice 5) by kernel_rfl) rfl
  z37 := sz_of (by kernel_rfl)
  v37 := zv_of (by kernel_rfl)
  t70 := by kernel_rfl
  a70 := run_isAgg_plain (show Tryd.prog.underlying 73 = some (.pointer 75) by kernel_rfl) rfl
  z70 := sz_of (by kernel_rfl)
  v70 := zv_of (by kernel_rfl)
  t72 := by kernel_rfl
  a72 := Tryd.isAgg75
  z72 := sz_of (by kernel_rfl)
  v72 := zv_of (by kernel_rfl)
  t75 := by kernel_rfl
  a75 := run_isAgg_plain (show Tryd.prog.underlying 77 = some (.interface #[("Error", 81)]) by kernel_rfl) rfl
  z75 := sz_of (by kernel_rfl)
  v75 := zv_of (by kernel_rfl)
  t164 := by kernel_rfl
  a164 := run_isAgg_plain (show Tryd.prog.underlying 114 = some .unsafePointer by kernel_rfl) rfl
  z164 := sz_of (by kernel_rfl)
  v164 := zv_of (by kernel_rfl) }
theorem extra166 : Builder.Extra Tryd.prog lays166_ren := {
  sizeBuilder := by kernel_rfl
  liesBuilder := by kernel_rfl
  t5 := by kernel_rfl
  a5 := run_isAgg_plain (show Tryd.prog.underlying 5 = some (.int .u8) by kernel_rfl) rfl
  z5 := sz_of (by kernel_rfl)
  v5 := zv_of (by kernel_rfl)
  infoByte := by kernel_rfl
  cellsByte := by kernel_rfl
  sizeByte := by kernel_rfl
  neB5 := by decide }
end Go.Proofs.YtdabbjlefpgkmaaDoor
