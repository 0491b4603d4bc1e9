/- The contracts of texts in the words of the exact laws. -/
import Derived.Test.YtdabbjlefpgkmaaDoorNj
namespace Go.Proofs.YtdabbjlefpgkmaaDoor
set_option maxRecDepth 100000
open Go.RowKit Go.WideShapes

def rpR (x : ByteArray) : List Int × Bool := readProgP (bytesOf x)
def ptR (p : List Int) : ByteArray := ⟨(progT p).toArray⟩
def wtR (z : Int) : ByteArray := ⟨(wordT z).toArray⟩
theorem readProgP_valid (l : List UInt8) : validB (readProgP l).1 = true := by
  unfold readProgP
  rcases h : readProgR l with _ | p
  · decide
  · exact (prog_read h).1
theorem rp_len (x : ByteArray) : szI (rpR x).1 ≤ 1000000 := by
  have := validB_len (readProgP_valid (bytesOf x))
  unfold szI rpR; omega
theorem ProgText_XS (v0 : Value) (x0 : List Int) (w : World) (h0 : RdI w v0 x0) (_hl : x0.length ≤ 1048576) (y0 : ByteArray) (hR : ptR x0 = y0) :
    Calls Tryd.prog 76 #[v0] w fun e w' => e = .returned (.string y0) ∧ Below w.heap.size w w' := by
  subst hR; exact ProgText_S v0 x0 w h0
theorem WordText_XS (x0 : Int) (w : World) (_h : InK .i64 x0) (y0 : ByteArray) (hR : wtR x0 = y0) :
    Calls Tryd.prog 96 #[.int .i64 x0] w fun e w' => e = .returned (.string y0) ∧ Below w.heap.size w w' := by
  subst hR; exact WordText_S x0 w
end Go.Proofs.YtdabbjlefpgkmaaDoor
