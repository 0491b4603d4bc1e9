/-
  DERIVED. GIVEN WITH THE SEED: THE CARDS: each row of YtkdpfiaegimnlaaDoorRows.lean that lists a variable, with what it lists TIED to the program's text (the seventh form; the later family's looks); each row that meets fmt, with fmt's text TOLD by the authors' own Lean function (tested against real Go, not proved from fmt's source: count such statements apart). THE CARD IS WHAT COUNTS. Prove the row's statement (the work); the ties are given (YtkdpfiaegimnlaaDoorTie.lean); close each card by the builder's one call (the guide's Derived/Test/ToyasCard.lean, 'card_holds'). Laid BY PROGRAM, IN A SANDBOX (cutbox-door.mjs). By AI agents, Wed Nov 11 2026. No macro, syntax, notation, axiom, sorry.
-/
import Derived.Test.YtkdpfiaegimnlaaDoorRows
import GoSem.ClaimSeven
namespace Go.Proofs.YtkdpfiaegimnlaaDoor
namespace Rows

/-- THE TIED CARD OF 'laws.FnProofOk'. -/
def fnProofOkCard : Claim7 := { stood := { row := fnProofOkRow, standIns := [], harness := (true, "9616f8ea688d651637cc144d197cb26998da4702f681fc3a32b62d45ff5c514d"), looks := false }, kinds := [], alts := [], laidByText := true, laidKinds := [.data], laidTests := true, laidLooks := .later }
def FnProofOkCardSaid : Prop := Claim7.holds Tryd.pinned (.plain (OpenSpec.ofChange fnProofOkSpec)) fnProofOkCard

/-- THE TIED CARD OF 'laws.FnSimpleOf'. -/
def fnSimpleOfCard : Claim7 := { stood := { row := fnSimpleOfRow, standIns := [], harness := (true, "9616f8ea688d651637cc144d197cb26998da4702f681fc3a32b62d45ff5c514d"), looks := false }, kinds := [], alts := [], laidByText := true, laidKinds := [.data], laidTests := true, laidLooks := .later }
def FnSimpleOfCardSaid : Prop := Claim7.holds Tryd.pinned (.plain (OpenSpec.ofChange fnSimpleOfSpec)) fnSimpleOfCard

/-- THE SECOND FORM's CARD OF 'laws.FnProofOk'. -/
def fnProofOkUptoCard : Claim7 := { stood := { row := fnProofOkUptoRow, standIns := [], harness := (true, "9616f8ea688d651637cc144d197cb26998da4702f681fc3a32b62d45ff5c514d"), looks := false }, kinds := [], alts := [], laidByText := true, laidKinds := [.data], laidTests := true, laidLooks := .later }
def FnProofOkUptoCardSaid : Prop := Claim7.holds Tryd.pinned (.plain (OpenSpec.upto fnProofOkSpec)) fnProofOkUptoCard

/-- THE SECOND FORM's CARD OF 'laws.FnSimpleOf'. -/
def fnSimpleOfUptoCard : Claim7 := { stood := { row := fnSimpleOfUptoRow, standIns := [], harness := (true, "9616f8ea688d651637cc144d197cb26998da4702f681fc3a32b62d45ff5c514d"), looks := false }, kinds := [], alts := [], laidByText := true, laidKinds := [.data], laidTests := true, laidLooks := .later }
def FnSimpleOfUptoCardSaid : Prop := Claim7.holds Tryd.pinned (.plain (OpenSpec.upto fnSimpleOfSpec)) fnSimpleOfUptoCard
end Rows
end Go.Proofs.YtkdpfiaegimnlaaDoor
