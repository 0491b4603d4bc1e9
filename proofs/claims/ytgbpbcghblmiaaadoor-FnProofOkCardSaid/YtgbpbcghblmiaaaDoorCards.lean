/-
  DERIVED. GIVEN WITH THE SEED: THE CARDS: each row of YtgbpbcghblmiaaaDoorRows.lean that lists a variable, with what it lists TIED to the program's text (the seventh form; the later family's looks); each row that meets fmt, with fmt's text TOLD by the authors' own Lean function (tested against real Go, not proved from fmt's source: count such statements apart). THE CARD IS WHAT COUNTS. Prove the row's statement (the work); the ties are given (YtgbpbcghblmiaaaDoorTie.lean); close each card by the builder's one call (the guide's Derived/Test/ToyasCard.lean, 'card_holds'). Laid BY PROGRAM, IN A SANDBOX (cutbox-door.mjs). By AI agents, Wed Nov 11 2026. No macro, syntax, notation, axiom, sorry.
-/
import Derived.Test.YtgbpbcghblmiaaaDoorRows
import GoSem.ClaimSeven
namespace Go.Proofs.YtgbpbcghblmiaaaDoor
namespace Rows

/-- THE TIED CARD OF 'laws.FnProofRun'. -/
def fnProofRunCard : Claim7 := { stood := { row := fnProofRunRow, standIns := [], harness := (true, "99aa632277dc851b30447f7a9af7b0e08b01b89c3494428da30920cf59159bc7"), looks := false }, kinds := [], alts := [], laidByText := true, laidKinds := [.data], laidTests := true, laidLooks := .later }
def FnProofRunCardSaid : Prop := Claim7.holds Tryd.pinned (.plain (OpenSpec.ofChange fnProofRunSpec)) fnProofRunCard

/-- THE TIED CARD OF 'laws.FnProofOk'. -/
def fnProofOkCard : Claim7 := { stood := { row := fnProofOkRow, standIns := [], harness := (true, "99aa632277dc851b30447f7a9af7b0e08b01b89c3494428da30920cf59159bc7"), looks := false }, kinds := [], alts := [], laidByText := true, laidKinds := [.data], laidTests := true, laidLooks := .later }
def FnProofOkCardSaid : Prop := Claim7.holds Tryd.pinned (.plain (OpenSpec.ofChange fnProofOkSpec)) fnProofOkCard

/-- THE TIED CARD OF 'laws.FnSimpleBy'. -/
def fnSimpleByCard : Claim7 := { stood := { row := fnSimpleByRow, standIns := [], harness := (true, "99aa632277dc851b30447f7a9af7b0e08b01b89c3494428da30920cf59159bc7"), looks := false }, kinds := [], alts := [], laidByText := true, laidKinds := [.data], laidTests := true, laidLooks := .later }
def FnSimpleByCardSaid : Prop := Claim7.holds Tryd.pinned (.plain (OpenSpec.ofChange fnSimpleBySpec)) fnSimpleByCard

/-- THE TIED CARD OF 'laws.FnSimpleOf'. -/
def fnSimpleOfCard : Claim7 := { stood := { row := fnSimpleOfRow, standIns := [], harness := (true, "99aa632277dc851b30447f7a9af7b0e08b01b89c3494428da30920cf59159bc7"), looks := false }, kinds := [], alts := [], laidByText := true, laidKinds := [.data], laidTests := true, laidLooks := .later }
def FnSimpleOfCardSaid : Prop := Claim7.holds Tryd.pinned (.plain (OpenSpec.ofChange fnSimpleOfSpec)) fnSimpleOfCard

/-- THE TIED CARD OF 'laws.FnExactProofRun'. -/
def fnExactProofRunCard : Claim7 := { stood := { row := fnExactProofRunRow, standIns := [], harness := (true, "99aa632277dc851b30447f7a9af7b0e08b01b89c3494428da30920cf59159bc7"), looks := false }, kinds := [], alts := [], laidByText := true, laidKinds := [.data], laidTests := true, laidLooks := .later }
def FnExactProofRunCardSaid : Prop := Claim7.holds Tryd.pinned (.plain (OpenSpec.ofChange fnExactProofRunSpec)) fnExactProofRunCard

/-- THE TIED CARD OF 'laws.FnExactProofOk'. -/
def fnExactProofOkCard : Claim7 := { stood := { row := fnExactProofOkRow, standIns := [], harness := (true, "99aa632277dc851b30447f7a9af7b0e08b01b89c3494428da30920cf59159bc7"), looks := false }, kinds := [], alts := [], laidByText := true, laidKinds := [.data], laidTests := true, laidLooks := .later }
def FnExactProofOkCardSaid : Prop := Claim7.holds Tryd.pinned (.plain (OpenSpec.ofChange fnExactProofOkSpec)) fnExactProofOkCard

/-- THE TIED CARD OF 'laws.FnExactSimpleBy'. -/
def fnExactSimpleByCard : Claim7 := { stood := { row := fnExactSimpleByRow, standIns := [], harness := (true, "99aa632277dc851b30447f7a9af7b0e08b01b89c3494428da30920cf59159bc7"), looks := false }, kinds := [], alts := [], laidByText := true, laidKinds := [.data], laidTests := true, laidLooks := .later }
def FnExactSimpleByCardSaid : Prop := Claim7.holds Tryd.pinned (.plain (OpenSpec.ofChange fnExactSimpleBySpec)) fnExactSimpleByCard

/-- THE TIED CARD OF 'laws.FnExactSimpleOf'. -/
def fnExactSimpleOfCard : Claim7 := { stood := { row := fnExactSimpleOfRow, standIns := [], harness := (true, "99aa632277dc851b30447f7a9af7b0e08b01b89c3494428da30920cf59159bc7"), looks := false }, kinds := [], alts := [], laidByText := true, laidKinds := [.data], laidTests := true, laidLooks := .later }
def FnExactSimpleOfCardSaid : Prop := Claim7.holds Tryd.pinned (.plain (OpenSpec.ofChange fnExactSimpleOfSpec)) fnExactSimpleOfCard

/-- THE SECOND FORM's CARD OF 'laws.FnProofRun'. -/
def fnProofRunUptoCard : Claim7 := { stood := { row := fnProofRunUptoRow, standIns := [], harness := (true, "99aa632277dc851b30447f7a9af7b0e08b01b89c3494428da30920cf59159bc7"), looks := false }, kinds := [], alts := [], laidByText := true, laidKinds := [.data], laidTests := true, laidLooks := .later }
def FnProofRunUptoCardSaid : Prop := Claim7.holds Tryd.pinned (.plain (OpenSpec.upto fnProofRunSpec)) fnProofRunUptoCard

/-- THE SECOND FORM's CARD OF 'laws.FnProofOk'. -/
def fnProofOkUptoCard : Claim7 := { stood := { row := fnProofOkUptoRow, standIns := [], harness := (true, "99aa632277dc851b30447f7a9af7b0e08b01b89c3494428da30920cf59159bc7"), looks := false }, kinds := [], alts := [], laidByText := true, laidKinds := [.data], laidTests := true, laidLooks := .later }
def FnProofOkUptoCardSaid : Prop := Claim7.holds Tryd.pinned (.plain (OpenSpec.upto fnProofOkSpec)) fnProofOkUptoCard

/-- THE SECOND FORM's CARD OF 'laws.FnSimpleBy'. -/
def fnSimpleByUptoCard : Claim7 := { stood := { row := fnSimpleByUptoRow, standIns := [], harness := (true, "99aa632277dc851b30447f7a9af7b0e08b01b89c3494428da30920cf59159bc7"), looks := false }, kinds := [], alts := [], laidByText := true, laidKinds := [.data], laidTests := true, laidLooks := .later }
def FnSimpleByUptoCardSaid : Prop := Claim7.holds Tryd.pinned (.plain (OpenSpec.upto fnSimpleBySpec)) fnSimpleByUptoCard

/-- THE SECOND FORM's CARD OF 'laws.FnSimpleOf'. -/
def fnSimpleOfUptoCard : Claim7 := { stood := { row := fnSimpleOfUptoRow, standIns := [], harness := (true, "99aa632277dc851b30447f7a9af7b0e08b01b89c3494428da30920cf59159bc7"), looks := false }, kinds := [], alts := [], laidByText := true, laidKinds := [.data], laidTests := true, laidLooks := .later }
def FnSimpleOfUptoCardSaid : Prop := Claim7.holds Tryd.pinned (.plain (OpenSpec.upto fnSimpleOfSpec)) fnSimpleOfUptoCard

/-- THE SECOND FORM's CARD OF 'laws.FnExactProofRun'. -/
def fnExactProofRunUptoCard : Claim7 := { stood := { row := fnExactProofRunUptoRow, standIns := [], harness := (true, "99aa632277dc851b30447f7a9af7b0e08b01b89c3494428da30920cf59159bc7"), looks := false }, kinds := [], alts := [], laidByText := true, laidKinds := [.data], laidTests := true, laidLooks := .later }
def FnExactProofRunUptoCardSaid : Prop := Claim7.holds Tryd.pinned (.plain (OpenSpec.upto fnExactProofRunSpec)) fnExactProofRunUptoCard

/-- THE SECOND FORM's CARD OF 'laws.FnExactProofOk'. -/
def fnExactProofOkUptoCard : Claim7 := { stood := { row := fnExactProofOkUptoRow, standIns := [], harness := (true, "99aa632277dc851b30447f7a9af7b0e08b01b89c3494428da30920cf59159bc7"), looks := false }, kinds := [], alts := [], laidByText := true, laidKinds := [.data], laidTests := true, laidLooks := .later }
def FnExactProofOkUptoCardSaid : Prop := Claim7.holds Tryd.pinned (.plain (OpenSpec.upto fnExactProofOkSpec)) fnExactProofOkUptoCard

/-- THE SECOND FORM's CARD OF 'laws.FnExactSimpleBy'. -/
def fnExactSimpleByUptoCard : Claim7 := { stood := { row := fnExactSimpleByUptoRow, standIns := [], harness := (true, "99aa632277dc851b30447f7a9af7b0e08b01b89c3494428da30920cf59159bc7"), looks := false }, kinds := [], alts := [], laidByText := true, laidKinds := [.data], laidTests := true, laidLooks := .later }
def FnExactSimpleByUptoCardSaid : Prop := Claim7.holds Tryd.pinned (.plain (OpenSpec.upto fnExactSimpleBySpec)) fnExactSimpleByUptoCard

/-- THE SECOND FORM's CARD OF 'laws.FnExactSimpleOf'. -/
def fnExactSimpleOfUptoCard : Claim7 := { stood := { row := fnExactSimpleOfUptoRow, standIns := [], harness := (true, "99aa632277dc851b30447f7a9af7b0e08b01b89c3494428da30920cf59159bc7"), looks := false }, kinds := [], alts := [], laidByText := true, laidKinds := [.data], laidTests := true, laidLooks := .later }
def FnExactSimpleOfUptoCardSaid : Prop := Claim7.holds Tryd.pinned (.plain (OpenSpec.upto fnExactSimpleOfSpec)) fnExactSimpleOfUptoCard
end Rows
end Go.Proofs.YtgbpbcghblmiaaaDoor
