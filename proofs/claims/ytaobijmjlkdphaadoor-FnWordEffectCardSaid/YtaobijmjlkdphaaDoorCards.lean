/-
  DERIVED. GIVEN WITH THE SEED: THE CARDS: each row of YtaobijmjlkdphaaDoorRows.lean that lists a variable, with what it lists TIED to the program's text (the seventh form; the later family's looks); each row that meets fmt, with fmt's text TOLD by the authors' own Lean function (tested against real Go, not proved from fmt's source: count such statements apart). THE CARD IS WHAT COUNTS. Prove the row's statement (the work); the ties are given (YtaobijmjlkdphaaDoorTie.lean); close each card by the builder's one call (the guide's Derived/Test/ToyasCard.lean, 'card_holds'). Laid BY PROGRAM, IN A SANDBOX (cutbox-door.mjs). By AI agents, Wed Nov 11 2026. No macro, syntax, notation, axiom, sorry.
-/
import Derived.Test.YtaobijmjlkdphaaDoorRows
import GoSem.ClaimSeven
namespace Go.Proofs.YtaobijmjlkdphaaDoor
namespace Rows

/-- THE TIED CARD OF 'laws.FnExactWordText'. -/
def fnExactWordTextCard : Claim7 := { stood := { row := fnExactWordTextRow, standIns := [], harness := (true, "8a73059835e92f652f69629d4ebadc1b40f7b3d72c812d03f1fbdbaf9eaa0593"), looks := false }, kinds := [], alts := [], laidByText := true, laidKinds := [.data, .data, .data, .data], laidTests := true, laidLooks := .later }
def FnExactWordTextCardSaid : Prop := Claim7.holds Tryd.pinned (.plain (OpenSpec.ofChange fnExactWordTextSpec)) fnExactWordTextCard

/-- THE TIED CARD OF 'laws.FnExactReadWord'. -/
def fnExactReadWordCard : Claim7 := { stood := { row := fnExactReadWordRow, standIns := [], harness := (true, "8a73059835e92f652f69629d4ebadc1b40f7b3d72c812d03f1fbdbaf9eaa0593"), looks := false }, kinds := [], alts := [], laidByText := true, laidKinds := [.data], laidTests := true, laidLooks := .later }
def FnExactReadWordCardSaid : Prop := Claim7.holds Tryd.pinned (.plain (OpenSpec.ofChange fnExactReadWordSpec)) fnExactReadWordCard

/-- THE TIED CARD OF 'laws.FnExactProgText'. -/
def fnExactProgTextCard : Claim7 := { stood := { row := fnExactProgTextRow, standIns := [], harness := (true, "8a73059835e92f652f69629d4ebadc1b40f7b3d72c812d03f1fbdbaf9eaa0593"), looks := false }, kinds := [], alts := [], laidByText := true, laidKinds := [.data, .data, .data, .data], laidTests := true, laidLooks := .later }
def FnExactProgTextCardSaid : Prop := Claim7.holds Tryd.pinned (.plain (OpenSpec.ofChange fnExactProgTextSpec)) fnExactProgTextCard

/-- THE TIED CARD OF 'laws.FnExactReadProg'. -/
def fnExactReadProgCard : Claim7 := { stood := { row := fnExactReadProgRow, standIns := [], harness := (true, "8a73059835e92f652f69629d4ebadc1b40f7b3d72c812d03f1fbdbaf9eaa0593"), looks := false }, kinds := [], alts := [], laidByText := true, laidKinds := [.data], laidTests := true, laidLooks := .later }
def FnExactReadProgCardSaid : Prop := Claim7.holds Tryd.pinned (.plain (OpenSpec.ofChange fnExactReadProgSpec)) fnExactReadProgCard

/-- THE TIED CARD OF 'laws.FnWordText'. -/
def fnWordTextCard : Claim7 := { stood := { row := fnWordTextRow, standIns := [], harness := (true, "8a73059835e92f652f69629d4ebadc1b40f7b3d72c812d03f1fbdbaf9eaa0593"), looks := false }, kinds := [], alts := [], laidByText := true, laidKinds := [.data, .data, .data, .data], laidTests := true, laidLooks := .later }
def FnWordTextCardSaid : Prop := Claim7.holds Tryd.pinned (.plain (OpenSpec.ofChange fnWordTextSpec)) fnWordTextCard

/-- THE TIED CARD OF 'laws.FnReadWord'. -/
def fnReadWordCard : Claim7 := { stood := { row := fnReadWordRow, standIns := [], harness := (true, "8a73059835e92f652f69629d4ebadc1b40f7b3d72c812d03f1fbdbaf9eaa0593"), looks := false }, kinds := [], alts := [], laidByText := true, laidKinds := [.data, .data, .data, .data], laidTests := true, laidLooks := .later }
def FnReadWordCardSaid : Prop := Claim7.holds Tryd.pinned (.plain (OpenSpec.ofChange fnReadWordSpec)) fnReadWordCard

/-- THE TIED CARD OF 'laws.FnProgText'. -/
def fnProgTextCard : Claim7 := { stood := { row := fnProgTextRow, standIns := [], harness := (true, "8a73059835e92f652f69629d4ebadc1b40f7b3d72c812d03f1fbdbaf9eaa0593"), looks := false }, kinds := [], alts := [], laidByText := true, laidKinds := [.data, .data, .data, .data], laidTests := true, laidLooks := .later }
def FnProgTextCardSaid : Prop := Claim7.holds Tryd.pinned (.plain (OpenSpec.ofChange fnProgTextSpec)) fnProgTextCard

/-- THE TIED CARD OF 'laws.FnReadProg'. -/
def fnReadProgCard : Claim7 := { stood := { row := fnReadProgRow, standIns := [], harness := (true, "8a73059835e92f652f69629d4ebadc1b40f7b3d72c812d03f1fbdbaf9eaa0593"), looks := false }, kinds := [], alts := [], laidByText := true, laidKinds := [.data, .data, .data, .data], laidTests := true, laidLooks := .later }
def FnReadProgCardSaid : Prop := Claim7.holds Tryd.pinned (.plain (OpenSpec.ofChange fnReadProgSpec)) fnReadProgCard

/-- THE TIED CARD OF 'laws.FnWordEffect'. -/
def fnWordEffectCard : Claim7 := { stood := { row := fnWordEffectRow, standIns := [], harness := (true, "8a73059835e92f652f69629d4ebadc1b40f7b3d72c812d03f1fbdbaf9eaa0593"), looks := false }, kinds := [], alts := [], laidByText := true, laidKinds := [.data, .data, .data, .data], laidTests := true, laidLooks := .later }
def FnWordEffectCardSaid : Prop := Claim7.holds Tryd.pinned (.plain (OpenSpec.ofChange fnWordEffectSpec)) fnWordEffectCard

/-- THE SECOND FORM's CARD OF 'laws.FnExactWordText'. -/
def fnExactWordTextUptoCard : Claim7 := { stood := { row := fnExactWordTextUptoRow, standIns := [], harness := (true, "8a73059835e92f652f69629d4ebadc1b40f7b3d72c812d03f1fbdbaf9eaa0593"), looks := false }, kinds := [], alts := [], laidByText := true, laidKinds := [.data, .data, .data, .data], laidTests := true, laidLooks := .later }
def FnExactWordTextUptoCardSaid : Prop := Claim7.holds Tryd.pinned (.plain (OpenSpec.upto fnExactWordTextSpec)) fnExactWordTextUptoCard

/-- THE SECOND FORM's CARD OF 'laws.FnExactReadWord'. -/
def fnExactReadWordUptoCard : Claim7 := { stood := { row := fnExactReadWordUptoRow, standIns := [], harness := (true, "8a73059835e92f652f69629d4ebadc1b40f7b3d72c812d03f1fbdbaf9eaa0593"), looks := false }, kinds := [], alts := [], laidByText := true, laidKinds := [.data], laidTests := true, laidLooks := .later }
def FnExactReadWordUptoCardSaid : Prop := Claim7.holds Tryd.pinned (.plain (OpenSpec.upto fnExactReadWordSpec)) fnExactReadWordUptoCard

/-- THE SECOND FORM's CARD OF 'laws.FnExactProgText'. -/
def fnExactProgTextUptoCard : Claim7 := { stood := { row := fnExactProgTextUptoRow, standIns := [], harness := (true, "8a73059835e92f652f69629d4ebadc1b40f7b3d72c812d03f1fbdbaf9eaa0593"), looks := false }, kinds := [], alts := [], laidByText := true, laidKinds := [.data, .data, .data, .data], laidTests := true, laidLooks := .later }
def FnExactProgTextUptoCardSaid : Prop := Claim7.holds Tryd.pinned (.plain (OpenSpec.upto fnExactProgTextSpec)) fnExactProgTextUptoCard

/-- THE SECOND FORM's CARD OF 'laws.FnExactReadProg'. -/
def fnExactReadProgUptoCard : Claim7 := { stood := { row := fnExactReadProgUptoRow, standIns := [], harness := (true, "8a73059835e92f652f69629d4ebadc1b40f7b3d72c812d03f1fbdbaf9eaa0593"), looks := false }, kinds := [], alts := [], laidByText := true, laidKinds := [.data], laidTests := true, laidLooks := .later }
def FnExactReadProgUptoCardSaid : Prop := Claim7.holds Tryd.pinned (.plain (OpenSpec.upto fnExactReadProgSpec)) fnExactReadProgUptoCard

/-- THE SECOND FORM's CARD OF 'laws.FnWordText'. -/
def fnWordTextUptoCard : Claim7 := { stood := { row := fnWordTextUptoRow, standIns := [], harness := (true, "8a73059835e92f652f69629d4ebadc1b40f7b3d72c812d03f1fbdbaf9eaa0593"), looks := false }, kinds := [], alts := [], laidByText := true, laidKinds := [.data, .data, .data, .data], laidTests := true, laidLooks := .later }
def FnWordTextUptoCardSaid : Prop := Claim7.holds Tryd.pinned (.plain (OpenSpec.upto fnWordTextSpec)) fnWordTextUptoCard

/-- THE SECOND FORM's CARD OF 'laws.FnReadWord'. -/
def fnReadWordUptoCard : Claim7 := { stood := { row := fnReadWordUptoRow, standIns := [], harness := (true, "8a73059835e92f652f69629d4ebadc1b40f7b3d72c812d03f1fbdbaf9eaa0593"), looks := false }, kinds := [], alts := [], laidByText := true, laidKinds := [.data, .data, .data, .data], laidTests := true, laidLooks := .later }
def FnReadWordUptoCardSaid : Prop := Claim7.holds Tryd.pinned (.plain (OpenSpec.upto fnReadWordSpec)) fnReadWordUptoCard

/-- THE SECOND FORM's CARD OF 'laws.FnProgText'. -/
def fnProgTextUptoCard : Claim7 := { stood := { row := fnProgTextUptoRow, standIns := [], harness := (true, "8a73059835e92f652f69629d4ebadc1b40f7b3d72c812d03f1fbdbaf9eaa0593"), looks := false }, kinds := [], alts := [], laidByText := true, laidKinds := [.data, .data, .data, .data], laidTests := true, laidLooks := .later }
def FnProgTextUptoCardSaid : Prop := Claim7.holds Tryd.pinned (.plain (OpenSpec.upto fnProgTextSpec)) fnProgTextUptoCard

/-- THE SECOND FORM's CARD OF 'laws.FnReadProg'. -/
def fnReadProgUptoCard : Claim7 := { stood := { row := fnReadProgUptoRow, standIns := [], harness := (true, "8a73059835e92f652f69629d4ebadc1b40f7b3d72c812d03f1fbdbaf9eaa0593"), looks := false }, kinds := [], alts := [], laidByText := true, laidKinds := [.data, .data, .data, .data], laidTests := true, laidLooks := .later }
def FnReadProgUptoCardSaid : Prop := Claim7.holds Tryd.pinned (.plain (OpenSpec.upto fnReadProgSpec)) fnReadProgUptoCard

/-- THE SECOND FORM's CARD OF 'laws.FnWordEffect'. -/
def fnWordEffectUptoCard : Claim7 := { stood := { row := fnWordEffectUptoRow, standIns := [], harness := (true, "8a73059835e92f652f69629d4ebadc1b40f7b3d72c812d03f1fbdbaf9eaa0593"), looks := false }, kinds := [], alts := [], laidByText := true, laidKinds := [.data, .data, .data, .data], laidTests := true, laidLooks := .later }
def FnWordEffectUptoCardSaid : Prop := Claim7.holds Tryd.pinned (.plain (OpenSpec.upto fnWordEffectSpec)) fnWordEffectUptoCard
end Rows
end Go.Proofs.YtaobijmjlkdphaaDoor
