/-
  DERIVED. GIVEN WITH THE SEED: THE CARDS: each row of YtnanjomnldfidabDoorRows.lean that lists a variable, with what it lists TIED to the program's text (the seventh form; the later family's looks); each row that meets fmt, with fmt's text TOLD by the authors' own Lean function (tested against real Go, not proved from fmt's source: count such statements apart). THE CARD IS WHAT COUNTS. Prove the row's statement (the work); the ties are given (YtnanjomnldfidabDoorTie.lean); close each card by the builder's one call (the guide's Derived/Test/ToyasCard.lean, 'card_holds'). Laid BY PROGRAM, IN A SANDBOX (cutbox-door.mjs). By AI agents, Wed Nov 11 2026. No macro, syntax, notation, axiom, sorry.
-/
import Derived.Test.YtnanjomnldfidabDoorRows
import GoSem.ClaimSeven
namespace Go.Proofs.YtnanjomnldfidabDoor
namespace Rows

/-- THE TIED CARD OF 'graderlaw.Compiles'. -/
def compilesCard : Claim7 := { stood := { row := compilesRow, standIns := [], harness := (true, "9374d9ed977d5c9963fe960d9acccacabc1ef3f8611f0006245e310f8d736026"), looks := false }, kinds := [], alts := [], laidByText := true, laidKinds := [.data, .data, .data], laidTests := true, laidLooks := .later }
def CompilesCardSaid : Prop := Claim7.holds Tryd.pinned (.plain (OpenSpec.ofChange compilesSpec)) compilesCard

/-- THE TIED CARD OF 'graderlaw.Alike'. -/
def alikeCard : Claim7 := { stood := { row := alikeRow, standIns := [], harness := (true, "9374d9ed977d5c9963fe960d9acccacabc1ef3f8611f0006245e310f8d736026"), looks := false }, kinds := [], alts := [], laidByText := true, laidKinds := [.data], laidTests := true, laidLooks := .later }
def AlikeCardSaid : Prop := Claim7.holds Tryd.pinned (.plain (OpenSpec.ofChange alikeSpec)) alikeCard

/-- THE TIED CARD OF 'graderlaw.Hidden'. -/
def hiddenCard : Claim7 := { stood := { row := hiddenRow, standIns := [], harness := (true, "9374d9ed977d5c9963fe960d9acccacabc1ef3f8611f0006245e310f8d736026"), looks := false }, kinds := [], alts := [], laidByText := true, laidKinds := [.data, .data, .data, .data], laidTests := true, laidLooks := .later }
def HiddenCardSaid : Prop := Claim7.holds Tryd.pinned (.plain (OpenSpec.ofChange hiddenSpec)) hiddenCard

/-- THE TIED CARD OF 'graderlaw.Looked'. -/
def lookedCard : Claim7 := { stood := { row := lookedRow, standIns := [], harness := (true, "9374d9ed977d5c9963fe960d9acccacabc1ef3f8611f0006245e310f8d736026"), looks := false }, kinds := [], alts := [], laidByText := true, laidKinds := [.data, .data, .data, .data], laidTests := true, laidLooks := .later }
def LookedCardSaid : Prop := Claim7.holds Tryd.pinned (.plain (OpenSpec.ofChange lookedSpec)) lookedCard

/-- THE TIED CARD OF 'graderlaw.Again'. -/
def againCard : Claim7 := { stood := { row := againRow, standIns := [], harness := (true, "9374d9ed977d5c9963fe960d9acccacabc1ef3f8611f0006245e310f8d736026"), looks := false }, kinds := [], alts := [], laidByText := true, laidKinds := [.data, .data, .data, .data], laidTests := true, laidLooks := .later }
def AgainCardSaid : Prop := Claim7.holds Tryd.pinned (.plain (OpenSpec.ofChange againSpec)) againCard

/-- THE SECOND FORM's CARD OF 'graderlaw.Compiles'. -/
def compilesUptoCard : Claim7 := { stood := { row := compilesUptoRow, standIns := [], harness := (true, "9374d9ed977d5c9963fe960d9acccacabc1ef3f8611f0006245e310f8d736026"), looks := false }, kinds := [], alts := [], laidByText := true, laidKinds := [.data, .data, .data], laidTests := true, laidLooks := .later }
def CompilesUptoCardSaid : Prop := Claim7.holds Tryd.pinned (.plain (OpenSpec.upto compilesSpec)) compilesUptoCard

/-- THE SECOND FORM's CARD OF 'graderlaw.Alike'. -/
def alikeUptoCard : Claim7 := { stood := { row := alikeUptoRow, standIns := [], harness := (true, "9374d9ed977d5c9963fe960d9acccacabc1ef3f8611f0006245e310f8d736026"), looks := false }, kinds := [], alts := [], laidByText := true, laidKinds := [.data], laidTests := true, laidLooks := .later }
def AlikeUptoCardSaid : Prop := Claim7.holds Tryd.pinned (.plain (OpenSpec.upto alikeSpec)) alikeUptoCard

/-- THE SECOND FORM's CARD OF 'graderlaw.Hidden'. -/
def hiddenUptoCard : Claim7 := { stood := { row := hiddenUptoRow, standIns := [], harness := (true, "9374d9ed977d5c9963fe960d9acccacabc1ef3f8611f0006245e310f8d736026"), looks := false }, kinds := [], alts := [], laidByText := true, laidKinds := [.data, .data, .data, .data], laidTests := true, laidLooks := .later }
def HiddenUptoCardSaid : Prop := Claim7.holds Tryd.pinned (.plain (OpenSpec.upto hiddenSpec)) hiddenUptoCard

/-- THE SECOND FORM's CARD OF 'graderlaw.Looked'. -/
def lookedUptoCard : Claim7 := { stood := { row := lookedUptoRow, standIns := [], harness := (true, "9374d9ed977d5c9963fe960d9acccacabc1ef3f8611f0006245e310f8d736026"), looks := false }, kinds := [], alts := [], laidByText := true, laidKinds := [.data, .data, .data, .data], laidTests := true, laidLooks := .later }
def LookedUptoCardSaid : Prop := Claim7.holds Tryd.pinned (.plain (OpenSpec.upto lookedSpec)) lookedUptoCard

/-- THE SECOND FORM's CARD OF 'graderlaw.Again'. -/
def againUptoCard : Claim7 := { stood := { row := againUptoRow, standIns := [], harness := (true, "9374d9ed977d5c9963fe960d9acccacabc1ef3f8611f0006245e310f8d736026"), looks := false }, kinds := [], alts := [], laidByText := true, laidKinds := [.data, .data, .data, .data], laidTests := true, laidLooks := .later }
def AgainUptoCardSaid : Prop := Claim7.holds Tryd.pinned (.plain (OpenSpec.upto againSpec)) againUptoCard
end Rows
end Go.Proofs.YtnanjomnldfidabDoor
