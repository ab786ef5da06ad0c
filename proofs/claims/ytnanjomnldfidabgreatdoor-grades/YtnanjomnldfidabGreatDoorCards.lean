/-
  DERIVED. GIVEN WITH THE SEED: THE CARDS: each row of YtnanjomnldfidabGreatDoorRows.lean that lists a variable, with what it lists TIED to the program's text (the seventh form; the later family's looks); each row that meets fmt, with fmt's text TOLD by the authors' own Lean function (tested against real Go, not proved from fmt's source: count such statements apart). THE CARD IS WHAT COUNTS. Prove the row's statement (the work); the ties are given (YtnanjomnldfidabGreatDoorTie.lean); close each card by the builder's one call (the guide's Derived/Test/ToyasCard.lean, 'card_holds'). Laid BY PROGRAM, IN A SANDBOX (cutbox-door.mjs). By AI agents, Wed Nov 11 2026. No macro, syntax, notation, axiom, sorry.
-/
import Derived.Test.YtnanjomnldfidabGreatDoorRows
import GoSem.ClaimSeven
namespace Go.Proofs.YtnanjomnldfidabGreatDoor
namespace Rows

/-- THE TIED CARD OF 'graderlaw.Grades'. -/
def gradesCard : Claim7 := { stood := { row := gradesRow, standIns := [], harness := (true, "273ed9f0317a3ec581c83326dc5dceb3403a988749a57e4f35d891a23e596e02"), looks := false }, kinds := [], alts := [], laidByText := true, laidKinds := [.data, .data, .data, .data, .data, .data], laidTests := true, laidLooks := .later }
def GradesCardSaid : Prop := Claim7.holds Tryz.pinned (.plain (OpenSpec.ofChange gradesSpec)) gradesCard

/-- THE TIED CARD OF 'graderlaw.Apart'. -/
def apartCard : Claim7 := { stood := { row := apartRow, standIns := [], harness := (true, "273ed9f0317a3ec581c83326dc5dceb3403a988749a57e4f35d891a23e596e02"), looks := false }, kinds := [], alts := [], laidByText := true, laidKinds := [.data, .data, .data, .data, .data, .data], laidTests := true, laidLooks := .later }
def ApartCardSaid : Prop := Claim7.holds Tryz.pinned (.plain (OpenSpec.ofChange apartSpec)) apartCard

/-- THE SECOND FORM's CARD OF 'graderlaw.Grades'. -/
def gradesUptoCard : Claim7 := { stood := { row := gradesUptoRow, standIns := [], harness := (true, "273ed9f0317a3ec581c83326dc5dceb3403a988749a57e4f35d891a23e596e02"), looks := false }, kinds := [], alts := [], laidByText := true, laidKinds := [.data, .data, .data, .data, .data, .data], laidTests := true, laidLooks := .later }
def GradesUptoCardSaid : Prop := Claim7.holds Tryz.pinned (.plain (OpenSpec.upto gradesSpec)) gradesUptoCard

/-- THE SECOND FORM's CARD OF 'graderlaw.Apart'. -/
def apartUptoCard : Claim7 := { stood := { row := apartUptoRow, standIns := [], harness := (true, "273ed9f0317a3ec581c83326dc5dceb3403a988749a57e4f35d891a23e596e02"), looks := false }, kinds := [], alts := [], laidByText := true, laidKinds := [.data, .data, .data, .data, .data, .data], laidTests := true, laidLooks := .later }
def ApartUptoCardSaid : Prop := Claim7.holds Tryz.pinned (.plain (OpenSpec.upto apartSpec)) apartUptoCard
end Rows
end Go.Proofs.YtnanjomnldfidabGreatDoor
