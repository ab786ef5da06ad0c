/-
  DERIVED. GIVEN WITH THE SEED: THE CARDS: each row of YtnanjomnldfidaaDoorRows.lean that lists a variable, with what it lists TIED to the program's text (the seventh form; the later family's looks); each row that meets fmt, with fmt's text TOLD by the authors' own Lean function (tested against real Go, not proved from fmt's source: count such statements apart). THE CARD IS WHAT COUNTS. Prove the row's statement (the work); the ties are given (YtnanjomnldfidaaDoorTie.lean); close each card by the builder's one call (the guide's Derived/Test/ToyasCard.lean, 'card_holds'). Laid BY PROGRAM, IN A SANDBOX (cutbox-door.mjs). By AI agents, Wed Nov 11 2026. No macro, syntax, notation, axiom, sorry.
-/
import Derived.Test.YtnanjomnldfidaaDoorRows
import GoSem.ClaimSeven
namespace Go.Proofs.YtnanjomnldfidaaDoor
namespace Rows

/-- THE TIED CARD OF 'graderlaw.Checks'. -/
def checksCard : Claim7 := { stood := { row := checksRow, standIns := [], harness := (true, "cc10a95e8f29970ff357a44121413ccab06688cd2975133257bdb4eaeddffdcd"), looks := false }, kinds := [], alts := [], laidByText := true, laidKinds := [.data, .data, .data], laidTests := true, laidLooks := .later }
def ChecksCardSaid : Prop := Claim7.holds Tryd.pinned (.plain (OpenSpec.ofChange checksSpec)) checksCard

/-- THE TIED CARD OF 'graderlaw.Blanks'. -/
def blanksCard : Claim7 := { stood := { row := blanksRow, standIns := [], harness := (true, "cc10a95e8f29970ff357a44121413ccab06688cd2975133257bdb4eaeddffdcd"), looks := false }, kinds := [], alts := [], laidByText := true, laidKinds := [.data], laidTests := true, laidLooks := .later }
def BlanksCardSaid : Prop := Claim7.holds Tryd.pinned (.plain (OpenSpec.ofChange blanksSpec)) blanksCard

/-- THE TIED CARD OF 'graderlaw.Runs'. -/
def runsCard : Claim7 := { stood := { row := runsRow, standIns := [], harness := (true, "cc10a95e8f29970ff357a44121413ccab06688cd2975133257bdb4eaeddffdcd"), looks := false }, kinds := [], alts := [], laidByText := true, laidKinds := [.data, .data, .data], laidTests := true, laidLooks := .later }
def RunsCardSaid : Prop := Claim7.holds Tryd.pinned (.plain (OpenSpec.ofChange runsSpec)) runsCard

/-- THE TIED CARD OF 'graderlaw.Named'. -/
def namedCard : Claim7 := { stood := { row := namedRow, standIns := [], harness := (true, "cc10a95e8f29970ff357a44121413ccab06688cd2975133257bdb4eaeddffdcd"), looks := false }, kinds := [], alts := [], laidByText := true, laidKinds := [.data], laidTests := true, laidLooks := .later }
def NamedCardSaid : Prop := Claim7.holds Tryd.pinned (.plain (OpenSpec.ofChange namedSpec)) namedCard

/-- THE TIED CARD OF 'graderlaw.Branches'. -/
def branchesCard : Claim7 := { stood := { row := branchesRow, standIns := [], harness := (true, "cc10a95e8f29970ff357a44121413ccab06688cd2975133257bdb4eaeddffdcd"), looks := false }, kinds := [], alts := [], laidByText := true, laidKinds := [.data], laidTests := true, laidLooks := .later }
def BranchesCardSaid : Prop := Claim7.holds Tryd.pinned (.plain (OpenSpec.ofChange branchesSpec)) branchesCard

/-- THE TIED CARD OF 'graderlaw.Once'. -/
def onceCard : Claim7 := { stood := { row := onceRow, standIns := [], harness := (true, "cc10a95e8f29970ff357a44121413ccab06688cd2975133257bdb4eaeddffdcd"), looks := false }, kinds := [], alts := [], laidByText := true, laidKinds := [.data], laidTests := true, laidLooks := .later }
def OnceCardSaid : Prop := Claim7.holds Tryd.pinned (.plain (OpenSpec.ofChange onceSpec)) onceCard

/-- THE SECOND FORM's CARD OF 'graderlaw.Checks'. -/
def checksUptoCard : Claim7 := { stood := { row := checksUptoRow, standIns := [], harness := (true, "cc10a95e8f29970ff357a44121413ccab06688cd2975133257bdb4eaeddffdcd"), looks := false }, kinds := [], alts := [], laidByText := true, laidKinds := [.data, .data, .data], laidTests := true, laidLooks := .later }
def ChecksUptoCardSaid : Prop := Claim7.holds Tryd.pinned (.plain (OpenSpec.upto checksSpec)) checksUptoCard

/-- THE SECOND FORM's CARD OF 'graderlaw.Blanks'. -/
def blanksUptoCard : Claim7 := { stood := { row := blanksUptoRow, standIns := [], harness := (true, "cc10a95e8f29970ff357a44121413ccab06688cd2975133257bdb4eaeddffdcd"), looks := false }, kinds := [], alts := [], laidByText := true, laidKinds := [.data], laidTests := true, laidLooks := .later }
def BlanksUptoCardSaid : Prop := Claim7.holds Tryd.pinned (.plain (OpenSpec.upto blanksSpec)) blanksUptoCard

/-- THE SECOND FORM's CARD OF 'graderlaw.Runs'. -/
def runsUptoCard : Claim7 := { stood := { row := runsUptoRow, standIns := [], harness := (true, "cc10a95e8f29970ff357a44121413ccab06688cd2975133257bdb4eaeddffdcd"), looks := false }, kinds := [], alts := [], laidByText := true, laidKinds := [.data, .data, .data], laidTests := true, laidLooks := .later }
def RunsUptoCardSaid : Prop := Claim7.holds Tryd.pinned (.plain (OpenSpec.upto runsSpec)) runsUptoCard

/-- THE SECOND FORM's CARD OF 'graderlaw.Named'. -/
def namedUptoCard : Claim7 := { stood := { row := namedUptoRow, standIns := [], harness := (true, "cc10a95e8f29970ff357a44121413ccab06688cd2975133257bdb4eaeddffdcd"), looks := false }, kinds := [], alts := [], laidByText := true, laidKinds := [.data], laidTests := true, laidLooks := .later }
def NamedUptoCardSaid : Prop := Claim7.holds Tryd.pinned (.plain (OpenSpec.upto namedSpec)) namedUptoCard

/-- THE SECOND FORM's CARD OF 'graderlaw.Branches'. -/
def branchesUptoCard : Claim7 := { stood := { row := branchesUptoRow, standIns := [], harness := (true, "cc10a95e8f29970ff357a44121413ccab06688cd2975133257bdb4eaeddffdcd"), looks := false }, kinds := [], alts := [], laidByText := true, laidKinds := [.data], laidTests := true, laidLooks := .later }
def BranchesUptoCardSaid : Prop := Claim7.holds Tryd.pinned (.plain (OpenSpec.upto branchesSpec)) branchesUptoCard

/-- THE SECOND FORM's CARD OF 'graderlaw.Once'. -/
def onceUptoCard : Claim7 := { stood := { row := onceUptoRow, standIns := [], harness := (true, "cc10a95e8f29970ff357a44121413ccab06688cd2975133257bdb4eaeddffdcd"), looks := false }, kinds := [], alts := [], laidByText := true, laidKinds := [.data], laidTests := true, laidLooks := .later }
def OnceUptoCardSaid : Prop := Claim7.holds Tryd.pinned (.plain (OpenSpec.upto onceSpec)) onceUptoCard
end Rows
end Go.Proofs.YtnanjomnldfidaaDoor
