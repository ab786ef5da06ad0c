/-
  NARROWER THAN 'FOR EVERY INPUT', by the rows' own cells (each row's printed sentence says how): Checks: laid · Blanks: laid · Runs: laid · Named: laid · Branches: laid · Once: laid.
  DERIVED. THE GIVEN ROWS OF THIS SEAT. 6 by the template 'for every input the law returns true; each argument reads behind the call as it read before'; 0 by the template 'total and deterministic' (their statements: YtnanjomnldfidaaDoorTotals.lean).
  GIVEN WITH THE SEED: the statements are not yours to turn. If you find one false, say at which input.
  Laid BY PROGRAM, IN A SANDBOX (cutbox-rows.mjs): the forced cells as the released guide's own fill.sh prints them over the translation ea3751cc5e467321… (all of the seat's roots in one cut). By AI agents, Wed Nov 11 2026. No macro, syntax, notation, axiom, sorry.
-/
import Derived.Test.YtnanjomnldfidaaDoorChecked
import GoSem.Claim
import GoSem.ClaimJoined
import GoSem.ClaimMapViews
import Derived.JoinedTies
import Derived.KernelRfl
namespace Go.Proofs.YtnanjomnldfidaaDoor
/- THE CELL 'sum', in the pinned program and in every row, IS THE sha256 OF THE DUMP (.gsa) THAT YtnanjomnldfidaaDoorProg.lean LOADS. Nothing in Lean hashes anything: it is a label: what it is worth is what the hold of that sum in a sandbox is worth. -/
noncomputable def Tryd.pinned : Pinned := { name := "ytnanjomnldfidaadoor", sum := "ea3751cc5e4673212bd2c1fa3ab41dea9c59f7e016cd34cd0aaf8eb618209e21", checked := Tryd.checked }
namespace Rows
def none {H : Type} : Left H := { results := [], args := [] }

/- WHAT THE LISTED PACKAGE-LEVEL VARIABLES READ AS WHEN THE CALL BEGINS. Each datum BY PROGRAM (the guide's laid-datum.mjs) off the statement by which the dump's own 'gosem.cut.vars' lays the variable. In a bare row this is a premise. The card (YtnanjomnldfidaaDoorCards.lean) ties it to the program's text. -/
def laid_grader_graderref_listed {H : Type} : DataW H := .agg [.lit (.string [100, 117, 112]), .lit (.string [100, 114, 111, 112]), .lit (.string [115, 119, 97, 112]), .lit (.string [111, 118, 101, 114]), .lit (.string [43]), .lit (.string [45]), .lit (.string [42]), .lit (.string [47]), .lit (.string [109, 111, 100]), .lit (.string [97, 110, 100]), .lit (.string [111, 114]), .lit (.string [120, 111, 114]), .lit (.string [61]), .lit (.string [60]), .lit (.string [64]), .lit (.string [33]), .lit (.string [101, 109, 105, 116]), .lit (.string [107, 101, 121]), .lit (.string [109, 97, 114, 107])]
def laid_grader_graderref_forms {H : Type} : DataW H := .agg [.lit (.string [105, 102]), .lit (.string [101, 108, 115, 101]), .lit (.string [116, 104, 101, 110]), .lit (.string [98, 101, 103, 105, 110]), .lit (.string [117, 110, 116, 105, 108]), .lit (.string [119, 104, 105, 108, 101]), .lit (.string [114, 101, 112, 101, 97, 116]), .lit (.string [101, 120, 105, 116]), .lit (.string [114, 101, 99, 117, 114, 115, 101]), .lit (.string [58]), .lit (.string [59])]
def laid_grader_grader_listed {H : Type} : DataW H := .agg [.lit (.string [100, 117, 112]), .lit (.string [100, 114, 111, 112]), .lit (.string [115, 119, 97, 112]), .lit (.string [111, 118, 101, 114]), .lit (.string [43]), .lit (.string [45]), .lit (.string [42]), .lit (.string [47]), .lit (.string [109, 111, 100]), .lit (.string [97, 110, 100]), .lit (.string [111, 114]), .lit (.string [120, 111, 114]), .lit (.string [61]), .lit (.string [60]), .lit (.string [64]), .lit (.string [33]), .lit (.string [101, 109, 105, 116]), .lit (.string [107, 101, 121]), .lit (.string [109, 97, 114, 107])]

/-- 'graderlaw.Checks': WHATEVER THE INPUT: true; the input reads as it did. -/
def checksSpec : ChangeSpec := { name := "checks", fn := fun _ => fun
  | [d] => { results := [.lit (.bool true)], args := [d] }
  | _ => none }
def checksRow : OpenClaim := { program := "ytnanjomnldfidaadoor", sum := "ea3751cc5e4673212bd2c1fa3ab41dea9c59f7e016cd34cd0aaf8eb618209e21", func := "grader/graderlaw.Checks", spec := "checks", named := ["grader/grader.listed", "grader/graderref.forms", "grader/graderref.listed"], apart := false, laid := [("grader/graderref.listed", laid_grader_graderref_listed), ("grader/graderref.forms", laid_grader_graderref_forms), ("grader/grader.listed", laid_grader_grader_listed)] }
def ChecksSaid : Prop := checksRow.holds Tryd.pinned (OpenSpec.ofChange checksSpec)

/-- ITS FALSE NEIGHBOUR: 'it returns false'. Refute it at one input. -/
def checksWrong : ChangeSpec := { name := "checks", fn := fun _ => fun
  | [d] => { results := [.lit (.bool false)], args := [d] }
  | _ => none }
def ChecksWrongFalsely : Prop := checksRow.holds Tryd.pinned (OpenSpec.ofChange checksWrong)

/-- 'graderlaw.Blanks': WHATEVER THE INPUT: true; the input reads as it did. -/
def blanksSpec : ChangeSpec := { name := "blanks", fn := fun _ => fun
  | [d] => { results := [.lit (.bool true)], args := [d] }
  | _ => none }
def blanksRow : OpenClaim := { program := "ytnanjomnldfidaadoor", sum := "ea3751cc5e4673212bd2c1fa3ab41dea9c59f7e016cd34cd0aaf8eb618209e21", func := "grader/graderlaw.Blanks", spec := "blanks", named := ["grader/grader.listed"], apart := false, laid := [("grader/grader.listed", laid_grader_grader_listed)] }
def BlanksSaid : Prop := blanksRow.holds Tryd.pinned (OpenSpec.ofChange blanksSpec)

/-- ITS FALSE NEIGHBOUR: 'it returns false'. Refute it at one input. -/
def blanksWrong : ChangeSpec := { name := "blanks", fn := fun _ => fun
  | [d] => { results := [.lit (.bool false)], args := [d] }
  | _ => none }
def BlanksWrongFalsely : Prop := blanksRow.holds Tryd.pinned (OpenSpec.ofChange blanksWrong)

/-- 'graderlaw.Runs': WHATEVER THE INPUT: true; the input reads as it did. -/
def runsSpec : ChangeSpec := { name := "runs", fn := fun _ => fun
  | [d1, d2] => { results := [.lit (.bool true)], args := [d1, d2] }
  | _ => none }
def runsRow : OpenClaim := { program := "ytnanjomnldfidaadoor", sum := "ea3751cc5e4673212bd2c1fa3ab41dea9c59f7e016cd34cd0aaf8eb618209e21", func := "grader/graderlaw.Runs", spec := "runs", named := ["grader/grader.listed", "grader/graderref.forms", "grader/graderref.listed"], apart := false, laid := [("grader/graderref.listed", laid_grader_graderref_listed), ("grader/graderref.forms", laid_grader_graderref_forms), ("grader/grader.listed", laid_grader_grader_listed)] }
def RunsSaid : Prop := runsRow.holds Tryd.pinned (OpenSpec.ofChange runsSpec)

/-- ITS FALSE NEIGHBOUR: 'it returns false'. Refute it at one input. -/
def runsWrong : ChangeSpec := { name := "runs", fn := fun _ => fun
  | [d1, d2] => { results := [.lit (.bool false)], args := [d1, d2] }
  | _ => none }
def RunsWrongFalsely : Prop := runsRow.holds Tryd.pinned (OpenSpec.ofChange runsWrong)

/-- 'graderlaw.Named': WHATEVER THE INPUT: true; the input reads as it did. -/
def namedSpec : ChangeSpec := { name := "named", fn := fun _ => fun
  | [d1, d2] => { results := [.lit (.bool true)], args := [d1, d2] }
  | _ => none }
def namedRow : OpenClaim := { program := "ytnanjomnldfidaadoor", sum := "ea3751cc5e4673212bd2c1fa3ab41dea9c59f7e016cd34cd0aaf8eb618209e21", func := "grader/graderlaw.Named", spec := "named", named := ["grader/grader.listed"], apart := false, laid := [("grader/grader.listed", laid_grader_grader_listed)] }
def NamedSaid : Prop := namedRow.holds Tryd.pinned (OpenSpec.ofChange namedSpec)

/-- ITS FALSE NEIGHBOUR: 'it returns false'. Refute it at one input. -/
def namedWrong : ChangeSpec := { name := "named", fn := fun _ => fun
  | [d1, d2] => { results := [.lit (.bool false)], args := [d1, d2] }
  | _ => none }
def NamedWrongFalsely : Prop := namedRow.holds Tryd.pinned (OpenSpec.ofChange namedWrong)

/-- 'graderlaw.Branches': WHATEVER THE INPUT: true; the input reads as it did. -/
def branchesSpec : ChangeSpec := { name := "branches", fn := fun _ => fun
  | [d1, d2, d3] => { results := [.lit (.bool true)], args := [d1, d2, d3] }
  | _ => none }
def branchesRow : OpenClaim := { program := "ytnanjomnldfidaadoor", sum := "ea3751cc5e4673212bd2c1fa3ab41dea9c59f7e016cd34cd0aaf8eb618209e21", func := "grader/graderlaw.Branches", spec := "branches", named := ["grader/grader.listed"], apart := false, laid := [("grader/grader.listed", laid_grader_grader_listed)] }
def BranchesSaid : Prop := branchesRow.holds Tryd.pinned (OpenSpec.ofChange branchesSpec)

/-- ITS FALSE NEIGHBOUR: 'it returns false'. Refute it at one input. -/
def branchesWrong : ChangeSpec := { name := "branches", fn := fun _ => fun
  | [d1, d2, d3] => { results := [.lit (.bool false)], args := [d1, d2, d3] }
  | _ => none }
def BranchesWrongFalsely : Prop := branchesRow.holds Tryd.pinned (OpenSpec.ofChange branchesWrong)

/-- 'graderlaw.Once': WHATEVER THE INPUT: true; the input reads as it did. -/
def onceSpec : ChangeSpec := { name := "once", fn := fun _ => fun
  | [d1, d2] => { results := [.lit (.bool true)], args := [d1, d2] }
  | _ => none }
def onceRow : OpenClaim := { program := "ytnanjomnldfidaadoor", sum := "ea3751cc5e4673212bd2c1fa3ab41dea9c59f7e016cd34cd0aaf8eb618209e21", func := "grader/graderlaw.Once", spec := "once", named := ["grader/grader.listed"], apart := false, laid := [("grader/grader.listed", laid_grader_grader_listed)] }
def OnceSaid : Prop := onceRow.holds Tryd.pinned (OpenSpec.ofChange onceSpec)

/-- ITS FALSE NEIGHBOUR: 'it returns false'. Refute it at one input. -/
def onceWrong : ChangeSpec := { name := "once", fn := fun _ => fun
  | [d1, d2] => { results := [.lit (.bool false)], args := [d1, d2] }
  | _ => none }
def OnceWrongFalsely : Prop := onceRow.holds Tryd.pinned (OpenSpec.ofChange onceWrong)

/- THE SECOND FORM. 'bulk': how many values and letters a reading holds, each counted each time it is reached (what is shared counts as often as it is met; a slice's spare places count too). A statement '..UptoSaid' is the law's where the arguments, and the package variables that the reading takes, are together of bulk at most 1048576: NARROWER than '..Said'. Prove '..Said' where nothing that the law and all that it calls make is longer than what came in: it says more and counts as full. Else prove '..UptoSaid'. A law counts once. -/
mutual
def uptoBulk {H : Type} : DataW H → Nat
  | .lit (.string bytes) => bytes.length + 1
  | .lit _ => 1
  | .nil => 1
  | .ptr d => uptoBulk d + 1
  | .slice elems spare => uptoBulkAll elems + uptoBulkAll spare + 1
  | .agg parts => uptoBulkAll parts + 1
  | .iface _ d => uptoBulk d + 1
  | .map entries => uptoBulkEntries entries + 1
  | .held _ => 1
def uptoBulkAll {H : Type} : List (DataW H) → Nat
  | [] => 0
  | d :: r => uptoBulk d + uptoBulkAll r
def uptoBulkEntries {H : Type} : List (Lit × DataW H) → Nat
  | [] => 0
  | x :: r => uptoBulkEntry x + uptoBulkEntries r
def uptoBulkEntry {H : Type} : Lit × DataW H → Nat
  | (.string bytes, d) => bytes.length + uptoBulk d + 1
  | (_, d) => uptoBulk d + 1
 end
def uptoSmall : (H : Type) → List (DataW H) → Bool := fun _ ds => decide (uptoBulkAll ds ≤ 1048576)
def OpenSpec.upto (s : _root_.Go.ChangeSpec) : _root_.Go.OpenSpec := { _root_.Go.OpenSpec.ofChange s with cond := some uptoSmall }

/-- 'graderlaw.Checks', WHERE WHAT IT READS IS OF BULK AT MOST 1048576: true; the input reads as it did. -/
def checksUptoRow : OpenClaim := { program := "ytnanjomnldfidaadoor", sum := "ea3751cc5e4673212bd2c1fa3ab41dea9c59f7e016cd34cd0aaf8eb618209e21", func := "grader/graderlaw.Checks", spec := "checks", named := ["grader/grader.listed", "grader/graderref.forms", "grader/graderref.listed"], apart := false, laid := [("grader/graderref.listed", laid_grader_graderref_listed), ("grader/graderref.forms", laid_grader_graderref_forms), ("grader/grader.listed", laid_grader_grader_listed)], narrowed := true }
def ChecksUptoSaid : Prop := checksUptoRow.holds Tryd.pinned (OpenSpec.upto checksSpec)

/-- 'graderlaw.Blanks', WHERE WHAT IT READS IS OF BULK AT MOST 1048576: true; the input reads as it did. -/
def blanksUptoRow : OpenClaim := { program := "ytnanjomnldfidaadoor", sum := "ea3751cc5e4673212bd2c1fa3ab41dea9c59f7e016cd34cd0aaf8eb618209e21", func := "grader/graderlaw.Blanks", spec := "blanks", named := ["grader/grader.listed"], apart := false, laid := [("grader/grader.listed", laid_grader_grader_listed)], narrowed := true }
def BlanksUptoSaid : Prop := blanksUptoRow.holds Tryd.pinned (OpenSpec.upto blanksSpec)

/-- 'graderlaw.Runs', WHERE WHAT IT READS IS OF BULK AT MOST 1048576: true; the input reads as it did. -/
def runsUptoRow : OpenClaim := { program := "ytnanjomnldfidaadoor", sum := "ea3751cc5e4673212bd2c1fa3ab41dea9c59f7e016cd34cd0aaf8eb618209e21", func := "grader/graderlaw.Runs", spec := "runs", named := ["grader/grader.listed", "grader/graderref.forms", "grader/graderref.listed"], apart := false, laid := [("grader/graderref.listed", laid_grader_graderref_listed), ("grader/graderref.forms", laid_grader_graderref_forms), ("grader/grader.listed", laid_grader_grader_listed)], narrowed := true }
def RunsUptoSaid : Prop := runsUptoRow.holds Tryd.pinned (OpenSpec.upto runsSpec)

/-- 'graderlaw.Named', WHERE WHAT IT READS IS OF BULK AT MOST 1048576: true; the input reads as it did. -/
def namedUptoRow : OpenClaim := { program := "ytnanjomnldfidaadoor", sum := "ea3751cc5e4673212bd2c1fa3ab41dea9c59f7e016cd34cd0aaf8eb618209e21", func := "grader/graderlaw.Named", spec := "named", named := ["grader/grader.listed"], apart := false, laid := [("grader/grader.listed", laid_grader_grader_listed)], narrowed := true }
def NamedUptoSaid : Prop := namedUptoRow.holds Tryd.pinned (OpenSpec.upto namedSpec)

/-- 'graderlaw.Branches', WHERE WHAT IT READS IS OF BULK AT MOST 1048576: true; the input reads as it did. -/
def branchesUptoRow : OpenClaim := { program := "ytnanjomnldfidaadoor", sum := "ea3751cc5e4673212bd2c1fa3ab41dea9c59f7e016cd34cd0aaf8eb618209e21", func := "grader/graderlaw.Branches", spec := "branches", named := ["grader/grader.listed"], apart := false, laid := [("grader/grader.listed", laid_grader_grader_listed)], narrowed := true }
def BranchesUptoSaid : Prop := branchesUptoRow.holds Tryd.pinned (OpenSpec.upto branchesSpec)

/-- 'graderlaw.Once', WHERE WHAT IT READS IS OF BULK AT MOST 1048576: true; the input reads as it did. -/
def onceUptoRow : OpenClaim := { program := "ytnanjomnldfidaadoor", sum := "ea3751cc5e4673212bd2c1fa3ab41dea9c59f7e016cd34cd0aaf8eb618209e21", func := "grader/graderlaw.Once", spec := "once", named := ["grader/grader.listed"], apart := false, laid := [("grader/grader.listed", laid_grader_grader_listed)], narrowed := true }
def OnceUptoSaid : Prop := onceUptoRow.holds Tryd.pinned (OpenSpec.upto onceSpec)

end Rows
end Go.Proofs.YtnanjomnldfidaaDoor
