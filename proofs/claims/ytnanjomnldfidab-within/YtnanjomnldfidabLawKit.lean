/-
  What the laws share that ask no tables.
-/
import Derived.Test.YtnanjomnldfidabRows
import Derived.Test.YtnanjomnldfidabMem
import Derived.ChangeSame
import Derived.ChangeMaps5
import Derived.JoinedOf
import Derived.JoinedAt
import Derived.RowKit3
import Derived.OpenShut
import Derived.ProofKit
set_option linter.unusedSimpArgs false
set_option linter.unusedVariables false
set_option linter.unusedSectionVars false
namespace Go.Proofs.Ytnanjomnldfidab
open Go.RowKit

theorem own2 : ownKnob Try.prog.godebug = none := by kernel_rfl
end Go.Proofs.Ytnanjomnldfidab
