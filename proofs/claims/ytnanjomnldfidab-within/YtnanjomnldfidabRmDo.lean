/-
  graderref's machine: key, two, Do.
-/
import Derived.Test.YtnanjomnldfidabRmFault
import Derived.Deep.RegionWith
set_option linter.unusedSimpArgs false
set_option linter.unusedVariables false
set_option linter.unusedSectionVars false
namespace Go.Proofs.Ytnanjomnldfidab
open Go.RowKit

section
variable {w : World} {P : Nat → Prop} {b : Nat} {M : Ma}
theorem wrap_in (x : Int) (h0 : 0 ≤ x) (h1 : x ≤ 9223372036854775807) : IntKind.i64.wrap x = x := by
  rw [IntKind.wrap_i64]; omega
end
end Go.Proofs.Ytnanjomnldfidab
