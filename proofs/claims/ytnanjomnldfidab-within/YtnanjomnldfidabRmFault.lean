/-
  graderref's machine: fault.
-/
import Derived.Test.YtnanjomnldfidabRmStepToRmSum
set_option linter.unusedSimpArgs false
set_option linter.unusedVariables false
set_option linter.unusedSectionVars false
namespace Go.Proofs.Ytnanjomnldfidab
open Go.RowKit
section
variable {w : World} {P : Nat → Prop} {b : Nat} {M : Ma}
end

theorem Ma.fault_hid (M : Ma) : M.hidden M.top = true ↔ ((M.image.length : Int) ≤ M.top ∨ (M.kernel ≤ M.top ∧ M.top < M.fence ∧ noRight M.rights 4 = true)) := by
  unfold Ma.hidden
  simp [Bool.or_eq_true, Bool.and_eq_true, and_assoc]

end Go.Proofs.Ytnanjomnldfidab
