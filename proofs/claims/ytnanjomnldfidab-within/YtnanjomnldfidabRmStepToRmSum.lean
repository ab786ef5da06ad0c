/-
  graderref's machine: Number, Take, Pass, Call, Return.
  graderref's machine: Call, Return; takes, gives, right, one, sum, hidden.
  graderref's machine: sum, hidden.
-/
import Derived.Test.YtnanjomnldfidabRmMem
set_option linter.unusedSimpArgs false
set_option linter.unusedVariables false
set_option linter.unusedSectionVars false
namespace Go.Proofs.Ytnanjomnldfidab
open Go.RowKit
section
variable {w : World} {P : Nat → Prop} {b : Nat} {M : Ma}
end
end Go.Proofs.Ytnanjomnldfidab

set_option linter.unusedSimpArgs false
set_option linter.unusedVariables false
set_option linter.unusedSectionVars false
namespace Go.Proofs.Ytnanjomnldfidab
open Go.RowKit

section
variable {w : World} {P : Nat → Prop} {b : Nat} {M : Ma}
end
theorem cases19 {n : Int} (h0 : 0 ≤ n) (h1 : n ≤ 18) : n = 0 ∨ n = 1 ∨ n = 2 ∨ n = 3 ∨ n = 4 ∨ n = 5 ∨ n = 6 ∨ n = 7 ∨ n = 8 ∨ n = 9 ∨ n = 10 ∨ n = 11 ∨ n = 12 ∨ n = 13 ∨ n = 14 ∨ n = 15 ∨ n = 16 ∨ n = 17 ∨ n = 18 := by omega

/-- The right that the listed word n needs. -/
def rightN (n : Int) : Int := if n = 16 then 1 else if n = 17 then 2 else if n = 18 then 8 else 0
end Go.Proofs.Ytnanjomnldfidab

set_option linter.unusedSimpArgs false
set_option linter.unusedVariables false
set_option linter.unusedSectionVars false
namespace Go.Proofs.Ytnanjomnldfidab
open Go.RowKit

theorem mul_bd {a b : Int} (ha : 0 ≤ a) (ha' : a < 65536) (hb : 0 ≤ b) (hb' : b < 65536) : 0 ≤ a * b ∧ a * b ≤ 4294836225 := by
  refine ⟨Int.mul_nonneg ha hb, ?_⟩
  have h1 : a * b ≤ 65535 * b := Int.mul_le_mul_of_nonneg_right (by omega) hb
  omega

/-- May the byte at a not be looked at? -/
def Ma.hidden (M : Ma) (a : Int) : Bool := decide ((M.image.length : Int) ≤ a) || (decide (M.kernel ≤ a) && decide (a < M.fence) && noRight M.rights 4)

end Go.Proofs.Ytnanjomnldfidab
