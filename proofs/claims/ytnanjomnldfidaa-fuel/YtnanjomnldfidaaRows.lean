/-
  No cell of these rows narrows 'for every input' (looked for: loops, veiled, ifaces, maps, wideKeys, modest, calm, conditions, laid).
  DERIVED. THE GIVEN ROWS OF THIS SEAT. 6 by the template 'for every input the law returns true; each argument reads behind the call as it read before'; 0 by the template 'total and deterministic' (their statements: YtnanjomnldfidaaTotals.lean).
  GIVEN WITH THE SEED: the statements are not yours to turn. If you find one false, say at which input.
  Laid BY PROGRAM, IN A SANDBOX (cutbox-rows.mjs): the forced cells as the released guide's own fill.sh prints them over the translation ab4e97ab5648fc6c… (all of the seat's roots in one cut). By AI agents, Wed Nov 11 2026. No macro, syntax, notation, axiom, sorry.
-/
import Derived.Test.YtnanjomnldfidaaChecked
import GoSem.Claim
import GoSem.ClaimJoined
import GoSem.ClaimMapViews
import Derived.JoinedTies
import Derived.KernelRfl
namespace Go.Proofs.Ytnanjomnldfidaa
/- THE CELL 'sum', in the pinned program and in every row, IS THE sha256 OF THE DUMP (.gsa) THAT YtnanjomnldfidaaProg.lean LOADS. Nothing in Lean hashes anything: it is a label: what it is worth is what the hold of that sum in a sandbox is worth. -/
noncomputable def Try.pinned : Pinned := { name := "ytnanjomnldfidaa", sum := "ab4e97ab5648fc6cd18160983dd3ad92a1f081399e62eba00a4daf2c62f7d2dd", checked := Try.checked }
namespace Rows
def none {H : Type} : Left H := { results := [], args := [] }

/-- 'graderlaw.Verifies': WHATEVER THE INPUT: true; the input reads as it did. -/
def verifiesSpec : ChangeSpec := { name := "verifies", fn := fun _ => fun
  | [d] => { results := [.lit (.bool true)], args := [d] }
  | _ => none }
def verifiesRow : OpenClaim := { program := "ytnanjomnldfidaa", sum := "ab4e97ab5648fc6cd18160983dd3ad92a1f081399e62eba00a4daf2c62f7d2dd", func := "grader/graderlaw.Verifies", spec := "verifies", apart := false }
def VerifiesSaid : Prop := verifiesRow.holds Try.pinned (OpenSpec.ofChange verifiesSpec)

/-- ITS FALSE NEIGHBOUR: 'it returns false'. Refute it at one input. -/
def verifiesWrong : ChangeSpec := { name := "verifies", fn := fun _ => fun
  | [d] => { results := [.lit (.bool false)], args := [d] }
  | _ => none }
def VerifiesWrongFalsely : Prop := verifiesRow.holds Try.pinned (OpenSpec.ofChange verifiesWrong)

/-- 'graderlaw.Execs': WHATEVER THE INPUT: true; the input reads as it did. -/
def execsSpec : ChangeSpec := { name := "execs", fn := fun _ => fun
  | [d1, d2] => { results := [.lit (.bool true)], args := [d1, d2] }
  | _ => none }
def execsRow : OpenClaim := { program := "ytnanjomnldfidaa", sum := "ab4e97ab5648fc6cd18160983dd3ad92a1f081399e62eba00a4daf2c62f7d2dd", func := "grader/graderlaw.Execs", spec := "execs", apart := false }
def ExecsSaid : Prop := execsRow.holds Try.pinned (OpenSpec.ofChange execsSpec)

/-- ITS FALSE NEIGHBOUR: 'it returns false'. Refute it at one input. -/
def execsWrong : ChangeSpec := { name := "execs", fn := fun _ => fun
  | [d1, d2] => { results := [.lit (.bool false)], args := [d1, d2] }
  | _ => none }
def ExecsWrongFalsely : Prop := execsRow.holds Try.pinned (OpenSpec.ofChange execsWrong)

/-- 'graderlaw.Safe': WHATEVER THE INPUT: true; the input reads as it did. -/
def safeSpec : ChangeSpec := { name := "safe", fn := fun _ => fun
  | [d1, d2] => { results := [.lit (.bool true)], args := [d1, d2] }
  | _ => none }
def safeRow : OpenClaim := { program := "ytnanjomnldfidaa", sum := "ab4e97ab5648fc6cd18160983dd3ad92a1f081399e62eba00a4daf2c62f7d2dd", func := "grader/graderlaw.Safe", spec := "safe", apart := false }
def SafeSaid : Prop := safeRow.holds Try.pinned (OpenSpec.ofChange safeSpec)

/-- ITS FALSE NEIGHBOUR: 'it returns false'. Refute it at one input. -/
def safeWrong : ChangeSpec := { name := "safe", fn := fun _ => fun
  | [d1, d2] => { results := [.lit (.bool false)], args := [d1, d2] }
  | _ => none }
def SafeWrongFalsely : Prop := safeRow.holds Try.pinned (OpenSpec.ofChange safeWrong)

/-- 'graderlaw.Sealed': WHATEVER THE INPUT: true; the input reads as it did. -/
def sealedSpec : ChangeSpec := { name := "sealed", fn := fun _ => fun
  | [d1, d2] => { results := [.lit (.bool true)], args := [d1, d2] }
  | _ => none }
def sealedRow : OpenClaim := { program := "ytnanjomnldfidaa", sum := "ab4e97ab5648fc6cd18160983dd3ad92a1f081399e62eba00a4daf2c62f7d2dd", func := "grader/graderlaw.Sealed", spec := "sealed", apart := false }
def SealedSaid : Prop := sealedRow.holds Try.pinned (OpenSpec.ofChange sealedSpec)

/-- ITS FALSE NEIGHBOUR: 'it returns false'. Refute it at one input. -/
def sealedWrong : ChangeSpec := { name := "sealed", fn := fun _ => fun
  | [d1, d2] => { results := [.lit (.bool false)], args := [d1, d2] }
  | _ => none }
def SealedWrongFalsely : Prop := sealedRow.holds Try.pinned (OpenSpec.ofChange sealedWrong)

/-- 'graderlaw.Secret': WHATEVER THE INPUT: true; the input reads as it did. -/
def secretSpec : ChangeSpec := { name := "secret", fn := fun _ => fun
  | [d1, d2, d3, d4, d5, d6] => { results := [.lit (.bool true)], args := [d1, d2, d3, d4, d5, d6] }
  | _ => none }
def secretRow : OpenClaim := { program := "ytnanjomnldfidaa", sum := "ab4e97ab5648fc6cd18160983dd3ad92a1f081399e62eba00a4daf2c62f7d2dd", func := "grader/graderlaw.Secret", spec := "secret", apart := false }
def SecretSaid : Prop := secretRow.holds Try.pinned (OpenSpec.ofChange secretSpec)

/-- ITS FALSE NEIGHBOUR: 'it returns false'. Refute it at one input. -/
def secretWrong : ChangeSpec := { name := "secret", fn := fun _ => fun
  | [d1, d2, d3, d4, d5, d6] => { results := [.lit (.bool false)], args := [d1, d2, d3, d4, d5, d6] }
  | _ => none }
def SecretWrongFalsely : Prop := secretRow.holds Try.pinned (OpenSpec.ofChange secretWrong)

/-- 'graderlaw.Fuel': WHATEVER THE INPUT: true; the input reads as it did. -/
def fuelSpec : ChangeSpec := { name := "fuel", fn := fun _ => fun
  | [d1, d2, d3] => { results := [.lit (.bool true)], args := [d1, d2, d3] }
  | _ => none }
def fuelRow : OpenClaim := { program := "ytnanjomnldfidaa", sum := "ab4e97ab5648fc6cd18160983dd3ad92a1f081399e62eba00a4daf2c62f7d2dd", func := "grader/graderlaw.Fuel", spec := "fuel", apart := false }
def FuelSaid : Prop := fuelRow.holds Try.pinned (OpenSpec.ofChange fuelSpec)

/-- ITS FALSE NEIGHBOUR: 'it returns false'. Refute it at one input. -/
def fuelWrong : ChangeSpec := { name := "fuel", fn := fun _ => fun
  | [d1, d2, d3] => { results := [.lit (.bool false)], args := [d1, d2, d3] }
  | _ => none }
def FuelWrongFalsely : Prop := fuelRow.holds Try.pinned (OpenSpec.ofChange fuelWrong)

/- THE SECOND FORM. 'bulk': how many values and letters a reading holds, each counted each time it is reached (what is shared counts as often as it is met; a slice's spare places count too). A statement '..UptoSaid' is the law's where the arguments, and the package variables that the reading takes, are together of bulk at most 1048576: NARROWER than '..Said'. Prove '..Said' where nothing that the law and all that it calls make is longer than what came in: it says more and counts as full. Else prove '..UptoSaid'. A law counts once. -/
mutual
def uptoBulk {H : Type} : DataW H → Nat
  | .lit (.string bytes) => bytes.length + 1
  | .lit _ => 1
  | .nil => 1
  | .ptr d => uptoBulk d + 1
  | .slice elems spare => uptoBulkAll elems + uptoBulkAll spare + 1
  | .agg parts => uptoBulkAll parts + 1
  | .iface _ d => uptoBulk d + 1
  | .map entries => uptoBulkEntries entries + 1
  | .held _ => 1
def uptoBulkAll {H : Type} : List (DataW H) → Nat
  | [] => 0
  | d :: r => uptoBulk d + uptoBulkAll r
def uptoBulkEntries {H : Type} : List (Lit × DataW H) → Nat
  | [] => 0
  | x :: r => uptoBulkEntry x + uptoBulkEntries r
def uptoBulkEntry {H : Type} : Lit × DataW H → Nat
  | (.string bytes, d) => bytes.length + uptoBulk d + 1
  | (_, d) => uptoBulk d + 1
 end
def uptoSmall : (H : Type) → List (DataW H) → Bool := fun _ ds => decide (uptoBulkAll ds ≤ 1048576)
def OpenSpec.upto (s : _root_.Go.ChangeSpec) : _root_.Go.OpenSpec := { _root_.Go.OpenSpec.ofChange s with cond := some uptoSmall }

/-- 'graderlaw.Verifies', WHERE WHAT IT READS IS OF BULK AT MOST 1048576: true; the input reads as it did. -/
def verifiesUptoRow : OpenClaim := { program := "ytnanjomnldfidaa", sum := "ab4e97ab5648fc6cd18160983dd3ad92a1f081399e62eba00a4daf2c62f7d2dd", func := "grader/graderlaw.Verifies", spec := "verifies", apart := false, narrowed := true }
def VerifiesUptoSaid : Prop := verifiesUptoRow.holds Try.pinned (OpenSpec.upto verifiesSpec)

/-- 'graderlaw.Execs', WHERE WHAT IT READS IS OF BULK AT MOST 1048576: true; the input reads as it did. -/
def execsUptoRow : OpenClaim := { program := "ytnanjomnldfidaa", sum := "ab4e97ab5648fc6cd18160983dd3ad92a1f081399e62eba00a4daf2c62f7d2dd", func := "grader/graderlaw.Execs", spec := "execs", apart := false, narrowed := true }
def ExecsUptoSaid : Prop := execsUptoRow.holds Try.pinned (OpenSpec.upto execsSpec)

/-- 'graderlaw.Safe', WHERE WHAT IT READS IS OF BULK AT MOST 1048576: true; the input reads as it did. -/
def safeUptoRow : OpenClaim := { program := "ytnanjomnldfidaa", sum := "ab4e97ab5648fc6cd18160983dd3ad92a1f081399e62eba00a4daf2c62f7d2dd", func := "grader/graderlaw.Safe", spec := "safe", apart := false, narrowed := true }
def SafeUptoSaid : Prop := safeUptoRow.holds Try.pinned (OpenSpec.upto safeSpec)

/-- 'graderlaw.Sealed', WHERE WHAT IT READS IS OF BULK AT MOST 1048576: true; the input reads as it did. -/
def sealedUptoRow : OpenClaim := { program := "ytnanjomnldfidaa", sum := "ab4e97ab5648fc6cd18160983dd3ad92a1f081399e62eba00a4daf2c62f7d2dd", func := "grader/graderlaw.Sealed", spec := "sealed", apart := false, narrowed := true }
def SealedUptoSaid : Prop := sealedUptoRow.holds Try.pinned (OpenSpec.upto sealedSpec)

/-- 'graderlaw.Secret', WHERE WHAT IT READS IS OF BULK AT MOST 1048576: true; the input reads as it did. -/
def secretUptoRow : OpenClaim := { program := "ytnanjomnldfidaa", sum := "ab4e97ab5648fc6cd18160983dd3ad92a1f081399e62eba00a4daf2c62f7d2dd", func := "grader/graderlaw.Secret", spec := "secret", apart := false, narrowed := true }
def SecretUptoSaid : Prop := secretUptoRow.holds Try.pinned (OpenSpec.upto secretSpec)

/-- 'graderlaw.Fuel', WHERE WHAT IT READS IS OF BULK AT MOST 1048576: true; the input reads as it did. -/
def fuelUptoRow : OpenClaim := { program := "ytnanjomnldfidaa", sum := "ab4e97ab5648fc6cd18160983dd3ad92a1f081399e62eba00a4daf2c62f7d2dd", func := "grader/graderlaw.Fuel", spec := "fuel", apart := false, narrowed := true }
def FuelUptoSaid : Prop := fuelUptoRow.holds Try.pinned (OpenSpec.upto fuelSpec)

end Rows
end Go.Proofs.Ytnanjomnldfidaa
