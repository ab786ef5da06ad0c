/-
  NARROWER THAN 'FOR EVERY INPUT', by the rows' own cells (each row's printed sentence says how): Compiles: laid · Alike: laid · Hidden: laid · Looked: laid · Again: laid.
  DERIVED. THE GIVEN ROWS OF THIS SEAT. 5 by the template 'for every input the law returns true; each argument reads behind the call as it read before'; 0 by the template 'total and deterministic' (their statements: YtnanjomnldfidabDoorTotals.lean).
  GIVEN WITH THE SEED: the statements are not yours to turn. If you find one false, say at which input.
  Laid BY PROGRAM, IN A SANDBOX (cutbox-rows.mjs): the forced cells as the released guide's own fill.sh prints them over the translation 61418668351ffd7d… (all of the seat's roots in one cut). By AI agents, Wed Nov 11 2026. No macro, syntax, notation, axiom, sorry.
-/
import Derived.Test.YtnanjomnldfidabDoorChecked
import GoSem.Claim
import GoSem.ClaimJoined
import GoSem.ClaimMapViews
import Derived.JoinedTies
import Derived.KernelRfl
namespace Go.Proofs.YtnanjomnldfidabDoor
/- THE CELL 'sum', in the pinned program and in every row, IS THE sha256 OF THE DUMP (.gsa) THAT YtnanjomnldfidabDoorProg.lean LOADS. Nothing in Lean hashes anything: it is a label: what it is worth is what the hold of that sum in a sandbox is worth. -/
noncomputable def Tryd.pinned : Pinned := { name := "ytnanjomnldfidabdoor", sum := "61418668351ffd7dad00391c9e48e68f0d97576a82cacf7fbecfe1f6fa07d736", checked := Tryd.checked }
namespace Rows
def none {H : Type} : Left H := { results := [], args := [] }

/- WHAT THE LISTED PACKAGE-LEVEL VARIABLES READ AS WHEN THE CALL BEGINS. Each datum BY PROGRAM (the guide's laid-datum.mjs) off the statement by which the dump's own 'gosem.cut.vars' lays the variable. In a bare row this is a premise. The card (YtnanjomnldfidabDoorCards.lean) ties it to the program's text. -/
def laid_grader_graderref_listed {H : Type} : DataW H := .agg [.lit (.string [100, 117, 112]), .lit (.string [100, 114, 111, 112]), .lit (.string [115, 119, 97, 112]), .lit (.string [111, 118, 101, 114]), .lit (.string [43]), .lit (.string [45]), .lit (.string [42]), .lit (.string [47]), .lit (.string [109, 111, 100]), .lit (.string [97, 110, 100]), .lit (.string [111, 114]), .lit (.string [120, 111, 114]), .lit (.string [61]), .lit (.string [60]), .lit (.string [64]), .lit (.string [33]), .lit (.string [101, 109, 105, 116]), .lit (.string [107, 101, 121]), .lit (.string [109, 97, 114, 107])]
def laid_grader_graderref_forms {H : Type} : DataW H := .agg [.lit (.string [105, 102]), .lit (.string [101, 108, 115, 101]), .lit (.string [116, 104, 101, 110]), .lit (.string [98, 101, 103, 105, 110]), .lit (.string [117, 110, 116, 105, 108]), .lit (.string [119, 104, 105, 108, 101]), .lit (.string [114, 101, 112, 101, 97, 116]), .lit (.string [101, 120, 105, 116]), .lit (.string [114, 101, 99, 117, 114, 115, 101]), .lit (.string [58]), .lit (.string [59])]
def laid_grader_grader_listed {H : Type} : DataW H := .agg [.lit (.string [100, 117, 112]), .lit (.string [100, 114, 111, 112]), .lit (.string [115, 119, 97, 112]), .lit (.string [111, 118, 101, 114]), .lit (.string [43]), .lit (.string [45]), .lit (.string [42]), .lit (.string [47]), .lit (.string [109, 111, 100]), .lit (.string [97, 110, 100]), .lit (.string [111, 114]), .lit (.string [120, 111, 114]), .lit (.string [61]), .lit (.string [60]), .lit (.string [64]), .lit (.string [33]), .lit (.string [101, 109, 105, 116]), .lit (.string [107, 101, 121]), .lit (.string [109, 97, 114, 107])]
def laid_math_bits_deBruijn32tab {H : Type} : DataW H := .agg [.lit (.int .u8 0), .lit (.int .u8 1), .lit (.int .u8 28), .lit (.int .u8 2), .lit (.int .u8 29), .lit (.int .u8 14), .lit (.int .u8 24), .lit (.int .u8 3), .lit (.int .u8 30), .lit (.int .u8 22), .lit (.int .u8 20), .lit (.int .u8 15), .lit (.int .u8 25), .lit (.int .u8 17), .lit (.int .u8 4), .lit (.int .u8 8), .lit (.int .u8 31), .lit (.int .u8 27), .lit (.int .u8 13), .lit (.int .u8 23), .lit (.int .u8 21), .lit (.int .u8 19), .lit (.int .u8 16), .lit (.int .u8 7), .lit (.int .u8 26), .lit (.int .u8 12), .lit (.int .u8 18), .lit (.int .u8 6), .lit (.int .u8 11), .lit (.int .u8 5), .lit (.int .u8 10), .lit (.int .u8 9)]
def laid_math_bits_deBruijn64tab {H : Type} : DataW H := .agg [.lit (.int .u8 0), .lit (.int .u8 1), .lit (.int .u8 56), .lit (.int .u8 2), .lit (.int .u8 57), .lit (.int .u8 49), .lit (.int .u8 28), .lit (.int .u8 3), .lit (.int .u8 61), .lit (.int .u8 58), .lit (.int .u8 42), .lit (.int .u8 50), .lit (.int .u8 38), .lit (.int .u8 29), .lit (.int .u8 17), .lit (.int .u8 4), .lit (.int .u8 62), .lit (.int .u8 47), .lit (.int .u8 59), .lit (.int .u8 36), .lit (.int .u8 45), .lit (.int .u8 43), .lit (.int .u8 51), .lit (.int .u8 22), .lit (.int .u8 53), .lit (.int .u8 39), .lit (.int .u8 33), .lit (.int .u8 30), .lit (.int .u8 24), .lit (.int .u8 18), .lit (.int .u8 12), .lit (.int .u8 5), .lit (.int .u8 63), .lit (.int .u8 55), .lit (.int .u8 48), .lit (.int .u8 27), .lit (.int .u8 60), .lit (.int .u8 41), .lit (.int .u8 37), .lit (.int .u8 16), .lit (.int .u8 46), .lit (.int .u8 35), .lit (.int .u8 44), .lit (.int .u8 21), .lit (.int .u8 52), .lit (.int .u8 32), .lit (.int .u8 23), .lit (.int .u8 11), .lit (.int .u8 54), .lit (.int .u8 26), .lit (.int .u8 40), .lit (.int .u8 15), .lit (.int .u8 34), .lit (.int .u8 20), .lit (.int .u8 31), .lit (.int .u8 10), .lit (.int .u8 25), .lit (.int .u8 14), .lit (.int .u8 19), .lit (.int .u8 9), .lit (.int .u8 13), .lit (.int .u8 8), .lit (.int .u8 7), .lit (.int .u8 6)]
def laid_internal_strconv_uint64pow10 {H : Type} : DataW H := .agg [.lit (.int .u64 1), .lit (.int .u64 10), .lit (.int .u64 100), .lit (.int .u64 1000), .lit (.int .u64 10000), .lit (.int .u64 100000), .lit (.int .u64 1000000), .lit (.int .u64 10000000), .lit (.int .u64 100000000), .lit (.int .u64 1000000000), .lit (.int .u64 10000000000), .lit (.int .u64 100000000000), .lit (.int .u64 1000000000000), .lit (.int .u64 10000000000000), .lit (.int .u64 100000000000000), .lit (.int .u64 1000000000000000), .lit (.int .u64 10000000000000000), .lit (.int .u64 100000000000000000), .lit (.int .u64 1000000000000000000), .lit (.int .u64 10000000000000000000)]

/-- 'graderlaw.Compiles': WHATEVER THE INPUT: true; the input reads as it did. -/
def compilesSpec : ChangeSpec := { name := "compiles", fn := fun _ => fun
  | [d1, d2] => { results := [.lit (.bool true)], args := [d1, d2] }
  | _ => none }
def compilesRow : OpenClaim := { program := "ytnanjomnldfidabdoor", sum := "61418668351ffd7dad00391c9e48e68f0d97576a82cacf7fbecfe1f6fa07d736", func := "grader/graderlaw.Compiles", spec := "compiles", named := ["grader/grader.listed", "grader/graderref.forms", "grader/graderref.listed"], apart := false, laid := [("grader/graderref.listed", laid_grader_graderref_listed), ("grader/graderref.forms", laid_grader_graderref_forms), ("grader/grader.listed", laid_grader_grader_listed)] }
def CompilesSaid : Prop := compilesRow.holds Tryd.pinned (OpenSpec.ofChange compilesSpec)

/-- ITS FALSE NEIGHBOUR: 'it returns false'. Refute it at one input. -/
def compilesWrong : ChangeSpec := { name := "compiles", fn := fun _ => fun
  | [d1, d2] => { results := [.lit (.bool false)], args := [d1, d2] }
  | _ => none }
def CompilesWrongFalsely : Prop := compilesRow.holds Tryd.pinned (OpenSpec.ofChange compilesWrong)

/-- 'graderlaw.Alike': WHATEVER THE INPUT: true; the input reads as it did. -/
def alikeSpec : ChangeSpec := { name := "alike", fn := fun _ => fun
  | [d1, d2] => { results := [.lit (.bool true)], args := [d1, d2] }
  | _ => none }
def alikeRow : OpenClaim := { program := "ytnanjomnldfidabdoor", sum := "61418668351ffd7dad00391c9e48e68f0d97576a82cacf7fbecfe1f6fa07d736", func := "grader/graderlaw.Alike", spec := "alike", named := ["grader/grader.listed"], apart := false, laid := [("grader/grader.listed", laid_grader_grader_listed)] }
def AlikeSaid : Prop := alikeRow.holds Tryd.pinned (OpenSpec.ofChange alikeSpec)

/-- ITS FALSE NEIGHBOUR: 'it returns false'. Refute it at one input. -/
def alikeWrong : ChangeSpec := { name := "alike", fn := fun _ => fun
  | [d1, d2] => { results := [.lit (.bool false)], args := [d1, d2] }
  | _ => none }
def AlikeWrongFalsely : Prop := alikeRow.holds Tryd.pinned (OpenSpec.ofChange alikeWrong)

/-- 'graderlaw.Hidden': WHATEVER THE INPUT: true; the input reads as it did. -/
def hiddenSpec : ChangeSpec := { name := "hidden", fn := fun _ => fun
  | [d1, d2, d3] => { results := [.lit (.bool true)], args := [d1, d2, d3] }
  | _ => none }
def hiddenRow : OpenClaim := { program := "ytnanjomnldfidabdoor", sum := "61418668351ffd7dad00391c9e48e68f0d97576a82cacf7fbecfe1f6fa07d736", func := "grader/graderlaw.Hidden", spec := "hidden", named := ["grader/grader.listed", "internal/strconv.uint64pow10", "math/bits.deBruijn32tab", "math/bits.deBruijn64tab"], apart := false, laid := [("math/bits.deBruijn32tab", laid_math_bits_deBruijn32tab), ("math/bits.deBruijn64tab", laid_math_bits_deBruijn64tab), ("internal/strconv.uint64pow10", laid_internal_strconv_uint64pow10), ("grader/grader.listed", laid_grader_grader_listed)] }
def HiddenSaid : Prop := hiddenRow.holds Tryd.pinned (OpenSpec.ofChange hiddenSpec)

/-- ITS FALSE NEIGHBOUR: 'it returns false'. Refute it at one input. -/
def hiddenWrong : ChangeSpec := { name := "hidden", fn := fun _ => fun
  | [d1, d2, d3] => { results := [.lit (.bool false)], args := [d1, d2, d3] }
  | _ => none }
def HiddenWrongFalsely : Prop := hiddenRow.holds Tryd.pinned (OpenSpec.ofChange hiddenWrong)

/-- 'graderlaw.Looked': WHATEVER THE INPUT: true; the input reads as it did. -/
def lookedSpec : ChangeSpec := { name := "looked", fn := fun _ => fun
  | [] => { results := [.lit (.bool true)], args := [] }
  | _ => none }
def lookedRow : OpenClaim := { program := "ytnanjomnldfidabdoor", sum := "61418668351ffd7dad00391c9e48e68f0d97576a82cacf7fbecfe1f6fa07d736", func := "grader/graderlaw.Looked", spec := "looked", named := ["grader/grader.listed", "internal/strconv.uint64pow10", "math/bits.deBruijn32tab", "math/bits.deBruijn64tab"], apart := false, laid := [("math/bits.deBruijn32tab", laid_math_bits_deBruijn32tab), ("math/bits.deBruijn64tab", laid_math_bits_deBruijn64tab), ("internal/strconv.uint64pow10", laid_internal_strconv_uint64pow10), ("grader/grader.listed", laid_grader_grader_listed)] }
def LookedSaid : Prop := lookedRow.holds Tryd.pinned (OpenSpec.ofChange lookedSpec)

/-- ITS FALSE NEIGHBOUR: 'it returns false'. Refute it at one input. -/
def lookedWrong : ChangeSpec := { name := "looked", fn := fun _ => fun
  | [] => { results := [.lit (.bool false)], args := [] }
  | _ => none }
def LookedWrongFalsely : Prop := lookedRow.holds Tryd.pinned (OpenSpec.ofChange lookedWrong)

/-- 'graderlaw.Again': WHATEVER THE INPUT: true; the input reads as it did. -/
def againSpec : ChangeSpec := { name := "again", fn := fun _ => fun
  | [d1, d2, d3] => { results := [.lit (.bool true)], args := [d1, d2, d3] }
  | _ => none }
def againRow : OpenClaim := { program := "ytnanjomnldfidabdoor", sum := "61418668351ffd7dad00391c9e48e68f0d97576a82cacf7fbecfe1f6fa07d736", func := "grader/graderlaw.Again", spec := "again", named := ["grader/grader.listed", "internal/strconv.uint64pow10", "math/bits.deBruijn32tab", "math/bits.deBruijn64tab"], apart := false, laid := [("math/bits.deBruijn32tab", laid_math_bits_deBruijn32tab), ("math/bits.deBruijn64tab", laid_math_bits_deBruijn64tab), ("internal/strconv.uint64pow10", laid_internal_strconv_uint64pow10), ("grader/grader.listed", laid_grader_grader_listed)] }
def AgainSaid : Prop := againRow.holds Tryd.pinned (OpenSpec.ofChange againSpec)

/-- ITS FALSE NEIGHBOUR: 'it returns false'. Refute it at one input. -/
def againWrong : ChangeSpec := { name := "again", fn := fun _ => fun
  | [d1, d2, d3] => { results := [.lit (.bool false)], args := [d1, d2, d3] }
  | _ => none }
def AgainWrongFalsely : Prop := againRow.holds Tryd.pinned (OpenSpec.ofChange againWrong)

/- THE SECOND FORM. 'bulk': how many values and letters a reading holds, each counted each time it is reached (what is shared counts as often as it is met; a slice's spare places count too). A statement '..UptoSaid' is the law's where the arguments, and the package variables that the reading takes, are together of bulk at most 1048576: NARROWER than '..Said'. Prove '..Said' where nothing that the law and all that it calls make is longer than what came in: it says more and counts as full. Else prove '..UptoSaid'. A law counts once. -/
mutual
def uptoBulk {H : Type} : DataW H → Nat
  | .lit (.string bytes) => bytes.length + 1
  | .lit _ => 1
  | .nil => 1
  | .ptr d => uptoBulk d + 1
  | .slice elems spare => uptoBulkAll elems + uptoBulkAll spare + 1
  | .agg parts => uptoBulkAll parts + 1
  | .iface _ d => uptoBulk d + 1
  | .map entries => uptoBulkEntries entries + 1
  | .held _ => 1
def uptoBulkAll {H : Type} : List (DataW H) → Nat
  | [] => 0
  | d :: r => uptoBulk d + uptoBulkAll r
def uptoBulkEntries {H : Type} : List (Lit × DataW H) → Nat
  | [] => 0
  | x :: r => uptoBulkEntry x + uptoBulkEntries r
def uptoBulkEntry {H : Type} : Lit × DataW H → Nat
  | (.string bytes, d) => bytes.length + uptoBulk d + 1
  | (_, d) => uptoBulk d + 1
 end
def uptoSmall : (H : Type) → List (DataW H) → Bool := fun _ ds => decide (uptoBulkAll ds ≤ 1048576)
def OpenSpec.upto (s : _root_.Go.ChangeSpec) : _root_.Go.OpenSpec := { _root_.Go.OpenSpec.ofChange s with cond := some uptoSmall }

/-- 'graderlaw.Compiles', WHERE WHAT IT READS IS OF BULK AT MOST 1048576: true; the input reads as it did. -/
def compilesUptoRow : OpenClaim := { program := "ytnanjomnldfidabdoor", sum := "61418668351ffd7dad00391c9e48e68f0d97576a82cacf7fbecfe1f6fa07d736", func := "grader/graderlaw.Compiles", spec := "compiles", named := ["grader/grader.listed", "grader/graderref.forms", "grader/graderref.listed"], apart := false, laid := [("grader/graderref.listed", laid_grader_graderref_listed), ("grader/graderref.forms", laid_grader_graderref_forms), ("grader/grader.listed", laid_grader_grader_listed)], narrowed := true }
def CompilesUptoSaid : Prop := compilesUptoRow.holds Tryd.pinned (OpenSpec.upto compilesSpec)

/-- 'graderlaw.Alike', WHERE WHAT IT READS IS OF BULK AT MOST 1048576: true; the input reads as it did. -/
def alikeUptoRow : OpenClaim := { program := "ytnanjomnldfidabdoor", sum := "61418668351ffd7dad00391c9e48e68f0d97576a82cacf7fbecfe1f6fa07d736", func := "grader/graderlaw.Alike", spec := "alike", named := ["grader/grader.listed"], apart := false, laid := [("grader/grader.listed", laid_grader_grader_listed)], narrowed := true }
def AlikeUptoSaid : Prop := alikeUptoRow.holds Tryd.pinned (OpenSpec.upto alikeSpec)

/-- 'graderlaw.Hidden', WHERE WHAT IT READS IS OF BULK AT MOST 1048576: true; the input reads as it did. -/
def hiddenUptoRow : OpenClaim := { program := "ytnanjomnldfidabdoor", sum := "61418668351ffd7dad00391c9e48e68f0d97576a82cacf7fbecfe1f6fa07d736", func := "grader/graderlaw.Hidden", spec := "hidden", named := ["grader/grader.listed", "internal/strconv.uint64pow10", "math/bits.deBruijn32tab", "math/bits.deBruijn64tab"], apart := false, laid := [("math/bits.deBruijn32tab", laid_math_bits_deBruijn32tab), ("math/bits.deBruijn64tab", laid_math_bits_deBruijn64tab), ("internal/strconv.uint64pow10", laid_internal_strconv_uint64pow10), ("grader/grader.listed", laid_grader_grader_listed)], narrowed := true }
def HiddenUptoSaid : Prop := hiddenUptoRow.holds Tryd.pinned (OpenSpec.upto hiddenSpec)

/-- 'graderlaw.Looked', WHERE WHAT IT READS IS OF BULK AT MOST 1048576: true; the input reads as it did. -/
def lookedUptoRow : OpenClaim := { program := "ytnanjomnldfidabdoor", sum := "61418668351ffd7dad00391c9e48e68f0d97576a82cacf7fbecfe1f6fa07d736", func := "grader/graderlaw.Looked", spec := "looked", named := ["grader/grader.listed", "internal/strconv.uint64pow10", "math/bits.deBruijn32tab", "math/bits.deBruijn64tab"], apart := false, laid := [("math/bits.deBruijn32tab", laid_math_bits_deBruijn32tab), ("math/bits.deBruijn64tab", laid_math_bits_deBruijn64tab), ("internal/strconv.uint64pow10", laid_internal_strconv_uint64pow10), ("grader/grader.listed", laid_grader_grader_listed)], narrowed := true }
def LookedUptoSaid : Prop := lookedUptoRow.holds Tryd.pinned (OpenSpec.upto lookedSpec)

/-- 'graderlaw.Again', WHERE WHAT IT READS IS OF BULK AT MOST 1048576: true; the input reads as it did. -/
def againUptoRow : OpenClaim := { program := "ytnanjomnldfidabdoor", sum := "61418668351ffd7dad00391c9e48e68f0d97576a82cacf7fbecfe1f6fa07d736", func := "grader/graderlaw.Again", spec := "again", named := ["grader/grader.listed", "internal/strconv.uint64pow10", "math/bits.deBruijn32tab", "math/bits.deBruijn64tab"], apart := false, laid := [("math/bits.deBruijn32tab", laid_math_bits_deBruijn32tab), ("math/bits.deBruijn64tab", laid_math_bits_deBruijn64tab), ("internal/strconv.uint64pow10", laid_internal_strconv_uint64pow10), ("grader/grader.listed", laid_grader_grader_listed)], narrowed := true }
def AgainUptoSaid : Prop := againUptoRow.holds Tryd.pinned (OpenSpec.upto againSpec)

end Rows
end Go.Proofs.YtnanjomnldfidabDoor
