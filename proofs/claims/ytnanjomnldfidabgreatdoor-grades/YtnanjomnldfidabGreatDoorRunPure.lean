/-
  graderref's decide, word and Run as plain functions. No program, no memory.
-/
import Derived.Test.YtnanjomnldfidabGreatDoorJumpPure
import Derived.Test.YtnanjomnldfidabGreatDoorMachPure
set_option linter.unusedSimpArgs false
set_option linter.unusedVariables false
set_option linter.unusedSectionVars false
namespace Go.Proofs.YtnanjomnldfidabGreatDoor

def wIf : List UInt8 := [105, 102]
def wThen : List UInt8 := [116, 104, 101, 110]
def wWhile : List UInt8 := [119, 104, 105, 108, 101]
def wExit : List UInt8 := [101, 120, 105, 116]
def wRec : List UInt8 := [114, 101, 99, 117, 114, 115, 101]

/-- Where the run goes on behind if, while, until, if the number was 0. -/
def goesN (T : Words) (p : Nat) : Nat :=
  if wAt T p = wIf then aheadM T (p + 1) wIf wThen true + 1 else if wAt T p = wWhile then aheadM T (p + 1) wBegin wRepeat false + 1 else backM T p + 1
def decideM (T : Words) (p : Nat) (M : Ma) : Int × Int × Ma :=
  if M.takeN.1 ≠ 0 ∨ M.takeN.2.1 ≠ 0 then ((p : Int) + 1, M.takeN.2.1, M.takeN.2.2) else ((goesN T p : Nat), 0, M.takeN.2.2)
/-- word p: where the run goes on, the error, the machine. -/
def wordM (T : Words) (p : Nat) (M : Ma) : Int × Int × Ma :=
  if wAt T p = [58] then (((endsM T p + 1 : Nat) : Int), 0, M)
  else if wAt T p = wThen ∨ wAt T p = wBegin then ((p : Int) + 1, 0, M)
  else if wAt T p = wIf ∨ wAt T p = wWhile ∨ wAt T p = wUntil then decideM T p M
  else if wAt T p = wElse then (((aheadM T (p + 1) wIf wThen false + 1 : Nat) : Int), M.pass)
  else if wAt T p = wRepeat then (((backM T p + 1 : Nat) : Int), M.pass)
  else if wAt T p = wExit ∨ wAt T p = [59] then M.ret
  else if wAt T p = wRec then ((outerM T p : Nat), M.call ((p : Int) + 1))
  else if 0 ≤ meaningM T p (wAt T p) then (meaningM T p (wAt T p), M.call ((p : Int) + 1))
  else if 0 ≤ listRef (wAt T p) then ((p : Int) + 1, M.doN (listRef (wAt T p)))
  else ((p : Int) + 1, M.number (refVal (wAt T p)))

/-- The run from word p on. -/
def runW (T : Words) : Nat → Nat → Ma → Int × Ma
  | 0, _, M => (0, M)
  | n + 1, p, M => if p < T.length then (if (wordM T p M).2.1 ≠ 0 then (wordM T p M).2 else runW T n (wordM T p M).1.toNat (wordM T p M).2.2) else (0, M)
theorem runW_end (T : Words) (n p : Nat) (M : Ma) (h : ¬ p < T.length) : runW T n p M = (0, M) := by
  cases n with
  | zero => rfl
  | succ n => unfold runW; rw [if_neg h]
theorem runW_err (T : Words) (n p : Nat) (M : Ma) (h : p < T.length) (he : (wordM T p M).2.1 ≠ 0) : runW T (n + 1) p M = (wordM T p M).2 := by
  conv => lhs; unfold runW
  rw [if_pos h, if_pos he]
theorem runW_on (T : Words) (n p : Nat) (M : Ma) (h : p < T.length) (he : (wordM T p M).2.1 = 0) : runW T (n + 1) p M = runW T n (wordM T p M).1.toNat (wordM T p M).2.2 := by
  conv => lhs; unfold runW
  rw [if_pos h, if_neg (by simp [he])]

theorem listRef_bd (t : List UInt8) : listRef t ≤ 18 := by unfold listRef; split <;> omega
theorem refVal_bd (t : List UInt8) (h : digs t = true → 0 ≤ numOf t) : -1 ≤ refVal t ∧ refVal t < 65536 := by
  unfold refVal
  split
  · rename_i hd
    have hd' : digs t = true := by unfold refDigs at hd; simp at hd; exact hd.1
    have h0 := h hd'
    unfold numVal
    by_cases h1 : 5 < t.length
    · rw [if_pos h1]; exact ⟨by decide, by decide⟩
    · rw [if_neg h1]
      by_cases h2 : 65535 < numOf t
      · rw [if_pos h2]; exact ⟨by decide, by decide⟩
      · rw [if_neg h2]; show -1 ≤ numOf t ∧ numOf t < 65536; omega
  · omega
end Go.Proofs.YtnanjomnldfidabGreatDoor
