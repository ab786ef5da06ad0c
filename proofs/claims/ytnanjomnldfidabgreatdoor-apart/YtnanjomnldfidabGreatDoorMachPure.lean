/-
  The machine as plain data: what a step does (P5 to P7). No memory.
-/
import Derived.Test.YtnanjomnldfidabGreatDoorPure
import Derived.WalkKit
set_option linter.unusedSimpArgs false
set_option linter.unusedVariables false
set_option linter.unusedSectionVars false
namespace Go.Proofs.YtnanjomnldfidabGreatDoor

/-- What a running program has. The top of the stack is the last of the list. -/
structure Ma where
  stack : List Int
  calls : List Int
  image : List UInt8
  kernel : Int
  fence : Int
  inp : ByteArray
  pos : Int
  rights : Int
  fuel : Int
  out : List UInt8
  mark : Int
  used : Int

/-- A text of these bytes. -/
def mkB (l : List UInt8) : ByteArray := ⟨l.toArray⟩
theorem mkB_size (l : List UInt8) : (mkB l).size = l.length := rfl
theorem mkB_toList (l : List UInt8) : (mkB l).toList = l := by rw [ByteArray.toList_eq]; rfl

/-- What holds of a machine that runs. -/
structure Ma.Ok (M : Ma) : Prop where
  stack : M.stack.length ≤ 16
  nums : ∀ x ∈ M.stack, 0 ≤ x ∧ x < 65536
  calls : M.calls.length ≤ 12
  image : M.image.length ≤ 256
  kernel : 0 ≤ M.kernel
  fence : M.kernel ≤ M.fence
  fence' : M.fence ≤ M.image.length
  inp : M.inp.size ≤ 9223372036854775807
  pos : 0 ≤ M.pos
  pos' : M.pos ≤ M.inp.size
  fuel : M.fuel ≤ 10000
  used : 0 ≤ M.used
  used' : M.used ≤ 10000
  out : M.out.length ≤ 64
  mark : 0 ≤ M.mark
  mark' : M.mark < 65536

/-- The first errors of a step that takes and gives so many numbers. -/
def Ma.room (M : Ma) (take give : Int) : Int :=
  if M.fuel ≤ M.used then 6 else if (M.stack.length : Int) < take then 7 else if 16 < (M.stack.length : Int) - take + give then 8 else 0
def Ma.push (M : Ma) (n : Int) : Ma := { M with stack := M.stack ++ [n] }
def Ma.pop (M : Ma) : Ma := { M with stack := M.stack.dropLast }
def Ma.top (M : Ma) : Int := M.stack.getLastD 0
def Ma.tick (M : Ma) : Ma := { M with used := M.used + 1 }

/-- How many numbers the listed word n takes and gives; the right that it needs. -/
def takesN (n : Int) : Int := if n = 17 then 0 else if n = 0 ∨ n = 1 ∨ n = 14 ∨ n = 16 ∨ n = 18 then 1 else 2
def givesN (n : Int) : Int := if n = 1 ∨ n = 15 ∨ n = 16 ∨ n = 18 then 0 else if n = 0 ∨ n = 2 then 2 else if n = 3 then 3 else 1
def noRight (r k : Int) : Bool := bits BinOp.and IntKind.i64 r k == 0
/-- The errors of the listed word n behind ErrDeep. -/
def Ma.fault (M : Ma) (n : Int) : Int :=
  if (n = 16 ∧ noRight M.rights 1 = true) ∨ (n = 17 ∧ noRight M.rights 2 = true) ∨ (n = 18 ∧ noRight M.rights 8 = true) then 10
  else if n = 16 ∧ 64 ≤ M.out.length then 11
  else if (n = 7 ∨ n = 8) ∧ M.top = 0 then 12
  else if n = 14 ∧ ((M.image.length : Int) ≤ M.top ∨ (M.kernel ≤ M.top ∧ M.top < M.fence ∧ noRight M.rights 4 = true)) then 13
  else if n = 15 ∧ (M.top < M.fence ∨ (M.image.length : Int) ≤ M.top) then 13
  else 0
def oneN (v : Bool) : Int := if v = true then 1 else 0
/-- The words from + to <. -/
def sumN (n a b : Int) : Int :=
  if n = 4 then (a + b) % 65536 else if n = 5 then (a + 65536 - b) % 65536 else if n = 6 then (a * b) % 65536
  else if n = 7 then a / b else if n = 8 then a % b else if n = 9 then bits BinOp.and IntKind.i64 a b else if n = 10 then bits BinOp.or IntKind.i64 a b else if n = 11 then bits BinOp.xor IntKind.i64 a b
  else if n = 12 then oneN (a == b) else oneN (decide (a < b))
def byteOf (a : Int) : UInt8 := UInt8.ofNat (a % 256).toNat
/-- What the listed word n does (no error). -/
def Ma.act (M : Ma) (n : Int) : Ma :=
  if n = 17 then (if M.pos < M.inp.size then { (M.push ((M.inp.toList.getD M.pos.toNat 0).toNat : Int)) with pos := M.pos + 1 } else M.push 65535)
  else if n = 1 then M.pop
  else if n = 0 then M.push M.top
  else if n = 14 then M.pop.push ((M.image.getD M.top.toNat 0).toNat : Int)
  else if n = 16 then { M.pop with out := M.out ++ [byteOf M.top] }
  else if n = 18 then { M.pop with mark := M.top }
  else if n = 2 then (M.pop.pop.push M.top).push M.pop.top
  else if n = 3 then M.push M.pop.top
  else if n = 15 then { M.pop.pop with image := M.image.set M.top.toNat (byteOf M.pop.top) }
  else M.pop.pop.push (sumN n M.pop.top M.top)
/-- The listed word n. -/
def Ma.doN (M : Ma) (n : Int) : Int × Ma :=
  if M.room (takesN n) (givesN n) ≠ 0 then (M.room (takesN n) (givesN n), M) else if M.fault n ≠ 0 then (M.fault n, M) else (0, M.tick.act n)
/-- A number; if, while and until; a step that only goes on elsewhere; a call; a return. -/
def Ma.number (M : Ma) (n : Int) : Int × Ma := if M.room 0 1 ≠ 0 then (M.room 0 1, M) else (0, (M.push n).tick)
def Ma.takeN (M : Ma) : Int × Int × Ma := if M.room 1 0 ≠ 0 then (0, M.room 1 0, M) else (M.top, 0, M.tick.pop)
def Ma.pass (M : Ma) : Int × Ma := if M.room 0 0 ≠ 0 then (M.room 0 0, M) else (0, M.tick)
def Ma.call (M : Ma) (back : Int) : Int × Ma := if M.room 0 0 ≠ 0 then (M.room 0 0, M) else if 12 ≤ M.calls.length then (9, M) else (0, { M.tick with calls := M.calls ++ [back] })
def Ma.ret (M : Ma) : Int × Int × Ma := if M.room 0 0 ≠ 0 then (0, M.room 0 0, M) else if M.calls = [] then (0, 7, M) else (M.calls.getLastD 0, 0, { M.tick with calls := M.calls.dropLast })
end Go.Proofs.YtnanjomnldfidabGreatDoor
