/-
  Package graderref over a list of words: ends, meaning, wrong, Check. No program, no memory.
-/
import Derived.Test.YtnanjomnldfidabGreatDoorToks
set_option linter.unusedSimpArgs false
set_option linter.unusedVariables false
set_option linter.unusedSectionVars false
namespace Go.Proofs.YtnanjomnldfidabGreatDoor

/-- A program as the list of its words. -/
abbrev Words := List (ByteArray × Nat)
def wAt (T : Words) (p : Nat) : List UInt8 := (T.getD p (ByteArray.empty, 0)).1.toList
def pAt (T : Words) (p : Nat) : Nat := (T.getD p (ByteArray.empty, 0)).2

def endsM (T : Words) (p : Nat) : Nat := p + (T.drop p).findIdx fun x => x.1.toList == [59]
theorem drop_at (T : Words) (p : Nat) (h : p < T.length) : T.drop p = T.getD p (ByteArray.empty, 0) :: T.drop (p + 1) := by
  rw [List.drop_eq_getElem_cons h]; simp [List.getD, h]
theorem endsM_no (T : Words) (p : Nat) (h : p < T.length) (hw : (wAt T p == [59]) = false) : endsM T p = endsM T (p + 1) := by
  unfold endsM
  rw [drop_at T p h, List.findIdx_cons]
  have : ((T.getD p (ByteArray.empty, 0)).1.toList == [59]) = false := hw
  rw [this]
  simp only [cond_false]
  omega
theorem endsM_yes (T : Words) (p : Nat) (h : p < T.length) (hw : (wAt T p == [59]) = true) : endsM T p = p := by
  unfold endsM
  rw [drop_at T p h, List.findIdx_cons]
  have : ((T.getD p (ByteArray.empty, 0)).1.toList == [59]) = true := hw
  rw [this]
  rfl
theorem endsM_end (T : Words) (p : Nat) (h : p = T.length) : endsM T p = p := by
  subst h; simp [endsM]
theorem endsM_le (T : Words) (p : Nat) (h : p ≤ T.length) : p ≤ endsM T p ∧ endsM T p ≤ T.length := by
  have := List.findIdx_le_length (p := fun x : ByteArray × Nat => x.1.toList == [59]) (xs := T.drop p)
  rw [List.length_drop] at this
  unfold endsM
  omega

/-- meaning, of the first k places. -/
def meanTo (T : Words) (p : Nat) (s : List UInt8) : Nat → Int
  | 0 => -1
  | k + 1 => if (wAt T k == [58] && wAt T (k + 1) == s && decide (endsM T k < p)) = true then (k : Int) + 2 else meanTo T p s k
def meaningM (T : Words) (p : Nat) (s : List UInt8) : Int := meanTo T p s (p - 1)
theorem meanTo_bd (T : Words) (p : Nat) (s : List UInt8) : ∀ k, -1 ≤ meanTo T p s k ∧ meanTo T p s k ≤ k + 2
  | 0 => by simp [meanTo]
  | k + 1 => by
    have := meanTo_bd T p s k
    unfold meanTo
    split <;> omega

/-- graderref's digits, Value, isName. -/
def refDigs (t : List UInt8) : Bool := digs t && !t.isEmpty
def refVal (t : List UInt8) : Int := if refDigs t = true then (match numVal t with | some n => n | none => -1) else -1
def refName (t : List UInt8) : Bool := !refDigs t && !isForm t
/-- swap, place as functions: may the word stand here, and what stands open behind it. -/
def swapM (O : List UInt8) (a : UInt8) (t : List UInt8) : Option (List UInt8) := if O.getLast? = some a then some (O.dropLast ++ t) else none
def swapR (O : List UInt8) (I : Bool) (r : Option (List UInt8)) : Bool × List UInt8 × Bool := (r.isSome, r.getD O, I)
def placeM (O : List UInt8) (I : Bool) (t : List UInt8) : Bool × List UInt8 × Bool :=
  if t = [105, 102] then (true, O ++ [105], I)
  else if t = [98, 101, 103, 105, 110] then (true, O ++ [98], I)
  else if t = [101, 108, 115, 101] then swapR O I (swapM O 105 [101])
  else if t = [116, 104, 101, 110] then (if (swapM O 105 []).isSome = true then swapR O I (swapM O 105 []) else swapR O I (swapM O 101 []))
  else if t = [117, 110, 116, 105, 108] then swapR O I (swapM O 98 [])
  else if t = [119, 104, 105, 108, 101] then swapR O I (swapM O 98 [119])
  else if t = [114, 101, 112, 101, 97, 116] then swapR O I (swapM O 119 [])
  else if t = [59] then (I && O.isEmpty, O, false)
  else if t = [58] then (!I && O.isEmpty, O, true)
  else (I, O, I)

/-- wrong: the error, and what stands open behind the word. -/
def wrongM (T : Words) (p : Nat) (O : List UInt8) (I : Bool) : Int × List UInt8 × Bool :=
  if isForm (wAt T p) = true then (if (placeM O I (wAt T p)).1 = true then 0 else 3, (placeM O I (wAt T p)).2)
  else (if refVal (wAt T p) < 0 ∧ listRef (wAt T p) < 0 ∧ meaningM T p (wAt T p) < 0 then 2 else 0, O, I)

/-- Check's loop over the words that are left, from word p on (n: the text's length). -/
def refLoop (T : Words) (n : Nat) : Words → Nat → List UInt8 → Bool → Int × Nat
  | [], _, O, I => if I = true ∨ O ≠ [] then (3, n) else (0, 0)
  | x :: rest, p, O, I =>
    if (wrongM T p O I).1 ≠ 0 then ((wrongM T p O I).1, x.2)
    else if x.1.toList = [58] then
      (match rest with
        | [] => (4, n)
        | y :: rest' => if refName y.1.toList = true then refLoop T n rest' (p + 2) (wrongM T p O I).2.1 (wrongM T p O I).2.2 else (4, y.2))
    else refLoop T n rest (p + 1) (wrongM T p O I).2.1 (wrongM T p O I).2.2
theorem refLoop_nil (T : Words) (n p : Nat) (O : List UInt8) (I : Bool) : refLoop T n [] p O I = if I = true ∨ O ≠ [] then (3, n) else (0, 0) := by rw [refLoop]
theorem refLoop_cons (T : Words) (n : Nat) (x : ByteArray × Nat) (rest : Words) (p : Nat) (O : List UInt8) (I : Bool) : refLoop T n (x :: rest) p O I =
    if (wrongM T p O I).1 ≠ 0 then ((wrongM T p O I).1, x.2)
    else if x.1.toList = [58] then
      (match rest with
        | [] => (4, n)
        | y :: rest' => if refName y.1.toList = true then refLoop T n rest' (p + 2) (wrongM T p O I).2.1 (wrongM T p O I).2.2 else (4, y.2))
    else refLoop T n rest (p + 1) (wrongM T p O I).2.1 (wrongM T p O I).2.2 := by
  rw [refLoop.eq_def]; cases rest <;> rfl
def refCheckM (s : ByteArray) : Int × Nat := if 400 < s.size then (1, 0) else refLoop (toksFrom s 0) s.size (toksFrom s 0) 0 [] false

theorem placeM_len (O : List UInt8) (I : Bool) (t : List UInt8) : (placeM O I t).2.1.length ≤ O.length + 1 := by
  have hsw : ∀ a u, u.length ≤ 1 → ((swapM O a u).getD O).length ≤ O.length + 1 := by
    intro a u hu
    unfold swapM
    split
    · simp; omega
    · simp
  unfold placeM
  repeat' split
  all_goals first
    | (simp; done)
    | (simp only [swapR]; exact hsw _ _ (by simp))
theorem wrongM_len (T : Words) (p : Nat) (O : List UInt8) (I : Bool) : (wrongM T p O I).2.1.length ≤ O.length + 1 := by
  unfold wrongM
  split
  · exact placeM_len O I _
  · simp
end Go.Proofs.YtnanjomnldfidabGreatDoor
