/-
  Plain functions on words (lists of bytes): no program, no memory.
-/
set_option linter.unusedSimpArgs false
set_option linter.unusedVariables false
set_option linter.unusedSectionVars false
namespace Go.Proofs.YtnanjomnldfidabGreatDoor

/-- The listed words, and the words of the forms. -/
def listedL : List (List UInt8) := [[100, 117, 112], [100, 114, 111, 112], [115, 119, 97, 112], [111, 118, 101, 114], [43], [45], [42], [47], [109, 111, 100], [97, 110, 100], [111, 114], [120, 111, 114], [61], [60], [64], [33], [101, 109, 105, 116], [107, 101, 121], [109, 97, 114, 107]]
def formsL : List (List UInt8) := [[105, 102], [101, 108, 115, 101], [116, 104, 101, 110], [98, 101, 103, 105, 110], [117, 110, 116, 105, 108], [119, 104, 105, 108, 101], [114, 101, 112, 101, 97, 116], [101, 120, 105, 116], [114, 101, 99, 117, 114, 115, 101], [58], [59]]

/-- The place of the first t in l from k on (the length: none). -/
def findFrom (l : List (List UInt8)) (t : List UInt8) (k : Nat) : Nat := k + (l.drop k).findIdx (· == t)
theorem findFrom_no (l : List (List UInt8)) (t : List UInt8) (k : Nat) (h : k < l.length) (hne : (l.getD k [] == t) = false) : findFrom l t k = findFrom l t (k + 1) := by
  unfold findFrom
  rw [List.drop_eq_getElem_cons h, List.findIdx_cons]
  have : (l[k] == t) = false := by simpa [List.getD, h] using hne
  rw [this]
  simp only [cond_false]
  omega
theorem findFrom_yes (l : List (List UInt8)) (t : List UInt8) (k : Nat) (h : k < l.length) (he : (l.getD k [] == t) = true) : findFrom l t k = k := by
  unfold findFrom
  rw [List.drop_eq_getElem_cons h, List.findIdx_cons]
  have : (l[k] == t) = true := by simpa [List.getD, h] using he
  rw [this]
  rfl
theorem findFrom_end (l : List (List UInt8)) (t : List UInt8) (k : Nat) (h : k = l.length) : findFrom l t k = l.length := by
  subst h
  simp [findFrom]

/-- The number of a listed word (19: none), and whether a word is one of the forms. -/
def listIdx (t : List UInt8) : Nat := findFrom listedL t 0
def listOp (t : List UInt8) : Int := if listIdx t < 19 then 16 + (listIdx t : Int) else 0
def listOk (t : List UInt8) : Bool := decide (listIdx t < 19)
def listRef (t : List UInt8) : Int := if listIdx t < 19 then (listIdx t : Int) else -1
theorem listOp_of {t : List UInt8} {k : Nat} (h : k = listIdx t) (hk : k < 19) : listOp t = 16 + (k : Int) ∧ listOk t = true ∧ listRef t = (k : Int) := by
  subst h; simp [listOp, listOk, listRef, hk]
theorem listOp_no {t : List UInt8} (h : 19 = listIdx t) : listOp t = 0 ∧ listOk t = false ∧ listRef t = -1 := by
  simp [listOp, listOk, listRef, ← h]
def isForm (t : List UInt8) : Bool := decide (findFrom formsL t 0 < 11)

/-- A word of digits as a number. -/
def numOf (l : List UInt8) : Int := l.foldl (fun n c => n * 10 + ((c.toNat : Int) - 48)) 0
theorem numOf_snoc (l : List UInt8) (c : UInt8) : numOf (l ++ [c]) = numOf l * 10 + ((c.toNat : Int) - 48) := by simp [numOf]

theorem findFrom_le (l : List (List UInt8)) (t : List UInt8) : findFrom l t 0 ≤ l.length := by
  simp only [findFrom, List.drop_zero, Nat.zero_add]; exact List.findIdx_le_length
theorem isForm_iff (t : List UInt8) : isForm t = true ↔ t ∈ formsL := by
  have : isForm t = decide ((formsL.findIdx (· == t)) < formsL.length) := by simp [isForm, findFrom, formsL]
  rw [this, decide_eq_true_iff, List.findIdx_lt_length]
  simp
theorem listOk_iff (t : List UInt8) : listOk t = true ↔ t ∈ listedL := by
  have : listOk t = decide ((listedL.findIdx (· == t)) < listedL.length) := by simp [listOk, listIdx, findFrom, listedL]
  rw [this, decide_eq_true_iff, List.findIdx_lt_length]
  simp

theorem not_forms {t : List UInt8} (h : t ∉ formsL) : (t == [105, 102]) = false ∧ (t == [101, 108, 115, 101]) = false ∧ (t == [116, 104, 101, 110]) = false ∧ (t == [98, 101, 103, 105, 110]) = false ∧ (t == [117, 110, 116, 105, 108]) = false ∧ (t == [119, 104, 105, 108, 101]) = false ∧ (t == [114, 101, 112, 101, 97, 116]) = false ∧ (t == [101, 120, 105, 116]) = false ∧ (t == [114, 101, 99, 117, 114, 115, 101]) = false ∧ (t == [58]) = false ∧ (t == [59]) = false := by
  simp only [formsL, List.mem_cons, List.not_mem_nil, or_false, not_or] at h
  simpa only [beq_eq_false_iff_ne, ne_eq] using h

/-- is it a word of digits alone (the empty one is)? -/
def digs (l : List UInt8) : Bool := l.all fun c => 48 ≤ c && c ≤ 57
/-- May a definition have that name? -/
def nameOk (t : List UInt8) : Bool := !isForm t && !digs t

/-- The reader of package grader as plain data. -/
structure Rd where
  steps : List (Int × Int)
  forms : List (Int × Int × Int)
  defs : List (ByteArray × Int)
  name : ByteArray
  first : Int
  inside : Bool
  due : Bool

/-- The step that waits at k goes on at v. -/
def aimAt (l : List (Int × Int)) (k : Nat) (v : Int) : List (Int × Int) := l.modify k fun p => (p.1, v)
def aimI (l : List (Int × Int)) (x : Int) : List (Int × Int) := if 0 ≤ x ∧ x < (l.length : Int) then aimAt l x.toNat l.length else l
/-- The innermost open form (kind 0: none). -/
def topOf (l : List (Int × Int × Int)) : Int × Int × Int := l.getLastD (0, 0, 0)

/-- The first step of the last definition of that name. -/
def lastDef (l : List (ByteArray × Int)) (t : List UInt8) : Option Int := (l.reverse.find? fun p => p.1.toList == t).map (·.2)
theorem lastDef_nil (t : List UInt8) : lastDef [] t = none := rfl
theorem lastDef_yes (l : List (ByteArray × Int)) (p : ByteArray × Int) (t : List UInt8) (h : (p.1.toList == t) = true) : lastDef (l ++ [p]) t = some p.2 := by
  simp [lastDef, h]
theorem lastDef_no (l : List (ByteArray × Int)) (p : ByteArray × Int) (t : List UInt8) (h : (p.1.toList == t) = false) : lastDef (l ++ [p]) t = lastDef l t := by
  simp [lastDef, h]

def Rd.add (R : Rd) (op arg : Int) : Rd := { R with steps := R.steps ++ [(op, arg)] }
def Rd.push (R : Rd) (k g h : Int) : Rd := { R with forms := R.forms ++ [(k, g, h)] }
def Rd.pop (R : Rd) : Rd := { R with forms := R.forms.dropLast }
def Rd.aim (R : Rd) (x : Int) : Rd := { R with steps := aimI R.steps x }
def Rd.len (R : Rd) : Int := R.steps.length
def Rd.top (R : Rd) : Int × Int × Int := topOf R.forms


/-- takeName, takeInside's end. -/
def Rd.named (R : Rd) (t : ByteArray) : Rd := { R with due := false, inside := true, name := t, first := R.len }
def Rd.ended (R : Rd) : Rd := { ((R.add 5 0).aim (R.first - 1)) with defs := R.defs ++ [(R.name, R.first)], inside := false }
def numVal (t : List UInt8) : Option Int := if 5 < t.length then none else if 65535 < numOf t then none else some (numOf t)

/-- What take does with a word: the error, and the state behind it. -/
def Rd.word (R : Rd) (l : List UInt8) : Int × Rd :=
  if l = [105, 102] then (0, (R.push 1 0 R.len).add 3 0)
  else if l = [101, 108, 115, 101] then (if R.top.1 = 1 then (0, ((R.pop.push 2 0 R.len).add 2 0).aim R.top.2.2) else (3, R))
  else if l = [116, 104, 101, 110] then (if R.top.1 = 1 ∨ R.top.1 = 2 then (0, R.pop.aim R.top.2.2) else (3, R))
  else if l = [98, 101, 103, 105, 110] then (0, R.push 3 R.len 0)
  else if l = [114, 101, 112, 101, 97, 116] then (if R.top.1 = 4 then (0, (R.pop.add 2 R.top.2.1).aim R.top.2.2) else (3, R))
  else if l = [117, 110, 116, 105, 108] then (if R.top.1 = 3 then (0, R.pop.add 3 R.top.2.1) else (3, R))
  else if l = [119, 104, 105, 108, 101] then (if R.top.1 = 3 then (0, (R.pop.push 4 R.top.2.1 R.len).add 3 R.top.2.1) else (3, R))
  else if l = [58] then (if R.inside = true ∨ R.forms ≠ [] then (3, R) else (0, ({ R with due := true } : Rd).add (-1) 0))
  else if l = [101, 120, 105, 116] then (if R.inside = true then (0, R.add 5 0) else (3, R))
  else if l = [114, 101, 99, 117, 114, 115, 101] then (if R.inside = true then (0, R.add 4 R.first) else (3, R))
  else if l = [59] then (if R.inside = false then (3, R) else if R.forms ≠ [] then (3, R) else (0, R.ended))
  else match lastDef R.defs l with
    | some n => (0, R.add 4 n)
    | none => if listOk l = true then (0, R.add (listOp l) 0) else (2, R)
def Rd.take (R : Rd) (t : ByteArray) : Int × Rd :=
  if R.due = true then (if nameOk t.toList = true then (0, R.named t) else (4, R))
  else if digs t.toList = true then (match numVal t.toList with | some n => (0, R.add 1 n) | none => (2, R))
  else R.word t.toList

end Go.Proofs.YtnanjomnldfidabGreatDoor
