/-
  The leaves of package grader's reader: isDigits, nextWord.
-/
import Derived.Test.YtnanjomnldfidabProg
import Derived.WalkKit
import Derived.WalkSpells
import Derived.WalkLawsBesides
import Derived.Test.YtnanjomnldfidabToks
set_option linter.unusedSimpArgs false
set_option linter.unusedVariables false
set_option linter.unusedSectionVars false
namespace Go.Proofs.Ytnanjomnldfidab
open Go.RowKit

theorem ret_int {k : IntKind} {a b : Int} (h : a = b) : Ending.returned (.int k a) = .returned (.int k b) := by rw [h]

theorem ret_bool {a b : Bool} (h : a = b) : Ending.returned (.bool a) = .returned (.bool b) := by rw [h]

theorem drop_cons (s : ByteArray) (k : Nat) (h : k < s.size) : s.data.toList.drop k = s[k] :: s.data.toList.drop (k + 1) := by
  have h' : k < s.data.toList.length := by simpa using h
  rw [List.drop_eq_getElem_cons h']
  rfl
theorem drop_end (s : ByteArray) (k : Nat) (h : ¬ k < s.size) : s.data.toList.drop k = [] := by
  apply List.drop_of_length_le
  have : s.data.toList.length = s.size := by simp
  omega

theorem digs_yes (s : ByteArray) (k : Nat) (h : k < s.size) (h1 : 48 ≤ (s[k].toNat : Int)) (h2 : (s[k].toNat : Int) ≤ 57) : digs (s.data.toList.drop k) = digs (s.data.toList.drop (k + 1)) := by
  rw [drop_cons s k h]
  simp only [digs, List.all_cons]
  have : (decide (48 ≤ s[k]) && decide (s[k] ≤ 57)) = true := by simp [UInt8.le_iff_toNat_le]; omega
  rw [this, Bool.true_and]
theorem digs_no (s : ByteArray) (k : Nat) (h : k < s.size) (h1 : (s[k].toNat : Int) < 48 ∨ 57 < (s[k].toNat : Int)) : digs (s.data.toList.drop k) = false := by
  rw [drop_cons s k h]
  simp only [digs, List.all_cons]
  have : (decide (48 ≤ s[k]) && decide (s[k] ≤ 57)) = false := by
    rw [Bool.eq_false_iff]; simp [UInt8.le_iff_toNat_le]; omega
  rw [this, Bool.false_and]

theorem blankEnd_yes (s : ByteArray) (k : Nat) (h : k < s.size) (h1 : (s[k].toNat : Int) ≤ 32) : blankEnd s.data.toList k = blankEnd s.data.toList (k + 1) := by
  unfold blankEnd
  rw [drop_cons s k h, List.takeWhile_cons, if_pos (by simp; omega)]
  simp only [List.length_cons]; omega
theorem blankEnd_no (s : ByteArray) (k : Nat) (h : k < s.size) (h1 : 32 < (s[k].toNat : Int)) : blankEnd s.data.toList k = k := by
  unfold blankEnd
  rw [drop_cons s k h, List.takeWhile_cons, if_neg (by simp; omega)]
  rfl
theorem blankEnd_end (s : ByteArray) (k : Nat) (h : ¬ k < s.size) : blankEnd s.data.toList k = k := by
  unfold blankEnd
  rw [drop_end s k h]; rfl
theorem wordEnd_yes (s : ByteArray) (k : Nat) (h : k < s.size) (h1 : 32 < (s[k].toNat : Int)) : wordEnd s.data.toList k = wordEnd s.data.toList (k + 1) := by
  unfold wordEnd
  rw [drop_cons s k h, List.takeWhile_cons, if_pos (by simp; omega)]
  simp only [List.length_cons]; omega
theorem wordEnd_no (s : ByteArray) (k : Nat) (h : k < s.size) (h1 : (s[k].toNat : Int) ≤ 32) : wordEnd s.data.toList k = k := by
  unfold wordEnd
  rw [drop_cons s k h, List.takeWhile_cons, if_neg (by simp; omega)]
  rfl
theorem wordEnd_end (s : ByteArray) (k : Nat) (h : ¬ k < s.size) : wordEnd s.data.toList k = k := by
  unfold wordEnd
  rw [drop_end s k h]; rfl

end Go.Proofs.Ytnanjomnldfidab
