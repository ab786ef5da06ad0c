/-
  graderref's ahead, back, outer as plain functions. No program, no memory.
-/
import Derived.Test.YtnanjomnldfidabGreatDoorRefPure
set_option linter.unusedSimpArgs false
set_option linter.unusedVariables false
set_option linter.unusedSectionVars false
namespace Go.Proofs.YtnanjomnldfidabGreatDoor

def wElse : List UInt8 := [101, 108, 115, 101]
def wBegin : List UInt8 := [98, 101, 103, 105, 110]
def wUntil : List UInt8 := [117, 110, 116, 105, 108]
def wRepeat : List UInt8 := [114, 101, 112, 101, 97, 116]

/-- Does ahead stop at the word t, the depth being d? The depth behind it. -/
def hitN (d : Int) (t down : List UInt8) (els : Bool) : Bool := (d == 0) && ((t == down) || (els && (t == wElse)))
def depN (d : Int) (t up down : List UInt8) : Int := if (t == up) = true then d + 1 else if ((t == down) || ((up == wBegin) && (t == wUntil))) = true then d - 1 else d
/-- How many words ahead goes on. -/
def aheadL (up down : List UInt8) (els : Bool) : Words → Int → Nat
  | [], _ => 0
  | x :: r, d => if hitN d x.1.toList down els = true then 0 else aheadL up down els r (depN d x.1.toList up down) + 1
def aheadM (T : Words) (p : Nat) (up down : List UInt8) (els : Bool) : Nat := p + aheadL up down els (T.drop p) 0
theorem aheadL_end (T : Words) (k : Nat) (up down : List UInt8) (els : Bool) (d : Int) (h : T.length ≤ k) : aheadL up down els (T.drop k) d = 0 := by
  rw [List.drop_of_length_le h]; rfl
theorem aheadL_hit (T : Words) (k : Nat) (up down : List UInt8) (els : Bool) (d : Int) (h : k < T.length) (hh : hitN d (wAt T k) down els = true) : aheadL up down els (T.drop k) d = 0 := by
  rw [drop_at T k h]; exact if_pos hh
theorem aheadL_on (T : Words) (k : Nat) (up down : List UInt8) (els : Bool) (d : Int) (h : k < T.length) (hh : hitN d (wAt T k) down els = false) : aheadL up down els (T.drop k) d = aheadL up down els (T.drop (k + 1)) (depN d (wAt T k) up down) + 1 := by
  rw [drop_at T k h]; exact if_neg (by rw [show (T.getD k (ByteArray.empty, 0)).1.toList = wAt T k from rfl, hh]; simp)
theorem aheadL_le (up down : List UInt8) (els : Bool) : ∀ (l : Words) (d : Int), aheadL up down els l d ≤ l.length
  | [], _ => Nat.le_refl _
  | x :: r, d => by
    unfold aheadL
    split
    · omega
    · have := aheadL_le up down els r (depN d x.1.toList up down); simp; omega
theorem aheadM_bd (T : Words) (p : Nat) (up down : List UInt8) (els : Bool) (h : p ≤ T.length) : p ≤ aheadM T p up down els ∧ aheadM T p up down els ≤ T.length := by
  have := aheadL_le up down els (T.drop p) 0
  rw [List.length_drop] at this
  unfold aheadM; omega

/-- back, from the word in front of p on, the depth being d. -/
def backL (T : Words) : Nat → Int → Nat
  | 0, _ => 0
  | p + 1, d => if ((wAt T p == wUntil) || (wAt T p == wRepeat)) = true then backL T p (d + 1) else if (wAt T p == wBegin) = true then (if (d == 0) = true then p else backL T p (d - 1)) else backL T p d
def backM (T : Words) (p : Nat) : Nat := backL T p 0
theorem backL_le (T : Words) : ∀ p d, backL T p d ≤ p
  | 0, _ => Nat.le_refl _
  | p + 1, d => by
    have h1 := backL_le T p (d + 1)
    have h2 := backL_le T p (d - 1)
    have h3 := backL_le T p d
    unfold backL
    repeat' split
    all_goals omega
/-- outer. -/
def outerL (T : Words) : Nat → Nat
  | 0 => 0
  | p + 1 => if (wAt T (p + 1) == [58]) = true then p + 1 else outerL T p
def outerM (T : Words) (p : Nat) : Nat := outerL T p + 2
theorem outerL_le (T : Words) : ∀ p, outerL T p ≤ p
  | 0 => Nat.le_refl _
  | p + 1 => by
    have := outerL_le T p
    unfold outerL
    split <;> omega
end Go.Proofs.YtnanjomnldfidabGreatDoor
