/-
  The words of a text, with their places; the reader over them. No program, no memory.
-/
import Derived.Test.YtnanjomnldfidabGreatDoorPure
set_option linter.unusedSimpArgs false
set_option linter.unusedVariables false
set_option linter.unusedSectionVars false
namespace Go.Proofs.YtnanjomnldfidabGreatDoor

/-- Where the blanks from k on end; where the word from k on ends. -/
def blankEnd (l : List UInt8) (k : Nat) : Nat := k + ((l.drop k).takeWhile fun c => decide (c.toNat ≤ 32)).length
def wordEnd (l : List UInt8) (k : Nat) : Nat := k + ((l.drop k).takeWhile fun c => decide (32 < c.toNat)).length

theorem takeWhile_le {α : Type} (p : α → Bool) (l : List α) : (l.takeWhile p).length ≤ l.length := by
  induction l with
  | nil => simp
  | cons a l ih => rw [List.takeWhile_cons]; split <;> simp; exact ih
theorem blankEnd_ge (l : List UInt8) (k : Nat) : k ≤ blankEnd l k := by unfold blankEnd; omega
theorem blankEnd_le (l : List UInt8) (k : Nat) (h : k ≤ l.length) : blankEnd l k ≤ l.length := by
  have := takeWhile_le (fun c : UInt8 => decide (c.toNat ≤ 32)) (l.drop k)
  unfold blankEnd; rw [List.length_drop] at this; omega
theorem wordEnd_ge (l : List UInt8) (k : Nat) : k ≤ wordEnd l k := by unfold wordEnd; omega
theorem wordEnd_le (l : List UInt8) (k : Nat) (h : k ≤ l.length) : wordEnd l k ≤ l.length := by
  have := takeWhile_le (fun c : UInt8 => decide (32 < c.toNat)) (l.drop k)
  unfold wordEnd; rw [List.length_drop] at this; omega

/-- The words from place k on. -/
def toksFuel : Nat → ByteArray → Nat → List (ByteArray × Nat)
  | 0, _, _ => []
  | f + 1, s, k => if blankEnd s.data.toList k < wordEnd s.data.toList (blankEnd s.data.toList k) then
      (s.extract (blankEnd s.data.toList k) (wordEnd s.data.toList (blankEnd s.data.toList k)), blankEnd s.data.toList k) :: toksFuel f s (wordEnd s.data.toList (blankEnd s.data.toList k)) else []
theorem len_data (s : ByteArray) : s.data.toList.length = s.size := by simp
theorem toksFuel_stable (s : ByteArray) : ∀ f f' k, k ≤ s.size → s.size + 1 - k ≤ f → s.size + 1 - k ≤ f' → toksFuel f s k = toksFuel f' s k
  | 0, _, k, hk, h, _ => by omega
  | f + 1, 0, k, hk, _, h => by omega
  | f + 1, f' + 1, k, hk, h, h' => by
    unfold toksFuel
    have a1 := blankEnd_ge s.data.toList k
    have a2 := blankEnd_le s.data.toList k (by rw [len_data]; exact hk)
    have a3 := wordEnd_le s.data.toList (blankEnd s.data.toList k) a2
    rw [len_data] at a2 a3
    split
    · rw [toksFuel_stable s f f' _ a3 (by omega) (by omega)]
    · rfl
def toksFrom (s : ByteArray) (k : Nat) : List (ByteArray × Nat) := toksFuel (s.size + 1) s k
/-- The words from place k on, where the next word lies from a to z. -/
def toksAt (s : ByteArray) (a z : Nat) : List (ByteArray × Nat) := if a < z then (s.extract a z, a) :: toksFrom s z else []
theorem toksFrom_eq (s : ByteArray) (k : Nat) (hk : k ≤ s.size) : toksFrom s k = toksAt s (blankEnd s.data.toList k) (wordEnd s.data.toList (blankEnd s.data.toList k)) := by
  have a1 := blankEnd_ge s.data.toList k
  have a2 := blankEnd_le s.data.toList k (by rw [len_data]; exact hk)
  have a3 := wordEnd_le s.data.toList (blankEnd s.data.toList k) a2
  rw [len_data] at a2 a3
  unfold toksFrom toksAt
  conv => lhs; unfold toksFuel
  split
  · rw [toksFuel_stable s s.size (s.size + 1) _ a3 (by omega) (by omega)]; rfl
  · rfl

/-- The reader over a list of words: the error with its place, or the state. -/
def Rd.read (R : Rd) : List (ByteArray × Nat) → Int × Nat × Rd
  | [] => (0, 0, R)
  | (t, a) :: r => if (R.take t).1 = 0 then (R.take t).2.read r else ((R.take t).1, a, R)
theorem Rd.read_nil (R : Rd) : R.read [] = (0, 0, R) := rfl
theorem Rd.read_yes (R : Rd) (t : ByteArray) (a : Nat) (r : List (ByteArray × Nat)) (h : (R.take t).1 = 0) : R.read ((t, a) :: r) = (R.take t).2.read r := by
  rw [Rd.read, if_pos h]
theorem Rd.read_no (R : Rd) (t : ByteArray) (a : Nat) (r : List (ByteArray × Nat)) (h : (R.take t).1 ≠ 0) : R.read ((t, a) :: r) = ((R.take t).1, a, R) := by
  rw [Rd.read, if_neg h]
def Rd.fresh : Rd := { steps := [], forms := [], defs := [], name := ByteArray.empty, first := 0, inside := false, due := false }
/-- What finish answers. -/
def Rd.fin (R : Rd) : Int := if R.due = true then 4 else if R.inside = true ∨ R.forms ≠ [] then 3 else 0
/-- readProgram: the error, its place, the state. -/
def readM (s : ByteArray) : Int × Nat × Rd :=
  if 400 < s.size then (1, 0, Rd.fresh)
  else if (Rd.fresh.read (toksFrom s 0)).1 ≠ 0 then Rd.fresh.read (toksFrom s 0)
  else if (Rd.fresh.read (toksFrom s 0)).2.2.fin ≠ 0 then ((Rd.fresh.read (toksFrom s 0)).2.2.fin, s.size, Rd.fresh)
  else (0, 0, (Rd.fresh.read (toksFrom s 0)).2.2)

/-- How great the reader is at most behind n words. -/
structure Rd.Le (R : Rd) (n : Nat) : Prop where
  steps : R.steps.length ≤ n
  forms : R.forms.length ≤ n
  defs : R.defs.length ≤ n
  first : 0 ≤ R.first
  first' : R.first ≤ n
theorem Rd.Le.mono {R : Rd} {n m : Nat} (h : R.Le n) (hm : n ≤ m) : R.Le m := ⟨by have := h.steps; omega, by have := h.forms; omega, by have := h.defs; omega, h.first, by have := h.first'; omega⟩
theorem aimI_length (l : List (Int × Int)) (x : Int) : (aimI l x).length = l.length := by unfold aimI; split <;> simp [aimAt]
theorem Rd.Le.fresh : Rd.fresh.Le 0 := ⟨by simp [Rd.fresh], by simp [Rd.fresh], by simp [Rd.fresh], by simp [Rd.fresh], by simp [Rd.fresh]⟩
theorem ite_le {c : Prop} [Decidable c] {a b : Int × Rd} {m : Nat} (ha : a.2.Le m) (hb : b.2.Le m) : (if c then a else b).2.Le m := by split <;> assumption
theorem Rd.Le.word {R : Rd} {n : Nat} (h : R.Le n) (l : List UInt8) : (R.word l).2.Le (n + 1) := by
  obtain ⟨h1, h2, h3, h4, h5⟩ := h
  have h6 : R.forms.dropLast.length ≤ n := by rw [List.length_dropLast]; omega
  unfold Rd.word
  cases lastDef R.defs l
  all_goals
    repeat' (refine ite_le ?_ ?_)
    all_goals
      refine ⟨?_, ?_, ?_, ?_, ?_⟩ <;> simp [Rd.push, Rd.add, Rd.pop, Rd.aim, Rd.ended, aimI_length] <;> omega
theorem Rd.Le.take {R : Rd} {n : Nat} (h : R.Le n) (t : ByteArray) : (R.take t).2.Le (n + 1) := by
  have hw := h.word t.toList
  obtain ⟨h1, h2, h3, h4, h5⟩ := h
  unfold Rd.take
  cases numVal t.toList
  all_goals
    refine ite_le (ite_le ?_ ?_) (ite_le ?_ hw)
    all_goals
      refine ⟨?_, ?_, ?_, ?_, ?_⟩ <;> simp [Rd.named, Rd.len, Rd.add] <;> omega
end Go.Proofs.YtnanjomnldfidabGreatDoor
