/-
  The law Runs.
-/
import Derived.Test.YtnanjomnldfidabGreatDoorRunSim
import Derived.Test.YtnanjomnldfidabGreatDoorDmTop
import Derived.Test.YtnanjomnldfidabGreatDoorChecks
import Derived.Test.YtnanjomnldfidabGreatDoorBoxArg
set_option linter.unusedSimpArgs false
set_option linter.unusedVariables false
set_option linter.unusedSectionVars false
namespace Go.Proofs.YtnanjomnldfidabGreatDoor
open Go.ChangeShapes Go.WideShapes Go.ChangeAt Go.RowKit
open Go.ChangeMaps (open_string shut_string)

/-- What a run answers, as cells. -/
def runCells (s : ByteArray) (b : BoxV) : Array Value :=
  if (readM s).1 ≠ 0 then errCells (readM s).1
  else if 256 < b.image.size ∨ 10000 < b.fuel then errCells 1
  else resCells (runW (toksFrom s 0) (runFuel (toksFrom s 0)) 0 (Ma.start b.inp b.image.toList b.kernel b.secret b.rights b.fuel)).2 (runW (toksFrom s 0) (runFuel (toksFrom s 0)) 0 (Ma.start b.inp b.image.toList b.kernel b.secret b.rights b.fuel)).1
theorem errCells_five (e : Int) : ∃ x y a b c, errCells e = #[.string x, .string y, .int .i64 a, .int .i64 b, .int .i64 c] := ⟨_, _, _, _, _, rfl⟩
theorem runCells_five (s : ByteArray) (b : BoxV) : ∃ x y a c d, runCells s b = #[.string x, .string y, .int .i64 a, .int .i64 c, .int .i64 d] := by
  unfold runCells
  split
  · exact errCells_five _
  · split
    · exact errCells_five _
    · exact ⟨_, _, _, _, _, rfl⟩

theorem start_inv (T : Words) (b : BoxV) (hi : b.image.size ≤ 256) (hin : b.inp.size ≤ maxLen) : RefInv T 0 (Ma.start b.inp b.image.toList b.kernel b.secret b.rights b.fuel) :=
  ⟨Ma.start_ok _ _ _ _ _ _ (by rw [toList_len]; exact hi) (by unfold maxLen at hin; omega), (fun h => by omega), (fun c hc => by simp [Ma.start] at hc)⟩

section
variable (s : ByteArray) (b : BoxV) (w : World) (P : Nat → Prop)
theorem run_any (hP : ∀ k, P k → k < w.heap.size) (hs : s.size ≤ maxLen) (hin : b.inp.size ≤ maxLen) (hsi : b.image.size ≤ maxLen) (hT : WordsAt w 2 listedL) (hPT : P 2) :
    Calls Tryz.prog 23 #[.string s, .string b.inp, .string b.image, .int .i64 b.kernel, .int .i64 b.secret, .int .i64 b.rights, .int .i64 b.fuel] w (RunPost P (runCells s b) w) := by
  unfold runCells
  by_cases h1 : (readM s).1 ≠ 0
  · rw [if_pos h1]; exact run_err s b.inp b.image b.kernel b.secret b.rights b.fuel w P hP hs hT hPT h1
  rw [if_neg h1]
  have h1' : (readM s).1 = 0 := by simpa using h1
  by_cases h2 : 256 < b.image.size ∨ 10000 < b.fuel
  · rw [if_pos h2]; exact run_long s b.inp b.image b.kernel b.secret b.rights b.fuel w P hP hs hsi hT hPT h1' h2
  rw [if_neg h2]
  obtain ⟨L, hl⟩ := laid_of_read s h1'
  have hi : b.image.size ≤ 256 := by omega
  have hinv := start_inv (toksFrom s 0) b hi hin
  have hlen : (readM s).2.2.steps.length ≤ 10000 := by
    rw [L.len]
    have : ∀ n, stepOf (toksFrom s 0) n ≤ n := by
      intro n
      induction n with
      | zero => exact Nat.le_refl _
      | succ n ih =>
        have : emits (toksFrom s 0) n ≤ 1 := by unfold emits; split; omega; split <;> omega
        show stepOf _ n + emits _ n ≤ n + 1
        omega
    have := this (toksFrom s 0).length
    have := toks_length s
    omega
  have hrun := run_ok s b.inp b.image b.kernel b.secret b.rights b.fuel w P hP hs hi (by omega) hT hPT h1' hlen (DevInv (toksFrom s 0)) (stepInv_dev L) ⟨0, _, hinv, rfl, rfl⟩ (measN (readM s).2.2.steps.length 0 0) (Nat.le_refl _)
  have hal := runs_alike L (runFuel (toksFrom s 0)) 0 _ hinv (Nat.le_refl _) (measN (readM s).2.2.steps.length 0 0) (Nat.le_refl _)
  have hal' : runS (readM s).2.2.steps (measN (readM s).2.2.steps.length 0 0) 0 (Ma.start b.inp b.image.toList b.kernel b.secret b.rights b.fuel) = _ := hal
  rw [hal'] at hrun
  exact hrun
theorem refRun_any (hP : ∀ k, P k → k < w.heap.size) (hs : s.size ≤ maxLen) (hin : b.inp.size ≤ maxLen) (hsi : b.image.size ≤ maxLen) (hF : WordsAt w 0 formsL) (hL : WordsAt w 1 listedL) (hPF : P 0) (hPL : P 1) :
    Calls Tryz.prog 28 #[.string s, .string b.inp, .string b.image, .int .i64 b.kernel, .int .i64 b.secret, .int .i64 b.rights, .int .i64 b.fuel] w (RunPost P (runCells s b) w) := by
  have heq : (readM s).1 = (refCheckM s).1 := by rw [← check_eq s]
  unfold runCells
  by_cases h1 : (readM s).1 ≠ 0
  · rw [if_pos h1, heq]
    rw [heq] at h1
    exact refRun_err s b.inp b.image b.kernel b.secret b.rights b.fuel w P hP hs hF hL hPF hPL h1
  rw [if_neg h1]
  have h1' : (readM s).1 = 0 := by simpa using h1
  by_cases h2 : 256 < b.image.size ∨ 10000 < b.fuel
  · rw [if_pos h2]; exact refRun_long s b.inp b.image b.kernel b.secret b.rights b.fuel w P hP hs hsi hF hL hPF hPL (by rw [← heq]; exact h1') h2
  rw [if_neg h2]
  obtain ⟨L, hl⟩ := laid_of_read s h1'
  have hi : b.image.size ≤ 256 := by omega
  exact refRun_ok s b.inp b.image b.kernel b.secret b.rights b.fuel w P hP hl hi (by omega) hF hL hPF hPL (by rw [← heq]; exact h1') (RefInv (toksFrom s 0)) (runInv_ref L) (start_inv (toksFrom s 0) b hi hin) _ (Nat.le_refl _)
end

section
variable {s : ByteArray} {b : BoxV} {w : World} {P : Nat → Prop}
end
end Go.Proofs.YtnanjomnldfidabGreatDoor
