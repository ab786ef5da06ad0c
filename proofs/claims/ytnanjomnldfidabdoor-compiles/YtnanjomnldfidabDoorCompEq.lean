/-
  A program's code does what the program does: what both answer, as cells. Plain mathematics.
-/
import Derived.Test.YtnanjomnldfidabDoorRdDesToCompSim
import Derived.Test.YtnanjomnldfidabDoorRuns
import Derived.Test.YtnanjomnldfidabDoorExecTop
set_option linter.unusedSimpArgs false
set_option linter.unusedVariables false
set_option linter.unusedSectionVars false
namespace Go.Proofs.YtnanjomnldfidabDoor

def codeOf (s : ByteArray) : ByteArray := mkB (codeI (withH (readM s).2.2.steps))
theorem codeOf_list (s : ByteArray) : (codeOf s).toList = codeI (withH (readM s).2.2.steps) := mkB_toList _
theorem codeOf_few {s : ByteArray} (h : (readM s).1 = 0) : (codeOf s).size ≤ 900 ∧ 0 < (codeOf s).size := by
  have D := desH_read s h
  unfold codeOf
  rw [mkB_size, code_len D]
  have h1 := order_sum (H := withH (readM s).2.2.steps)
  have h2 := D.len
  refine ⟨by omega, ?_⟩
  rw [← code_len D]
  have hw := verify_whole (l := codeI (withH (readM s).2.2.steps)) (by rw [code_whole D])
  exact List.length_pos_iff.2 hw.ne
theorem codeOf_whole {s : ByteArray} (h : (readM s).1 = 0) : verifyC (codeOf s).toList = (0, 0) := by rw [codeOf_list]; exact code_whole (desH_read s h)
theorem place_zero (H : List (Int × Int)) : placeI H 0 = 0 := by
  unfold placeI
  rw [if_neg (fun h => by have := h.2; simp [defEnd] at this)]
  rfl
theorem code_runs {s : ByteArray} (h : (readM s).1 = 0) (b : BoxV) (hin : b.inp.size ≤ maxLen) : execCells (codeOf s) b = runCells s b := by
  unfold execCells runCells
  rw [if_neg (show ¬ (readM s).1 ≠ 0 by simp [h])]
  have hc := codeOf_few h
  by_cases h2 : 256 < b.image.size ∨ 10000 < b.fuel
  · rw [if_pos (.inr h2), if_pos h2]
  · rw [if_neg (fun h3 => h3.elim (fun q => by omega) h2), if_neg h2]
    have hi : b.image.size ≤ 256 := by omega
    obtain ⟨L, hl⟩ := laid_of_read s h
    have hinv := start_inv (toksFrom s 0) b hi hin
    have hal := runs_alike L (runFuel (toksFrom s 0)) 0 _ hinv (Nat.le_refl _) (measN (readM s).2.2.steps.length 0 0) (Nat.le_refl _)
    have hal' : runS (readM s).2.2.steps (measN (readM s).2.2.steps.length 0 0) 0 (startM b) = ((runW (toksFrom s 0) (runFuel (toksFrom s 0)) 0 (startM b)).1, mapM (toksFrom s 0) (runW (toksFrom s 0) (runFuel (toksFrom s 0)) 0 (startM b)).2) := hal
    obtain ⟨hf, hN⟩ := start_fine b hi hin
    have hsim := exec_sim (desH_read s h) (measN (readM s).2.2.steps.length 0 0) 0 (startM b) (Nat.zero_le _) hf (fun c hc => by cases hc) (Nat.le_refl _) 10002 hN
    rw [place_zero] at hsim
    have hm : mapP (withH (readM s).2.2.steps) (startM b) = startM b := rfl
    rw [hm] at hsim
    have he : execR (codeOf s) b = ((runS (readM s).2.2.steps (measN (readM s).2.2.steps.length 0 0) 0 (startM b)).1, mapP (withH (readM s).2.2.steps) (runS (readM s).2.2.steps (measN (readM s).2.2.steps.length 0 0) 0 (startM b)).2) := by
      unfold execR
      rw [codeOf_list]
      exact hsim
    rw [he, hal']
    have hst : Ma.start b.inp b.image.toList b.kernel b.secret b.rights b.fuel = startM b := rfl
    rw [hst]
    generalize runW (toksFrom s 0) (runFuel (toksFrom s 0)) 0 (startM b) = R
    generalize withH (readM s).2.2.steps = HH
    rfl
end Go.Proofs.YtnanjomnldfidabDoor
