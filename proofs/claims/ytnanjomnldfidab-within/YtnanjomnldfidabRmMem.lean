/-
  graderref's machine in memory; room, push, pop.
-/
import Derived.Test.YtnanjomnldfidabProg
import Derived.Test.YtnanjomnldfidabMem
import Derived.Test.YtnanjomnldfidabMachPure
import Derived.Test.YtnanjomnldfidabLeaf
import Derived.BigQuiet
import Derived.Deep.QuietTactic
set_option linter.unusedSimpArgs false
set_option linter.unusedVariables false
set_option linter.unusedSectionVars false
namespace Go.Proofs.Ytnanjomnldfidab
open Go.RowKit

def intCells (l : List Int) : List Value := l.map fun x => .int .i64 x
theorem intCells_length (l : List Int) : (intCells l).length = l.length := by simp [intCells]
theorem intCells_snoc (l : List Int) (a : Int) : intCells (l ++ [a]) = intCells l ++ [.int .i64 a] := by simp [intCells]
theorem Try.infoInt : (Try.prog.info? 3).map (fun i => (i.zero, i.size, i.bytes)) = some (some (.int .i64 0), 1, 8) := by kernel_rfl

section
variable {w : World} {P : Nat → Prop} {b : Nat} {M : Ma} {vs vc : Value}
theorem Kept.drewN (P : Nat → Prop) (w : World) (n : Nat) : Kept P w (w.drewN n) := by
  induction n with
  | zero => exact Kept.refl _ _
  | succ n ih => exact ih.drew
end

/-- The last number of a row. -/
theorem row_last {w : World} {P : Nat → Prop} {v : Value} {l : List Int} (h : Row w P 3 1 v l.length (intCells l)) (hne : l ≠ []) :
    ∃ f cp, v = .slice (some ⟨f, 0, none⟩) l.length cp ∧ f < w.heap.size ∧ l.length ≤ cp ∧ cp ≤ 9223372036854775807 ∧ w.cell? ⟨f, l.length - 1, none⟩ = some (.int .i64 (l.getLastD 0)) ∧
      Row w P 3 1 (.slice (some ⟨f, 0, none⟩) (l.length - 1) cp) l.dropLast.length (intCells l.dropLast) := by
  have hpos : 0 < l.length := List.length_pos_iff.2 hne
  obtain ⟨f, cp, rfl⟩ := own_form h.own hpos
  have hcp : l.length ≤ cp ∧ cp ≤ maxLen := by
    rcases h.own.2 with ⟨h0, _⟩ | ⟨g', cap', cur, hv, hg, hh, hnn, hcap, _⟩
    · cases h0
    · cases hv; exact ⟨hnn, hcap⟩
  unfold maxLen at hcp
  refine ⟨f, cp, rfl, h.lt rfl, hcp.1, by omega, ?_, ?_, ?_⟩
  · rw [h.own.cellAt _ (by omega)]
    unfold intCells
    rw [List.getElem?_map, List.getElem?_eq_getElem (by omega)]
    congr 2
    rw [List.getLastD_eq_getLast?, List.getLast?_eq_getElem?, List.getElem?_eq_getElem (by omega)]
    rfl
  · have e : l = l.dropLast ++ [l.getLast hne] := (List.dropLast_concat_getLast hne).symm
    have hown := h.own
    have hl : l.length = l.dropLast.length + 1 := by rw [List.length_dropLast]; omega
    have hc : intCells l = intCells l.dropLast ++ [.int .i64 (l.getLast hne)] := by rw [← intCells_snoc, ← e]
    rw [hc, hl] at hown
    have := ownsRow_pop (size := 1) (by rw [intCells_length]; omega) hown
    rw [show l.length - 1 = l.dropLast.length by rw [List.length_dropLast]]
    exact this
  · exact h.out

end Go.Proofs.Ytnanjomnldfidab
