/-
  The result's block, a measure of runs: what both machines share.
-/
import Derived.Test.YtnanjomnldfidabGreatDoorProg
import Derived.Test.YtnanjomnldfidabGreatDoorMem
import Derived.Test.YtnanjomnldfidabGreatDoorMachPure
import Derived.WideShapes
set_option linter.unusedSimpArgs false
set_option linter.unusedVariables false
set_option linter.unusedSectionVars false
namespace Go.Proofs.YtnanjomnldfidabGreatDoor
open Go.RowKit

theorem toList_len (t : ByteArray) : t.toList.length = t.size := by rw [ByteArray.toList_eq]; simp
theorem eq_mk {t : ByteArray} {l : List UInt8} (h : t.toList = l) : t = ⟨l.toArray⟩ := by
  apply WideShapes.bytes_inj
  rw [ByteArray.toList_eq] at h
  simpa using h

theorem toList_append (a b : ByteArray) : (a ++ b).toList = a.toList ++ b.toList := by
  rw [ByteArray.toList_eq, ByteArray.toList_eq, ByteArray.toList_eq]; simp
theorem toList_extract (s : ByteArray) (a z : Nat) : (s.extract a z).toList = (s.toList.take z).drop a := by
  rw [ByteArray.toList_eq, ByteArray.toList_eq]
  rw [show (s.extract a z).data = s.data.extract a z from by simp]
  rw [Array.toList_extract, List.extract_eq_take_drop, List.take_drop]
  by_cases h : a ≤ z
  · rw [show a + (z - a) = z by omega]
  · rw [List.drop_of_length_le (by simp; omega), List.drop_of_length_le (by simp; omega)]
def measN (n : Nat) (u : Int) (p : Nat) : Nat := (10001 - u).toNat * (n + 2) + (n + 1 - p)
theorem measN_lt (n : Nat) (u u' : Int) (p p' : Nat) (hu : 0 ≤ u') (hu' : u' ≤ 10000) (h0 : u ≤ 10000) (hp : p < n) (h : u + 1 ≤ u' ∨ (u' = u ∧ p + 1 ≤ p')) : measN n u' p' < measN n u p := by
  unfold measN
  rcases h with h | ⟨rfl, h⟩
  · obtain ⟨a, ha⟩ : ∃ a, (10001 - u').toNat = a := ⟨_, rfl⟩
    obtain ⟨c, hc⟩ : ∃ c, (10001 - u).toNat = a + 1 + c := ⟨(10001 - u).toNat - (a + 1), by omega⟩
    rw [ha, hc, Nat.add_mul, Nat.add_mul]
    omega
  · omega
def errCells (e : Int) : Array Value := #[.string ⟨#[]⟩, .string ⟨#[]⟩, .int .i64 0, .int .i64 0, .int .i64 e]
/-- What Run leaves. -/
def RunPost (P : Nat → Prop) (cs : Array Value) (w : World) (e : Ending) (w' : World) : Prop := e = .returned (.agg cs) ∧ Kept P w w'

/-- The result's block, written anew. -/
def set5 (w : World) (g : Nat) (a b c d e : Value) : World := (((((w.setCell ⟨g, 0, none⟩ a).setCell ⟨g, 1, none⟩ b).setCell ⟨g, 2, none⟩ c).setCell ⟨g, 3, none⟩ d).setCell ⟨g, 4, none⟩ e)
theorem set5_box {w : World} {g : Nat} {a0 b0 c0 d0 e0 : Value} {t : TypeId} (h : w.heap[g]? = some (.cells #[a0, b0, c0, d0, e0] t (0, 0))) (a b c d e : Value) : (set5 w g a b c d e).heap[g]? = some (.cells #[a, b, c, d, e] t (0, 0)) := by
  unfold set5
  have h1 : (w.setCell ⟨g, 0, none⟩ a).heap[g]? = some (.cells #[a, b0, c0, d0, e0] t (0, 0)) := by rw [heap_setCell_same _ _ _ _ _ _ h]; rfl
  have h2 : ((w.setCell ⟨g, 0, none⟩ a).setCell ⟨g, 1, none⟩ b).heap[g]? = some (.cells #[a, b, c0, d0, e0] t (0, 0)) := by rw [heap_setCell_same _ _ _ _ _ _ h1]; rfl
  have h3 : (((w.setCell ⟨g, 0, none⟩ a).setCell ⟨g, 1, none⟩ b).setCell ⟨g, 2, none⟩ c).heap[g]? = some (.cells #[a, b, c, d0, e0] t (0, 0)) := by rw [heap_setCell_same _ _ _ _ _ _ h2]; rfl
  have h4 : ((((w.setCell ⟨g, 0, none⟩ a).setCell ⟨g, 1, none⟩ b).setCell ⟨g, 2, none⟩ c).setCell ⟨g, 3, none⟩ d).heap[g]? = some (.cells #[a, b, c, d, e0] t (0, 0)) := by rw [heap_setCell_same _ _ _ _ _ _ h3]; rfl
  rw [heap_setCell_same _ _ _ _ _ _ h4]; rfl
theorem set5_kept {w : World} {P : Nat → Prop} {g : Nat} (h : ¬ P g) (a b c d e : Value) : Kept P w (set5 w g a b c d e) :=
  (((((Kept.refl P w).setCell (p := ⟨g, 0, none⟩) h a).setCell (p := ⟨g, 1, none⟩) h b).setCell (p := ⟨g, 2, none⟩) h c).setCell (p := ⟨g, 3, none⟩) h d).setCell (p := ⟨g, 4, none⟩) h e
theorem set5_cells {w : World} {g : Nat} {a b c d e : Value} {t : TypeId} (h : w.heap[g]? = some (.cells #[a, b, c, d, e] t (0, 0))) :
    (w.cell? ⟨g, 0, none⟩ = some a ∧ w.cell? ⟨g, 1, none⟩ = some b ∧ w.cell? ⟨g, 2, none⟩ = some c ∧ w.cell? ⟨g, 3, none⟩ = some d ∧ w.cell? ⟨g, 4, none⟩ = some e) ∧ (∀ j, w.frozen? ⟨g, j, none⟩ = false) :=
  ⟨⟨cell_of_block h 0 _ rfl, cell_of_block h 1 _ rfl, cell_of_block h 2 _ rfl, cell_of_block h 3 _ rfl, cell_of_block h 4 _ rfl⟩, fun _ => frozen_of_row _ _ _ _ _ h⟩
end Go.Proofs.YtnanjomnldfidabGreatDoor
