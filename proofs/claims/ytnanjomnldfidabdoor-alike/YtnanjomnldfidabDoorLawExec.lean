/-
  The laws on runs of code: what they share.
-/
import Derived.Test.YtnanjomnldfidabDoorExecTop
import Derived.Test.YtnanjomnldfidabDoorCodePureToVerPure
import Derived.BigQuiet
set_option linter.unusedSimpArgs false
set_option linter.unusedVariables false
set_option linter.unusedSectionVars false
namespace Go.Proofs.YtnanjomnldfidabDoor
open Go.ChangeShapes Go.WideShapes Go.ChangeAt Go.RowKit

/-- Is nothing over a limit? -/
def cleanB (s : ByteArray) (b : BoxV) : Bool := decide (s.size ≤ 1024 ∧ b.image.size ≤ 256 ∧ b.fuel ≤ 10000)
def box6 (b : BoxV) : Obj := .cells #[.string b.inp, .string b.image, .int .i64 b.kernel, .int .i64 b.secret, .int .i64 b.rights, .int .i64 b.fuel] 23
theorem clean_cells {s : ByteArray} {b : BoxV} (h : cleanB s b = true) : execCells s b = resCells (execR s b).2 (execR s b).1 := by
  have := of_decide_eq_true h
  unfold execCells
  rw [if_neg (by omega)]

/-- Where the student's bytes begin. -/
def fenceN (b : BoxV) : Int := clampN b.kernel b.image.size + clampN b.secret (b.image.size - clampN b.kernel b.image.size)
theorem fenceN_is (b : BoxV) : (startM b).fence = fenceN b := by
  unfold startM Ma.start fenceN
  rw [toList_len]
theorem fenceN_bd (b : BoxV) : 0 ≤ fenceN b ∧ fenceN b ≤ b.image.size := by
  obtain ⟨b1, b2⟩ := clampN_bd b.kernel b.image.size (by omega)
  obtain ⟨b3, b4⟩ := clampN_bd b.secret ((b.image.size : Int) - clampN b.kernel b.image.size) (by omega)
  unfold fenceN
  omega
set_option maxRecDepth 100000 in
set_option maxHeartbeats 3200000 in
/-- graderlaw's same, of two results that are the same. -/
theorem same_same (x y : ByteArray) (a c d : Int) (w : World) (P : Nat → Prop) :
    Calls Tryd.prog 18 #[.agg #[.string x, .string y, .int .i64 a, .int .i64 c, .int .i64 d], .agg #[.string x, .string y, .int .i64 a, .int .i64 c, .int .i64 d]] w fun e w' => e = .returned (.bool true) ∧ Kept P w w' := by
  have q1 : (x.toList == x.toList) = true := by simp
  have q2 : (y.toList == y.toList) = true := by simp
  have q3 : (a == a) = true := by simp
  have q4 : (c == c) = true := by simp
  have q5 : (d == d) = true := by simp
  obtain ⟨w0, hw0⟩ : ∃ w0, w0 = (w.alloc (.cells #[.string x, .string y, .int .i64 a, .int .i64 c, .int .i64 d] 37)).alloc (.cells #[.string x, .string y, .int .i64 a, .int .i64 c, .int .i64 d] 37) := ⟨_, rfl⟩
  have hk0 : Kept P w w0 := by rw [hw0]; exact ((Kept.refl P w).alloc _).alloc _
  have hsz0 : w0.heap.size = w.heap.size + 2 := by rw [hw0]; simp
  have b1 : w0.heap[w.heap.size]? = some (.cells #[.string x, .string y, .int .i64 a, .int .i64 c, .int .i64 d] 37 (0, 0)) := by
    rw [hw0]; exact alloc_block (heap_alloc_new w _)
  have b2 : w0.heap[w.heap.size + 1]? = some (.cells #[.string x, .string y, .int .i64 a, .int .i64 c, .int .i64 d] 37 (0, 0)) := by
    rw [hw0]
    have e : (w.alloc (.cells #[.string x, .string y, .int .i64 a, .int .i64 c, .int .i64 d] 37)).heap.size = w.heap.size + 1 := by simp
    rw [← e]; exact heap_alloc_new _ _
  obtain ⟨⟨c0, c1, c2, c3, c4⟩, _⟩ := set5_cells b1
  obtain ⟨⟨d0, d1, d2, d3, d4⟩, _⟩ := set5_cells b2
  have l1 := lt_of_block b1
  have l2 := lt_of_block b2
  have HW := hide hw0
  clear b1 b2 hw0
  go_enter Tryd.func18, Tryd.ntmps18
  go_wp2
  go_ret
  exact ⟨by simp, by rw [show (w.alloc (.cells #[.string x, .string y, .int .i64 a, .int .i64 c, .int .i64 d] 37)).alloc (.cells #[.string x, .string y, .int .i64 a, .int .i64 c, .int .i64 d] 37) = w0 from HW.out.symm]; exact hk0⟩

theorem start_bounds (b : BoxV) (hi : b.image.size ≤ 256) (hin : b.inp.size ≤ maxLen) : Bounds (startM b) (startM b) :=
  ⟨(start_fine b hi hin).1, rfl, rfl, rfl, rfl, rfl, rfl, fun _ => rfl, fun _ => rfl, Int.le_refl _⟩
theorem exec_within (s : ByteArray) (b : BoxV) (hi : b.image.size ≤ 256) (hin : b.inp.size ≤ maxLen) : Bounds (startM b) (execR s b).2 :=
  exec_bounds s.toList 10002 0 (by rw [fenceN_is]; exact (fenceN_bd b).1) (start_bounds b hi hin)
theorem mkB_extract (l : List UInt8) (n : Nat) : ((mkB l).extract 0 n).toList = l.take n := by rw [toList_extract, mkB_toList, List.drop_zero]
end Go.Proofs.YtnanjomnldfidabDoor
