/-
  The laws on runs of code: what they share.
-/
import Derived.Test.YtnanjomnldfidabExecTop
import Derived.Test.YtnanjomnldfidabCodePure2
import Derived.BigQuiet
set_option linter.unusedSimpArgs false
set_option linter.unusedVariables false
set_option linter.unusedSectionVars false
namespace Go.Proofs.Ytnanjomnldfidab
open Go.ChangeShapes Go.WideShapes Go.ChangeAt Go.RowKit

/-- Is nothing over a limit? -/
def cleanB (s : ByteArray) (b : BoxV) : Bool := decide (s.size ≤ 1024 ∧ b.image.size ≤ 256 ∧ b.fuel ≤ 10000)
def box6 (b : BoxV) : Obj := .cells #[.string b.inp, .string b.image, .int .i64 b.kernel, .int .i64 b.secret, .int .i64 b.rights, .int .i64 b.fuel] 23
theorem clean_cells {s : ByteArray} {b : BoxV} (h : cleanB s b = true) : execCells s b = resCells (execR s b).2 (execR s b).1 := by
  have := of_decide_eq_true h
  unfold execCells
  rw [if_neg (by omega)]

set_option maxRecDepth 100000 in
set_option maxHeartbeats 1600000 in
theorem clean_any (s : ByteArray) (b : BoxV) (w : World) (hs : s.size ≤ maxLen) (hsi : b.image.size ≤ maxLen) :
    Calls Try.prog 4 #[.string s, b.val] w fun e w' => e = .returned (.bool (cleanB s b)) ∧ Kept (fun k => k < w.heap.size) w w' := by
  have hk : Kept (fun k => k < w.heap.size) w (w.alloc (box6 b)) := (Kept.refl _ w).alloc _
  unfold box6 at hk
  unfold maxLen at hs hsi
  unfold cleanB BoxV.val
  generalize b.inp = bi at *
  generalize b.image = bm at *
  generalize b.kernel = bk at *
  generalize b.secret = bs at *
  generalize b.rights = br at *
  generalize b.fuel = bf at *
  by_cases h1 : s.size ≤ 1024
  · have i1 : (s.size : Int) ≤ 1024 := by omega
    by_cases h2 : bm.size ≤ 256
    · have i2 : (bm.size : Int) ≤ 256 := by omega
      by_cases h3 : bf ≤ 10000
      · rw [decide_eq_true ⟨h1, h2, h3⟩]
        go_enter Try.func4, Try.ntmps4
        go_wp2
        go_ret
        exact ⟨by simp [h1, h2, h3], hk⟩
      · rw [decide_eq_false (fun h => h3 h.2.2)]
        go_enter Try.func4, Try.ntmps4
        go_wp2
        go_ret
        exact ⟨by simp [h1, h2, h3], hk⟩
    · rw [decide_eq_false (fun h => h2 h.2.1)]
      have i2 : ¬ (bm.size : Int) ≤ 256 := by omega
      go_enter Try.func4, Try.ntmps4
      go_wp2
      go_ret
      exact ⟨by simp [h1, h2], hk⟩
  · rw [decide_eq_false (fun h => h1 h.1)]
    have i1 : ¬ (s.size : Int) ≤ 1024 := by omega
    go_enter Try.func4, Try.ntmps4
    go_wp2
    go_ret
    exact ⟨by simp [h1], hk⟩

set_option maxRecDepth 100000 in
set_option maxHeartbeats 400000 in
theorem lclamp_any (n most : Int) (w : World) : Calls Try.prog 6 #[.int .i64 n, .int .i64 most] w fun e w' => e = .returned (.int .i64 (clampN n most)) ∧ w' = w := by
  unfold clampN
  by_cases h0 : n < 0
  · rw [if_pos h0]
    go_enter Try.func6, Try.ntmps6
    go_wp2
    go_ret
    exact ⟨rfl, rfl⟩
  · rw [if_neg h0]
    by_cases h1 : most < n
    · rw [if_pos h1]
      go_enter Try.func6, Try.ntmps6
      go_wp2
      go_ret
      exact ⟨rfl, rfl⟩
    · rw [if_neg h1]
      go_enter Try.func6, Try.ntmps6
      go_wp2
      go_ret
      exact ⟨rfl, rfl⟩

/-- Where the student's bytes begin. -/
def fenceN (b : BoxV) : Int := clampN b.kernel b.image.size + clampN b.secret (b.image.size - clampN b.kernel b.image.size)
theorem fenceN_is (b : BoxV) : (startM b).fence = fenceN b := by
  unfold startM Ma.start fenceN
  rw [toList_len]
theorem fenceN_bd (b : BoxV) : 0 ≤ fenceN b ∧ fenceN b ≤ b.image.size := by
  obtain ⟨b1, b2⟩ := clampN_bd b.kernel b.image.size (by omega)
  obtain ⟨b3, b4⟩ := clampN_bd b.secret ((b.image.size : Int) - clampN b.kernel b.image.size) (by omega)
  unfold fenceN
  omega
theorem start_bounds (b : BoxV) (hi : b.image.size ≤ 256) (hin : b.inp.size ≤ maxLen) : Bounds (startM b) (startM b) :=
  ⟨(start_fine b hi hin).1, rfl, rfl, rfl, rfl, rfl, rfl, fun _ => rfl, fun _ => rfl, Int.le_refl _⟩
theorem exec_within (s : ByteArray) (b : BoxV) (hi : b.image.size ≤ 256) (hin : b.inp.size ≤ maxLen) : Bounds (startM b) (execR s b).2 :=
  exec_bounds s.toList 10002 0 (by rw [fenceN_is]; exact (fenceN_bd b).1) (start_bounds b hi hin)
theorem mkB_extract (l : List UInt8) (n : Nat) : ((mkB l).extract 0 n).toList = l.take n := by rw [toList_extract, mkB_toList, List.drop_zero]
end Go.Proofs.Ytnanjomnldfidab
