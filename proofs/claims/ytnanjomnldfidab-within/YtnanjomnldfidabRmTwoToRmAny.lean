/-
  graderref's machine: two.
  graderref's machine: Do.
  graderref's machine: Do, the words that take one number; Do in all.
  graderref's machine: Do in all; clamp, newMach, end, limits.
-/
import Derived.Test.YtnanjomnldfidabRmDo
import Derived.Test.YtnanjomnldfidabBase5
import Derived.Laws.BytesArg
set_option linter.unusedSimpArgs false
set_option linter.unusedVariables false
set_option linter.unusedSectionVars false
namespace Go.Proofs.Ytnanjomnldfidab
open Go.RowKit

/-- One byte as a text. -/
theorem run_byte_string (w : World) (y : Int) : (convert 35 9 (.slice (some ⟨w.heap.size, 0, none⟩) 1 1)).run Try.prog (w.alloc (.cells #[.int .u8 y] 5)).drew = .ok (.string (strOfNums [y])) (w.alloc (.cells #[.int .u8 y] 5)).drew :=
  run_convert_bytes_arg (P := Try.prog) (w.alloc (.cells #[.int .u8 y] 5)).drew 35 5 Try.underlying35 Try.underlying5 w.heap.size 0 1 1 [y] rfl (fun i hi => by
    have : i = 0 := by omega
    subst this
    simp) 9 Try.underlying9
theorem strOfNums_one (x : Int) : (strOfNums [x % 256]).toList = [byteOf x] := by
  rw [ByteArray.toList_eq]; rfl

section
variable {w : World} {P : Nat → Prop} {b : Nat} {M : Ma}
end
end Go.Proofs.Ytnanjomnldfidab

set_option linter.unusedSimpArgs false
set_option linter.unusedVariables false
set_option linter.unusedSectionVars false
namespace Go.Proofs.Ytnanjomnldfidab
open Go.RowKit

theorem Ma.room_len {M : Ma} {t g : Int} (h : M.room t g = 0) : t ≤ M.stack.length := by
  unfold Ma.room at h
  split at h
  · cases h
  · split at h
    · cases h
    · omega
theorem Ma.pop_push {M : Ma} (h : M.stack ≠ []) : M.pop.push M.top = M := by
  unfold Ma.pop Ma.push Ma.top
  have : M.stack.dropLast ++ [M.stack.getLastD 0] = M.stack := by
    rw [List.getLastD_eq_getLast?, List.getLast?_eq_some_getLast h]
    exact List.dropLast_concat_getLast h
  simp only [this]
theorem Ma.pop_ne {M : Ma} (h : 2 ≤ M.stack.length) : M.pop.stack ≠ [] := by
  intro hn
  have : M.stack.dropLast.length = 0 := by rw [show M.stack.dropLast = [] from hn]; rfl
  rw [List.length_dropLast] at this
  omega
theorem Ma.ne_of_len {M : Ma} (h : 1 ≤ M.stack.length) : M.stack ≠ [] := List.length_pos_iff.1 h
theorem Ma.top_mem {M : Ma} (h : M.stack ≠ []) : M.top ∈ M.stack := by
  unfold Ma.top
  rw [List.getLastD_eq_getLast?, List.getLast?_eq_some_getLast h]
  exact List.getLast_mem h
theorem Ma.Ok.top {M : Ma} (h : M.Ok) (hne : M.stack ≠ []) : 0 ≤ M.top ∧ M.top < 65536 := h.nums _ (Ma.top_mem hne)
theorem Ma.Ok.top2 {M : Ma} (h : M.Ok) (hne : M.pop.stack ≠ []) : 0 ≤ M.pop.top ∧ M.pop.top < 65536 := h.nums _ ((List.dropLast_sublist _).subset (Ma.top_mem hne))

section
variable {w : World} {P : Nat → Prop} {b : Nat} {M : Ma}

theorem takesN_bd {n : Int} : 0 ≤ takesN n ∧ takesN n ≤ 2 := by unfold takesN; split; omega; split <;> omega
theorem givesN_bd {n : Int} : 0 ≤ givesN n ∧ givesN n ≤ 3 := by unfold givesN; split; omega; split; omega; split <;> omega

end
end Go.Proofs.Ytnanjomnldfidab

set_option linter.unusedSimpArgs false
set_option linter.unusedVariables false
set_option linter.unusedSectionVars false
namespace Go.Proofs.Ytnanjomnldfidab
open Go.RowKit

section
variable {w : World} {P : Nat → Prop} {b : Nat} {M : Ma}
end
end Go.Proofs.Ytnanjomnldfidab

set_option linter.unusedSimpArgs false
set_option linter.unusedVariables false
set_option linter.unusedSectionVars false
namespace Go.Proofs.Ytnanjomnldfidab
open Go.RowKit

section
variable {w : World} {P : Nat → Prop} {b : Nat} {M : Ma}

theorem act_two {n : Int} (hn : n ≠ 17 ∧ n ≠ 1 ∧ n ≠ 0 ∧ n ≠ 14 ∧ n ≠ 16 ∧ n ≠ 18) (h2 : n ≠ 2) (h3 : n ≠ 3) (h15 : n ≠ 15) : M.tick.act n = M.tick.pop.pop.push (sumN n M.pop.top M.top) := by
  unfold Ma.act
  rw [if_neg hn.1, if_neg hn.2.1, if_neg hn.2.2.1, if_neg hn.2.2.2.1, if_neg hn.2.2.2.2.1, if_neg hn.2.2.2.2.2, if_neg h2, if_neg h3, if_neg h15]
  rfl

end

/-- clamp. -/
def clampN (n most : Int) : Int := if n < 0 then 0 else if most < n then most else n
theorem clampN_bd (n most : Int) (h : 0 ≤ most) : 0 ≤ clampN n most ∧ clampN n most ≤ most := by
  unfold clampN; split; omega; split <;> omega

/-- The machine at its start. -/
def Ma.start (inp : ByteArray) (image : List UInt8) (kernel secret rights fuel : Int) : Ma :=
  { stack := [], calls := [], image := image, kernel := clampN kernel image.length, fence := clampN kernel image.length + clampN secret (image.length - clampN kernel image.length), inp := inp, pos := 0, rights := rights, fuel := clampN fuel 10000, out := [], mark := 0, used := 0 }
theorem Ma.start_ok (inp : ByteArray) (image : List UInt8) (kernel secret rights fuel : Int) (hi : image.length ≤ 256) (hin : inp.size ≤ 9223372036854775807) : (Ma.start inp image kernel secret rights fuel).Ok := by
  have h1 := clampN_bd kernel image.length (by omega)
  have h2 := clampN_bd secret (image.length - clampN kernel image.length) (by omega)
  have h3 := clampN_bd fuel 10000 (by omega)
  refine ⟨by simp [Ma.start], by simp [Ma.start], by simp [Ma.start], hi, h1.1, ?_, ?_, hin, ?_, ?_, h3.2, ?_, ?_, by simp [Ma.start], ?_, ?_⟩
  all_goals (simp only [Ma.start]; omega)

/-- The result's cells. -/
def resCells (M : Ma) (e : Int) : Array Value := #[.string (mkB M.out), .string (mkB M.image), .int .i64 M.mark, .int .i64 M.used, .int .i64 e]
def usedOf (w : World) (b : Nat) : Int := match w.cell? ⟨b, 11, none⟩ with | some (.int _ n) => n | _ => 0
end Go.Proofs.Ytnanjomnldfidab
