/-
  The law Compiles: the row and its card.
-/
import Derived.Test.YtnanjomnldfidabDoorCompiles
set_option linter.unusedSimpArgs false
set_option linter.unusedVariables false
set_option linter.unusedSectionVars false
namespace Go.Proofs.YtnanjomnldfidabDoor
open Go.ChangeShapes Go.WideShapes Go.ChangeAt Go.RowKit

theorem compiles_laid_met (os : Os) : laidMet Tryd.prog Rows.compilesRow.laid (({ World.holding Tryd.prog os ⟨#[], #[], []⟩ with heap := (((World.holding Tryd.prog os ⟨#[], #[], []⟩).heap.modify 2 (fillWords listedL)).modify 1 (fillWords listedL)).modify 0 (fillWords formsL) } : World).forCall (fun _ _ => 0) ⟨#[], #[.string ⟨#[]⟩, (⟨⟨#[]⟩, ⟨#[]⟩, 0, 0, 0, 0⟩ : BoxV).val], []⟩).memory :=
  laidMet_of_run' 8 (by kernel_rfl) (by kernel_rfl)
theorem compiles_reads (os : Os) {H : Type} (enc : TypeId × Value → H) : ∃ places, DataW.whole enc Tryd.prog (({ World.holding Tryd.prog os ⟨#[], #[], []⟩ with heap := (((World.holding Tryd.prog os ⟨#[], #[], []⟩).heap.modify 2 (fillWords listedL)).modify 1 (fillWords listedL)).modify 0 (fillWords formsL) } : World).forCall (fun _ _ => 0) ⟨#[], #[.string ⟨#[]⟩, (⟨⟨#[]⟩, ⟨#[]⟩, 0, 0, 0, 0⟩ : BoxV).val], []⟩).memory Tryd.f3.params.toList Rows.compilesSpec.vars false #[Value.string ⟨#[]⟩, (⟨⟨#[]⟩, ⟨#[]⟩, 0, 0, 0, 0⟩ : BoxV).val].toList 8 = some ([.lit (.string []), (⟨⟨#[]⟩, ⟨#[]⟩, 0, 0, 0, 0⟩ : BoxV).data], [], places) :=
  ⟨[], by kernel_rfl⟩

set_option maxRecDepth 100000 in
theorem compiles_lifted (os : Os) (started : os.Started) (H : Type) (enc : TypeId × Value → H) (F : Stop.Interp) :
    ReturnsInHanded {} Tryd.checked os 3 .any ((OpenSpec.ofChange Rows.compilesSpec).preRow enc Tryd.prog Tryd.f3 Rows.compilesRow.domain false Rows.compilesRow.laid) (((OpenSpec.ofChange Rows.compilesSpec).at F).post enc Tryd.prog Tryd.f3 false true false false) := by
  obtain ⟨places, hx⟩ := compiles_reads os enc
  refine returnsInHanded_of_row (C := Tryd.checked) (s := OpenSpec.ofChange Rows.compilesSpec) own started (by kernel_rfl) Tryd.func3
    (witness_row_at (enc := enc) (C := Tryd.checked) false ({ World.holding Tryd.prog os ⟨#[], #[], []⟩ with heap := (((World.holding Tryd.prog os ⟨#[], #[], []⟩).heap.modify 2 (fillWords listedL)).modify 1 (fillWords listedL)).modify 0 (fillWords formsL) }) #[.string ⟨#[]⟩, (⟨⟨#[]⟩, ⟨#[]⟩, 0, 0, 0, 0⟩ : BoxV).val] rfl (by kernel_rfl) (by kernel_rfl) (by kernel_rfl)
      (OpenSpec.preRow_of_cond 8 hx (by kernel_rfl) (fun k hk => by cases hk) (by kernel_rfl) (compiles_laid_met os))) ?_
  intro W base args ds gs before hval hW _ _ _ hL _ _
  exact compiles_contract H enc W base args ds gs before hval hW hL

theorem compiles_said : Rows.CompilesSaid :=
  OpenClaim.holds_of_cond 3 Tryd.f3 rfl rfl rfl rfl rfl rfl rfl ⟨rfl, rfl, rfl, rfl, rfl⟩ rfl rfl rfl rfl rfl (by kernel_rfl) Tryd.func3 (by kernel_rfl)
    (of_decide_eq_true (by kernel_rfl)) (by unfold Func.isWrapper; first | (rw [if_pos (by decide +kernel)]; kernel_rfl) | (rw [if_neg (by decide +kernel)]; exact ⟨rfl, rfl⟩))
    (fun os started H enc _ F => by rw [OpenClaim.pre_eq_preRow]; exact compiles_lifted os started H enc F)

theorem compiles_plain (f : FuncId) (fn : Func) (hf : Tryd.pinned.checked.prog.funcNamed "grader/graderlaw.Compiles" = some f) (hfn : Tryd.pinned.checked.prog.funcs[f]? = some fn) :
    false = Tryd.pinned.checked.prog.looks [] ∧ ∀ (j : Nat) t, fn.params[j]? = some t → Tryd.pinned.checked.prog.wantsStandIn t = false := by
  obtain rfl : f = 3 := Option.some.inj ((show Tryd.prog.funcNamed "grader/graderlaw.Compiles" = some 3 by kernel_rfl).symm.trans hf) |>.symm
  obtain rfl : fn = Tryd.f3 := (Option.some.inj (Tryd.func3.symm.trans hfn)).symm
  refine ⟨by kernel_rfl, fun j t ht => ?_⟩
  rw [Tryd.params3] at ht
  have hm : t = 9 ∨ t = 23 := by simpa using Array.mem_of_getElem? ht
  rcases hm with rfl | rfl
  · exact (show Tryd.prog.wantsStandIn 9 = false by kernel_rfl)
  · exact (show Tryd.prog.wantsStandIn 23 = false by kernel_rfl)

/-- The card. -/
theorem compiles_card : Rows.CompilesCardSaid :=
  Claim7.holds_tied_plain_at .later [] _ _ _ _ compiles_said (fun _ h => by cases h) (by kernel_rfl) (fun _ h => by cases h) compiles_row_tie rfl ⟨rfl, rfl⟩ (by kernel_rfl) rfl compiles_plain (by kernel_rfl)
end Go.Proofs.YtnanjomnldfidabDoor
