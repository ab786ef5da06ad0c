/-
  The law Looked: the row and its card.
-/
import Derived.Test.YtnanjomnldfidabDoorAppZeroToLsTab
import Derived.Test.YtnanjomnldfidabDoorRgDecToRgLooked
set_option linter.unusedSimpArgs false
set_option linter.unusedVariables false
set_option linter.unusedSectionVars false
namespace Go.Proofs.YtnanjomnldfidabDoor
open Go.ChangeShapes Go.WideShapes Go.ChangeAt Go.RowKit
open Go.ChangeMaps (open_string shut_string)

def lookedLay (w0 : World) : World :=
  { w0 with heap := (((w0.heap.modify 2 (fillD Rows.laid_grader_grader_listed)).modify 3 (fillD Rows.laid_internal_strconv_uint64pow10)).modify 4 (fillD Rows.laid_math_bits_deBruijn32tab)).modify 5 (fillD Rows.laid_math_bits_deBruijn64tab) }
def lookedArgs : Array Value := #[]

set_option maxRecDepth 100000 in
theorem looked_contract (H : Type) (enc : TypeId × Value → H) (W : World) (base : Nat) (args : Array Value) (ds gs : List (DataW H)) (before : List MemPlace)
    (hval : ∀ (j : Nat) t v, Tryd.f6.params[j]? = some t → args[j]? = some v → Value.okWide Tryd.prog W .any base t v)
    (hW : DataW.Whole enc Tryd.prog Tryd.f6.params.toList Rows.lookedSpec.vars false W args.toList ds gs before)
    (hsz : (DataW.weightsEach Tryd.prog (Tryd.f6.params.toList ++ Rows.lookedSpec.plain.varTypes Tryd.prog) (ds ++ gs)).all (· ≤ reachBytes) = true) (hL : laidMetH Tryd.prog Rows.lookedRow.laid W) :
    Calls Tryd.prog 6 args W fun e W' => ∃ v, e = .returned v ∧ Rows.lookedSpec.post enc Tryd.prog Tryd.f6 false true false false W args v W' := by
  have hW' := hW
  obtain ⟨p, q, hA0, hV, rfl, hfz, hnd⟩ := hW
  have hA : DataW.TrodAll enc Tryd.prog W 0 (fun _ => true) true Tryd.f6.params.toList args.toList ds p := hA0
  rw [Tryd.params6] at hA hval hsz
  obtain ⟨hargs, rfl, rfl⟩ := trodAll_nil hA
  obtain rfl : args = #[] := by cases args; simp_all
  obtain ⟨rfl, rfl⟩ := trodVars_none hV
  clear hA0
  have t1 : LsAt W := ls_of_laid (show laidMet Tryd.prog Rows.lookedRow.laid W from hL) (by simp [Rows.lookedRow]) (by simp [Rows.lookedRow])
  refine (looked_any gSpec W t1).mono fun e W' ⟨he, hk⟩ => ?_
  subst he
  have hg : Below W.heap.size W W' := hk.below (Nat.le_refl _)
  refine ⟨_, rfl, _, _, _, [], [], [], hW', ?_, ?_, rfl, hg.frame _, fun h => by cases h⟩
  · exact trodAll_cons_mk (shut_bool Tryd.underlying4 _) trodAll_mk0
  · exact trodAll_mk0
theorem looked_laid_met (os : Os) : laidMet Tryd.prog Rows.lookedRow.laid ((lookedLay (World.holding Tryd.prog os ⟨#[], #[], []⟩)).forCall (fun _ _ => 0) ⟨#[], lookedArgs, []⟩).memory :=
  laidMet_of_run' 8 (by kernel_rfl) (by kernel_rfl)
theorem looked_reads (os : Os) {H : Type} (enc : TypeId × Value → H) : ∃ places, DataW.whole enc Tryd.prog ((lookedLay (World.holding Tryd.prog os ⟨#[], #[], []⟩)).forCall (fun _ _ => 0) ⟨#[], lookedArgs, []⟩).memory Tryd.f6.params.toList Rows.lookedSpec.vars false lookedArgs.toList 8 = some ([], [], places) :=
  ⟨[], by kernel_rfl⟩

set_option maxRecDepth 100000 in
theorem looked_lifted (os : Os) (started : os.Started) (H : Type) (enc : TypeId × Value → H) (F : Stop.Interp) :
    ReturnsInHanded {} Tryd.checked os 6 .any ((OpenSpec.ofChange Rows.lookedSpec).preRow enc Tryd.prog Tryd.f6 Rows.lookedRow.domain false Rows.lookedRow.laid) (((OpenSpec.ofChange Rows.lookedSpec).at F).post enc Tryd.prog Tryd.f6 false true false false) := by
  obtain ⟨places, hx⟩ := looked_reads os enc
  refine returnsInHanded_of_row (C := Tryd.checked) (s := OpenSpec.ofChange Rows.lookedSpec) own started (by kernel_rfl) Tryd.func6
    (witness_row_at (enc := enc) (C := Tryd.checked) false (lookedLay (World.holding Tryd.prog os ⟨#[], #[], []⟩)) lookedArgs rfl (by kernel_rfl) (by kernel_rfl) (by kernel_rfl)
      (OpenSpec.preRow_of_cond 8 hx (by kernel_rfl) (fun k hk => by cases hk) (by kernel_rfl) (looked_laid_met os))) ?_
  intro W base args ds gs before hval hW _ _ hsz hL _ _
  exact looked_contract H enc W base args ds gs before hval hW hsz hL

theorem looked_said : Rows.LookedSaid :=
  OpenClaim.holds_of_cond 6 Tryd.f6 rfl rfl rfl rfl rfl rfl rfl ⟨rfl, rfl, rfl, rfl, rfl⟩ rfl rfl rfl rfl rfl (by kernel_rfl) Tryd.func6 (by kernel_rfl)
    (of_decide_eq_true (by kernel_rfl)) (by unfold Func.isWrapper; first | (rw [if_pos (by decide +kernel)]; kernel_rfl) | (rw [if_neg (by decide +kernel)]; exact ⟨rfl, rfl⟩))
    (fun os started H enc _ F => by rw [OpenClaim.pre_eq_preRow]; exact looked_lifted os started H enc F)

theorem looked_plain (f : FuncId) (fn : Func) (hf : Tryd.pinned.checked.prog.funcNamed "grader/graderlaw.Looked" = some f) (hfn : Tryd.pinned.checked.prog.funcs[f]? = some fn) :
    false = Tryd.pinned.checked.prog.looks [] ∧ ∀ (j : Nat) t, fn.params[j]? = some t → Tryd.pinned.checked.prog.wantsStandIn t = false := by
  obtain rfl : f = 6 := Option.some.inj ((show Tryd.prog.funcNamed "grader/graderlaw.Looked" = some 6 by kernel_rfl).symm.trans hf) |>.symm
  obtain rfl : fn = Tryd.f6 := (Option.some.inj (Tryd.func6.symm.trans hfn)).symm
  refine ⟨by kernel_rfl, fun j t ht => ?_⟩
  rw [Tryd.params6] at ht
  simp at ht

/-- The card. -/
theorem looked_card : Rows.LookedCardSaid :=
  Claim7.holds_tied_plain_at .later [] _ _ _ _ looked_said (fun _ h => by cases h) (by kernel_rfl) (fun _ h => by cases h) looked_row_tie rfl ⟨rfl, rfl⟩ (by kernel_rfl) rfl looked_plain (by kernel_rfl)
end Go.Proofs.YtnanjomnldfidabDoor
