/-
  The law Grades: the row and its card.
-/
import Derived.Test.YtnanjomnldfidabGreatDoorAppZeroToLsTab
import Derived.Test.YtnanjomnldfidabGreatDoorRgDecToRgApart
set_option linter.unusedSimpArgs false
set_option linter.unusedVariables false
set_option linter.unusedSectionVars false
namespace Go.Proofs.YtnanjomnldfidabGreatDoor
open Go.ChangeShapes Go.WideShapes Go.ChangeAt Go.RowKit
open Go.ChangeMaps (open_string shut_string)

def gradesLay (w0 : World) : World :=
  { w0 with heap := (((((w0.heap.modify 2 (fillD Rows.laid_grader_grader_listed)).modify 3 (fillD Rows.laid_internal_strconv_uint64pow10)).modify 4 (fillD Rows.laid_math_bits_deBruijn32tab)).modify 5 (fillD Rows.laid_math_bits_deBruijn64tab)).modify 0 (fillD Rows.laid_grader_graderref_forms)).modify 1 (fillD Rows.laid_grader_graderref_listed) }
def gradesArgs : Array Value := #[.agg #[.string ⟨#[]⟩, .slice none 0 0, .int .i64 0, .int .i64 0], .slice none 0 0]

set_option maxRecDepth 100000 in
theorem grades_contract (H : Type) (enc : TypeId × Value → H) (W : World) (base : Nat) (args : Array Value) (ds gs : List (DataW H)) (before : List MemPlace)
    (hval : ∀ (j : Nat) t v, Tryz.f3.params[j]? = some t → args[j]? = some v → Value.okWide Tryz.prog W .any base t v)
    (hW : DataW.Whole enc Tryz.prog Tryz.f3.params.toList Rows.gradesSpec.vars false W args.toList ds gs before)
    (hsz : (DataW.weightsEach Tryz.prog (Tryz.f3.params.toList ++ Rows.gradesSpec.plain.varTypes Tryz.prog) (ds ++ gs)).all (· ≤ reachBytes) = true) (hL : laidMetH Tryz.prog Rows.gradesRow.laid W) :
    Calls Tryz.prog 3 args W fun e W' => ∃ v, e = .returned v ∧ Rows.gradesSpec.post enc Tryz.prog Tryz.f3 false true false false W args v W' := by
  have hW' := hW
  obtain ⟨p, q, hA0, hV, rfl, hfz, hnd⟩ := hW
  have hA : DataW.TrodAll enc Tryz.prog W 0 (fun _ => true) true Tryz.f3.params.toList args.toList ds p := hA0
  rw [Tryz.params3] at hA hval hsz
  obtain ⟨v0, vs0, d0, ds0, p0, q0, hargs, rfl, rfl, h0, r0⟩ := trodAll_cons hA
  obtain ⟨v1, vs1, d1, ds1, p1, q1, hargs1, rfl, rfl, h1, r1⟩ := trodAll_cons r0
  obtain ⟨rfl, rfl, rfl⟩ := trodAll_nil r1
  obtain rfl : args = #[v0, v1] := by cases args; simp_all
  obtain ⟨rfl, rfl⟩ := trodVars_none hV
  clear hA0
  simp only [List.append_nil] at hW'
  have hlt : ∀ x ∈ p0 ++ p1, x.block < W.heap.size := fun x hx => hW'.lt x (by simpa using hx)
  obtain ⟨ck, tv, ts, rights, fuel, rfl, e1, e2, e3, e4, e5, e6⟩ := open_exam (hval 0 24 v0 rfl rfl) h0 (weigh hsz 0 rfl rfl)
  have hok1 := hval 1 25 v1 rfl rfl
  have hok1' : Cell.okWide Tryz.prog W .any base 25 v1 := by simpa only [Value.okWide, Tryz.underlying25] using hok1
  have h1k := h1
  obtain ⟨fu1, hf1⟩ := h1k
  obtain ⟨a1, len1, cap1, rfl⟩ := okWide_slice Tryz.underlying25 hok1
  obtain ⟨ls, s1, s2, s3, s4⟩ := open_list hok1' (by simpa [Value.cells] using hf1) (weigh hsz 1 rfl rfl)
  have t1 : Globs W := globs_of_laid (show laidMet Tryz.prog Rows.gradesRow.laid W from hL) (by simp [Rows.gradesRow]) (by simp [Rows.gradesRow]) (by simp [Rows.gradesRow]) (by simp [Rows.gradesRow])
  refine (grades_any gSpec W ck tv ts rights fuel _ ls t1 e1 e2 e4 e3 e5 s1 s2 s3 s4).mono fun e W' ⟨he, hk⟩ => ?_
  subst he
  have hg : Below W.heap.size W W' := hk.below (Nat.le_refl _)
  refine ⟨_, rfl, _, _, _, [], p0 ++ (p1 ++ []), [], hW', ?_, ?_, rfl, hg.frame _, fun h => by cases h⟩
  · exact trodAll_cons_mk (shut_bool Tryz.underlying4 _) trodAll_mk0
  · exact trodAll_cons_mk (back (by kernel_rfl) (of_decide_eq_true (by kernel_rfl)) h0 hg (fun x hx => hlt x (by simp [hx]))) (trodAll_cons_mk (back (by kernel_rfl) (of_decide_eq_true (by kernel_rfl)) h1 hg (fun x hx => hlt x (by simp [hx]))) trodAll_mk0)
theorem grades_laid_met (os : Os) : laidMet Tryz.prog Rows.gradesRow.laid ((gradesLay (World.holding Tryz.prog os ⟨#[], #[], []⟩)).forCall (fun _ _ => 0) ⟨#[], gradesArgs, []⟩).memory :=
  laidMet_of_run' 8 (by kernel_rfl) (by kernel_rfl)
theorem grades_reads (os : Os) {H : Type} (enc : TypeId × Value → H) : ∃ places, DataW.whole enc Tryz.prog ((gradesLay (World.holding Tryz.prog os ⟨#[], #[], []⟩)).forCall (fun _ _ => 0) ⟨#[], gradesArgs, []⟩).memory Tryz.f3.params.toList Rows.gradesSpec.vars false gradesArgs.toList 8 = some ([.agg [.lit (.string []), .nil, .lit (.int .i64 0), .lit (.int .i64 0)], .nil], [], places) :=
  ⟨[], by kernel_rfl⟩

set_option maxRecDepth 100000 in
theorem grades_lifted (os : Os) (started : os.Started) (H : Type) (enc : TypeId × Value → H) (F : Stop.Interp) :
    ReturnsInHanded {} Tryz.checked os 3 .any ((OpenSpec.ofChange Rows.gradesSpec).preRow enc Tryz.prog Tryz.f3 Rows.gradesRow.domain false Rows.gradesRow.laid) (((OpenSpec.ofChange Rows.gradesSpec).at F).post enc Tryz.prog Tryz.f3 false true false false) := by
  obtain ⟨places, hx⟩ := grades_reads os enc
  refine returnsInHanded_of_row (C := Tryz.checked) (s := OpenSpec.ofChange Rows.gradesSpec) own started (by kernel_rfl) Tryz.func3
    (witness_row_at (enc := enc) (C := Tryz.checked) false (gradesLay (World.holding Tryz.prog os ⟨#[], #[], []⟩)) gradesArgs rfl (by kernel_rfl) (by kernel_rfl) (by kernel_rfl)
      (OpenSpec.preRow_of_cond 8 hx (by kernel_rfl) (fun k hk => by cases hk) (by kernel_rfl) (grades_laid_met os))) ?_
  intro W base args ds gs before hval hW _ _ hsz hL _ _
  exact grades_contract H enc W base args ds gs before hval hW hsz hL

theorem grades_said : Rows.GradesSaid :=
  OpenClaim.holds_of_cond 3 Tryz.f3 rfl rfl rfl rfl rfl rfl rfl ⟨rfl, rfl, rfl, rfl, rfl⟩ rfl rfl rfl rfl rfl (by kernel_rfl) Tryz.func3 (by kernel_rfl)
    (of_decide_eq_true (by kernel_rfl)) (by unfold Func.isWrapper; first | (rw [if_pos (by decide +kernel)]; kernel_rfl) | (rw [if_neg (by decide +kernel)]; exact ⟨rfl, rfl⟩))
    (fun os started H enc _ F => by rw [OpenClaim.pre_eq_preRow]; exact grades_lifted os started H enc F)

theorem grades_plain (f : FuncId) (fn : Func) (hf : Tryz.pinned.checked.prog.funcNamed "grader/graderlaw.Grades" = some f) (hfn : Tryz.pinned.checked.prog.funcs[f]? = some fn) :
    false = Tryz.pinned.checked.prog.looks [] ∧ ∀ (j : Nat) t, fn.params[j]? = some t → Tryz.pinned.checked.prog.wantsStandIn t = false := by
  obtain rfl : f = 3 := Option.some.inj ((show Tryz.prog.funcNamed "grader/graderlaw.Grades" = some 3 by kernel_rfl).symm.trans hf) |>.symm
  obtain rfl : fn = Tryz.f3 := (Option.some.inj (Tryz.func3.symm.trans hfn)).symm
  refine ⟨by kernel_rfl, fun j t ht => ?_⟩
  rw [Tryz.params3] at ht
  have hm : t = 24 ∨ t = 25 := by simpa using Array.mem_of_getElem? ht
  rcases hm with rfl | rfl
  · exact (show Tryz.prog.wantsStandIn 24 = false by kernel_rfl)
  · exact (show Tryz.prog.wantsStandIn 25 = false by kernel_rfl)

/-- The card. -/
theorem grades_card : Rows.GradesCardSaid :=
  Claim7.holds_tied_plain_at .later [] _ _ _ _ grades_said (fun _ h => by cases h) (by kernel_rfl) (fun _ h => by cases h) grades_row_tie rfl ⟨rfl, rfl⟩ (by kernel_rfl) rfl grades_plain (by kernel_rfl)
end Go.Proofs.YtnanjomnldfidabGreatDoor
