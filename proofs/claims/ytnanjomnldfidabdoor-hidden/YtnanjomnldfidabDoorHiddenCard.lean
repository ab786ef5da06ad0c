/-
  The law Hidden: the row and its card.
-/
import Derived.Test.YtnanjomnldfidabDoorAppZeroToLsTab
set_option linter.unusedSimpArgs false
set_option linter.unusedVariables false
set_option linter.unusedSectionVars false
namespace Go.Proofs.YtnanjomnldfidabDoor
open Go.ChangeShapes Go.WideShapes Go.ChangeAt Go.RowKit
open Go.ChangeMaps (open_string shut_string)

def hiddenLay (w0 : World) : World :=
  { w0 with heap := (((w0.heap.modify 2 (fillD Rows.laid_grader_grader_listed)).modify 3 (fillD Rows.laid_internal_strconv_uint64pow10)).modify 4 (fillD Rows.laid_math_bits_deBruijn32tab)).modify 5 (fillD Rows.laid_math_bits_deBruijn64tab) }
def hiddenArgs : Array Value := #[.agg #[.string ⟨#[]⟩, .slice none 0 0, .int .i64 0, .int .i64 0], .slice none 0 0, .string ⟨#[]⟩]

set_option maxRecDepth 100000 in
theorem hidden_contract (H : Type) (enc : TypeId × Value → H) (W : World) (base : Nat) (args : Array Value) (ds gs : List (DataW H)) (before : List MemPlace)
    (hval : ∀ (j : Nat) t v, Tryd.f5.params[j]? = some t → args[j]? = some v → Value.okWide Tryd.prog W .any base t v)
    (hW : DataW.Whole enc Tryd.prog Tryd.f5.params.toList Rows.hiddenSpec.vars false W args.toList ds gs before)
    (hsz : (DataW.weightsEach Tryd.prog (Tryd.f5.params.toList ++ Rows.hiddenSpec.plain.varTypes Tryd.prog) (ds ++ gs)).all (· ≤ reachBytes) = true) (hL : laidMetH Tryd.prog Rows.hiddenRow.laid W) :
    Calls Tryd.prog 5 args W fun e W' => ∃ v, e = .returned v ∧ Rows.hiddenSpec.post enc Tryd.prog Tryd.f5 false true false false W args v W' := by
  have hW' := hW
  obtain ⟨p, q, hA0, hV, rfl, hfz, hnd⟩ := hW
  have hA : DataW.TrodAll enc Tryd.prog W 0 (fun _ => true) true Tryd.f5.params.toList args.toList ds p := hA0
  rw [Tryd.params5] at hA hval hsz
  obtain ⟨v0, vs0, d0, ds0, p0, q0, hargs, rfl, rfl, h0, r0⟩ := trodAll_cons hA
  obtain ⟨v1, vs1, d1, ds1, p1, q1, hargs1, rfl, rfl, h1, r1⟩ := trodAll_cons r0
  obtain ⟨v2, vs2, d2, ds2, p2, q2, hargs2, rfl, rfl, h2, r2⟩ := trodAll_cons r1
  obtain ⟨rfl, rfl, rfl⟩ := trodAll_nil r2
  obtain rfl : args = #[v0, v1, v2] := by cases args; simp_all
  obtain ⟨rfl, rfl⟩ := trodVars_none hV
  clear hA0
  simp only [List.append_nil] at hW'
  have hlt : ∀ x ∈ p0 ++ (p1 ++ p2), x.block < W.heap.size := fun x hx => hW'.lt x (by simpa using hx)
  obtain ⟨ck, tv, ts, rights, fuel, rfl, e1, e2, e3, e4, e5, e6⟩ := open_exam (hval 0 42 v0 rfl rfl) h0 (weigh hsz 0 rfl rfl)
  have hok1 := hval 1 43 v1 rfl rfl
  have hok1' : Cell.okWide Tryd.prog W .any base 43 v1 := by simpa only [Value.okWide, Tryd.underlying43] using hok1
  have h1k := h1
  obtain ⟨fu1, hf1⟩ := h1k
  obtain ⟨a1, len1, cap1, rfl⟩ := okWide_slice Tryd.underlying43 hok1
  obtain ⟨ls, s1, s2, s3, s4⟩ := open_list hok1' (by simpa [Value.cells] using hf1) (weigh hsz 1 rfl rfl)
  have h2k := h2
  obtain ⟨src, rfl, rfl, rfl, hsr⟩ := open_string Tryd.underlying9 (hval 2 9 v2 rfl rfl) h2
  have t1 : LsAt W := ls_of_laid (show laidMet Tryd.prog Rows.hiddenRow.laid W from hL) (by simp [Rows.hiddenRow]) (by simp [Rows.hiddenRow])
  refine (lawHidden_any gSpec W ck tv ts rights fuel _ ls src t1 e1 e2 e4 e3 e5 e6 s1 s2 s3 hsr).mono fun e W' ⟨he, hk⟩ => ?_
  subst he
  have hg : Below W.heap.size W W' := hk.below (Nat.le_refl _)
  refine ⟨_, rfl, _, _, _, [], p0 ++ (p1 ++ ([] ++ [])), [], hW', ?_, ?_, rfl, hg.frame _, fun h => by cases h⟩
  · exact trodAll_cons_mk (shut_bool Tryd.underlying4 _) trodAll_mk0
  · exact trodAll_cons_mk (back (by kernel_rfl) (of_decide_eq_true (by kernel_rfl)) h0 hg (fun x hx => hlt x (by simp [hx])))
      (trodAll_cons_mk (back (by kernel_rfl) (of_decide_eq_true (by kernel_rfl)) h1 hg (fun x hx => hlt x (by simp [hx]))) (trodAll_cons_mk (back (by kernel_rfl) (of_decide_eq_true (by kernel_rfl)) h2k hg (fun x hx => by cases hx)) trodAll_mk0))
theorem hidden_laid_met (os : Os) : laidMet Tryd.prog Rows.hiddenRow.laid ((hiddenLay (World.holding Tryd.prog os ⟨#[], #[], []⟩)).forCall (fun _ _ => 0) ⟨#[], hiddenArgs, []⟩).memory :=
  laidMet_of_run' 8 (by kernel_rfl) (by kernel_rfl)
theorem hidden_reads (os : Os) {H : Type} (enc : TypeId × Value → H) : ∃ places, DataW.whole enc Tryd.prog ((hiddenLay (World.holding Tryd.prog os ⟨#[], #[], []⟩)).forCall (fun _ _ => 0) ⟨#[], hiddenArgs, []⟩).memory Tryd.f5.params.toList Rows.hiddenSpec.vars false hiddenArgs.toList 8 = some ([.agg [.lit (.string []), .nil, .lit (.int .i64 0), .lit (.int .i64 0)], .nil, .lit (.string [])], [], places) :=
  ⟨[], by kernel_rfl⟩

set_option maxRecDepth 100000 in
theorem hidden_lifted (os : Os) (started : os.Started) (H : Type) (enc : TypeId × Value → H) (F : Stop.Interp) :
    ReturnsInHanded {} Tryd.checked os 5 .any ((OpenSpec.ofChange Rows.hiddenSpec).preRow enc Tryd.prog Tryd.f5 Rows.hiddenRow.domain false Rows.hiddenRow.laid) (((OpenSpec.ofChange Rows.hiddenSpec).at F).post enc Tryd.prog Tryd.f5 false true false false) := by
  obtain ⟨places, hx⟩ := hidden_reads os enc
  refine returnsInHanded_of_row (C := Tryd.checked) (s := OpenSpec.ofChange Rows.hiddenSpec) own started (by kernel_rfl) Tryd.func5
    (witness_row_at (enc := enc) (C := Tryd.checked) false (hiddenLay (World.holding Tryd.prog os ⟨#[], #[], []⟩)) hiddenArgs rfl (by kernel_rfl) (by kernel_rfl) (by kernel_rfl)
      (OpenSpec.preRow_of_cond 8 hx (by kernel_rfl) (fun k hk => by cases hk) (by kernel_rfl) (hidden_laid_met os))) ?_
  intro W base args ds gs before hval hW _ _ hsz hL _ _
  exact hidden_contract H enc W base args ds gs before hval hW hsz hL

theorem hidden_said : Rows.HiddenSaid :=
  OpenClaim.holds_of_cond 5 Tryd.f5 rfl rfl rfl rfl rfl rfl rfl ⟨rfl, rfl, rfl, rfl, rfl⟩ rfl rfl rfl rfl rfl (by kernel_rfl) Tryd.func5 (by kernel_rfl)
    (of_decide_eq_true (by kernel_rfl)) (by unfold Func.isWrapper; first | (rw [if_pos (by decide +kernel)]; kernel_rfl) | (rw [if_neg (by decide +kernel)]; exact ⟨rfl, rfl⟩))
    (fun os started H enc _ F => by rw [OpenClaim.pre_eq_preRow]; exact hidden_lifted os started H enc F)

theorem hidden_plain (f : FuncId) (fn : Func) (hf : Tryd.pinned.checked.prog.funcNamed "grader/graderlaw.Hidden" = some f) (hfn : Tryd.pinned.checked.prog.funcs[f]? = some fn) :
    false = Tryd.pinned.checked.prog.looks [] ∧ ∀ (j : Nat) t, fn.params[j]? = some t → Tryd.pinned.checked.prog.wantsStandIn t = false := by
  obtain rfl : f = 5 := Option.some.inj ((show Tryd.prog.funcNamed "grader/graderlaw.Hidden" = some 5 by kernel_rfl).symm.trans hf) |>.symm
  obtain rfl : fn = Tryd.f5 := (Option.some.inj (Tryd.func5.symm.trans hfn)).symm
  refine ⟨by kernel_rfl, fun j t ht => ?_⟩
  rw [Tryd.params5] at ht
  have hm : t = 42 ∨ t = 43 ∨ t = 9 := by simpa using Array.mem_of_getElem? ht
  rcases hm with rfl | rfl | rfl
  · exact (show Tryd.prog.wantsStandIn 42 = false by kernel_rfl)
  · exact (show Tryd.prog.wantsStandIn 43 = false by kernel_rfl)
  · exact (show Tryd.prog.wantsStandIn 9 = false by kernel_rfl)

/-- The card. -/
theorem hidden_card : Rows.HiddenCardSaid :=
  Claim7.holds_tied_plain_at .later [] _ _ _ _ hidden_said (fun _ h => by cases h) (by kernel_rfl) (fun _ h => by cases h) hidden_row_tie rfl ⟨rfl, rfl⟩ (by kernel_rfl) rfl hidden_plain (by kernel_rfl)
end Go.Proofs.YtnanjomnldfidabDoor
