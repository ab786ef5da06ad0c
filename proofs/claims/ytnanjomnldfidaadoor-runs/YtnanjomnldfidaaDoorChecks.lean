/-
  The law Checks.
-/
import Derived.Test.YtnanjomnldfidaaDoorTables
import Derived.Test.YtnanjomnldfidaaDoorRefLeafToRefChk
import Derived.Test.YtnanjomnldfidaaDoorSimStep
set_option linter.unusedSimpArgs false
set_option linter.unusedVariables false
set_option linter.unusedSectionVars false
namespace Go.Proofs.YtnanjomnldfidaaDoor
open Go.ChangeShapes Go.WideShapes Go.ChangeAt Go.RowKit
open Go.ChangeMaps (open_string shut_string)

set_option maxRecDepth 100000 in
set_option maxHeartbeats 400000 in
theorem check_any (s : ByteArray) (w : World) (P : Nat → Prop) (hP : ∀ k, P k → k < w.heap.size) (hs : s.size ≤ maxLen) (hT : WordsAt w 2 listedL) (hPT : P 2) :
    Calls Tryd.prog 9 #[.string s] w (ChkPost P ((readM s).1, (readM s).2.1) w) := by
  have hc := hide (readProgram_any s w P hP hs hT hPT)
  obtain ⟨r, hr⟩ : ∃ r, r = readM s := ⟨_, rfl⟩
  rw [← hr] at hc ⊢
  clear hr hP hT
  go_enter Tryd.func9, Tryd.ntmps9
  go_wp2_with fail
  refine (unhide hc).mono ?_
  rintro e w1 ⟨v, rfl, hrow, hk⟩
  have post : Hid (ChkPost P (r.1, r.2.1) w (.returned (.tuple #[.int .i64 r.1, .int .i64 r.2.1])) w1) := ⟨rfl, hk⟩
  clear hrow hk
  go_wp2
  go_ret2
  exact post.out

set_option maxRecDepth 100000 in
set_option maxHeartbeats 400000 in
theorem num_any (n : Int) (w : World) : Calls Tryd.prog 11 #[.int .i64 n] w fun e w' => e = .returned (.int .i64 n) ∧ w' = w := by
  go_enter Tryd.func11, Tryd.ntmps11
  go_wp2
  go_ret
  exact ⟨rfl, rfl⟩

set_option maxRecDepth 100000 in
set_option maxHeartbeats 400000 in
theorem checks_walk (s : ByteArray) (w : World) (hs : s.size ≤ maxLen) (hT : WordsAt w 2 listedL) (hL : WordsAt w 1 listedL) (hF : WordsAt w 0 formsL) :
    Calls Tryd.prog 3 #[.string s] w fun e w' => e = .returned (.bool true) ∧ Below w.heap.size w w' := by
  have l1 := words_lt hT (by decide)
  have l2 := words_lt hL (by decide)
  have l3 := words_lt hF (by decide)
  have hc1 := hide (check_any s w (fun k => k < w.heap.size) (fun k hk => hk) hs hT l1)
  have hc2 := hide (fun w1 (hk : Kept (fun k => k < w.heap.size) w w1) => refCheck_any s w1 (fun k => k < w.heap.size) (fun k h => Nat.lt_of_lt_of_le h hk.size) hs (hF.kept hk l3 l3) (hL.kept hk l2 l2) l3 l2)
  have heq := check_eq s
  obtain ⟨r, hr⟩ : ∃ r, r = ((readM s).1, (readM s).2.1) := ⟨_, rfl⟩
  rw [← hr] at hc1 heq
  rw [← heq] at hc2
  clear hr heq hT hL hF
  have hq1 : (r.1 == r.1) = true := by simp
  have hq2 : ((r.2 : Int) == (r.2 : Int)) = true := by simp
  go_enter Tryd.func3, Tryd.ntmps3
  go_wp2_with fail
  refine (unhide hc1).mono ?_
  rintro e w1 ⟨rfl, hk1⟩
  go_wp2_with fail
  refine ((unhide hc2) w1 hk1).mono ?_
  rintro e w2 ⟨rfl, hk2⟩
  have hb := (hk1.trans hk2).below (Nat.le_refl _)
  clear hk1 hk2
  go_wp2_with (go_at_call 11; refine (num_any _ _).mono ?_; rintro e w3 ⟨rfl, rfl⟩)
  go_ret
  exact ⟨rfl, hb⟩

set_option maxRecDepth 100000 in
/-- What the walk gives, for every argument and every world that holds the tables. -/
theorem checks_contract (H : Type) (enc : TypeId × Value → H) (W : World) (base : Nat) (args : Array Value) (ds gs : List (DataW H)) (before : List MemPlace)
    (hval : ∀ (j : Nat) t v, Tryd.f3.params[j]? = some t → args[j]? = some v → Value.okWide Tryd.prog W .any base t v)
    (hW : DataW.Whole enc Tryd.prog Tryd.f3.params.toList Rows.checksSpec.vars false W args.toList ds gs before) (hL : laidMetH Tryd.prog Rows.checksRow.laid W) :
    Calls Tryd.prog 3 args W fun e W' => ∃ v, e = .returned v ∧ Rows.checksSpec.post enc Tryd.prog Tryd.f3 false true false false W args v W' := by
  have hW' := hW
  obtain ⟨p, q, hA0, hV, rfl, hfz, hnd⟩ := hW
  have hA : DataW.TrodAll enc Tryd.prog W 0 (fun _ => true) true Tryd.f3.params.toList args.toList ds p := hA0
  rw [Tryd.params3] at hA hval
  obtain ⟨v0, vs0, d0, ds0, p0, q0, hargs, rfl, rfl, h0, r0⟩ := trodAll_cons hA
  obtain ⟨rfl, rfl, rfl⟩ := trodAll_nil r0
  obtain rfl : args = #[v0] := by cases args; simp_all
  obtain ⟨rfl, rfl⟩ := trodVars_none hV
  obtain ⟨s, rfl, rfl, rfl, hs⟩ := open_string Tryd.underlying9 (hval 0 9 v0 rfl rfl) h0
  clear hA0
  simp only [List.append_nil] at hW'
  obtain ⟨t1, t2, t3⟩ := tables hL
  refine (checks_walk s W hs t1 t2 t3).mono fun e W' ⟨he, hg⟩ => ?_
  subst he
  refine ⟨_, rfl, _, _, _, [], [], [], hW', ?_, ?_, rfl, hg.frame _, fun h => by cases h⟩
  · exact trodAll_cons_mk (shut_bool Tryd.underlying4 _) trodAll_mk0
  · exact trodAll_cons_mk (shut_string Tryd.underlying9 hs) trodAll_mk0
end Go.Proofs.YtnanjomnldfidaaDoor
