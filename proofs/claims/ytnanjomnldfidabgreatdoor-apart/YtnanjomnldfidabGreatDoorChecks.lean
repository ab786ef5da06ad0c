/-
  The law Checks.
-/
import Derived.Test.YtnanjomnldfidabGreatDoorTables
import Derived.Test.YtnanjomnldfidabGreatDoorRefLeafToRefChk
import Derived.Test.YtnanjomnldfidabGreatDoorSimStep
set_option linter.unusedSimpArgs false
set_option linter.unusedVariables false
set_option linter.unusedSectionVars false
namespace Go.Proofs.YtnanjomnldfidabGreatDoor
open Go.ChangeShapes Go.WideShapes Go.ChangeAt Go.RowKit
open Go.ChangeMaps (open_string shut_string)

set_option maxRecDepth 100000 in
set_option maxHeartbeats 400000 in
theorem check_any (s : ByteArray) (w : World) (P : Nat → Prop) (hP : ∀ k, P k → k < w.heap.size) (hs : s.size ≤ maxLen) (hT : WordsAt w 2 listedL) (hPT : P 2) :
    Calls Tryz.prog 14 #[.string s] w (ChkPost P ((readM s).1, (readM s).2.1) w) := by
  have hc := hide (readProgram_any s w P hP hs hT hPT)
  obtain ⟨r, hr⟩ : ∃ r, r = readM s := ⟨_, rfl⟩
  rw [← hr] at hc ⊢
  clear hr hP hT
  go_enter Tryz.func14, Tryz.ntmps14
  go_wp2_with fail
  refine (unhide hc).mono ?_
  rintro e w1 ⟨v, rfl, hrow, hk⟩
  have post : Hid (ChkPost P (r.1, r.2.1) w (.returned (.tuple #[.int .i64 r.1, .int .i64 r.2.1])) w1) := ⟨rfl, hk⟩
  clear hrow hk
  go_wp2
  go_ret2
  exact post.out

set_option maxRecDepth 100000 in
set_option maxHeartbeats 400000 in
theorem num_any (n : Int) (w : World) : Calls Tryz.prog 8 #[.int .i64 n] w fun e w' => e = .returned (.int .i64 n) ∧ w' = w := by
  go_enter Tryz.func8, Tryz.ntmps8
  go_wp2
  go_ret
  exact ⟨rfl, rfl⟩

end Go.Proofs.YtnanjomnldfidabGreatDoor
