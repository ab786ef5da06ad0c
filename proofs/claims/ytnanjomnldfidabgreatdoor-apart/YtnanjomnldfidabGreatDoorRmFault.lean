/-
  graderref's machine: fault.
-/
import Derived.Test.YtnanjomnldfidabGreatDoorRmStepToRmSum
set_option linter.unusedSimpArgs false
set_option linter.unusedVariables false
set_option linter.unusedSectionVars false
namespace Go.Proofs.YtnanjomnldfidabGreatDoor
open Go.RowKit

/-- What fault leaves. -/
def FaultPost (P : Nat → Prop) (b : Nat) (M : Ma) (n : Int) (w : World) (e : Ending) (w' : World) : Prop := e = .returned (.int .i64 n) ∧ RmIs w' P b M ∧ Kept P w w'

section
variable {w : World} {P : Nat → Prop} {b : Nat} {M : Ma}
set_option maxRecDepth 100000 in
set_option maxHeartbeats 800000 in
theorem fault_key_no (h : RmIs w P b M) (hok : M.Ok) (hn : noRight M.rights 2 = true) : Calls Tryz.prog 96 #[.pointer (some ⟨b, 0, none⟩), .int .i64 17] w (FaultPost P b M 10 w) := by
  have o1 := hok.stack
  have o2 := hok.image
  have o3 := hok.out
  have z1 : (mkB M.image).size = M.image.length := mkB_size _
  have z2 : (mkB M.out).size = M.out.length := mkB_size _
  have hhid := hide (fun w' (h' : RmIs w' P b M) a => hidden_any h' hok a)
  have h0 := h
  obtain ⟨vs, vc, h⟩ := h
  have hlt := h.lt
  have c2 := h.cell 2 _ rfl
  have c4 := h.cell 4 _ rfl
  have c7 := h.cell 7 _ rfl
  have c9 := h.cell 9 _ rfl
  clear h hok
  have hr : rightN 17 = 2 := rfl
  have ht : takesN 17 = 0 := rfl
  obtain ⟨tp, htp⟩ : ∃ tp, tp = M.top := ⟨_, rfl⟩
  have hn' : (bits BinOp.and IntKind.i64 M.rights 2 == 0) = true := hn
  clear htp
  go_enter Tryz.func96, Tryz.ntmps96
  go_wp2_with (first | (go_at_call 109; refine (right_any 17 _ (by decide) (by decide)).mono ?_; rintro e w1 ⟨rfl, rfl⟩) | (go_at_call 94; refine (takes_any 17 _ (by decide) (by decide)).mono ?_; rintro e w1 ⟨rfl, rfl⟩) | (go_at_call 110; refine ((unhide hhid) _ (h0.drewN _) _).mono ?_; rintro e w1 ⟨rfl, rfl⟩))
  go_ret
  exact ⟨rfl, h0, Kept.refl _ _⟩

set_option maxRecDepth 100000 in
set_option maxHeartbeats 800000 in
theorem fault_key (h : RmIs w P b M) (hok : M.Ok) (hn : noRight M.rights 2 = false) : Calls Tryz.prog 96 #[.pointer (some ⟨b, 0, none⟩), .int .i64 17] w (FaultPost P b M 0 w) := by
  have o1 := hok.stack
  have o2 := hok.image
  have o3 := hok.out
  have z1 : (mkB M.image).size = M.image.length := mkB_size _
  have z2 : (mkB M.out).size = M.out.length := mkB_size _
  have hhid := hide (fun w' (h' : RmIs w' P b M) a => hidden_any h' hok a)
  have h0 := h
  obtain ⟨vs, vc, h⟩ := h
  have hlt := h.lt
  have c2 := h.cell 2 _ rfl
  have c4 := h.cell 4 _ rfl
  have c7 := h.cell 7 _ rfl
  have c9 := h.cell 9 _ rfl
  clear h hok
  have hr : rightN 17 = 2 := rfl
  have ht : takesN 17 = 0 := rfl
  obtain ⟨tp, htp⟩ : ∃ tp, tp = M.top := ⟨_, rfl⟩
  have hn' : (bits BinOp.and IntKind.i64 M.rights 2 == 0) = false := hn
  clear htp
  go_enter Tryz.func96, Tryz.ntmps96
  go_wp2_with (first | (go_at_call 109; refine (right_any 17 _ (by decide) (by decide)).mono ?_; rintro e w1 ⟨rfl, rfl⟩) | (go_at_call 94; refine (takes_any 17 _ (by decide) (by decide)).mono ?_; rintro e w1 ⟨rfl, rfl⟩) | (go_at_call 110; refine ((unhide hhid) _ (h0.drewN _) _).mono ?_; rintro e w1 ⟨rfl, rfl⟩))
  go_ret
  exact ⟨rfl, h0, Kept.refl _ _⟩

set_option maxRecDepth 100000 in
set_option maxHeartbeats 800000 in
theorem fault_emit_no (h : RmIs w P b M) (hok : M.Ok) (hne : M.stack ≠ []) (hn : noRight M.rights 1 = true) : Calls Tryz.prog 96 #[.pointer (some ⟨b, 0, none⟩), .int .i64 16] w (FaultPost P b M 10 w) := by
  have o1 := hok.stack
  have o2 := hok.image
  have o3 := hok.out
  have z1 : (mkB M.image).size = M.image.length := mkB_size _
  have z2 : (mkB M.out).size = M.out.length := mkB_size _
  have hhid := hide (fun w' (h' : RmIs w' P b M) a => hidden_any h' hok a)
  have h0 := h
  obtain ⟨vs, vc, h⟩ := h
  have hlt := h.lt
  have hpos : 0 < M.stack.length := List.length_pos_iff.2 hne
  obtain ⟨f, cp, rfl, hflt, hcp1, hcp2, hlast, hrow⟩ := row_last h.stack hne
  have c0 := h.cell 0 _ rfl
  clear hrow hne
  have c2 := h.cell 2 _ rfl
  have c4 := h.cell 4 _ rfl
  have c7 := h.cell 7 _ rfl
  have c9 := h.cell 9 _ rfl
  clear h hok
  have hr : rightN 16 = 1 := rfl
  have ht : takesN 16 = 1 := rfl
  obtain ⟨tp, htp⟩ : ∃ tp, tp = M.top := ⟨_, rfl⟩
  have hlast' : w.cell? ⟨f, M.stack.length - 1, none⟩ = some (.int .i64 tp) := by rw [htp]; exact hlast
  clear hlast
  have hn' : (bits BinOp.and IntKind.i64 M.rights 1 == 0) = true := hn
  clear htp
  go_enter Tryz.func96, Tryz.ntmps96
  go_wp2_with (first | (go_at_call 109; refine (right_any 16 _ (by decide) (by decide)).mono ?_; rintro e w1 ⟨rfl, rfl⟩) | (go_at_call 94; refine (takes_any 16 _ (by decide) (by decide)).mono ?_; rintro e w1 ⟨rfl, rfl⟩) | (go_at_call 110; refine ((unhide hhid) _ (h0.drewN _) _).mono ?_; rintro e w1 ⟨rfl, rfl⟩))
  go_ret
  exact ⟨rfl, h0, Kept.refl _ _⟩

set_option maxRecDepth 100000 in
set_option maxHeartbeats 800000 in
theorem fault_emit_full (h : RmIs w P b M) (hok : M.Ok) (hne : M.stack ≠ []) (hn : noRight M.rights 1 = false) (hf : 64 ≤ M.out.length) : Calls Tryz.prog 96 #[.pointer (some ⟨b, 0, none⟩), .int .i64 16] w (FaultPost P b M 11 w) := by
  have o1 := hok.stack
  have o2 := hok.image
  have o3 := hok.out
  have z1 : (mkB M.image).size = M.image.length := mkB_size _
  have z2 : (mkB M.out).size = M.out.length := mkB_size _
  have hhid := hide (fun w' (h' : RmIs w' P b M) a => hidden_any h' hok a)
  have h0 := h
  obtain ⟨vs, vc, h⟩ := h
  have hlt := h.lt
  have hpos : 0 < M.stack.length := List.length_pos_iff.2 hne
  obtain ⟨f, cp, rfl, hflt, hcp1, hcp2, hlast, hrow⟩ := row_last h.stack hne
  have c0 := h.cell 0 _ rfl
  clear hrow hne
  have c2 := h.cell 2 _ rfl
  have c4 := h.cell 4 _ rfl
  have c7 := h.cell 7 _ rfl
  have c9 := h.cell 9 _ rfl
  clear h hok
  have hr : rightN 16 = 1 := rfl
  have ht : takesN 16 = 1 := rfl
  obtain ⟨tp, htp⟩ : ∃ tp, tp = M.top := ⟨_, rfl⟩
  have hlast' : w.cell? ⟨f, M.stack.length - 1, none⟩ = some (.int .i64 tp) := by rw [htp]; exact hlast
  clear hlast
  have hn' : (bits BinOp.and IntKind.i64 M.rights 1 == 0) = false := hn
  clear htp
  go_enter Tryz.func96, Tryz.ntmps96
  go_wp2_with (first | (go_at_call 109; refine (right_any 16 _ (by decide) (by decide)).mono ?_; rintro e w1 ⟨rfl, rfl⟩) | (go_at_call 94; refine (takes_any 16 _ (by decide) (by decide)).mono ?_; rintro e w1 ⟨rfl, rfl⟩) | (go_at_call 110; refine ((unhide hhid) _ (h0.drewN _) _).mono ?_; rintro e w1 ⟨rfl, rfl⟩))
  go_ret
  exact ⟨rfl, h0, Kept.refl _ _⟩

set_option maxRecDepth 100000 in
set_option maxHeartbeats 800000 in
theorem fault_emit (h : RmIs w P b M) (hok : M.Ok) (hne : M.stack ≠ []) (hn : noRight M.rights 1 = false) (hf : M.out.length < 64) : Calls Tryz.prog 96 #[.pointer (some ⟨b, 0, none⟩), .int .i64 16] w (FaultPost P b M 0 w) := by
  have o1 := hok.stack
  have o2 := hok.image
  have o3 := hok.out
  have z1 : (mkB M.image).size = M.image.length := mkB_size _
  have z2 : (mkB M.out).size = M.out.length := mkB_size _
  have hhid := hide (fun w' (h' : RmIs w' P b M) a => hidden_any h' hok a)
  have h0 := h
  obtain ⟨vs, vc, h⟩ := h
  have hlt := h.lt
  have hpos : 0 < M.stack.length := List.length_pos_iff.2 hne
  obtain ⟨f, cp, rfl, hflt, hcp1, hcp2, hlast, hrow⟩ := row_last h.stack hne
  have c0 := h.cell 0 _ rfl
  clear hrow hne
  have c2 := h.cell 2 _ rfl
  have c4 := h.cell 4 _ rfl
  have c7 := h.cell 7 _ rfl
  have c9 := h.cell 9 _ rfl
  clear h hok
  have hr : rightN 16 = 1 := rfl
  have ht : takesN 16 = 1 := rfl
  obtain ⟨tp, htp⟩ : ∃ tp, tp = M.top := ⟨_, rfl⟩
  have hlast' : w.cell? ⟨f, M.stack.length - 1, none⟩ = some (.int .i64 tp) := by rw [htp]; exact hlast
  clear hlast
  have hn' : (bits BinOp.and IntKind.i64 M.rights 1 == 0) = false := hn
  clear htp
  go_enter Tryz.func96, Tryz.ntmps96
  go_wp2_with (first | (go_at_call 109; refine (right_any 16 _ (by decide) (by decide)).mono ?_; rintro e w1 ⟨rfl, rfl⟩) | (go_at_call 94; refine (takes_any 16 _ (by decide) (by decide)).mono ?_; rintro e w1 ⟨rfl, rfl⟩) | (go_at_call 110; refine ((unhide hhid) _ (h0.drewN _) _).mono ?_; rintro e w1 ⟨rfl, rfl⟩))
  go_quiet (fail)
  go_wp2_with (first | (go_at_call 109; refine (right_any 16 _ (by decide) (by decide)).mono ?_; rintro e w1 ⟨rfl, rfl⟩) | (go_at_call 94; refine (takes_any 16 _ (by decide) (by decide)).mono ?_; rintro e w1 ⟨rfl, rfl⟩) | (go_at_call 110; refine ((unhide hhid) _ (h0.drewN _) _).mono ?_; rintro e w1 ⟨rfl, rfl⟩))
  go_ret
  exact ⟨rfl, h0.drewN _, Kept.drewN _ _ _⟩

set_option maxRecDepth 100000 in
set_option maxHeartbeats 800000 in
theorem fault_mark_no (h : RmIs w P b M) (hok : M.Ok) (hne : M.stack ≠ []) (hn : noRight M.rights 8 = true) : Calls Tryz.prog 96 #[.pointer (some ⟨b, 0, none⟩), .int .i64 18] w (FaultPost P b M 10 w) := by
  have o1 := hok.stack
  have o2 := hok.image
  have o3 := hok.out
  have z1 : (mkB M.image).size = M.image.length := mkB_size _
  have z2 : (mkB M.out).size = M.out.length := mkB_size _
  have hhid := hide (fun w' (h' : RmIs w' P b M) a => hidden_any h' hok a)
  have h0 := h
  obtain ⟨vs, vc, h⟩ := h
  have hlt := h.lt
  have hpos : 0 < M.stack.length := List.length_pos_iff.2 hne
  obtain ⟨f, cp, rfl, hflt, hcp1, hcp2, hlast, hrow⟩ := row_last h.stack hne
  have c0 := h.cell 0 _ rfl
  clear hrow hne
  have c2 := h.cell 2 _ rfl
  have c4 := h.cell 4 _ rfl
  have c7 := h.cell 7 _ rfl
  have c9 := h.cell 9 _ rfl
  clear h hok
  have hr : rightN 18 = 8 := rfl
  have ht : takesN 18 = 1 := rfl
  obtain ⟨tp, htp⟩ : ∃ tp, tp = M.top := ⟨_, rfl⟩
  have hlast' : w.cell? ⟨f, M.stack.length - 1, none⟩ = some (.int .i64 tp) := by rw [htp]; exact hlast
  clear hlast
  have hn' : (bits BinOp.and IntKind.i64 M.rights 8 == 0) = true := hn
  clear htp
  go_enter Tryz.func96, Tryz.ntmps96
  go_wp2_with (first | (go_at_call 109; refine (right_any 18 _ (by decide) (by decide)).mono ?_; rintro e w1 ⟨rfl, rfl⟩) | (go_at_call 94; refine (takes_any 18 _ (by decide) (by decide)).mono ?_; rintro e w1 ⟨rfl, rfl⟩) | (go_at_call 110; refine ((unhide hhid) _ (h0.drewN _) _).mono ?_; rintro e w1 ⟨rfl, rfl⟩))
  go_ret
  exact ⟨rfl, h0, Kept.refl _ _⟩

set_option maxRecDepth 100000 in
set_option maxHeartbeats 800000 in
theorem fault_mark (h : RmIs w P b M) (hok : M.Ok) (hne : M.stack ≠ []) (hn : noRight M.rights 8 = false) : Calls Tryz.prog 96 #[.pointer (some ⟨b, 0, none⟩), .int .i64 18] w (FaultPost P b M 0 w) := by
  have o1 := hok.stack
  have o2 := hok.image
  have o3 := hok.out
  have z1 : (mkB M.image).size = M.image.length := mkB_size _
  have z2 : (mkB M.out).size = M.out.length := mkB_size _
  have hhid := hide (fun w' (h' : RmIs w' P b M) a => hidden_any h' hok a)
  have h0 := h
  obtain ⟨vs, vc, h⟩ := h
  have hlt := h.lt
  have hpos : 0 < M.stack.length := List.length_pos_iff.2 hne
  obtain ⟨f, cp, rfl, hflt, hcp1, hcp2, hlast, hrow⟩ := row_last h.stack hne
  have c0 := h.cell 0 _ rfl
  clear hrow hne
  have c2 := h.cell 2 _ rfl
  have c4 := h.cell 4 _ rfl
  have c7 := h.cell 7 _ rfl
  have c9 := h.cell 9 _ rfl
  clear h hok
  have hr : rightN 18 = 8 := rfl
  have ht : takesN 18 = 1 := rfl
  obtain ⟨tp, htp⟩ : ∃ tp, tp = M.top := ⟨_, rfl⟩
  have hlast' : w.cell? ⟨f, M.stack.length - 1, none⟩ = some (.int .i64 tp) := by rw [htp]; exact hlast
  clear hlast
  have hn' : (bits BinOp.and IntKind.i64 M.rights 8 == 0) = false := hn
  clear htp
  go_enter Tryz.func96, Tryz.ntmps96
  go_wp2_with (first | (go_at_call 109; refine (right_any 18 _ (by decide) (by decide)).mono ?_; rintro e w1 ⟨rfl, rfl⟩) | (go_at_call 94; refine (takes_any 18 _ (by decide) (by decide)).mono ?_; rintro e w1 ⟨rfl, rfl⟩) | (go_at_call 110; refine ((unhide hhid) _ (h0.drewN _) _).mono ?_; rintro e w1 ⟨rfl, rfl⟩))
  go_quiet (fail)
  go_wp2_with (first | (go_at_call 109; refine (right_any 18 _ (by decide) (by decide)).mono ?_; rintro e w1 ⟨rfl, rfl⟩) | (go_at_call 94; refine (takes_any 18 _ (by decide) (by decide)).mono ?_; rintro e w1 ⟨rfl, rfl⟩) | (go_at_call 110; refine ((unhide hhid) _ (h0.drewN _) _).mono ?_; rintro e w1 ⟨rfl, rfl⟩))
  go_ret
  exact ⟨rfl, h0.drewN _, Kept.drewN _ _ _⟩

set_option maxRecDepth 100000 in
set_option maxHeartbeats 800000 in
theorem fault_zero7 (h : RmIs w P b M) (hok : M.Ok) (hne : M.stack ≠ []) (hz : M.top = 0) : Calls Tryz.prog 96 #[.pointer (some ⟨b, 0, none⟩), .int .i64 7] w (FaultPost P b M 12 w) := by
  have o1 := hok.stack
  have o2 := hok.image
  have o3 := hok.out
  have z1 : (mkB M.image).size = M.image.length := mkB_size _
  have z2 : (mkB M.out).size = M.out.length := mkB_size _
  have hhid := hide (fun w' (h' : RmIs w' P b M) a => hidden_any h' hok a)
  have h0 := h
  obtain ⟨vs, vc, h⟩ := h
  have hlt := h.lt
  have hpos : 0 < M.stack.length := List.length_pos_iff.2 hne
  obtain ⟨f, cp, rfl, hflt, hcp1, hcp2, hlast, hrow⟩ := row_last h.stack hne
  have c0 := h.cell 0 _ rfl
  clear hrow hne
  have c2 := h.cell 2 _ rfl
  have c4 := h.cell 4 _ rfl
  have c7 := h.cell 7 _ rfl
  have c9 := h.cell 9 _ rfl
  clear h hok
  have hr : rightN 7 = 0 := rfl
  have ht : takesN 7 = 2 := rfl
  obtain ⟨tp, htp⟩ : ∃ tp, tp = M.top := ⟨_, rfl⟩
  have hlast' : w.cell? ⟨f, M.stack.length - 1, none⟩ = some (.int .i64 tp) := by rw [htp]; exact hlast
  clear hlast
  have hq : (tp == 0) = true := by rw [htp, hz]; rfl
  clear hz
  clear htp
  go_enter Tryz.func96, Tryz.ntmps96
  go_wp2_with (first | (go_at_call 109; refine (right_any 7 _ (by decide) (by decide)).mono ?_; rintro e w1 ⟨rfl, rfl⟩) | (go_at_call 94; refine (takes_any 7 _ (by decide) (by decide)).mono ?_; rintro e w1 ⟨rfl, rfl⟩) | (go_at_call 110; refine ((unhide hhid) _ (h0.drewN _) _).mono ?_; rintro e w1 ⟨rfl, rfl⟩))
  go_quiet (fail)
  go_wp2_with (first | (go_at_call 109; refine (right_any 7 _ (by decide) (by decide)).mono ?_; rintro e w1 ⟨rfl, rfl⟩) | (go_at_call 94; refine (takes_any 7 _ (by decide) (by decide)).mono ?_; rintro e w1 ⟨rfl, rfl⟩) | (go_at_call 110; refine ((unhide hhid) _ (h0.drewN _) _).mono ?_; rintro e w1 ⟨rfl, rfl⟩))
  go_ret
  exact ⟨rfl, h0.drewN _, Kept.drewN _ _ _⟩

set_option maxRecDepth 100000 in
set_option maxHeartbeats 800000 in
theorem fault_div7 (h : RmIs w P b M) (hok : M.Ok) (hne : M.stack ≠ []) (hz : M.top ≠ 0) : Calls Tryz.prog 96 #[.pointer (some ⟨b, 0, none⟩), .int .i64 7] w (FaultPost P b M 0 w) := by
  have o1 := hok.stack
  have o2 := hok.image
  have o3 := hok.out
  have z1 : (mkB M.image).size = M.image.length := mkB_size _
  have z2 : (mkB M.out).size = M.out.length := mkB_size _
  have hhid := hide (fun w' (h' : RmIs w' P b M) a => hidden_any h' hok a)
  have h0 := h
  obtain ⟨vs, vc, h⟩ := h
  have hlt := h.lt
  have hpos : 0 < M.stack.length := List.length_pos_iff.2 hne
  obtain ⟨f, cp, rfl, hflt, hcp1, hcp2, hlast, hrow⟩ := row_last h.stack hne
  have c0 := h.cell 0 _ rfl
  clear hrow hne
  have c2 := h.cell 2 _ rfl
  have c4 := h.cell 4 _ rfl
  have c7 := h.cell 7 _ rfl
  have c9 := h.cell 9 _ rfl
  clear h hok
  have hr : rightN 7 = 0 := rfl
  have ht : takesN 7 = 2 := rfl
  obtain ⟨tp, htp⟩ : ∃ tp, tp = M.top := ⟨_, rfl⟩
  have hlast' : w.cell? ⟨f, M.stack.length - 1, none⟩ = some (.int .i64 tp) := by rw [htp]; exact hlast
  clear hlast
  have hq : (tp == 0) = false := by rw [htp]; simpa using hz
  clear hz
  clear htp
  go_enter Tryz.func96, Tryz.ntmps96
  go_wp2_with (first | (go_at_call 109; refine (right_any 7 _ (by decide) (by decide)).mono ?_; rintro e w1 ⟨rfl, rfl⟩) | (go_at_call 94; refine (takes_any 7 _ (by decide) (by decide)).mono ?_; rintro e w1 ⟨rfl, rfl⟩) | (go_at_call 110; refine ((unhide hhid) _ (h0.drewN _) _).mono ?_; rintro e w1 ⟨rfl, rfl⟩))
  go_quiet (fail)
  go_wp2_with (first | (go_at_call 109; refine (right_any 7 _ (by decide) (by decide)).mono ?_; rintro e w1 ⟨rfl, rfl⟩) | (go_at_call 94; refine (takes_any 7 _ (by decide) (by decide)).mono ?_; rintro e w1 ⟨rfl, rfl⟩) | (go_at_call 110; refine ((unhide hhid) _ (h0.drewN _) _).mono ?_; rintro e w1 ⟨rfl, rfl⟩))
  go_ret
  exact ⟨rfl, h0.drewN _, Kept.drewN _ _ _⟩

set_option maxRecDepth 100000 in
set_option maxHeartbeats 800000 in
theorem fault_zero8 (h : RmIs w P b M) (hok : M.Ok) (hne : M.stack ≠ []) (hz : M.top = 0) : Calls Tryz.prog 96 #[.pointer (some ⟨b, 0, none⟩), .int .i64 8] w (FaultPost P b M 12 w) := by
  have o1 := hok.stack
  have o2 := hok.image
  have o3 := hok.out
  have z1 : (mkB M.image).size = M.image.length := mkB_size _
  have z2 : (mkB M.out).size = M.out.length := mkB_size _
  have hhid := hide (fun w' (h' : RmIs w' P b M) a => hidden_any h' hok a)
  have h0 := h
  obtain ⟨vs, vc, h⟩ := h
  have hlt := h.lt
  have hpos : 0 < M.stack.length := List.length_pos_iff.2 hne
  obtain ⟨f, cp, rfl, hflt, hcp1, hcp2, hlast, hrow⟩ := row_last h.stack hne
  have c0 := h.cell 0 _ rfl
  clear hrow hne
  have c2 := h.cell 2 _ rfl
  have c4 := h.cell 4 _ rfl
  have c7 := h.cell 7 _ rfl
  have c9 := h.cell 9 _ rfl
  clear h hok
  have hr : rightN 8 = 0 := rfl
  have ht : takesN 8 = 2 := rfl
  obtain ⟨tp, htp⟩ : ∃ tp, tp = M.top := ⟨_, rfl⟩
  have hlast' : w.cell? ⟨f, M.stack.length - 1, none⟩ = some (.int .i64 tp) := by rw [htp]; exact hlast
  clear hlast
  have hq : (tp == 0) = true := by rw [htp, hz]; rfl
  clear hz
  clear htp
  go_enter Tryz.func96, Tryz.ntmps96
  go_wp2_with (first | (go_at_call 109; refine (right_any 8 _ (by decide) (by decide)).mono ?_; rintro e w1 ⟨rfl, rfl⟩) | (go_at_call 94; refine (takes_any 8 _ (by decide) (by decide)).mono ?_; rintro e w1 ⟨rfl, rfl⟩) | (go_at_call 110; refine ((unhide hhid) _ (h0.drewN _) _).mono ?_; rintro e w1 ⟨rfl, rfl⟩))
  go_quiet (fail)
  go_wp2_with (first | (go_at_call 109; refine (right_any 8 _ (by decide) (by decide)).mono ?_; rintro e w1 ⟨rfl, rfl⟩) | (go_at_call 94; refine (takes_any 8 _ (by decide) (by decide)).mono ?_; rintro e w1 ⟨rfl, rfl⟩) | (go_at_call 110; refine ((unhide hhid) _ (h0.drewN _) _).mono ?_; rintro e w1 ⟨rfl, rfl⟩))
  go_ret
  exact ⟨rfl, h0.drewN _, Kept.drewN _ _ _⟩

set_option maxRecDepth 100000 in
set_option maxHeartbeats 800000 in
theorem fault_div8 (h : RmIs w P b M) (hok : M.Ok) (hne : M.stack ≠ []) (hz : M.top ≠ 0) : Calls Tryz.prog 96 #[.pointer (some ⟨b, 0, none⟩), .int .i64 8] w (FaultPost P b M 0 w) := by
  have o1 := hok.stack
  have o2 := hok.image
  have o3 := hok.out
  have z1 : (mkB M.image).size = M.image.length := mkB_size _
  have z2 : (mkB M.out).size = M.out.length := mkB_size _
  have hhid := hide (fun w' (h' : RmIs w' P b M) a => hidden_any h' hok a)
  have h0 := h
  obtain ⟨vs, vc, h⟩ := h
  have hlt := h.lt
  have hpos : 0 < M.stack.length := List.length_pos_iff.2 hne
  obtain ⟨f, cp, rfl, hflt, hcp1, hcp2, hlast, hrow⟩ := row_last h.stack hne
  have c0 := h.cell 0 _ rfl
  clear hrow hne
  have c2 := h.cell 2 _ rfl
  have c4 := h.cell 4 _ rfl
  have c7 := h.cell 7 _ rfl
  have c9 := h.cell 9 _ rfl
  clear h hok
  have hr : rightN 8 = 0 := rfl
  have ht : takesN 8 = 2 := rfl
  obtain ⟨tp, htp⟩ : ∃ tp, tp = M.top := ⟨_, rfl⟩
  have hlast' : w.cell? ⟨f, M.stack.length - 1, none⟩ = some (.int .i64 tp) := by rw [htp]; exact hlast
  clear hlast
  have hq : (tp == 0) = false := by rw [htp]; simpa using hz
  clear hz
  clear htp
  go_enter Tryz.func96, Tryz.ntmps96
  go_wp2_with (first | (go_at_call 109; refine (right_any 8 _ (by decide) (by decide)).mono ?_; rintro e w1 ⟨rfl, rfl⟩) | (go_at_call 94; refine (takes_any 8 _ (by decide) (by decide)).mono ?_; rintro e w1 ⟨rfl, rfl⟩) | (go_at_call 110; refine ((unhide hhid) _ (h0.drewN _) _).mono ?_; rintro e w1 ⟨rfl, rfl⟩))
  go_quiet (fail)
  go_wp2_with (first | (go_at_call 109; refine (right_any 8 _ (by decide) (by decide)).mono ?_; rintro e w1 ⟨rfl, rfl⟩) | (go_at_call 94; refine (takes_any 8 _ (by decide) (by decide)).mono ?_; rintro e w1 ⟨rfl, rfl⟩) | (go_at_call 110; refine ((unhide hhid) _ (h0.drewN _) _).mono ?_; rintro e w1 ⟨rfl, rfl⟩))
  go_ret
  exact ⟨rfl, h0.drewN _, Kept.drewN _ _ _⟩

set_option maxRecDepth 100000 in
set_option maxHeartbeats 800000 in
theorem fault_at_no (h : RmIs w P b M) (hok : M.Ok) (hne : M.stack ≠ []) (hz : M.hidden M.top = true) : Calls Tryz.prog 96 #[.pointer (some ⟨b, 0, none⟩), .int .i64 14] w (FaultPost P b M 13 w) := by
  have o1 := hok.stack
  have o2 := hok.image
  have o3 := hok.out
  have z1 : (mkB M.image).size = M.image.length := mkB_size _
  have z2 : (mkB M.out).size = M.out.length := mkB_size _
  have hhid := hide (fun w' (h' : RmIs w' P b M) a => hidden_any h' hok a)
  have h0 := h
  obtain ⟨vs, vc, h⟩ := h
  have hlt := h.lt
  have hpos : 0 < M.stack.length := List.length_pos_iff.2 hne
  obtain ⟨f, cp, rfl, hflt, hcp1, hcp2, hlast, hrow⟩ := row_last h.stack hne
  have c0 := h.cell 0 _ rfl
  clear hrow hne
  have c2 := h.cell 2 _ rfl
  have c4 := h.cell 4 _ rfl
  have c7 := h.cell 7 _ rfl
  have c9 := h.cell 9 _ rfl
  clear h hok
  have hr : rightN 14 = 0 := rfl
  have ht : takesN 14 = 1 := rfl
  obtain ⟨tp, htp⟩ : ∃ tp, tp = M.top := ⟨_, rfl⟩
  have hlast' : w.cell? ⟨f, M.stack.length - 1, none⟩ = some (.int .i64 tp) := by rw [htp]; exact hlast
  clear hlast
  have hq : M.hidden tp = true := by rw [htp]; exact hz
  clear hz
  clear htp
  go_enter Tryz.func96, Tryz.ntmps96
  go_wp2_with (first | (go_at_call 109; refine (right_any 14 _ (by decide) (by decide)).mono ?_; rintro e w1 ⟨rfl, rfl⟩) | (go_at_call 94; refine (takes_any 14 _ (by decide) (by decide)).mono ?_; rintro e w1 ⟨rfl, rfl⟩) | (go_at_call 110; refine ((unhide hhid) _ (h0.drewN _) _).mono ?_; rintro e w1 ⟨rfl, rfl⟩))
  go_quiet (fail)
  go_wp2_with (first | (go_at_call 109; refine (right_any 14 _ (by decide) (by decide)).mono ?_; rintro e w1 ⟨rfl, rfl⟩) | (go_at_call 94; refine (takes_any 14 _ (by decide) (by decide)).mono ?_; rintro e w1 ⟨rfl, rfl⟩) | (go_at_call 110; refine ((unhide hhid) _ (h0.drewN _) _).mono ?_; rintro e w1 ⟨rfl, rfl⟩))
  go_ret
  exact ⟨rfl, h0.drewN _, Kept.drewN _ _ _⟩

set_option maxRecDepth 100000 in
set_option maxHeartbeats 800000 in
theorem fault_at (h : RmIs w P b M) (hok : M.Ok) (hne : M.stack ≠ []) (hz : M.hidden M.top = false) : Calls Tryz.prog 96 #[.pointer (some ⟨b, 0, none⟩), .int .i64 14] w (FaultPost P b M 0 w) := by
  have o1 := hok.stack
  have o2 := hok.image
  have o3 := hok.out
  have z1 : (mkB M.image).size = M.image.length := mkB_size _
  have z2 : (mkB M.out).size = M.out.length := mkB_size _
  have hhid := hide (fun w' (h' : RmIs w' P b M) a => hidden_any h' hok a)
  have h0 := h
  obtain ⟨vs, vc, h⟩ := h
  have hlt := h.lt
  have hpos : 0 < M.stack.length := List.length_pos_iff.2 hne
  obtain ⟨f, cp, rfl, hflt, hcp1, hcp2, hlast, hrow⟩ := row_last h.stack hne
  have c0 := h.cell 0 _ rfl
  clear hrow hne
  have c2 := h.cell 2 _ rfl
  have c4 := h.cell 4 _ rfl
  have c7 := h.cell 7 _ rfl
  have c9 := h.cell 9 _ rfl
  clear h hok
  have hr : rightN 14 = 0 := rfl
  have ht : takesN 14 = 1 := rfl
  obtain ⟨tp, htp⟩ : ∃ tp, tp = M.top := ⟨_, rfl⟩
  have hlast' : w.cell? ⟨f, M.stack.length - 1, none⟩ = some (.int .i64 tp) := by rw [htp]; exact hlast
  clear hlast
  have hq : M.hidden tp = false := by rw [htp]; exact hz
  clear hz
  clear htp
  go_enter Tryz.func96, Tryz.ntmps96
  go_wp2_with (first | (go_at_call 109; refine (right_any 14 _ (by decide) (by decide)).mono ?_; rintro e w1 ⟨rfl, rfl⟩) | (go_at_call 94; refine (takes_any 14 _ (by decide) (by decide)).mono ?_; rintro e w1 ⟨rfl, rfl⟩) | (go_at_call 110; refine ((unhide hhid) _ (h0.drewN _) _).mono ?_; rintro e w1 ⟨rfl, rfl⟩))
  go_quiet (fail)
  go_wp2_with (first | (go_at_call 109; refine (right_any 14 _ (by decide) (by decide)).mono ?_; rintro e w1 ⟨rfl, rfl⟩) | (go_at_call 94; refine (takes_any 14 _ (by decide) (by decide)).mono ?_; rintro e w1 ⟨rfl, rfl⟩) | (go_at_call 110; refine ((unhide hhid) _ (h0.drewN _) _).mono ?_; rintro e w1 ⟨rfl, rfl⟩))
  go_ret
  exact ⟨rfl, h0.drewN _, Kept.drewN _ _ _⟩

set_option maxRecDepth 100000 in
set_option maxHeartbeats 800000 in
theorem fault_store_lo (h : RmIs w P b M) (hok : M.Ok) (hne : M.stack ≠ []) (hz : M.top < M.fence) : Calls Tryz.prog 96 #[.pointer (some ⟨b, 0, none⟩), .int .i64 15] w (FaultPost P b M 13 w) := by
  have o1 := hok.stack
  have o2 := hok.image
  have o3 := hok.out
  have z1 : (mkB M.image).size = M.image.length := mkB_size _
  have z2 : (mkB M.out).size = M.out.length := mkB_size _
  have hhid := hide (fun w' (h' : RmIs w' P b M) a => hidden_any h' hok a)
  have h0 := h
  obtain ⟨vs, vc, h⟩ := h
  have hlt := h.lt
  have hpos : 0 < M.stack.length := List.length_pos_iff.2 hne
  obtain ⟨f, cp, rfl, hflt, hcp1, hcp2, hlast, hrow⟩ := row_last h.stack hne
  have c0 := h.cell 0 _ rfl
  clear hrow hne
  have c2 := h.cell 2 _ rfl
  have c4 := h.cell 4 _ rfl
  have c7 := h.cell 7 _ rfl
  have c9 := h.cell 9 _ rfl
  clear h hok
  have hr : rightN 15 = 0 := rfl
  have ht : takesN 15 = 2 := rfl
  obtain ⟨tp, htp⟩ : ∃ tp, tp = M.top := ⟨_, rfl⟩
  have hlast' : w.cell? ⟨f, M.stack.length - 1, none⟩ = some (.int .i64 tp) := by rw [htp]; exact hlast
  clear hlast
  have hq : tp < M.fence := by rw [htp]; exact hz
  clear hz
  clear htp
  go_enter Tryz.func96, Tryz.ntmps96
  go_wp2_with (first | (go_at_call 109; refine (right_any 15 _ (by decide) (by decide)).mono ?_; rintro e w1 ⟨rfl, rfl⟩) | (go_at_call 94; refine (takes_any 15 _ (by decide) (by decide)).mono ?_; rintro e w1 ⟨rfl, rfl⟩) | (go_at_call 110; refine ((unhide hhid) _ (h0.drewN _) _).mono ?_; rintro e w1 ⟨rfl, rfl⟩))
  go_quiet (fail)
  go_wp2_with (first | (go_at_call 109; refine (right_any 15 _ (by decide) (by decide)).mono ?_; rintro e w1 ⟨rfl, rfl⟩) | (go_at_call 94; refine (takes_any 15 _ (by decide) (by decide)).mono ?_; rintro e w1 ⟨rfl, rfl⟩) | (go_at_call 110; refine ((unhide hhid) _ (h0.drewN _) _).mono ?_; rintro e w1 ⟨rfl, rfl⟩))
  go_ret
  exact ⟨rfl, h0.drewN _, Kept.drewN _ _ _⟩

set_option maxRecDepth 100000 in
set_option maxHeartbeats 800000 in
theorem fault_store_hi (h : RmIs w P b M) (hok : M.Ok) (hne : M.stack ≠ []) (hz : ¬ M.top < M.fence) (hz2 : (M.image.length : Int) ≤ M.top) : Calls Tryz.prog 96 #[.pointer (some ⟨b, 0, none⟩), .int .i64 15] w (FaultPost P b M 13 w) := by
  have o1 := hok.stack
  have o2 := hok.image
  have o3 := hok.out
  have z1 : (mkB M.image).size = M.image.length := mkB_size _
  have z2 : (mkB M.out).size = M.out.length := mkB_size _
  have hhid := hide (fun w' (h' : RmIs w' P b M) a => hidden_any h' hok a)
  have h0 := h
  obtain ⟨vs, vc, h⟩ := h
  have hlt := h.lt
  have hpos : 0 < M.stack.length := List.length_pos_iff.2 hne
  obtain ⟨f, cp, rfl, hflt, hcp1, hcp2, hlast, hrow⟩ := row_last h.stack hne
  have c0 := h.cell 0 _ rfl
  clear hrow hne
  have c2 := h.cell 2 _ rfl
  have c4 := h.cell 4 _ rfl
  have c7 := h.cell 7 _ rfl
  have c9 := h.cell 9 _ rfl
  clear h hok
  have hr : rightN 15 = 0 := rfl
  have ht : takesN 15 = 2 := rfl
  obtain ⟨tp, htp⟩ : ∃ tp, tp = M.top := ⟨_, rfl⟩
  have hlast' : w.cell? ⟨f, M.stack.length - 1, none⟩ = some (.int .i64 tp) := by rw [htp]; exact hlast
  clear hlast
  have hq : M.fence ≤ tp := by rw [htp]; omega
  have hq2 : (M.image.length : Int) ≤ tp := by rw [htp]; exact hz2
  clear hz hz2
  clear htp
  go_enter Tryz.func96, Tryz.ntmps96
  go_wp2_with (first | (go_at_call 109; refine (right_any 15 _ (by decide) (by decide)).mono ?_; rintro e w1 ⟨rfl, rfl⟩) | (go_at_call 94; refine (takes_any 15 _ (by decide) (by decide)).mono ?_; rintro e w1 ⟨rfl, rfl⟩) | (go_at_call 110; refine ((unhide hhid) _ (h0.drewN _) _).mono ?_; rintro e w1 ⟨rfl, rfl⟩))
  go_quiet (fail)
  go_wp2_with (first | (go_at_call 109; refine (right_any 15 _ (by decide) (by decide)).mono ?_; rintro e w1 ⟨rfl, rfl⟩) | (go_at_call 94; refine (takes_any 15 _ (by decide) (by decide)).mono ?_; rintro e w1 ⟨rfl, rfl⟩) | (go_at_call 110; refine ((unhide hhid) _ (h0.drewN _) _).mono ?_; rintro e w1 ⟨rfl, rfl⟩))
  go_ret
  exact ⟨rfl, h0.drewN _, Kept.drewN _ _ _⟩

set_option maxRecDepth 100000 in
set_option maxHeartbeats 800000 in
theorem fault_store (h : RmIs w P b M) (hok : M.Ok) (hne : M.stack ≠ []) (hz : ¬ M.top < M.fence) (hz2 : M.top < (M.image.length : Int)) : Calls Tryz.prog 96 #[.pointer (some ⟨b, 0, none⟩), .int .i64 15] w (FaultPost P b M 0 w) := by
  have o1 := hok.stack
  have o2 := hok.image
  have o3 := hok.out
  have z1 : (mkB M.image).size = M.image.length := mkB_size _
  have z2 : (mkB M.out).size = M.out.length := mkB_size _
  have hhid := hide (fun w' (h' : RmIs w' P b M) a => hidden_any h' hok a)
  have h0 := h
  obtain ⟨vs, vc, h⟩ := h
  have hlt := h.lt
  have hpos : 0 < M.stack.length := List.length_pos_iff.2 hne
  obtain ⟨f, cp, rfl, hflt, hcp1, hcp2, hlast, hrow⟩ := row_last h.stack hne
  have c0 := h.cell 0 _ rfl
  clear hrow hne
  have c2 := h.cell 2 _ rfl
  have c4 := h.cell 4 _ rfl
  have c7 := h.cell 7 _ rfl
  have c9 := h.cell 9 _ rfl
  clear h hok
  have hr : rightN 15 = 0 := rfl
  have ht : takesN 15 = 2 := rfl
  obtain ⟨tp, htp⟩ : ∃ tp, tp = M.top := ⟨_, rfl⟩
  have hlast' : w.cell? ⟨f, M.stack.length - 1, none⟩ = some (.int .i64 tp) := by rw [htp]; exact hlast
  clear hlast
  have hq : M.fence ≤ tp := by rw [htp]; omega
  have hq2 : tp < (M.image.length : Int) := by rw [htp]; exact hz2
  clear hz hz2
  clear htp
  go_enter Tryz.func96, Tryz.ntmps96
  go_wp2_with (first | (go_at_call 109; refine (right_any 15 _ (by decide) (by decide)).mono ?_; rintro e w1 ⟨rfl, rfl⟩) | (go_at_call 94; refine (takes_any 15 _ (by decide) (by decide)).mono ?_; rintro e w1 ⟨rfl, rfl⟩) | (go_at_call 110; refine ((unhide hhid) _ (h0.drewN _) _).mono ?_; rintro e w1 ⟨rfl, rfl⟩))
  go_quiet (fail)
  go_wp2_with (first | (go_at_call 109; refine (right_any 15 _ (by decide) (by decide)).mono ?_; rintro e w1 ⟨rfl, rfl⟩) | (go_at_call 94; refine (takes_any 15 _ (by decide) (by decide)).mono ?_; rintro e w1 ⟨rfl, rfl⟩) | (go_at_call 110; refine ((unhide hhid) _ (h0.drewN _) _).mono ?_; rintro e w1 ⟨rfl, rfl⟩))
  go_ret
  exact ⟨rfl, h0.drewN _, Kept.drewN _ _ _⟩

set_option maxRecDepth 100000 in
set_option maxHeartbeats 800000 in
theorem fault_plain0 (h : RmIs w P b M) (hok : M.Ok) (hne : M.stack ≠ []) : Calls Tryz.prog 96 #[.pointer (some ⟨b, 0, none⟩), .int .i64 0] w (FaultPost P b M 0 w) := by
  have o1 := hok.stack
  have o2 := hok.image
  have o3 := hok.out
  have z1 : (mkB M.image).size = M.image.length := mkB_size _
  have z2 : (mkB M.out).size = M.out.length := mkB_size _
  have hhid := hide (fun w' (h' : RmIs w' P b M) a => hidden_any h' hok a)
  have h0 := h
  obtain ⟨vs, vc, h⟩ := h
  have hlt := h.lt
  have hpos : 0 < M.stack.length := List.length_pos_iff.2 hne
  obtain ⟨f, cp, rfl, hflt, hcp1, hcp2, hlast, hrow⟩ := row_last h.stack hne
  have c0 := h.cell 0 _ rfl
  clear hrow hne
  have c2 := h.cell 2 _ rfl
  have c4 := h.cell 4 _ rfl
  have c7 := h.cell 7 _ rfl
  have c9 := h.cell 9 _ rfl
  clear h hok
  have hr : rightN 0 = 0 := rfl
  have ht : takesN 0 = 1 := rfl
  obtain ⟨tp, htp⟩ : ∃ tp, tp = M.top := ⟨_, rfl⟩
  have hlast' : w.cell? ⟨f, M.stack.length - 1, none⟩ = some (.int .i64 tp) := by rw [htp]; exact hlast
  clear hlast
  clear htp
  go_enter Tryz.func96, Tryz.ntmps96
  go_wp2_with (first | (go_at_call 109; refine (right_any 0 _ (by decide) (by decide)).mono ?_; rintro e w1 ⟨rfl, rfl⟩) | (go_at_call 94; refine (takes_any 0 _ (by decide) (by decide)).mono ?_; rintro e w1 ⟨rfl, rfl⟩) | (go_at_call 110; refine ((unhide hhid) _ (h0.drewN _) _).mono ?_; rintro e w1 ⟨rfl, rfl⟩))
  go_quiet (fail)
  go_wp2_with (first | (go_at_call 109; refine (right_any 0 _ (by decide) (by decide)).mono ?_; rintro e w1 ⟨rfl, rfl⟩) | (go_at_call 94; refine (takes_any 0 _ (by decide) (by decide)).mono ?_; rintro e w1 ⟨rfl, rfl⟩) | (go_at_call 110; refine ((unhide hhid) _ (h0.drewN _) _).mono ?_; rintro e w1 ⟨rfl, rfl⟩))
  go_ret
  exact ⟨rfl, h0.drewN _, Kept.drewN _ _ _⟩

set_option maxRecDepth 100000 in
set_option maxHeartbeats 800000 in
theorem fault_plain1 (h : RmIs w P b M) (hok : M.Ok) (hne : M.stack ≠ []) : Calls Tryz.prog 96 #[.pointer (some ⟨b, 0, none⟩), .int .i64 1] w (FaultPost P b M 0 w) := by
  have o1 := hok.stack
  have o2 := hok.image
  have o3 := hok.out
  have z1 : (mkB M.image).size = M.image.length := mkB_size _
  have z2 : (mkB M.out).size = M.out.length := mkB_size _
  have hhid := hide (fun w' (h' : RmIs w' P b M) a => hidden_any h' hok a)
  have h0 := h
  obtain ⟨vs, vc, h⟩ := h
  have hlt := h.lt
  have hpos : 0 < M.stack.length := List.length_pos_iff.2 hne
  obtain ⟨f, cp, rfl, hflt, hcp1, hcp2, hlast, hrow⟩ := row_last h.stack hne
  have c0 := h.cell 0 _ rfl
  clear hrow hne
  have c2 := h.cell 2 _ rfl
  have c4 := h.cell 4 _ rfl
  have c7 := h.cell 7 _ rfl
  have c9 := h.cell 9 _ rfl
  clear h hok
  have hr : rightN 1 = 0 := rfl
  have ht : takesN 1 = 1 := rfl
  obtain ⟨tp, htp⟩ : ∃ tp, tp = M.top := ⟨_, rfl⟩
  have hlast' : w.cell? ⟨f, M.stack.length - 1, none⟩ = some (.int .i64 tp) := by rw [htp]; exact hlast
  clear hlast
  clear htp
  go_enter Tryz.func96, Tryz.ntmps96
  go_wp2_with (first | (go_at_call 109; refine (right_any 1 _ (by decide) (by decide)).mono ?_; rintro e w1 ⟨rfl, rfl⟩) | (go_at_call 94; refine (takes_any 1 _ (by decide) (by decide)).mono ?_; rintro e w1 ⟨rfl, rfl⟩) | (go_at_call 110; refine ((unhide hhid) _ (h0.drewN _) _).mono ?_; rintro e w1 ⟨rfl, rfl⟩))
  go_quiet (fail)
  go_wp2_with (first | (go_at_call 109; refine (right_any 1 _ (by decide) (by decide)).mono ?_; rintro e w1 ⟨rfl, rfl⟩) | (go_at_call 94; refine (takes_any 1 _ (by decide) (by decide)).mono ?_; rintro e w1 ⟨rfl, rfl⟩) | (go_at_call 110; refine ((unhide hhid) _ (h0.drewN _) _).mono ?_; rintro e w1 ⟨rfl, rfl⟩))
  go_ret
  exact ⟨rfl, h0.drewN _, Kept.drewN _ _ _⟩

set_option maxRecDepth 100000 in
set_option maxHeartbeats 800000 in
theorem fault_plain2 (h : RmIs w P b M) (hok : M.Ok) (hne : M.stack ≠ []) : Calls Tryz.prog 96 #[.pointer (some ⟨b, 0, none⟩), .int .i64 2] w (FaultPost P b M 0 w) := by
  have o1 := hok.stack
  have o2 := hok.image
  have o3 := hok.out
  have z1 : (mkB M.image).size = M.image.length := mkB_size _
  have z2 : (mkB M.out).size = M.out.length := mkB_size _
  have hhid := hide (fun w' (h' : RmIs w' P b M) a => hidden_any h' hok a)
  have h0 := h
  obtain ⟨vs, vc, h⟩ := h
  have hlt := h.lt
  have hpos : 0 < M.stack.length := List.length_pos_iff.2 hne
  obtain ⟨f, cp, rfl, hflt, hcp1, hcp2, hlast, hrow⟩ := row_last h.stack hne
  have c0 := h.cell 0 _ rfl
  clear hrow hne
  have c2 := h.cell 2 _ rfl
  have c4 := h.cell 4 _ rfl
  have c7 := h.cell 7 _ rfl
  have c9 := h.cell 9 _ rfl
  clear h hok
  have hr : rightN 2 = 0 := rfl
  have ht : takesN 2 = 2 := rfl
  obtain ⟨tp, htp⟩ : ∃ tp, tp = M.top := ⟨_, rfl⟩
  have hlast' : w.cell? ⟨f, M.stack.length - 1, none⟩ = some (.int .i64 tp) := by rw [htp]; exact hlast
  clear hlast
  clear htp
  go_enter Tryz.func96, Tryz.ntmps96
  go_wp2_with (first | (go_at_call 109; refine (right_any 2 _ (by decide) (by decide)).mono ?_; rintro e w1 ⟨rfl, rfl⟩) | (go_at_call 94; refine (takes_any 2 _ (by decide) (by decide)).mono ?_; rintro e w1 ⟨rfl, rfl⟩) | (go_at_call 110; refine ((unhide hhid) _ (h0.drewN _) _).mono ?_; rintro e w1 ⟨rfl, rfl⟩))
  go_quiet (fail)
  go_wp2_with (first | (go_at_call 109; refine (right_any 2 _ (by decide) (by decide)).mono ?_; rintro e w1 ⟨rfl, rfl⟩) | (go_at_call 94; refine (takes_any 2 _ (by decide) (by decide)).mono ?_; rintro e w1 ⟨rfl, rfl⟩) | (go_at_call 110; refine ((unhide hhid) _ (h0.drewN _) _).mono ?_; rintro e w1 ⟨rfl, rfl⟩))
  go_ret
  exact ⟨rfl, h0.drewN _, Kept.drewN _ _ _⟩

set_option maxRecDepth 100000 in
set_option maxHeartbeats 800000 in
theorem fault_plain3 (h : RmIs w P b M) (hok : M.Ok) (hne : M.stack ≠ []) : Calls Tryz.prog 96 #[.pointer (some ⟨b, 0, none⟩), .int .i64 3] w (FaultPost P b M 0 w) := by
  have o1 := hok.stack
  have o2 := hok.image
  have o3 := hok.out
  have z1 : (mkB M.image).size = M.image.length := mkB_size _
  have z2 : (mkB M.out).size = M.out.length := mkB_size _
  have hhid := hide (fun w' (h' : RmIs w' P b M) a => hidden_any h' hok a)
  have h0 := h
  obtain ⟨vs, vc, h⟩ := h
  have hlt := h.lt
  have hpos : 0 < M.stack.length := List.length_pos_iff.2 hne
  obtain ⟨f, cp, rfl, hflt, hcp1, hcp2, hlast, hrow⟩ := row_last h.stack hne
  have c0 := h.cell 0 _ rfl
  clear hrow hne
  have c2 := h.cell 2 _ rfl
  have c4 := h.cell 4 _ rfl
  have c7 := h.cell 7 _ rfl
  have c9 := h.cell 9 _ rfl
  clear h hok
  have hr : rightN 3 = 0 := rfl
  have ht : takesN 3 = 2 := rfl
  obtain ⟨tp, htp⟩ : ∃ tp, tp = M.top := ⟨_, rfl⟩
  have hlast' : w.cell? ⟨f, M.stack.length - 1, none⟩ = some (.int .i64 tp) := by rw [htp]; exact hlast
  clear hlast
  clear htp
  go_enter Tryz.func96, Tryz.ntmps96
  go_wp2_with (first | (go_at_call 109; refine (right_any 3 _ (by decide) (by decide)).mono ?_; rintro e w1 ⟨rfl, rfl⟩) | (go_at_call 94; refine (takes_any 3 _ (by decide) (by decide)).mono ?_; rintro e w1 ⟨rfl, rfl⟩) | (go_at_call 110; refine ((unhide hhid) _ (h0.drewN _) _).mono ?_; rintro e w1 ⟨rfl, rfl⟩))
  go_quiet (fail)
  go_wp2_with (first | (go_at_call 109; refine (right_any 3 _ (by decide) (by decide)).mono ?_; rintro e w1 ⟨rfl, rfl⟩) | (go_at_call 94; refine (takes_any 3 _ (by decide) (by decide)).mono ?_; rintro e w1 ⟨rfl, rfl⟩) | (go_at_call 110; refine ((unhide hhid) _ (h0.drewN _) _).mono ?_; rintro e w1 ⟨rfl, rfl⟩))
  go_ret
  exact ⟨rfl, h0.drewN _, Kept.drewN _ _ _⟩

set_option maxRecDepth 100000 in
set_option maxHeartbeats 800000 in
theorem fault_plain4 (h : RmIs w P b M) (hok : M.Ok) (hne : M.stack ≠ []) : Calls Tryz.prog 96 #[.pointer (some ⟨b, 0, none⟩), .int .i64 4] w (FaultPost P b M 0 w) := by
  have o1 := hok.stack
  have o2 := hok.image
  have o3 := hok.out
  have z1 : (mkB M.image).size = M.image.length := mkB_size _
  have z2 : (mkB M.out).size = M.out.length := mkB_size _
  have hhid := hide (fun w' (h' : RmIs w' P b M) a => hidden_any h' hok a)
  have h0 := h
  obtain ⟨vs, vc, h⟩ := h
  have hlt := h.lt
  have hpos : 0 < M.stack.length := List.length_pos_iff.2 hne
  obtain ⟨f, cp, rfl, hflt, hcp1, hcp2, hlast, hrow⟩ := row_last h.stack hne
  have c0 := h.cell 0 _ rfl
  clear hrow hne
  have c2 := h.cell 2 _ rfl
  have c4 := h.cell 4 _ rfl
  have c7 := h.cell 7 _ rfl
  have c9 := h.cell 9 _ rfl
  clear h hok
  have hr : rightN 4 = 0 := rfl
  have ht : takesN 4 = 2 := rfl
  obtain ⟨tp, htp⟩ : ∃ tp, tp = M.top := ⟨_, rfl⟩
  have hlast' : w.cell? ⟨f, M.stack.length - 1, none⟩ = some (.int .i64 tp) := by rw [htp]; exact hlast
  clear hlast
  clear htp
  go_enter Tryz.func96, Tryz.ntmps96
  go_wp2_with (first | (go_at_call 109; refine (right_any 4 _ (by decide) (by decide)).mono ?_; rintro e w1 ⟨rfl, rfl⟩) | (go_at_call 94; refine (takes_any 4 _ (by decide) (by decide)).mono ?_; rintro e w1 ⟨rfl, rfl⟩) | (go_at_call 110; refine ((unhide hhid) _ (h0.drewN _) _).mono ?_; rintro e w1 ⟨rfl, rfl⟩))
  go_quiet (fail)
  go_wp2_with (first | (go_at_call 109; refine (right_any 4 _ (by decide) (by decide)).mono ?_; rintro e w1 ⟨rfl, rfl⟩) | (go_at_call 94; refine (takes_any 4 _ (by decide) (by decide)).mono ?_; rintro e w1 ⟨rfl, rfl⟩) | (go_at_call 110; refine ((unhide hhid) _ (h0.drewN _) _).mono ?_; rintro e w1 ⟨rfl, rfl⟩))
  go_ret
  exact ⟨rfl, h0.drewN _, Kept.drewN _ _ _⟩

set_option maxRecDepth 100000 in
set_option maxHeartbeats 800000 in
theorem fault_plain5 (h : RmIs w P b M) (hok : M.Ok) (hne : M.stack ≠ []) : Calls Tryz.prog 96 #[.pointer (some ⟨b, 0, none⟩), .int .i64 5] w (FaultPost P b M 0 w) := by
  have o1 := hok.stack
  have o2 := hok.image
  have o3 := hok.out
  have z1 : (mkB M.image).size = M.image.length := mkB_size _
  have z2 : (mkB M.out).size = M.out.length := mkB_size _
  have hhid := hide (fun w' (h' : RmIs w' P b M) a => hidden_any h' hok a)
  have h0 := h
  obtain ⟨vs, vc, h⟩ := h
  have hlt := h.lt
  have hpos : 0 < M.stack.length := List.length_pos_iff.2 hne
  obtain ⟨f, cp, rfl, hflt, hcp1, hcp2, hlast, hrow⟩ := row_last h.stack hne
  have c0 := h.cell 0 _ rfl
  clear hrow hne
  have c2 := h.cell 2 _ rfl
  have c4 := h.cell 4 _ rfl
  have c7 := h.cell 7 _ rfl
  have c9 := h.cell 9 _ rfl
  clear h hok
  have hr : rightN 5 = 0 := rfl
  have ht : takesN 5 = 2 := rfl
  obtain ⟨tp, htp⟩ : ∃ tp, tp = M.top := ⟨_, rfl⟩
  have hlast' : w.cell? ⟨f, M.stack.length - 1, none⟩ = some (.int .i64 tp) := by rw [htp]; exact hlast
  clear hlast
  clear htp
  go_enter Tryz.func96, Tryz.ntmps96
  go_wp2_with (first | (go_at_call 109; refine (right_any 5 _ (by decide) (by decide)).mono ?_; rintro e w1 ⟨rfl, rfl⟩) | (go_at_call 94; refine (takes_any 5 _ (by decide) (by decide)).mono ?_; rintro e w1 ⟨rfl, rfl⟩) | (go_at_call 110; refine ((unhide hhid) _ (h0.drewN _) _).mono ?_; rintro e w1 ⟨rfl, rfl⟩))
  go_quiet (fail)
  go_wp2_with (first | (go_at_call 109; refine (right_any 5 _ (by decide) (by decide)).mono ?_; rintro e w1 ⟨rfl, rfl⟩) | (go_at_call 94; refine (takes_any 5 _ (by decide) (by decide)).mono ?_; rintro e w1 ⟨rfl, rfl⟩) | (go_at_call 110; refine ((unhide hhid) _ (h0.drewN _) _).mono ?_; rintro e w1 ⟨rfl, rfl⟩))
  go_ret
  exact ⟨rfl, h0.drewN _, Kept.drewN _ _ _⟩

set_option maxRecDepth 100000 in
set_option maxHeartbeats 800000 in
theorem fault_plain6 (h : RmIs w P b M) (hok : M.Ok) (hne : M.stack ≠ []) : Calls Tryz.prog 96 #[.pointer (some ⟨b, 0, none⟩), .int .i64 6] w (FaultPost P b M 0 w) := by
  have o1 := hok.stack
  have o2 := hok.image
  have o3 := hok.out
  have z1 : (mkB M.image).size = M.image.length := mkB_size _
  have z2 : (mkB M.out).size = M.out.length := mkB_size _
  have hhid := hide (fun w' (h' : RmIs w' P b M) a => hidden_any h' hok a)
  have h0 := h
  obtain ⟨vs, vc, h⟩ := h
  have hlt := h.lt
  have hpos : 0 < M.stack.length := List.length_pos_iff.2 hne
  obtain ⟨f, cp, rfl, hflt, hcp1, hcp2, hlast, hrow⟩ := row_last h.stack hne
  have c0 := h.cell 0 _ rfl
  clear hrow hne
  have c2 := h.cell 2 _ rfl
  have c4 := h.cell 4 _ rfl
  have c7 := h.cell 7 _ rfl
  have c9 := h.cell 9 _ rfl
  clear h hok
  have hr : rightN 6 = 0 := rfl
  have ht : takesN 6 = 2 := rfl
  obtain ⟨tp, htp⟩ : ∃ tp, tp = M.top := ⟨_, rfl⟩
  have hlast' : w.cell? ⟨f, M.stack.length - 1, none⟩ = some (.int .i64 tp) := by rw [htp]; exact hlast
  clear hlast
  clear htp
  go_enter Tryz.func96, Tryz.ntmps96
  go_wp2_with (first | (go_at_call 109; refine (right_any 6 _ (by decide) (by decide)).mono ?_; rintro e w1 ⟨rfl, rfl⟩) | (go_at_call 94; refine (takes_any 6 _ (by decide) (by decide)).mono ?_; rintro e w1 ⟨rfl, rfl⟩) | (go_at_call 110; refine ((unhide hhid) _ (h0.drewN _) _).mono ?_; rintro e w1 ⟨rfl, rfl⟩))
  go_quiet (fail)
  go_wp2_with (first | (go_at_call 109; refine (right_any 6 _ (by decide) (by decide)).mono ?_; rintro e w1 ⟨rfl, rfl⟩) | (go_at_call 94; refine (takes_any 6 _ (by decide) (by decide)).mono ?_; rintro e w1 ⟨rfl, rfl⟩) | (go_at_call 110; refine ((unhide hhid) _ (h0.drewN _) _).mono ?_; rintro e w1 ⟨rfl, rfl⟩))
  go_ret
  exact ⟨rfl, h0.drewN _, Kept.drewN _ _ _⟩

set_option maxRecDepth 100000 in
set_option maxHeartbeats 800000 in
theorem fault_plain9 (h : RmIs w P b M) (hok : M.Ok) (hne : M.stack ≠ []) : Calls Tryz.prog 96 #[.pointer (some ⟨b, 0, none⟩), .int .i64 9] w (FaultPost P b M 0 w) := by
  have o1 := hok.stack
  have o2 := hok.image
  have o3 := hok.out
  have z1 : (mkB M.image).size = M.image.length := mkB_size _
  have z2 : (mkB M.out).size = M.out.length := mkB_size _
  have hhid := hide (fun w' (h' : RmIs w' P b M) a => hidden_any h' hok a)
  have h0 := h
  obtain ⟨vs, vc, h⟩ := h
  have hlt := h.lt
  have hpos : 0 < M.stack.length := List.length_pos_iff.2 hne
  obtain ⟨f, cp, rfl, hflt, hcp1, hcp2, hlast, hrow⟩ := row_last h.stack hne
  have c0 := h.cell 0 _ rfl
  clear hrow hne
  have c2 := h.cell 2 _ rfl
  have c4 := h.cell 4 _ rfl
  have c7 := h.cell 7 _ rfl
  have c9 := h.cell 9 _ rfl
  clear h hok
  have hr : rightN 9 = 0 := rfl
  have ht : takesN 9 = 2 := rfl
  obtain ⟨tp, htp⟩ : ∃ tp, tp = M.top := ⟨_, rfl⟩
  have hlast' : w.cell? ⟨f, M.stack.length - 1, none⟩ = some (.int .i64 tp) := by rw [htp]; exact hlast
  clear hlast
  clear htp
  go_enter Tryz.func96, Tryz.ntmps96
  go_wp2_with (first | (go_at_call 109; refine (right_any 9 _ (by decide) (by decide)).mono ?_; rintro e w1 ⟨rfl, rfl⟩) | (go_at_call 94; refine (takes_any 9 _ (by decide) (by decide)).mono ?_; rintro e w1 ⟨rfl, rfl⟩) | (go_at_call 110; refine ((unhide hhid) _ (h0.drewN _) _).mono ?_; rintro e w1 ⟨rfl, rfl⟩))
  go_quiet (fail)
  go_wp2_with (first | (go_at_call 109; refine (right_any 9 _ (by decide) (by decide)).mono ?_; rintro e w1 ⟨rfl, rfl⟩) | (go_at_call 94; refine (takes_any 9 _ (by decide) (by decide)).mono ?_; rintro e w1 ⟨rfl, rfl⟩) | (go_at_call 110; refine ((unhide hhid) _ (h0.drewN _) _).mono ?_; rintro e w1 ⟨rfl, rfl⟩))
  go_ret
  exact ⟨rfl, h0.drewN _, Kept.drewN _ _ _⟩

set_option maxRecDepth 100000 in
set_option maxHeartbeats 800000 in
theorem fault_plain10 (h : RmIs w P b M) (hok : M.Ok) (hne : M.stack ≠ []) : Calls Tryz.prog 96 #[.pointer (some ⟨b, 0, none⟩), .int .i64 10] w (FaultPost P b M 0 w) := by
  have o1 := hok.stack
  have o2 := hok.image
  have o3 := hok.out
  have z1 : (mkB M.image).size = M.image.length := mkB_size _
  have z2 : (mkB M.out).size = M.out.length := mkB_size _
  have hhid := hide (fun w' (h' : RmIs w' P b M) a => hidden_any h' hok a)
  have h0 := h
  obtain ⟨vs, vc, h⟩ := h
  have hlt := h.lt
  have hpos : 0 < M.stack.length := List.length_pos_iff.2 hne
  obtain ⟨f, cp, rfl, hflt, hcp1, hcp2, hlast, hrow⟩ := row_last h.stack hne
  have c0 := h.cell 0 _ rfl
  clear hrow hne
  have c2 := h.cell 2 _ rfl
  have c4 := h.cell 4 _ rfl
  have c7 := h.cell 7 _ rfl
  have c9 := h.cell 9 _ rfl
  clear h hok
  have hr : rightN 10 = 0 := rfl
  have ht : takesN 10 = 2 := rfl
  obtain ⟨tp, htp⟩ : ∃ tp, tp = M.top := ⟨_, rfl⟩
  have hlast' : w.cell? ⟨f, M.stack.length - 1, none⟩ = some (.int .i64 tp) := by rw [htp]; exact hlast
  clear hlast
  clear htp
  go_enter Tryz.func96, Tryz.ntmps96
  go_wp2_with (first | (go_at_call 109; refine (right_any 10 _ (by decide) (by decide)).mono ?_; rintro e w1 ⟨rfl, rfl⟩) | (go_at_call 94; refine (takes_any 10 _ (by decide) (by decide)).mono ?_; rintro e w1 ⟨rfl, rfl⟩) | (go_at_call 110; refine ((unhide hhid) _ (h0.drewN _) _).mono ?_; rintro e w1 ⟨rfl, rfl⟩))
  go_quiet (fail)
  go_wp2_with (first | (go_at_call 109; refine (right_any 10 _ (by decide) (by decide)).mono ?_; rintro e w1 ⟨rfl, rfl⟩) | (go_at_call 94; refine (takes_any 10 _ (by decide) (by decide)).mono ?_; rintro e w1 ⟨rfl, rfl⟩) | (go_at_call 110; refine ((unhide hhid) _ (h0.drewN _) _).mono ?_; rintro e w1 ⟨rfl, rfl⟩))
  go_ret
  exact ⟨rfl, h0.drewN _, Kept.drewN _ _ _⟩

set_option maxRecDepth 100000 in
set_option maxHeartbeats 800000 in
theorem fault_plain11 (h : RmIs w P b M) (hok : M.Ok) (hne : M.stack ≠ []) : Calls Tryz.prog 96 #[.pointer (some ⟨b, 0, none⟩), .int .i64 11] w (FaultPost P b M 0 w) := by
  have o1 := hok.stack
  have o2 := hok.image
  have o3 := hok.out
  have z1 : (mkB M.image).size = M.image.length := mkB_size _
  have z2 : (mkB M.out).size = M.out.length := mkB_size _
  have hhid := hide (fun w' (h' : RmIs w' P b M) a => hidden_any h' hok a)
  have h0 := h
  obtain ⟨vs, vc, h⟩ := h
  have hlt := h.lt
  have hpos : 0 < M.stack.length := List.length_pos_iff.2 hne
  obtain ⟨f, cp, rfl, hflt, hcp1, hcp2, hlast, hrow⟩ := row_last h.stack hne
  have c0 := h.cell 0 _ rfl
  clear hrow hne
  have c2 := h.cell 2 _ rfl
  have c4 := h.cell 4 _ rfl
  have c7 := h.cell 7 _ rfl
  have c9 := h.cell 9 _ rfl
  clear h hok
  have hr : rightN 11 = 0 := rfl
  have ht : takesN 11 = 2 := rfl
  obtain ⟨tp, htp⟩ : ∃ tp, tp = M.top := ⟨_, rfl⟩
  have hlast' : w.cell? ⟨f, M.stack.length - 1, none⟩ = some (.int .i64 tp) := by rw [htp]; exact hlast
  clear hlast
  clear htp
  go_enter Tryz.func96, Tryz.ntmps96
  go_wp2_with (first | (go_at_call 109; refine (right_any 11 _ (by decide) (by decide)).mono ?_; rintro e w1 ⟨rfl, rfl⟩) | (go_at_call 94; refine (takes_any 11 _ (by decide) (by decide)).mono ?_; rintro e w1 ⟨rfl, rfl⟩) | (go_at_call 110; refine ((unhide hhid) _ (h0.drewN _) _).mono ?_; rintro e w1 ⟨rfl, rfl⟩))
  go_quiet (fail)
  go_wp2_with (first | (go_at_call 109; refine (right_any 11 _ (by decide) (by decide)).mono ?_; rintro e w1 ⟨rfl, rfl⟩) | (go_at_call 94; refine (takes_any 11 _ (by decide) (by decide)).mono ?_; rintro e w1 ⟨rfl, rfl⟩) | (go_at_call 110; refine ((unhide hhid) _ (h0.drewN _) _).mono ?_; rintro e w1 ⟨rfl, rfl⟩))
  go_ret
  exact ⟨rfl, h0.drewN _, Kept.drewN _ _ _⟩

set_option maxRecDepth 100000 in
set_option maxHeartbeats 800000 in
theorem fault_plain12 (h : RmIs w P b M) (hok : M.Ok) (hne : M.stack ≠ []) : Calls Tryz.prog 96 #[.pointer (some ⟨b, 0, none⟩), .int .i64 12] w (FaultPost P b M 0 w) := by
  have o1 := hok.stack
  have o2 := hok.image
  have o3 := hok.out
  have z1 : (mkB M.image).size = M.image.length := mkB_size _
  have z2 : (mkB M.out).size = M.out.length := mkB_size _
  have hhid := hide (fun w' (h' : RmIs w' P b M) a => hidden_any h' hok a)
  have h0 := h
  obtain ⟨vs, vc, h⟩ := h
  have hlt := h.lt
  have hpos : 0 < M.stack.length := List.length_pos_iff.2 hne
  obtain ⟨f, cp, rfl, hflt, hcp1, hcp2, hlast, hrow⟩ := row_last h.stack hne
  have c0 := h.cell 0 _ rfl
  clear hrow hne
  have c2 := h.cell 2 _ rfl
  have c4 := h.cell 4 _ rfl
  have c7 := h.cell 7 _ rfl
  have c9 := h.cell 9 _ rfl
  clear h hok
  have hr : rightN 12 = 0 := rfl
  have ht : takesN 12 = 2 := rfl
  obtain ⟨tp, htp⟩ : ∃ tp, tp = M.top := ⟨_, rfl⟩
  have hlast' : w.cell? ⟨f, M.stack.length - 1, none⟩ = some (.int .i64 tp) := by rw [htp]; exact hlast
  clear hlast
  clear htp
  go_enter Tryz.func96, Tryz.ntmps96
  go_wp2_with (first | (go_at_call 109; refine (right_any 12 _ (by decide) (by decide)).mono ?_; rintro e w1 ⟨rfl, rfl⟩) | (go_at_call 94; refine (takes_any 12 _ (by decide) (by decide)).mono ?_; rintro e w1 ⟨rfl, rfl⟩) | (go_at_call 110; refine ((unhide hhid) _ (h0.drewN _) _).mono ?_; rintro e w1 ⟨rfl, rfl⟩))
  go_quiet (fail)
  go_wp2_with (first | (go_at_call 109; refine (right_any 12 _ (by decide) (by decide)).mono ?_; rintro e w1 ⟨rfl, rfl⟩) | (go_at_call 94; refine (takes_any 12 _ (by decide) (by decide)).mono ?_; rintro e w1 ⟨rfl, rfl⟩) | (go_at_call 110; refine ((unhide hhid) _ (h0.drewN _) _).mono ?_; rintro e w1 ⟨rfl, rfl⟩))
  go_ret
  exact ⟨rfl, h0.drewN _, Kept.drewN _ _ _⟩

set_option maxRecDepth 100000 in
set_option maxHeartbeats 800000 in
theorem fault_plain13 (h : RmIs w P b M) (hok : M.Ok) (hne : M.stack ≠ []) : Calls Tryz.prog 96 #[.pointer (some ⟨b, 0, none⟩), .int .i64 13] w (FaultPost P b M 0 w) := by
  have o1 := hok.stack
  have o2 := hok.image
  have o3 := hok.out
  have z1 : (mkB M.image).size = M.image.length := mkB_size _
  have z2 : (mkB M.out).size = M.out.length := mkB_size _
  have hhid := hide (fun w' (h' : RmIs w' P b M) a => hidden_any h' hok a)
  have h0 := h
  obtain ⟨vs, vc, h⟩ := h
  have hlt := h.lt
  have hpos : 0 < M.stack.length := List.length_pos_iff.2 hne
  obtain ⟨f, cp, rfl, hflt, hcp1, hcp2, hlast, hrow⟩ := row_last h.stack hne
  have c0 := h.cell 0 _ rfl
  clear hrow hne
  have c2 := h.cell 2 _ rfl
  have c4 := h.cell 4 _ rfl
  have c7 := h.cell 7 _ rfl
  have c9 := h.cell 9 _ rfl
  clear h hok
  have hr : rightN 13 = 0 := rfl
  have ht : takesN 13 = 2 := rfl
  obtain ⟨tp, htp⟩ : ∃ tp, tp = M.top := ⟨_, rfl⟩
  have hlast' : w.cell? ⟨f, M.stack.length - 1, none⟩ = some (.int .i64 tp) := by rw [htp]; exact hlast
  clear hlast
  clear htp
  go_enter Tryz.func96, Tryz.ntmps96
  go_wp2_with (first | (go_at_call 109; refine (right_any 13 _ (by decide) (by decide)).mono ?_; rintro e w1 ⟨rfl, rfl⟩) | (go_at_call 94; refine (takes_any 13 _ (by decide) (by decide)).mono ?_; rintro e w1 ⟨rfl, rfl⟩) | (go_at_call 110; refine ((unhide hhid) _ (h0.drewN _) _).mono ?_; rintro e w1 ⟨rfl, rfl⟩))
  go_quiet (fail)
  go_wp2_with (first | (go_at_call 109; refine (right_any 13 _ (by decide) (by decide)).mono ?_; rintro e w1 ⟨rfl, rfl⟩) | (go_at_call 94; refine (takes_any 13 _ (by decide) (by decide)).mono ?_; rintro e w1 ⟨rfl, rfl⟩) | (go_at_call 110; refine ((unhide hhid) _ (h0.drewN _) _).mono ?_; rintro e w1 ⟨rfl, rfl⟩))
  go_ret
  exact ⟨rfl, h0.drewN _, Kept.drewN _ _ _⟩

end

theorem Ma.fault_hid (M : Ma) : M.hidden M.top = true ↔ ((M.image.length : Int) ≤ M.top ∨ (M.kernel ≤ M.top ∧ M.top < M.fence ∧ noRight M.rights 4 = true)) := by
  unfold Ma.hidden
  simp [Bool.or_eq_true, Bool.and_eq_true, and_assoc]

/-- fault. -/
theorem fault_any {w : World} {P : Nat → Prop} {b : Nat} {M : Ma} (h : RmIs w P b M) (hok : M.Ok) (n : Int) (h0 : 0 ≤ n) (h1 : n ≤ 18) (hne : n ≠ 17 → M.stack ≠ []) :
    Calls Tryz.prog 96 #[.pointer (some ⟨b, 0, none⟩), .int .i64 n] w (FaultPost P b M (M.fault n) w) := by
  have hh := M.fault_hid
  rcases cases19 h0 h1 with rfl | rfl | rfl | rfl | rfl | rfl | rfl | rfl | rfl | rfl | rfl | rfl | rfl | rfl | rfl | rfl | rfl | rfl | rfl
  · have e : M.fault 0 = 0 := by simp [Ma.fault]
    rw [e]; exact fault_plain0 h hok (hne (by decide))
  · have e : M.fault 1 = 0 := by simp [Ma.fault]
    rw [e]; exact fault_plain1 h hok (hne (by decide))
  · have e : M.fault 2 = 0 := by simp [Ma.fault]
    rw [e]; exact fault_plain2 h hok (hne (by decide))
  · have e : M.fault 3 = 0 := by simp [Ma.fault]
    rw [e]; exact fault_plain3 h hok (hne (by decide))
  · have e : M.fault 4 = 0 := by simp [Ma.fault]
    rw [e]; exact fault_plain4 h hok (hne (by decide))
  · have e : M.fault 5 = 0 := by simp [Ma.fault]
    rw [e]; exact fault_plain5 h hok (hne (by decide))
  · have e : M.fault 6 = 0 := by simp [Ma.fault]
    rw [e]; exact fault_plain6 h hok (hne (by decide))
  · by_cases hz : M.top = 0
    · have e : M.fault 7 = 12 := by simp [Ma.fault, hz]
      rw [e]; exact fault_zero7 h hok (hne (by decide)) hz
    · have e : M.fault 7 = 0 := by simp [Ma.fault, hz]
      rw [e]; exact fault_div7 h hok (hne (by decide)) hz
  · by_cases hz : M.top = 0
    · have e : M.fault 8 = 12 := by simp [Ma.fault, hz]
      rw [e]; exact fault_zero8 h hok (hne (by decide)) hz
    · have e : M.fault 8 = 0 := by simp [Ma.fault, hz]
      rw [e]; exact fault_div8 h hok (hne (by decide)) hz
  · have e : M.fault 9 = 0 := by simp [Ma.fault]
    rw [e]; exact fault_plain9 h hok (hne (by decide))
  · have e : M.fault 10 = 0 := by simp [Ma.fault]
    rw [e]; exact fault_plain10 h hok (hne (by decide))
  · have e : M.fault 11 = 0 := by simp [Ma.fault]
    rw [e]; exact fault_plain11 h hok (hne (by decide))
  · have e : M.fault 12 = 0 := by simp [Ma.fault]
    rw [e]; exact fault_plain12 h hok (hne (by decide))
  · have e : M.fault 13 = 0 := by simp [Ma.fault]
    rw [e]; exact fault_plain13 h hok (hne (by decide))
  · cases hz : M.hidden M.top
    · have hz' : ¬ ((M.image.length : Int) ≤ M.top ∨ (M.kernel ≤ M.top ∧ M.top < M.fence ∧ noRight M.rights 4 = true)) := fun hc => by rw [hh.2 hc] at hz; cases hz
      have e : M.fault 14 = 0 := by
        unfold Ma.fault
        rw [if_neg (by simp), if_neg (by simp), if_neg (by simp), if_neg (fun hc => hz' hc.2), if_neg (by simp)]
      rw [e]; exact fault_at h hok (hne (by decide)) hz
    · have e : M.fault 14 = 13 := by
        unfold Ma.fault
        rw [if_neg (by simp), if_neg (by simp), if_neg (by simp), if_pos ⟨rfl, hh.1 hz⟩]
      rw [e]; exact fault_at_no h hok (hne (by decide)) hz
  · by_cases hz : M.top < M.fence
    · have e : M.fault 15 = 13 := by simp [Ma.fault, hz]
      rw [e]; exact fault_store_lo h hok (hne (by decide)) hz
    · by_cases hz2 : (M.image.length : Int) ≤ M.top
      · have e : M.fault 15 = 13 := by simp [Ma.fault, hz2]
        rw [e]; exact fault_store_hi h hok (hne (by decide)) hz hz2
      · have e : M.fault 15 = 0 := by simp [Ma.fault, hz, hz2]
        rw [e]; exact fault_store h hok (hne (by decide)) hz (by omega)
  · cases hn : noRight M.rights 1
    · by_cases hf : 64 ≤ M.out.length
      · have e : M.fault 16 = 11 := by simp [Ma.fault, hn, hf]
        rw [e]; exact fault_emit_full h hok (hne (by decide)) hn hf
      · have e : M.fault 16 = 0 := by simp [Ma.fault, hn, hf]
        rw [e]; exact fault_emit h hok (hne (by decide)) hn (by omega)
    · have e : M.fault 16 = 10 := by simp [Ma.fault, hn]
      rw [e]; exact fault_emit_no h hok (hne (by decide)) hn
  · cases hn : noRight M.rights 2
    · have e : M.fault 17 = 0 := by simp [Ma.fault, hn]
      rw [e]; exact fault_key h hok hn
    · have e : M.fault 17 = 10 := by simp [Ma.fault, hn]
      rw [e]; exact fault_key_no h hok hn
  · cases hn : noRight M.rights 8
    · have e : M.fault 18 = 0 := by simp [Ma.fault, hn]
      rw [e]; exact fault_mark h hok (hne (by decide)) hn
    · have e : M.fault 18 = 10 := by simp [Ma.fault, hn]
      rw [e]; exact fault_mark_no h hok (hne (by decide)) hn
end Go.Proofs.YtnanjomnldfidabGreatDoor
