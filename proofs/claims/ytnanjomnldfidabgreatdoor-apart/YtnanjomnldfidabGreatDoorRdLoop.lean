/-
  The reader of package grader: takeLoop.
-/
import Derived.Test.YtnanjomnldfidabGreatDoorRdBranch
import Derived.Deep.RegionWith
set_option linter.unusedSimpArgs false
set_option linter.unusedVariables false
set_option linter.unusedSectionVars false
namespace Go.Proofs.YtnanjomnldfidabGreatDoor
open Go.RowKit

set_option maxRecDepth 100000 in
set_option maxHeartbeats 400000 in
theorem takeLoop_begin (w : World) (P : Nat → Prop) (b : Nat) (R : Rd) (hR : RdIs w P b R) (h1 : R.steps.length ≤ 90000) (h2 : R.forms.length ≤ 90000) :
    Calls Tryz.prog 54 #[.pointer (some ⟨b, 0, none⟩), .string ⟨#[98, 101, 103, 105, 110]⟩] w fun e w' =>
      e = .returned (.int .i64 0) ∧ RdIs w' P b (R.push 3 R.len 0) ∧ Kept P w w' := by
  obtain ⟨a0, k0, a1, k1, a2, k2, c0, c1, c2, c3, c4, c5, c6, hlt⟩ := hR.view
  clear c1 c2 c3 c4 c5 c6
  go_enter Tryz.func54, Tryz.ntmps54
  go_wp2_with fail
  refine (pushForm_any _ P b R 3 R.len 0 hR (by omega)).mono ?_
  rintro e w1 ⟨rfl, hR1, hk1⟩
  go_wp2
  go_ret
  exact ⟨rfl, hR1, hk1⟩

set_option maxRecDepth 100000 in
set_option maxHeartbeats 400000 in
theorem takeLoop_repeat (w : World) (P : Nat → Prop) (b : Nat) (R : Rd) (hR : RdIs w P b R) (h1 : R.steps.length ≤ 90000) (h2 : R.forms.length ≤ 90000) (ht : R.top.1 = 4) :
    Calls Tryz.prog 54 #[.pointer (some ⟨b, 0, none⟩), .string ⟨#[114, 101, 112, 101, 97, 116]⟩] w fun e w' =>
      e = .returned (.int .i64 0) ∧ RdIs w' P b ((R.pop.add 2 R.top.2.1).aim R.top.2.2) ∧ Kept P w w' := by
  have hb : (R.top.1 != 4) = false := by rw [ht]; rfl
  clear ht
  go_enter Tryz.func54, Tryz.ntmps54
  go_wp2_with fail
  refine (topForm_any _ P b R hR (by omega)).mono ?_
  rintro e w1 ⟨rfl, hR1, hk1⟩
  have hR1' := hR1.protect (.cells #[.int .i64 R.top.1, .int .i64 R.top.2.1, .int .i64 R.top.2.2] 121)
  go_wp2_with fail
  refine (popForm_any _ (fun k => P k ∨ k = w1.heap.size) b R hR1' (by omega)).mono ?_
  rintro e w2 ⟨rfl, hR2, hk2⟩
  obtain ⟨b0, b1, b2⟩ := box_cells hk2
  go_wp2_with fail
  refine (add_any _ _ b _ 2 R.top.2.1 hR2 (by show R.steps.length ≤ _; omega)).mono ?_
  rintro e w4 ⟨rfl, hR4, hk4⟩
  clear b0 b1 b2
  obtain ⟨b0, b1, b2⟩ := box_cells (hk2.trans hk4)
  go_wp2_with fail
  refine (aimHere_any _ _ b _ hR4 R.top.2.2 (by show (R.steps ++ [(2, R.top.2.1)]).length ≤ _; simp; omega)).mono ?_
  rintro e w5 ⟨rfl, hR5, hk5⟩
  go_wp2
  go_ret
  exact ⟨rfl, rd_or hR5, hk1.trans (((Kept.refl P _).alloc _).trans (keep_or (hk2.trans (hk4.trans hk5))))⟩

set_option maxRecDepth 100000 in
set_option maxHeartbeats 400000 in
theorem takeLoop_repeat_no (w : World) (P : Nat → Prop) (b : Nat) (R : Rd) (hR : RdIs w P b R) (h2 : R.forms.length ≤ 90000) (ht : R.top.1 ≠ 4) :
    Calls Tryz.prog 54 #[.pointer (some ⟨b, 0, none⟩), .string ⟨#[114, 101, 112, 101, 97, 116]⟩] w fun e w' =>
      e = .returned (.int .i64 3) ∧ Kept P w w' := by
  have hb : (R.top.1 != 4) = true := bne_iff_ne.2 ht
  clear ht
  go_enter Tryz.func54, Tryz.ntmps54
  go_wp2_with fail
  refine (topForm_any _ P b R hR (by omega)).mono ?_
  rintro e w1 ⟨rfl, hR1, hk1⟩
  go_wp2
  go_ret
  exact ⟨rfl, hk1.alloc _⟩

set_option maxRecDepth 100000 in
set_option maxHeartbeats 400000 in
theorem takeLoop_until (w : World) (P : Nat → Prop) (b : Nat) (R : Rd) (hR : RdIs w P b R) (h1 : R.steps.length ≤ 90000) (h2 : R.forms.length ≤ 90000) (ht : R.top.1 = 3) :
    Calls Tryz.prog 54 #[.pointer (some ⟨b, 0, none⟩), .string ⟨#[117, 110, 116, 105, 108]⟩] w fun e w' =>
      e = .returned (.int .i64 0) ∧ RdIs w' P b (R.pop.add 3 R.top.2.1) ∧ Kept P w w' := by
  have hb : (R.top.1 != 3) = false := by rw [ht]; rfl
  clear ht
  go_enter Tryz.func54, Tryz.ntmps54
  go_wp2_with fail
  refine (topForm_any _ P b R hR (by omega)).mono ?_
  rintro e w1 ⟨rfl, hR1, hk1⟩
  have hR1' := hR1.protect (.cells #[.int .i64 R.top.1, .int .i64 R.top.2.1, .int .i64 R.top.2.2] 121)
  go_wp2_with fail
  refine (popForm_any _ (fun k => P k ∨ k = w1.heap.size) b R hR1' (by omega)).mono ?_
  rintro e w2 ⟨rfl, hR2, hk2⟩
  obtain ⟨b0, b1, b2⟩ := box_cells hk2
  go_wp2_with fail
  refine (add_any _ _ b _ 3 R.top.2.1 hR2 (by show R.steps.length ≤ _; omega)).mono ?_
  rintro e w4 ⟨rfl, hR4, hk4⟩
  go_wp2
  go_ret
  exact ⟨rfl, rd_or hR4, hk1.trans (((Kept.refl P _).alloc _).trans (keep_or (hk2.trans hk4)))⟩

set_option maxRecDepth 100000 in
set_option maxHeartbeats 800000 in
theorem takeLoop_while (w : World) (P : Nat → Prop) (b : Nat) (R : Rd) (hR : RdIs w P b R) (h1 : R.steps.length ≤ 90000) (h2 : R.forms.length ≤ 90000) (ht : R.top.1 = 3) :
    Calls Tryz.prog 54 #[.pointer (some ⟨b, 0, none⟩), .string ⟨#[119, 104, 105, 108, 101]⟩] w fun e w' =>
      e = .returned (.int .i64 0) ∧ RdIs w' P b ((R.pop.push 4 R.top.2.1 R.len).add 3 R.top.2.1) ∧ Kept P w w' := by
  have hb : (R.top.1 != 3) = false := by rw [ht]; rfl
  clear ht
  go_enter Tryz.func54, Tryz.ntmps54
  go_wp2_with fail
  refine (topForm_any _ P b R hR (by omega)).mono ?_
  rintro e w1 ⟨rfl, hR1, hk1⟩
  have hR1' := hR1.protect (.cells #[.int .i64 R.top.1, .int .i64 R.top.2.1, .int .i64 R.top.2.2] 121)
  go_wp2_with fail
  refine (popForm_any _ (fun k => P k ∨ k = w1.heap.size) b R hR1' (by omega)).mono ?_
  rintro e w2 ⟨rfl, hR2, hk2⟩
  obtain ⟨b0, b1, b2⟩ := box_cells hk2
  obtain ⟨a0, k0, a1, k1, a2, k2, c0, c1, c2, c3, c4, c5, c6, hlt⟩ := hR2.view
  clear c1 c2 c3 c4 c5 c6
  have hlen : R.pop.steps.length = R.steps.length := rfl
  rw [hlen] at c0
  clear hlen
  go_wp2_with fail
  go_region_with (go_at_call 74; refine (pushForm_any _ _ b R.pop 4 R.top.2.1 R.len hR2.drew (by show R.forms.dropLast.length ≤ _; simp; omega)).mono ?_; rintro e w3 ⟨rfl, hR3, hk3⟩; have hk3' := (Kept.refl _ w2).drew.trans hk3; obtain ⟨b0', b1', b2'⟩ := box_cells (hk2.trans hk3'))
  all_goals
    go_wp2_with (go_at_call 39; refine (add_any _ _ b _ 3 R.top.2.1 hR3 (by show R.steps.length ≤ _; omega)).mono ?_; rintro e w4 ⟨rfl, hR4, hk4⟩)
    go_ret
    exact ⟨rfl, rd_or hR4, hk1.trans (((Kept.refl P _).alloc _).trans (keep_or (hk2.trans (hk3'.trans hk4))))⟩

set_option maxRecDepth 100000 in
set_option maxHeartbeats 400000 in
theorem takeLoop_no (w : World) (P : Nat → Prop) (b : Nat) (R : Rd) (hR : RdIs w P b R) (h2 : R.forms.length ≤ 90000) (ht : R.top.1 ≠ 3) (t : ByteArray) (h : t = ⟨#[117, 110, 116, 105, 108]⟩ ∨ t = ⟨#[119, 104, 105, 108, 101]⟩) :
    Calls Tryz.prog 54 #[.pointer (some ⟨b, 0, none⟩), .string t] w fun e w' =>
      e = .returned (.int .i64 3) ∧ Kept P w w' := by
  have hb : (R.top.1 != 3) = true := bne_iff_ne.2 ht
  clear ht
  rcases h with rfl | rfl
  all_goals
    go_enter Tryz.func54, Tryz.ntmps54
    go_wp2_with fail
    refine (topForm_any _ P b R hR (by omega)).mono ?_
    rintro e w1 ⟨rfl, hR1, hk1⟩
    go_wp2
    go_ret
    exact ⟨rfl, hk1.alloc _⟩

end Go.Proofs.YtnanjomnldfidabGreatDoor
