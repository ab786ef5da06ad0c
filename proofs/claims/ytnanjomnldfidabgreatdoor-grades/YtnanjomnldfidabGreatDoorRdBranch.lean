/-
  The reader of package grader: takeBranch, takeLoop.
-/
import Derived.Test.YtnanjomnldfidabGreatDoorRdMem
import Derived.BigQuiet
import Derived.Deep.QuietTactic
set_option linter.unusedSimpArgs false
set_option linter.unusedVariables false
set_option linter.unusedSectionVars false
namespace Go.Proofs.YtnanjomnldfidabGreatDoor
open Go.RowKit

theorem keep_or {P : Nat → Prop} {n : Nat} {w w' : World} (h : Kept (fun k => P k ∨ k = n) w w') : Kept P w w' := h.mono fun _ hk => .inl hk
theorem rd_or {P : Nat → Prop} {n b : Nat} {w : World} {R : Rd} (h : RdIs w (fun k => P k ∨ k = n) b R) : RdIs w P b R := h.mono fun _ hk => .inl hk
/-- The cells of a protected box of three. -/
theorem box_cells {P : Nat → Prop} {w1 w2 : World} {x y z : Value} {t : TypeId} (h : Kept (fun k => P k ∨ k = w1.heap.size) (w1.alloc (.cells #[x, y, z] t)) w2) :
    w2.cell? ⟨w1.heap.size, 0, none⟩ = some x ∧ w2.cell? ⟨w1.heap.size, 1, none⟩ = some y ∧ w2.cell? ⟨w1.heap.size, 2, none⟩ = some z := by
  have hb : w2.heap[w1.heap.size]? = some (.cells #[x, y, z] t (0, 0)) := h.at' (heap_alloc_new w1 _) (.inr rfl)
  exact ⟨cell_of_block hb 0 _ rfl, cell_of_block hb 1 _ rfl, cell_of_block hb 2 _ rfl⟩

set_option maxRecDepth 100000 in
set_option maxHeartbeats 400000 in
theorem takeBranch_if (w : World) (P : Nat → Prop) (b : Nat) (R : Rd) (hR : RdIs w P b R) (h1 : R.steps.length ≤ 90000) (h2 : R.forms.length ≤ 90000) :
    Calls Tryz.prog 53 #[.pointer (some ⟨b, 0, none⟩), .string ⟨#[105, 102]⟩] w fun e w' =>
      e = .returned (.int .i64 0) ∧ RdIs w' P b ((R.push 1 0 R.len).add 3 0) ∧ Kept P w w' := by
  obtain ⟨a0, k0, a1, k1, a2, k2, c0, c1, c2, c3, c4, c5, c6, hlt⟩ := hR.view
  clear c1 c2 c3 c4 c5 c6
  go_enter Tryz.func53, Tryz.ntmps53
  go_wp2_with fail
  refine (pushForm_any _ P b R 1 0 R.len hR (by omega)).mono ?_
  rintro e w1 ⟨rfl, hR1, hk1⟩
  go_wp2_with fail
  refine (add_any _ P b _ 3 0 hR1 (by show R.steps.length ≤ _; omega)).mono ?_
  rintro e w2 ⟨rfl, hR2, hk2⟩
  go_wp2
  go_ret
  exact ⟨rfl, hR2, hk1.trans hk2⟩

set_option maxRecDepth 100000 in
set_option maxHeartbeats 400000 in
theorem takeBranch_else (w : World) (P : Nat → Prop) (b : Nat) (R : Rd) (hR : RdIs w P b R) (h1 : R.steps.length ≤ 90000) (h2 : R.forms.length ≤ 90000) (ht : R.top.1 = 1) :
    Calls Tryz.prog 53 #[.pointer (some ⟨b, 0, none⟩), .string ⟨#[101, 108, 115, 101]⟩] w fun e w' =>
      e = .returned (.int .i64 0) ∧ RdIs w' P b (((R.pop.push 2 0 R.len).add 2 0).aim R.top.2.2) ∧ Kept P w w' := by
  have hb : (R.top.1 != 1) = false := by rw [ht]; rfl
  clear ht
  go_enter Tryz.func53, Tryz.ntmps53
  go_wp2_with fail
  refine (topForm_any _ P b R hR (by omega)).mono ?_
  rintro e w1 ⟨rfl, hR1, hk1⟩
  have hR1' := hR1.protect (.cells #[.int .i64 R.top.1, .int .i64 R.top.2.1, .int .i64 R.top.2.2] 121)
  go_wp2_with fail
  refine (popForm_any _ (fun k => P k ∨ k = w1.heap.size) b R hR1' (by omega)).mono ?_
  rintro e w2 ⟨rfl, hR2, hk2⟩
  obtain ⟨a0, k0, a1, k1, a2, k2, c0, c1, c2, c3, c4, c5, c6, hlt⟩ := hR2.view
  clear c1 c2 c3 c4 c5 c6
  go_wp2_with fail
  refine (pushForm_any _ _ b R.pop 2 0 R.len hR2 (by show R.forms.dropLast.length ≤ _; simp; omega)).mono ?_
  rintro e w3 ⟨rfl, hR3, hk3⟩
  go_wp2_with fail
  refine (add_any _ _ b _ 2 0 hR3 (by show R.steps.length ≤ _; omega)).mono ?_
  rintro e w4 ⟨rfl, hR4, hk4⟩
  obtain ⟨b0, b1, b2⟩ := box_cells (hk2.trans (hk3.trans hk4))
  go_wp2_with fail
  refine (aimHere_any _ _ b _ hR4 R.top.2.2 (by show (R.steps ++ [(2, 0)]).length ≤ _; simp; omega)).mono ?_
  rintro e w5 ⟨rfl, hR5, hk5⟩
  go_wp2
  go_ret
  exact ⟨rfl, rd_or hR5, hk1.trans (((Kept.refl P _).alloc _).trans (keep_or (hk2.trans (hk3.trans (hk4.trans hk5)))))⟩

set_option maxRecDepth 100000 in
set_option maxHeartbeats 400000 in
theorem takeBranch_else_no (w : World) (P : Nat → Prop) (b : Nat) (R : Rd) (hR : RdIs w P b R) (h2 : R.forms.length ≤ 90000) (ht : R.top.1 ≠ 1) :
    Calls Tryz.prog 53 #[.pointer (some ⟨b, 0, none⟩), .string ⟨#[101, 108, 115, 101]⟩] w fun e w' =>
      e = .returned (.int .i64 3) ∧ Kept P w w' := by
  have hb : (R.top.1 != 1) = true := bne_iff_ne.2 ht
  clear ht
  go_enter Tryz.func53, Tryz.ntmps53
  go_wp2_with fail
  refine (topForm_any _ P b R hR (by omega)).mono ?_
  rintro e w1 ⟨rfl, hR1, hk1⟩
  go_wp2
  go_ret
  exact ⟨rfl, hk1.alloc _⟩

set_option maxRecDepth 100000 in
set_option maxHeartbeats 400000 in
theorem takeBranch_then (w : World) (P : Nat → Prop) (b : Nat) (R : Rd) (hR : RdIs w P b R) (h1 : R.steps.length ≤ 90000) (h2 : R.forms.length ≤ 90000) (ht : R.top.1 = 1 ∨ R.top.1 = 2) :
    Calls Tryz.prog 53 #[.pointer (some ⟨b, 0, none⟩), .string ⟨#[116, 104, 101, 110]⟩] w fun e w' =>
      e = .returned (.int .i64 0) ∧ RdIs w' P b (R.pop.aim R.top.2.2) ∧ Kept P w w' := by
  have fin : ∀ (hb : (R.top.1 != 1) = false ∨ ((R.top.1 != 1) = true ∧ (R.top.1 != 2) = false)), Calls Tryz.prog 53 #[.pointer (some ⟨b, 0, none⟩), .string ⟨#[116, 104, 101, 110]⟩] w fun e w' =>
      e = .returned (.int .i64 0) ∧ RdIs w' P b (R.pop.aim R.top.2.2) ∧ Kept P w w' := by
    clear ht
    intro hb
    rcases hb with hb | ⟨hb, hb'⟩
    all_goals
      go_enter Tryz.func53, Tryz.ntmps53
      go_wp2_with fail
      refine (topForm_any _ P b R hR (by omega)).mono ?_
      rintro e w1 ⟨rfl, hR1, hk1⟩
      have hR1' := hR1.protect (.cells #[.int .i64 R.top.1, .int .i64 R.top.2.1, .int .i64 R.top.2.2] 121)
      go_wp2_with fail
      refine (popForm_any _ (fun k => P k ∨ k = w1.heap.size) b R hR1' (by omega)).mono ?_
      rintro e w2 ⟨rfl, hR2, hk2⟩
      obtain ⟨b0, b1, b2⟩ := box_cells hk2
      go_wp2_with fail
      refine (aimHere_any _ _ b _ hR2 R.top.2.2 (by show R.steps.length ≤ _; omega)).mono ?_
      rintro e w5 ⟨rfl, hR5, hk5⟩
      go_wp2
      go_ret
      exact ⟨rfl, rd_or hR5, hk1.trans (((Kept.refl P _).alloc _).trans (keep_or (hk2.trans hk5)))⟩
  exact fin (by
    rcases ht with h | h
    · exact .inl (by rw [h]; rfl)
    · exact .inr ⟨by rw [h]; rfl, by rw [h]; rfl⟩)

set_option maxRecDepth 100000 in
set_option maxHeartbeats 400000 in
theorem takeBranch_then_no (w : World) (P : Nat → Prop) (b : Nat) (R : Rd) (hR : RdIs w P b R) (h2 : R.forms.length ≤ 90000) (ht : R.top.1 ≠ 1) (ht2 : R.top.1 ≠ 2) :
    Calls Tryz.prog 53 #[.pointer (some ⟨b, 0, none⟩), .string ⟨#[116, 104, 101, 110]⟩] w fun e w' =>
      e = .returned (.int .i64 3) ∧ Kept P w w' := by
  have hb : (R.top.1 != 1) = true := bne_iff_ne.2 ht
  have hb2 : (R.top.1 != 2) = true := bne_iff_ne.2 ht2
  clear ht ht2
  go_enter Tryz.func53, Tryz.ntmps53
  go_wp2_with fail
  refine (topForm_any _ P b R hR (by omega)).mono ?_
  rintro e w1 ⟨rfl, hR1, hk1⟩
  go_wp2
  go_ret
  exact ⟨rfl, hk1.alloc _⟩
end Go.Proofs.YtnanjomnldfidabGreatDoor
