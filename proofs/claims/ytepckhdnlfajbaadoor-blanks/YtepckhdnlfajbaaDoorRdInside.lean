/-
  The reader of package grader: takeInside.
-/
import Derived.Test.YtepckhdnlfajbaaDoorRdWords
set_option linter.unusedSimpArgs false
set_option linter.unusedVariables false
set_option linter.unusedSectionVars false
namespace Go.Proofs.YtepckhdnlfajbaaDoor
open Go.RowKit

set_option maxRecDepth 100000 in
set_option maxHeartbeats 800000 in
theorem takeInside_no (w : World) (P : Nat → Prop) (b : Nat) (R : Rd) (hR : RdIs w P b R) (t : ByteArray) (hi : R.inside = false) :
    Calls Tryd.prog 45 #[.pointer (some ⟨b, 0, none⟩), .string t] w fun e w' => e = .returned (.int .i64 3) ∧ Kept P w w' := by
  obtain ⟨a0, k0, a1, k1, a2, k2, c0, c1, c2, c3, c4, c5, c6, hlt⟩ := hR.view
  clear c0 c1 c2 c3 c4 c6
  go_enter Tryd.func45, Tryd.ntmps45
  go_wp2
  go_ret
  exact ⟨rfl, Kept.refl _ _⟩

set_option maxRecDepth 100000 in
set_option maxHeartbeats 800000 in
theorem takeInside_exit (w : World) (P : Nat → Prop) (b : Nat) (R : Rd) (hR : RdIs w P b R) (h1 : R.steps.length ≤ 90000) (hi : R.inside = true) :
    Calls Tryd.prog 45 #[.pointer (some ⟨b, 0, none⟩), .string ⟨#[101, 120, 105, 116]⟩] w fun e w' => e = .returned (.int .i64 0) ∧ RdIs w' P b (R.add 5 0) ∧ Kept P w w' := by
  obtain ⟨a0, k0, a1, k1, a2, k2, c0, c1, c2, c3, c4, c5, c6, hlt⟩ := hR.view
  clear c0 c1 c2 c3 c4 c6
  go_enter Tryd.func45, Tryd.ntmps45
  go_wp2_with (go_at_call 63; refine (add_any _ P b R 5 0 hR (by omega)).mono ?_; rintro e w2 ⟨rfl, r2, q2⟩)
  go_ret
  exact ⟨rfl, r2, q2⟩

set_option maxRecDepth 100000 in
set_option maxHeartbeats 800000 in
theorem takeInside_recurse (w : World) (P : Nat → Prop) (b : Nat) (R : Rd) (hR : RdIs w P b R) (h1 : R.steps.length ≤ 90000) (hi : R.inside = true) :
    Calls Tryd.prog 45 #[.pointer (some ⟨b, 0, none⟩), .string ⟨#[114, 101, 99, 117, 114, 115, 101]⟩] w fun e w' => e = .returned (.int .i64 0) ∧ RdIs w' P b (R.add 4 R.first) ∧ Kept P w w' := by
  obtain ⟨a0, k0, a1, k1, a2, k2, c0, c1, c2, c3, c4, c5, c6, hlt⟩ := hR.view
  clear c0 c1 c2 c3 c6
  go_enter Tryd.func45, Tryd.ntmps45
  go_wp2_with (go_at_call 63; refine (add_any _ P b R 4 R.first hR (by omega)).mono ?_; rintro e w2 ⟨rfl, r2, q2⟩)
  go_ret
  exact ⟨rfl, r2, q2⟩

set_option maxRecDepth 100000 in
set_option maxHeartbeats 800000 in
theorem takeInside_end_no (w : World) (P : Nat → Prop) (b : Nat) (R : Rd) (hR : RdIs w P b R) (h2 : R.forms.length ≤ 90000) (hi : R.inside = true) (hf : R.forms ≠ []) :
    Calls Tryd.prog 45 #[.pointer (some ⟨b, 0, none⟩), .string ⟨#[59]⟩] w fun e w' => e = .returned (.int .i64 3) ∧ Kept P w w' := by
  obtain ⟨a0, k0, a1, k1, a2, k2, c0, c1, c2, c3, c4, c5, c6, hlt⟩ := hR.view
  clear c0 c2 c3 c4 c6
  have hl0 : (0 : Int) < (R.forms.length : Int) := by have := List.length_pos_iff.2 hf; omega
  clear hf
  go_enter Tryd.func45, Tryd.ntmps45
  go_wp2
  go_ret
  exact ⟨rfl, Kept.refl _ _⟩

theorem RdAt.addDef {w w1 : World} {P : Nat → Prop} {b : Nat} {R : Rd} {n : ByteArray} {f : Int} {vs vf vd v' : Value} (hR : RdAt w P b R vs vf vd)
    (hown : Row w1 P 57 2 v' (R.defs.length + 1) (defCells R.defs ++ [.string n, .int .i64 f])) (hg : w.grownBy w1 vd.ownBlock) :
    RdAt (w1.setCell ⟨b, 2, none⟩ v') P b { R with defs := R.defs ++ [(n, f)] } vs vf v' ∧ Kept P w (w1.setCell ⟨b, 2, none⟩ v') ∧ w1.cell? ⟨b, 2, none⟩ = some vd ∧ w1.frozen? ⟨b, 2, none⟩ = false := by
  obtain ⟨g1, g2⟩ := hR.grown hg (own_ne hR.defs.own hR.box (by decide))
  have hs1 := hR.steps.kept hg (own_ne_own hR.steps.own hR.defs.own (by decide))
  have hf1 := hR.forms.kept hg (own_ne_own hR.forms.own hR.defs.own (by decide))
  refine ⟨⟨fun k hk => by have := g1 k hk; simpa [World.setCell] using this, hR.out, ?_, ?_, ?_, ?_⟩, ?_, cell_of_block g2 2 _ rfl, frozen_of_row _ _ _ _ _ g2⟩
  · rw [heap_setCell_same _ _ _ _ _ _ g2]; rfl
  · exact hs1.set (own_ne hs1.own g2 (by decide)) _
  · exact hf1.set (own_ne hf1.own g2 (by decide)) _
  · show Row _ _ _ _ _ (R.defs ++ [(n, f)]).length (defCells (R.defs ++ [(n, f)]))
    rw [defCells_snoc]
    simp only [List.length_append, List.length_cons, List.length_nil]
    exact hown.set (own_ne hown.own g2 (by decide)) _
  · exact ((Kept.refl P w).grown hg hR.defs.out).setCell hR.out _

set_option maxRecDepth 100000 in
set_option maxHeartbeats 800000 in
theorem takeInside_end (w : World) (P : Nat → Prop) (b : Nat) (R : Rd) (hR : RdIs w P b R) (h1 : R.steps.length ≤ 90000) (h2 : R.defs.length ≤ 90000) (hi : R.inside = true) (hf : R.forms = []) (hfi : 0 ≤ R.first) (hfi2 : R.first ≤ 100000) :
    Calls Tryd.prog 45 #[.pointer (some ⟨b, 0, none⟩), .string ⟨#[59]⟩] w fun e w' => e = .returned (.int .i64 0) ∧ RdIs w' P b R.ended ∧ Kept P w w' := by
  obtain ⟨a0, k0, a1, k1, a2, k2, c0, c1, c2, c3, c4, c5, c6, hlt⟩ := hR.view
  clear c0 c2 c3 c6
  have hl0 : ¬ (0 : Int) < (R.forms.length : Int) := by rw [hf]; simp
  clear hf
  go_enter Tryd.func45, Tryd.ntmps45
  go_wp2_with fail
  refine (add_any _ P b R 5 0 hR (by omega)).mono ?_
  rintro e w2 ⟨rfl, r2, q2⟩
  obtain ⟨a0', k0', a1', k1', a2', k2', d0, d1, d2, d3, d4, d5, d6, hlt2⟩ := r2.view
  have d4' : w2.cell? ⟨b, 4, none⟩ = some (.int .i64 R.first) := d4
  clear d0 d1 d2 d3 d4 d5 d6
  go_wp2_with fail
  refine (aimHere_any _ P b _ r2 (R.first - 1) (by show (R.steps ++ [(5, 0)]).length ≤ _; simp; omega)).mono ?_
  rintro e w3 ⟨rfl, r3, q3⟩
  have qq := q2.trans q3
  clear q2 q3 r2 c1 c4 c5 d4' hlt2
  obtain ⟨R3, hR3⟩ : ∃ R3, R3 = (R.add 5 0).aim (R.first - 1) := ⟨_, rfl⟩
  have e3 : Hid ({ R3 with defs := R3.defs ++ [(R3.name, R3.first)], inside := false } = R.ended) := by rw [hR3]; rfl
  have l3 : R3.defs.length ≤ 90000 := by rw [hR3]; exact h2
  rw [← hR3] at r3
  clear hR3
  obtain ⟨vs, vf, vd, r3⟩ := r3
  have hlt3 := r3.lt
  have m2 : w3.cell? ⟨b, 2, none⟩ = some vd := r3.cell 2 _ rfl
  have m3 : w3.cell? ⟨b, 3, none⟩ = some (.string R3.name) := r3.cell 3 _ rfl
  have m4 : w3.cell? ⟨b, 4, none⟩ = some (.int .i64 R3.first) := r3.cell 4 _ rfl
  obtain ⟨i0, hi0, hz0, hz1, hz2⟩ := info_parts Tryd.infoDef
  have CE : Hid (∀ j u, [Value.string R3.name, .int .i64 R3.first][j]? = some u → ((w3.alloc (.cells #[.string R3.name, .int .i64 R3.first] 57)).drew).cell? ((⟨w3.heap.size, 0, none⟩ : Addr).add j) = some u) := by
    intro j u hj
    have := cell_two_new w3 (.string R3.name) (.int .i64 R3.first) 57 j u hj
    simpa using this
  have r4 := (r3.alloc (.cells #[.string R3.name, .int .i64 R3.first] 57)).drew
  have hk4 : Kept P w3 (w3.alloc (.cells #[.string R3.name, .int .i64 R3.first] 57)).drew := ((Kept.refl P w3).alloc _).drew
  clear hR hlt
  go_wp2
  go_region_law (refine step_append_mine rfl (.tmp 44) (.tmp 49) 55 rfl P r4.bound 57 i0 (.agg #[.string ByteArray.empty, .int .i64 0]) 2 24 Tryd.underlying55 hi0 hz0 hz1 hz2 rfl (by decide) vd R3.defs.length (defCells R3.defs) (by simp [Act.eval, Act.put]) r4.defs ⟨w3.heap.size, 0, none⟩ 1 1 [.string R3.name, .int .i64 R3.first] (by simp [Act.eval, Act.put]) rfl CE.out (by intro u hu; simp at hu; rcases hu with rfl | rfl <;> rfl) (by unfold maxLen; omega) (by omega) ?_; intro v' w1 hown' hgrow; obtain ⟨r5, q5, c1, f1⟩ := r4.addDef hown' hgrow; obtain ⟨g', cp', hv⟩ := own_form hown'.own (by omega); rw [hv] at r5 q5; rw [hv]; clear hown' hgrow hv; obtain ⟨r6, q6⟩ := r5.field (R' := { R3 with defs := R3.defs ++ [(R3.name, R3.first)], inside := false }) 5 (.bool false) rfl r5.steps r5.forms r5.defs; have cc5 := r5.cell 5 _ rfl; have ff5 := r5.free 5; clear r5)
  all_goals go_wp2
  all_goals go_ret
  all_goals exact ⟨rfl, by rw [← e3.out]; exact ⟨_, _, _, r6⟩, qq.trans (hk4.trans (q5.trans q6))⟩
end Go.Proofs.YtepckhdnlfajbaaDoor
