/-
  The reader of package grader: isName, takeName, openDefinition, finish, takeNumber.
-/
import Derived.Test.YtnanjomnldfidabGreatDoorRdLoop
import Derived.Test.YtnanjomnldfidabGreatDoorBase5
import Derived.Test.YtnanjomnldfidabGreatDoorLeaf
import Derived.Test.YtnanjomnldfidabGreatDoorListed
set_option linter.unusedSimpArgs false
set_option linter.unusedVariables false
set_option linter.unusedSectionVars false
namespace Go.Proofs.YtnanjomnldfidabGreatDoor
open Go.RowKit

set_option maxRecDepth 100000 in
set_option maxHeartbeats 800000 in
theorem isName_form (t : ByteArray) (w : World) (h : t.toList ∈ formsL) :
    Calls Tryz.prog 73 #[.string t] w fun e w' => e = .returned (.bool false) ∧ w' = w := by
  simp only [formsL, List.mem_cons, List.not_mem_nil, or_false] at h
  rcases h with h | h | h | h | h | h | h | h | h | h | h
  all_goals
    obtain rfl := eq_mk h
    clear h
    go_enter Tryz.func73, Tryz.ntmps73
    go_wp2
    go_ret
    exact ⟨rfl, rfl⟩

set_option maxRecDepth 100000 in
set_option maxHeartbeats 800000 in
theorem isName_other (t : ByteArray) (w : World) (h : t.toList ∉ formsL) (hs : t.size ≤ maxLen) :
    Calls Tryz.prog 73 #[.string t] w fun e w' => e = .returned (.bool (!digs t.toList)) ∧ w' = w := by
  obtain ⟨h1, h2, h3, h4, h5, h6, h7, h8, h9, h10, h11⟩ := not_forms h
  clear h
  have hd : ∀ u, u = Ending.returned (.bool !digs t.data.toList) → u = Ending.returned (.bool !digs t.toList) := fun u hu => by rw [hu, ByteArray.toList_eq]
  go_enter Tryz.func73, Tryz.ntmps73
  go_wp2_with (go_at_call 51; refine (isDigits_any t _ hs).mono ?_; rintro e w1 ⟨rfl, rfl⟩)
  go_ret
  exact ⟨hd _ rfl, rfl⟩

theorem isName_any (t : ByteArray) (w : World) (hs : t.size ≤ maxLen) :
    Calls Tryz.prog 73 #[.string t] w fun e w' => e = .returned (.bool (nameOk t.toList)) ∧ w' = w := by
  by_cases h : isForm t.toList = true
  · have : nameOk t.toList = false := by simp [nameOk, h]
    rw [this]
    exact isName_form t w ((isForm_iff _).1 h)
  · have : nameOk t.toList = !digs t.toList := by simp only [Bool.not_eq_true] at h; simp [nameOk, h]
    rw [this]
    exact isName_other t w (fun hm => h ((isForm_iff _).2 hm)) hs

set_option maxRecDepth 100000 in
set_option maxHeartbeats 800000 in
theorem takeName_no (w : World) (P : Nat → Prop) (b : Nat) (R : Rd) (hR : RdIs w P b R) (t : ByteArray) (hs : t.size ≤ maxLen) (hn : nameOk t.toList = false) :
    Calls Tryz.prog 50 #[.pointer (some ⟨b, 0, none⟩), .string t] w fun e w' => e = .returned (.int .i64 4) ∧ Kept P w w' := by
  go_enter Tryz.func50, Tryz.ntmps50
  go_wp2_with (go_at_call 73; refine (isName_any t _ hs).mono ?_; rintro e w1 ⟨rfl, rfl⟩)
  go_ret
  exact ⟨rfl, Kept.refl _ _⟩

set_option maxRecDepth 100000 in
set_option maxHeartbeats 800000 in
theorem takeName_yes (w : World) (P : Nat → Prop) (b : Nat) (R : Rd) (hR : RdIs w P b R) (t : ByteArray) (hs : t.size ≤ maxLen) (hn : nameOk t.toList = true) :
    Calls Tryz.prog 50 #[.pointer (some ⟨b, 0, none⟩), .string t] w fun e w' => e = .returned (.int .i64 0) ∧ RdIs w' P b (R.named t) ∧ Kept P w w' := by
  obtain ⟨vs, vf, vd, hR⟩ := hR
  have hlt := hR.lt
  obtain ⟨a0, k0, rfl⟩ := own_slice hR.steps.own
  have c0 := hR.cell 0 _ rfl
  have c3 := hR.cell 3 _ rfl
  have c4 := hR.cell 4 _ rfl
  have c5 := hR.cell 5 _ rfl
  have c6 := hR.cell 6 _ rfl
  have f3 := hR.free 3
  have f4 := hR.free 4
  have f5 := hR.free 5
  have f6 := hR.free 6
  obtain ⟨r1, q1⟩ := hR.field (R' := { R with due := false }) 6 (.bool false) rfl hR.steps hR.forms hR.defs
  obtain ⟨r2, q2⟩ := r1.field (R' := { R with due := false, inside := true }) 5 (.bool true) rfl r1.steps r1.forms r1.defs
  obtain ⟨r3, q3⟩ := r2.field (R' := { R with due := false, inside := true, name := t }) 3 (.string t) rfl r2.steps r2.forms r2.defs
  obtain ⟨r4, q4⟩ := r3.field (R' := { R with due := false, inside := true, name := t, first := R.len }) 4 (.int .i64 R.steps.length) rfl r3.steps r3.forms r3.defs
  have q := q1.trans (q2.trans (q3.trans q4))
  clear r1 r2 r3 q1 q2 q3 q4
  go_enter Tryz.func50, Tryz.ntmps50
  go_wp2_with (go_at_call 73; refine (isName_any t _ hs).mono ?_; rintro e w1 ⟨rfl, rfl⟩)
  go_ret
  exact ⟨rfl, ⟨_, _, _, r4⟩, q⟩

set_option maxRecDepth 100000 in
set_option maxHeartbeats 800000 in
theorem openDef_no (w : World) (P : Nat → Prop) (b : Nat) (R : Rd) (hR : RdIs w P b R) (hl : R.forms.length ≤ 90000) (hn : R.inside = true ∨ R.forms ≠ []) :
    Calls Tryz.prog 55 #[.pointer (some ⟨b, 0, none⟩)] w fun e w' => e = .returned (.int .i64 3) ∧ Kept P w w' := by
  obtain ⟨a0, k0, a1, k1, a2, k2, c0, c1, c2, c3, c4, c5, c6, hlt⟩ := hR.view
  clear c0 c2 c3 c4 c6
  by_cases hi : R.inside = true
  · clear hn
    go_enter Tryz.func55, Tryz.ntmps55
    go_wp2
    go_ret
    exact ⟨rfl, Kept.refl _ _⟩
  · have hl0 : (0 : Int) < (R.forms.length : Int) := by
      rcases hn with h | h
      · exact absurd h hi
      · have := List.length_pos_iff.2 h; omega
    have hi' : R.inside = false := by simpa using hi
    clear hn hi
    go_enter Tryz.func55, Tryz.ntmps55
    go_wp2
    go_ret
    exact ⟨rfl, Kept.refl _ _⟩

set_option maxRecDepth 100000 in
set_option maxHeartbeats 800000 in
theorem openDef_yes (w : World) (P : Nat → Prop) (b : Nat) (R : Rd) (hR : RdIs w P b R) (h1 : R.steps.length ≤ 90000) (hi : R.inside = false) (hf : R.forms = []) :
    Calls Tryz.prog 55 #[.pointer (some ⟨b, 0, none⟩)] w fun e w' => e = .returned (.int .i64 0) ∧ RdIs w' P b (({ R with due := true } : Rd).add (-1) 0) ∧ Kept P w w' := by
  obtain ⟨vs, vf, vd, hR⟩ := hR
  have hlt := hR.lt
  obtain ⟨a0, k0, rfl⟩ := own_slice hR.forms.own
  have c1 := hR.cell 1 _ rfl
  have c5 := hR.cell 5 _ rfl
  have c6 := hR.cell 6 _ rfl
  have f6 := hR.free 6
  have hl0 : ¬ (0 : Int) < (R.forms.length : Int) := by rw [hf]; simp
  obtain ⟨r1, q1⟩ := hR.field (R' := { R with due := true }) 6 (.bool true) rfl hR.steps hR.forms hR.defs
  clear hf
  go_enter Tryz.func55, Tryz.ntmps55
  go_wp2_with (go_at_call 39; refine (add_any _ P b { R with due := true } (-1) 0 ⟨_, _, _, r1⟩ (by show R.steps.length ≤ _; omega)).mono ?_; rintro e w2 ⟨rfl, r2, q2⟩)
  go_ret
  exact ⟨rfl, r2, q1.trans q2⟩

set_option maxRecDepth 100000 in
set_option maxHeartbeats 800000 in
theorem finish_any (w : World) (P : Nat → Prop) (b : Nat) (R : Rd) (hR : RdIs w P b R) (hl : R.forms.length ≤ 90000) :
    Calls Tryz.prog 38 #[.pointer (some ⟨b, 0, none⟩)] w fun e w' => e = .returned (.int .i64 R.fin) ∧ w' = w := by
  obtain ⟨a0, k0, a1, k1, a2, k2, c0, c1, c2, c3, c4, c5, c6, hlt⟩ := hR.view
  clear c0 c2 c3 c4
  by_cases hd : R.due = true
  · have e : Hid (R.fin = 4) := by unfold Hid Rd.fin; rw [if_pos hd]
    go_enter Tryz.func38, Tryz.ntmps38
    go_wp2
    go_ret
    exact ⟨by rw [e.out]; rfl, rfl⟩
  · have hd' : R.due = false := by simpa using hd
    by_cases hi : R.inside = true
    · have e : Hid (R.fin = 3) := by unfold Hid Rd.fin; rw [if_neg hd, if_pos (.inl hi)]
      clear hd
      go_enter Tryz.func38, Tryz.ntmps38
      go_wp2
      go_ret
      exact ⟨by rw [e.out]; rfl, rfl⟩
    · have hi' : R.inside = false := by simpa using hi
      by_cases hf : R.forms = []
      · have e : Hid (R.fin = 0) := by unfold Hid Rd.fin; rw [if_neg hd, if_neg (by simp [hi', hf])]
        have hl0 : ¬ (0 : Int) < (R.forms.length : Int) := by rw [hf]; simp
        clear hd hi hf
        go_enter Tryz.func38, Tryz.ntmps38
        go_wp2
        go_ret
        exact ⟨by rw [e.out]; rfl, rfl⟩
      · have e : Hid (R.fin = 3) := by unfold Hid Rd.fin; rw [if_neg hd, if_pos (.inr hf)]
        have hl0 : (0 : Int) < (R.forms.length : Int) := by have := List.length_pos_iff.2 hf; omega
        clear hd hi hf
        go_enter Tryz.func38, Tryz.ntmps38
        go_wp2
        go_ret
        exact ⟨by rw [e.out]; rfl, rfl⟩
end Go.Proofs.YtnanjomnldfidabGreatDoor
