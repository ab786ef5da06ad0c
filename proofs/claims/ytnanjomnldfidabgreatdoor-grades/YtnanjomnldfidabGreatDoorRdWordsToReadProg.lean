/-
  The reader of package grader: takeNumber, takeMeaning, takeInside.
  The reader of package grader: takeInside.
  The reader of package grader: take.
  The reader of package grader: take, readProgram, Check.
  The reader of package grader: readProgram, Check.
-/
import Derived.Test.YtnanjomnldfidabGreatDoorRdDefs
import Derived.Test.YtnanjomnldfidabGreatDoorBase5
import Derived.Test.YtnanjomnldfidabGreatDoorToks
set_option linter.unusedSimpArgs false
set_option linter.unusedVariables false
set_option linter.unusedSectionVars false
namespace Go.Proofs.YtnanjomnldfidabGreatDoor
open Go.RowKit

theorem digs_at {s : ByteArray} (h : digs s.data.toList = true) (k : Nat) (hk : k < s.size) : 48 ≤ (s[k].toNat : Int) ∧ (s[k].toNat : Int) ≤ 57 := by
  have hm : s[k] ∈ s.data.toList := by
    have : k < s.data.toList.length := by simpa using hk
    exact List.getElem_mem this
  have := List.all_eq_true.1 h _ hm
  simp [UInt8.le_iff_toNat_le] at this
  omega
theorem take_snoc (s : ByteArray) (k : Nat) (h : k < s.size) : s.data.toList.take (k + 1) = s.data.toList.take k ++ [s[k]] := by
  rw [List.take_succ_eq_append_getElem (by simpa using h)]; rfl
/-- A number of k digits. -/
def numTo (s : ByteArray) (k : Nat) : Int := numOf (s.data.toList.take k)
theorem numTo_succ (s : ByteArray) (k : Nat) (h : k < s.size) : numTo s (k + 1) = numTo s k * 10 + ((s[k].toNat : Int) - 48) := by
  unfold numTo
  rw [take_snoc s k h, numOf_snoc]
theorem numTo_bd {s : ByteArray} (h : digs s.data.toList = true) : ∀ k, k ≤ s.size → 0 ≤ numTo s k ∧ numTo s k + 1 ≤ 10 ^ k
  | 0, _ => by simp [numTo, numOf]
  | k + 1, hk => by
    obtain ⟨h1, h2⟩ := numTo_bd h k (by omega)
    obtain ⟨d1, d2⟩ := digs_at h k (by omega)
    rw [numTo_succ s k (by omega)]
    have : (10 : Int) ^ (k + 1) = 10 ^ k * 10 := by rw [Int.pow_succ]
    omega
theorem numTo_small {s : ByteArray} (h : digs s.data.toList = true) (k : Nat) (hk : k ≤ s.size) (h5 : k ≤ 5) : 0 ≤ numTo s k ∧ numTo s k ≤ 99999 := by
  obtain ⟨h1, h2⟩ := numTo_bd h k hk
  refine ⟨h1, ?_⟩
  have : (10 : Int) ^ k ≤ 100000 := by
    rcases (show k = 0 ∨ k = 1 ∨ k = 2 ∨ k = 3 ∨ k = 4 ∨ k = 5 by omega) with rfl | rfl | rfl | rfl | rfl | rfl <;> decide
  omega
theorem numTo_all (s : ByteArray) : numTo s s.size = numOf s.toList := by
  unfold numTo
  rw [ByteArray.toList_eq, List.take_of_length_le (by simp)]


set_option maxRecDepth 100000 in
set_option maxHeartbeats 800000 in
theorem takeNumber_long (w : World) (P : Nat → Prop) (b : Nat) (t : ByteArray) (hs : t.size ≤ maxLen) (h5 : 5 < t.size) :
    Calls Tryz.prog 52 #[.pointer (some ⟨b, 0, none⟩), .string t] w fun e w' => e = .returned (.int .i64 2) ∧ Kept P w w' := by
  unfold maxLen at hs
  go_enter Tryz.func52, Tryz.ntmps52
  go_wp2
  go_ret
  exact ⟨rfl, Kept.refl _ _⟩

/-- What takeNumber leaves, by the number. -/
def NumPost (P : Nat → Prop) (b : Nat) (R : Rd) (v : Int) (w : World) (e : Ending) (w' : World) : Prop :=
  (65535 < v → e = .returned (.int .i64 2) ∧ Kept P w w') ∧ (v ≤ 65535 → e = .returned (.int .i64 0) ∧ RdIs w' P b (R.add 1 v) ∧ Kept P w w')
theorem numPost_no {P : Nat → Prop} {b : Nat} {R : Rd} {v : Int} {w : World} (hv : 65535 < v) : NumPost P b R v w (.returned (.int .i64 2)) w := ⟨fun _ => ⟨rfl, Kept.refl _ _⟩, fun h => by omega⟩
theorem numPost_yes {P : Nat → Prop} {b : Nat} {R : Rd} {v : Int} {w w' : World} (hv : ¬ 65535 < v) (h1 : RdIs w' P b (R.add 1 v)) (h2 : Kept P w w') : NumPost P b R v w (.returned (.int .i64 0)) w' := ⟨fun h => by omega, fun _ => ⟨rfl, h1, h2⟩⟩

set_option maxRecDepth 100000 in
set_option maxHeartbeats 800000 in
theorem takeNumber_short (w : World) (P : Nat → Prop) (b : Nat) (R : Rd) (hR : RdIs w P b R) (h1 : R.steps.length ≤ 90000) (t : ByteArray) (h5 : t.size ≤ 5) (hd : digs t.data.toList = true) :
    Calls Tryz.prog 52 #[.pointer (some ⟨b, 0, none⟩), .string t] w (NumPost P b R (numTo t t.size) w) := by
  have HD := hide hd
  clear hd
  go_enter Tryz.func52, Tryz.ntmps52
  go_wp2
  go_loop [5, 6] (fun n i => ∃ k : Nat, k ≤ t.size ∧ i = .int .i64 k ∧ n = .int .i64 (numTo t k)) (fun _ i => t.size - (intOf i).toNat)
  case atStart => exact ⟨0, by omega, rfl, rfl⟩
  case round =>
    obtain ⟨k, hk, rfl, rfl⟩ := hrel
    obtain ⟨b1, b2⟩ := numTo_small HD.out k hk (by omega)
    by_cases hlt : k < t.size
    · obtain ⟨d1, d2⟩ := digs_at HD.out k hlt
      have hst := hide (numTo_succ t k hlt)
      go_wp2
      go_round
      case rel => exact ⟨k + 1, by omega, by go_num, by rw [hst.out]⟩
      case measure => simp [intOf]; omega
    · have hks : k = t.size := by omega
      subst hks
      by_cases hv : 65535 < numTo t t.size
      · go_wp2
        go_ret
        exact numPost_no hv
      · go_wp2_with (go_at_call 39; refine (add_any _ P b R 1 _ hR (by omega)).mono ?_; rintro e w2 ⟨rfl, r2, q2⟩)
        go_ret
        exact numPost_yes (by omega) r2 q2

/-- takeNumber. -/
theorem takeNumber_any (w : World) (P : Nat → Prop) (b : Nat) (R : Rd) (hR : RdIs w P b R) (h1 : R.steps.length ≤ 90000) (t : ByteArray) (hs : t.size ≤ maxLen) (hd : digs t.toList = true) :
    Calls Tryz.prog 52 #[.pointer (some ⟨b, 0, none⟩), .string t] w fun e w' =>
      (numVal t.toList = none → e = .returned (.int .i64 2) ∧ Kept P w w') ∧ (∀ n, numVal t.toList = some n → e = .returned (.int .i64 0) ∧ RdIs w' P b (R.add 1 n) ∧ Kept P w w') := by
  by_cases h5 : 5 < t.size
  · have e1 : numVal t.toList = none := by unfold numVal; rw [toList_len, if_pos h5]
    rw [e1]
    refine (takeNumber_long w P b t hs h5).mono ?_
    rintro e w' h
    exact ⟨fun _ => h, fun n hn => by cases hn⟩
  · refine (takeNumber_short w P b R hR h1 t (by omega) (by rw [← ByteArray.toList_eq]; exact hd)).mono ?_
    rintro e w' ⟨g1, g2⟩
    rw [numTo_all] at g1 g2
    unfold numVal
    rw [toList_len, if_neg h5]
    by_cases hv : 65535 < numOf t.toList
    · rw [if_pos hv]
      exact ⟨fun _ => g1 hv, fun n hn => by cases hn⟩
    · rw [if_neg hv]
      refine ⟨fun h => by (cases h), fun n hn => ?_⟩
      cases hn
      exact g2 (by omega)

theorem defCells_at (l : List (ByteArray × Int)) : ∀ k (h : k < l.length), (defCells l)[k * 2]? = some (.string l[k].1) ∧ (defCells l)[k * 2 + 1]? = some (.int .i64 l[k].2) := by
  induction l with
  | nil => intro k h; simp at h
  | cons p l ih =>
    intro k h
    cases k with
    | zero => simp [defCells]
    | succ k =>
      have := ih k (by simpa using h)
      simp only [defCells, List.flatMap_cons, List.cons_append, List.nil_append] at this ⊢
      rw [show (k + 1) * 2 = (k * 2) + 1 + 1 by omega]
      simpa using this

/-- What takeMeaning leaves. -/
def MeanPost (P : Nat → Prop) (b : Nat) (R : Rd) (t : List UInt8) (w : World) (e : Ending) (w' : World) : Prop :=
  (∀ n, lastDef R.defs t = some n → e = .returned (.int .i64 0) ∧ RdIs w' P b (R.add 4 n) ∧ Kept P w w') ∧
  (lastDef R.defs t = none → listOk t = true → e = .returned (.int .i64 0) ∧ RdIs w' P b (R.add (listOp t) 0) ∧ Kept P w w') ∧
  (lastDef R.defs t = none → listOk t = false → e = .returned (.int .i64 2) ∧ Kept P w w')

set_option maxRecDepth 100000 in
set_option maxHeartbeats 800000 in
theorem takeMeaning_any (w : World) (P : Nat → Prop) (b : Nat) (R : Rd) (hR : RdIs w P b R) (h1 : R.steps.length ≤ 90000) (h2 : R.defs.length ≤ 90000) (t : ByteArray) (hT : WordsAt w 2 listedL) :
    Calls Tryz.prog 57 #[.pointer (some ⟨b, 0, none⟩), .string t] w (MeanPost P b R t.toList w) := by
  have hR0 := hR
  obtain ⟨vs, vf, vd, hR⟩ := hR
  have hlt := hR.lt
  have hown := hR.defs.own
  obtain ⟨a2, k2, rfl⟩ := own_slice hown
  have c2 := hR.cell 2 _ rfl
  have HT := hide hT
  clear hT
  go_enter Tryz.func57, Tryz.ntmps57
  go_wp2
  go_loop [5] (fun i => ∃ k : Nat, k ≤ R.defs.length ∧ i = .int .i64 ((k : Int) - 1) ∧ Hid (lastDef (R.defs.take k) t.toList = lastDef R.defs t.toList)) (fun i => ((intOf i) + 1).toNat)
  case atStart => exact ⟨R.defs.length, Nat.le_refl _, by go_num, by simp [Hid]⟩
  case round =>
    obtain ⟨k, hk, rfl, hd⟩ := hrel
    cases k with
    | zero =>
      have hd' := hide ((lastDef_nil t.toList).symm.trans hd.out)
      by_cases hl : listOk t.toList = true
      · go_wp2_with (first | (go_at_call 78; refine (listedOp_any t _ HT.out).mono ?_; rintro e w1 ⟨rfl, rfl⟩) | (go_at_call 39; refine (add_any _ P b R (listOp t.toList) 0 hR0 (by omega)).mono ?_; rintro e w2 ⟨rfl, r2, q2⟩))
        go_ret
        refine ⟨fun n hn => ?_, fun _ _ => ⟨rfl, r2, q2⟩, fun _ h => ?_⟩
        · rw [← hd'.out] at hn; cases hn
        · rw [hl] at h; cases h
      · have hl' : listOk t.toList = false := by simpa using hl
        clear hl
        go_wp2_with (first | (go_at_call 78; refine (listedOp_any t _ HT.out).mono ?_; rintro e w1 ⟨rfl, rfl⟩))
        go_ret
        refine ⟨fun n hn => ?_, fun _ h => ?_, fun _ _ => ⟨rfl, Kept.refl _ _⟩⟩
        · rw [← hd'.out] at hn; cases hn
        · rw [hl'] at h; cases h
    | succ k =>
      have hk' : k < R.defs.length := by omega
      obtain ⟨f, cp, hv⟩ := own_form hown (by omega)
      simp only [Value.slice.injEq, true_and] at hv
      obtain ⟨rfl, rfl⟩ := hv
      obtain ⟨d0, d1⟩ := defCells_at R.defs k hk'
      have e0 : w.cell? ⟨f, k * 2, none⟩ = some (.string R.defs[k].1) := by rw [hown.cellAt _ (by omega)]; exact d0
      have e1 : w.cell? ⟨f, k * 2 + 1, none⟩ = some (.int .i64 R.defs[k].2) := by rw [hown.cellAt _ (by omega)]; exact d1
      have htk : Hid (R.defs.take (k + 1) = R.defs.take k ++ [R.defs[k]]) := List.take_succ_eq_append_getElem hk'
      rw [htk.out] at hd
      obtain ⟨nm, hnm⟩ : ∃ nm, nm = R.defs[k].1 := ⟨_, rfl⟩
      obtain ⟨fs, hfs⟩ : ∃ fs, fs = R.defs[k].2 := ⟨_, rfl⟩
      rw [← hnm] at e0
      rw [← hfs] at e1
      have NM := hide hnm
      have FS := hide hfs
      clear hnm hfs d0 d1 htk
      cases hb : (nm.toList == t.toList)
      · have hn := hide (lastDef_no (R.defs.take k) R.defs[k] t.toList (by rw [← NM.out]; exact hb))
        go_wp2
        go_round
        case rel => exact ⟨k, by omega, by go_num, hn.out.symm.trans hd.out⟩
        case measure => simp [intOf]
      · have hn := hide (lastDef_yes (R.defs.take k) R.defs[k] t.toList (by rw [← NM.out]; exact hb))
        go_wp2_with (go_at_call 39; refine (add_any _ P b R 4 fs hR0 (by omega)).mono ?_; rintro e w2 ⟨rfl, r2, q2⟩)
        go_ret
        have hfin : lastDef R.defs t.toList = some fs := hd.out.symm.trans (hn.out.trans (by rw [FS.out]))
        unfold MeanPost
        rw [hfin]
        refine ⟨fun n hn => ?_, fun h => (by cases h), fun h => (by cases h)⟩
        cases hn
        exact ⟨rfl, r2, q2⟩
end Go.Proofs.YtnanjomnldfidabGreatDoor

set_option linter.unusedSimpArgs false
set_option linter.unusedVariables false
set_option linter.unusedSectionVars false
namespace Go.Proofs.YtnanjomnldfidabGreatDoor
open Go.RowKit

set_option maxRecDepth 100000 in
set_option maxHeartbeats 800000 in
theorem takeInside_no (w : World) (P : Nat → Prop) (b : Nat) (R : Rd) (hR : RdIs w P b R) (t : ByteArray) (hi : R.inside = false) :
    Calls Tryz.prog 56 #[.pointer (some ⟨b, 0, none⟩), .string t] w fun e w' => e = .returned (.int .i64 3) ∧ Kept P w w' := by
  obtain ⟨a0, k0, a1, k1, a2, k2, c0, c1, c2, c3, c4, c5, c6, hlt⟩ := hR.view
  clear c0 c1 c2 c3 c4 c6
  go_enter Tryz.func56, Tryz.ntmps56
  go_wp2
  go_ret
  exact ⟨rfl, Kept.refl _ _⟩

set_option maxRecDepth 100000 in
set_option maxHeartbeats 800000 in
theorem takeInside_exit (w : World) (P : Nat → Prop) (b : Nat) (R : Rd) (hR : RdIs w P b R) (h1 : R.steps.length ≤ 90000) (hi : R.inside = true) :
    Calls Tryz.prog 56 #[.pointer (some ⟨b, 0, none⟩), .string ⟨#[101, 120, 105, 116]⟩] w fun e w' => e = .returned (.int .i64 0) ∧ RdIs w' P b (R.add 5 0) ∧ Kept P w w' := by
  obtain ⟨a0, k0, a1, k1, a2, k2, c0, c1, c2, c3, c4, c5, c6, hlt⟩ := hR.view
  clear c0 c1 c2 c3 c4 c6
  go_enter Tryz.func56, Tryz.ntmps56
  go_wp2_with (go_at_call 39; refine (add_any _ P b R 5 0 hR (by omega)).mono ?_; rintro e w2 ⟨rfl, r2, q2⟩)
  go_ret
  exact ⟨rfl, r2, q2⟩

set_option maxRecDepth 100000 in
set_option maxHeartbeats 800000 in
theorem takeInside_recurse (w : World) (P : Nat → Prop) (b : Nat) (R : Rd) (hR : RdIs w P b R) (h1 : R.steps.length ≤ 90000) (hi : R.inside = true) :
    Calls Tryz.prog 56 #[.pointer (some ⟨b, 0, none⟩), .string ⟨#[114, 101, 99, 117, 114, 115, 101]⟩] w fun e w' => e = .returned (.int .i64 0) ∧ RdIs w' P b (R.add 4 R.first) ∧ Kept P w w' := by
  obtain ⟨a0, k0, a1, k1, a2, k2, c0, c1, c2, c3, c4, c5, c6, hlt⟩ := hR.view
  clear c0 c1 c2 c3 c6
  go_enter Tryz.func56, Tryz.ntmps56
  go_wp2_with (go_at_call 39; refine (add_any _ P b R 4 R.first hR (by omega)).mono ?_; rintro e w2 ⟨rfl, r2, q2⟩)
  go_ret
  exact ⟨rfl, r2, q2⟩

set_option maxRecDepth 100000 in
set_option maxHeartbeats 800000 in
theorem takeInside_end_no (w : World) (P : Nat → Prop) (b : Nat) (R : Rd) (hR : RdIs w P b R) (h2 : R.forms.length ≤ 90000) (hi : R.inside = true) (hf : R.forms ≠ []) :
    Calls Tryz.prog 56 #[.pointer (some ⟨b, 0, none⟩), .string ⟨#[59]⟩] w fun e w' => e = .returned (.int .i64 3) ∧ Kept P w w' := by
  obtain ⟨a0, k0, a1, k1, a2, k2, c0, c1, c2, c3, c4, c5, c6, hlt⟩ := hR.view
  clear c0 c2 c3 c4 c6
  have hl0 : (0 : Int) < (R.forms.length : Int) := by have := List.length_pos_iff.2 hf; omega
  clear hf
  go_enter Tryz.func56, Tryz.ntmps56
  go_wp2
  go_ret
  exact ⟨rfl, Kept.refl _ _⟩

theorem RdAt.addDef {w w1 : World} {P : Nat → Prop} {b : Nat} {R : Rd} {n : ByteArray} {f : Int} {vs vf vd v' : Value} (hR : RdAt w P b R vs vf vd)
    (hown : Row w1 P 82 2 v' (R.defs.length + 1) (defCells R.defs ++ [.string n, .int .i64 f])) (hg : w.grownBy w1 vd.ownBlock) :
    RdAt (w1.setCell ⟨b, 2, none⟩ v') P b { R with defs := R.defs ++ [(n, f)] } vs vf v' ∧ Kept P w (w1.setCell ⟨b, 2, none⟩ v') ∧ w1.cell? ⟨b, 2, none⟩ = some vd ∧ w1.frozen? ⟨b, 2, none⟩ = false := by
  obtain ⟨g1, g2⟩ := hR.grown hg (own_ne hR.defs.own hR.box (by decide))
  have hs1 := hR.steps.kept hg (own_ne_own hR.steps.own hR.defs.own (by decide))
  have hf1 := hR.forms.kept hg (own_ne_own hR.forms.own hR.defs.own (by decide))
  refine ⟨⟨fun k hk => by have := g1 k hk; simpa [World.setCell] using this, hR.out, ?_, ?_, ?_, ?_⟩, ?_, cell_of_block g2 2 _ rfl, frozen_of_row _ _ _ _ _ g2⟩
  · rw [heap_setCell_same _ _ _ _ _ _ g2]; rfl
  · exact hs1.set (own_ne hs1.own g2 (by decide)) _
  · exact hf1.set (own_ne hf1.own g2 (by decide)) _
  · show Row _ _ _ _ _ (R.defs ++ [(n, f)]).length (defCells (R.defs ++ [(n, f)]))
    rw [defCells_snoc]
    simp only [List.length_append, List.length_cons, List.length_nil]
    exact hown.set (own_ne hown.own g2 (by decide)) _
  · exact ((Kept.refl P w).grown hg hR.defs.out).setCell hR.out _

set_option maxRecDepth 100000 in
set_option maxHeartbeats 800000 in
theorem takeInside_end (w : World) (P : Nat → Prop) (b : Nat) (R : Rd) (hR : RdIs w P b R) (h1 : R.steps.length ≤ 90000) (h2 : R.defs.length ≤ 90000) (hi : R.inside = true) (hf : R.forms = []) (hfi : 0 ≤ R.first) (hfi2 : R.first ≤ 100000) :
    Calls Tryz.prog 56 #[.pointer (some ⟨b, 0, none⟩), .string ⟨#[59]⟩] w fun e w' => e = .returned (.int .i64 0) ∧ RdIs w' P b R.ended ∧ Kept P w w' := by
  obtain ⟨a0, k0, a1, k1, a2, k2, c0, c1, c2, c3, c4, c5, c6, hlt⟩ := hR.view
  clear c0 c2 c3 c6
  have hl0 : ¬ (0 : Int) < (R.forms.length : Int) := by rw [hf]; simp
  clear hf
  go_enter Tryz.func56, Tryz.ntmps56
  go_wp2_with fail
  refine (add_any _ P b R 5 0 hR (by omega)).mono ?_
  rintro e w2 ⟨rfl, r2, q2⟩
  obtain ⟨a0', k0', a1', k1', a2', k2', d0, d1, d2, d3, d4, d5, d6, hlt2⟩ := r2.view
  have d4' : w2.cell? ⟨b, 4, none⟩ = some (.int .i64 R.first) := d4
  clear d0 d1 d2 d3 d4 d5 d6
  go_wp2_with fail
  refine (aimHere_any _ P b _ r2 (R.first - 1) (by show (R.steps ++ [(5, 0)]).length ≤ _; simp; omega)).mono ?_
  rintro e w3 ⟨rfl, r3, q3⟩
  have qq := q2.trans q3
  clear q2 q3 r2 c1 c4 c5 d4' hlt2
  obtain ⟨R3, hR3⟩ : ∃ R3, R3 = (R.add 5 0).aim (R.first - 1) := ⟨_, rfl⟩
  have e3 : Hid ({ R3 with defs := R3.defs ++ [(R3.name, R3.first)], inside := false } = R.ended) := by rw [hR3]; rfl
  have l3 : R3.defs.length ≤ 90000 := by rw [hR3]; exact h2
  rw [← hR3] at r3
  clear hR3
  obtain ⟨vs, vf, vd, r3⟩ := r3
  have hlt3 := r3.lt
  have m2 : w3.cell? ⟨b, 2, none⟩ = some vd := r3.cell 2 _ rfl
  have m3 : w3.cell? ⟨b, 3, none⟩ = some (.string R3.name) := r3.cell 3 _ rfl
  have m4 : w3.cell? ⟨b, 4, none⟩ = some (.int .i64 R3.first) := r3.cell 4 _ rfl
  obtain ⟨i0, hi0, hz0, hz1, hz2⟩ := info_parts Tryz.infoDef
  have CE : Hid (∀ j u, [Value.string R3.name, .int .i64 R3.first][j]? = some u → ((w3.alloc (.cells #[.string R3.name, .int .i64 R3.first] 82)).drew).cell? ((⟨w3.heap.size, 0, none⟩ : Addr).add j) = some u) := by
    intro j u hj
    have := cell_two_new w3 (.string R3.name) (.int .i64 R3.first) 82 j u hj
    simpa using this
  have r4 := (r3.alloc (.cells #[.string R3.name, .int .i64 R3.first] 82)).drew
  have hk4 : Kept P w3 (w3.alloc (.cells #[.string R3.name, .int .i64 R3.first] 82)).drew := ((Kept.refl P w3).alloc _).drew
  clear hR hlt
  go_wp2
  go_region_law (refine step_append_mine rfl (.tmp 44) (.tmp 49) 80 rfl P r4.bound 82 i0 (.agg #[.string ByteArray.empty, .int .i64 0]) 2 24 Tryz.underlying80 hi0 hz0 hz1 hz2 rfl (by decide) vd R3.defs.length (defCells R3.defs) (by simp [Act.eval, Act.put]) r4.defs ⟨w3.heap.size, 0, none⟩ 1 1 [.string R3.name, .int .i64 R3.first] (by simp [Act.eval, Act.put]) rfl CE.out (by intro u hu; simp at hu; rcases hu with rfl | rfl <;> rfl) (by unfold maxLen; omega) (by omega) ?_; intro v' w1 hown' hgrow; obtain ⟨r5, q5, c1, f1⟩ := r4.addDef hown' hgrow; obtain ⟨g', cp', hv⟩ := own_form hown'.own (by omega); rw [hv] at r5 q5; rw [hv]; clear hown' hgrow hv; obtain ⟨r6, q6⟩ := r5.field (R' := { R3 with defs := R3.defs ++ [(R3.name, R3.first)], inside := false }) 5 (.bool false) rfl r5.steps r5.forms r5.defs; have cc5 := r5.cell 5 _ rfl; have ff5 := r5.free 5; clear r5)
  all_goals go_wp2
  all_goals go_ret
  all_goals exact ⟨rfl, by rw [← e3.out]; exact ⟨_, _, _, r6⟩, qq.trans (hk4.trans (q5.trans q6))⟩
end Go.Proofs.YtnanjomnldfidabGreatDoor

set_option linter.unusedSimpArgs false
set_option linter.unusedVariables false
set_option linter.unusedSectionVars false
namespace Go.Proofs.YtnanjomnldfidabGreatDoor
open Go.RowKit

/-- What take leaves. -/
def TakePost (P : Nat → Prop) (b : Nat) (r : Int × Rd) (w : World) (e : Ending) (w' : World) : Prop :=
  e = .returned (.int .i64 r.1) ∧ (r.1 = 0 → RdIs w' P b r.2) ∧ Kept P w w'
theorem takePost_int {P : Nat → Prop} {b : Nat} {r : Int × Rd} {w : World} (e : Ending) (w' : World) (h : TakePost P b r w e w') : ∃ n, e = .returned (.int .i64 n) := ⟨_, h.1⟩

theorem isDigits_is (t : ByteArray) (w : World) (hs : t.size ≤ maxLen) (v : Bool) (h : digs t.toList = v) :
    Calls Tryz.prog 51 #[.string t] w fun e w' => e = .returned (.bool v) ∧ w' = w := by
  refine (isDigits_any t w hs).mono ?_
  rintro e w' ⟨h1, h2⟩
  rw [← ByteArray.toList_eq, h] at h1
  exact ⟨h1, h2⟩

section
variable {w : World} {P : Nat → Prop} {b : Nat} {R : Rd} {Q : Ending → World → Prop}

set_option maxRecDepth 100000 in
set_option maxHeartbeats 800000 in
theorem take_due (hR : RdIs w P b R) (t : ByteArray) (hd : R.due = true) (hQ : ∀ e w', Q e w' → ∃ n, e = .returned (.int .i64 n))
    (hc : Calls Tryz.prog 50 #[.pointer (some ⟨b, 0, none⟩), .string t] w Q) : Calls Tryz.prog 37 #[.pointer (some ⟨b, 0, none⟩), .string t] w Q := by
  obtain ⟨a0, k0, a1, k1, a2, k2, c0, c1, c2, c3, c4, c5, c6, hlt⟩ := hR.view
  clear c0 c1 c2 c3 c4 c5
  have HC := hide hc
  have HQ := hide hQ
  clear hc hQ hR
  go_enter Tryz.func37, Tryz.ntmps37
  go_wp2_with fail
  refine (unhide HC).mono ?_
  rintro e w' hq
  obtain ⟨n, rfl⟩ := HQ.out e w' hq
  have HH := hide hq
  clear hq
  go_wp2
  exact HH.out

set_option maxRecDepth 100000 in
set_option maxHeartbeats 800000 in
theorem take_number (hR : RdIs w P b R) (t : ByteArray) (hs : t.size ≤ maxLen) (hd : R.due = false) (hg : digs t.toList = true) (hQ : ∀ e w', Q e w' → ∃ n, e = .returned (.int .i64 n))
    (hc : Calls Tryz.prog 52 #[.pointer (some ⟨b, 0, none⟩), .string t] w Q) : Calls Tryz.prog 37 #[.pointer (some ⟨b, 0, none⟩), .string t] w Q := by
  obtain ⟨a0, k0, a1, k1, a2, k2, c0, c1, c2, c3, c4, c5, c6, hlt⟩ := hR.view
  clear c0 c1 c2 c3 c4 c5
  have HC := hide hc
  have HQ := hide hQ
  have HG := hide hg
  clear hc hQ hR hg
  go_enter Tryz.func37, Tryz.ntmps37
  go_wp2_with fail
  refine (isDigits_is t _ hs true HG.out).mono ?_
  rintro e w1 ⟨rfl, rfl⟩
  go_wp2_with fail
  refine (unhide HC).mono ?_
  rintro e w' hq
  obtain ⟨n, rfl⟩ := HQ.out e w' hq
  have HH := hide hq
  clear hq
  go_wp2
  exact HH.out

set_option maxRecDepth 100000 in
set_option maxHeartbeats 800000 in
theorem take_branch (hR : RdIs w P b R) (t : ByteArray) (ht : t = ⟨#[105, 102]⟩ ∨ t = ⟨#[101, 108, 115, 101]⟩ ∨ t = ⟨#[116, 104, 101, 110]⟩) (hd : R.due = false) (hQ : ∀ e w', Q e w' → ∃ n, e = .returned (.int .i64 n))
    (hc : Calls Tryz.prog 53 #[.pointer (some ⟨b, 0, none⟩), .string t] w Q) : Calls Tryz.prog 37 #[.pointer (some ⟨b, 0, none⟩), .string t] w Q := by
  obtain ⟨a0, k0, a1, k1, a2, k2, c0, c1, c2, c3, c4, c5, c6, hlt⟩ := hR.view
  clear c0 c1 c2 c3 c4 c5
  have HC := hide hc
  have HQ := hide hQ
  clear hc hQ hR
  rcases ht with rfl | rfl | rfl
  all_goals
    go_enter Tryz.func37, Tryz.ntmps37
    go_wp2_with fail
    refine (isDigits_is _ _ (by decide) false (by rw [ByteArray.toList_eq]; decide)).mono ?_
    rintro e w1 ⟨rfl, rfl⟩
    go_wp2_with fail
    refine (unhide HC).mono ?_
    rintro e w' hq
    obtain ⟨n, rfl⟩ := HQ.out e w' hq
    have HH := hide hq
    clear hq
    go_wp2
    exact HH.out

set_option maxRecDepth 100000 in
set_option maxHeartbeats 800000 in
theorem take_loop (hR : RdIs w P b R) (t : ByteArray) (ht : t = ⟨#[98, 101, 103, 105, 110]⟩ ∨ t = ⟨#[117, 110, 116, 105, 108]⟩ ∨ t = ⟨#[119, 104, 105, 108, 101]⟩ ∨ t = ⟨#[114, 101, 112, 101, 97, 116]⟩) (hd : R.due = false) (hQ : ∀ e w', Q e w' → ∃ n, e = .returned (.int .i64 n))
    (hc : Calls Tryz.prog 54 #[.pointer (some ⟨b, 0, none⟩), .string t] w Q) : Calls Tryz.prog 37 #[.pointer (some ⟨b, 0, none⟩), .string t] w Q := by
  obtain ⟨a0, k0, a1, k1, a2, k2, c0, c1, c2, c3, c4, c5, c6, hlt⟩ := hR.view
  clear c0 c1 c2 c3 c4 c5
  have HC := hide hc
  have HQ := hide hQ
  clear hc hQ hR
  rcases ht with rfl | rfl | rfl | rfl
  all_goals
    go_enter Tryz.func37, Tryz.ntmps37
    go_wp2_with fail
    refine (isDigits_is _ _ (by decide) false (by rw [ByteArray.toList_eq]; decide)).mono ?_
    rintro e w1 ⟨rfl, rfl⟩
    go_wp2_with fail
    refine (unhide HC).mono ?_
    rintro e w' hq
    obtain ⟨n, rfl⟩ := HQ.out e w' hq
    have HH := hide hq
    clear hq
    go_wp2
    exact HH.out

set_option maxRecDepth 100000 in
set_option maxHeartbeats 800000 in
theorem take_colon (hR : RdIs w P b R) (hd : R.due = false) (hQ : ∀ e w', Q e w' → ∃ n, e = .returned (.int .i64 n))
    (hc : Calls Tryz.prog 55 #[.pointer (some ⟨b, 0, none⟩)] w Q) : Calls Tryz.prog 37 #[.pointer (some ⟨b, 0, none⟩), .string ⟨#[58]⟩] w Q := by
  obtain ⟨a0, k0, a1, k1, a2, k2, c0, c1, c2, c3, c4, c5, c6, hlt⟩ := hR.view
  clear c0 c1 c2 c3 c4 c5
  have HC := hide hc
  have HQ := hide hQ
  clear hc hQ hR
  go_enter Tryz.func37, Tryz.ntmps37
  go_wp2_with fail
  refine (isDigits_is _ _ (by decide) false (by rw [ByteArray.toList_eq]; decide)).mono ?_
  rintro e w1 ⟨rfl, rfl⟩
  go_wp2_with fail
  refine (unhide HC).mono ?_
  rintro e w' hq
  obtain ⟨n, rfl⟩ := HQ.out e w' hq
  have HH := hide hq
  clear hq
  go_wp2
  exact HH.out

set_option maxRecDepth 100000 in
set_option maxHeartbeats 800000 in
theorem take_inside (hR : RdIs w P b R) (t : ByteArray) (ht : t = ⟨#[59]⟩ ∨ t = ⟨#[101, 120, 105, 116]⟩ ∨ t = ⟨#[114, 101, 99, 117, 114, 115, 101]⟩) (hd : R.due = false) (hQ : ∀ e w', Q e w' → ∃ n, e = .returned (.int .i64 n))
    (hc : Calls Tryz.prog 56 #[.pointer (some ⟨b, 0, none⟩), .string t] w Q) : Calls Tryz.prog 37 #[.pointer (some ⟨b, 0, none⟩), .string t] w Q := by
  obtain ⟨a0, k0, a1, k1, a2, k2, c0, c1, c2, c3, c4, c5, c6, hlt⟩ := hR.view
  clear c0 c1 c2 c3 c4 c5
  have HC := hide hc
  have HQ := hide hQ
  clear hc hQ hR
  rcases ht with rfl | rfl | rfl
  all_goals
    go_enter Tryz.func37, Tryz.ntmps37
    go_wp2_with fail
    refine (isDigits_is _ _ (by decide) false (by rw [ByteArray.toList_eq]; decide)).mono ?_
    rintro e w1 ⟨rfl, rfl⟩
    go_wp2_with fail
    refine (unhide HC).mono ?_
    rintro e w' hq
    obtain ⟨n, rfl⟩ := HQ.out e w' hq
    have HH := hide hq
    clear hq
    go_wp2
    exact HH.out

set_option maxRecDepth 100000 in
set_option maxHeartbeats 800000 in
theorem take_other (hR : RdIs w P b R) (t : ByteArray) (hs : t.size ≤ maxLen) (ht : t.toList ∉ formsL) (hg : digs t.toList = false) (hd : R.due = false) (hQ : ∀ e w', Q e w' → ∃ n, e = .returned (.int .i64 n))
    (hc : Calls Tryz.prog 57 #[.pointer (some ⟨b, 0, none⟩), .string t] w Q) : Calls Tryz.prog 37 #[.pointer (some ⟨b, 0, none⟩), .string t] w Q := by
  obtain ⟨a0, k0, a1, k1, a2, k2, c0, c1, c2, c3, c4, c5, c6, hlt⟩ := hR.view
  clear c0 c1 c2 c3 c4 c5
  obtain ⟨h1, h2, h3, h4, h5, h6, h7, h8, h9, h10, h11⟩ := not_forms ht
  have HC := hide hc
  have HQ := hide hQ
  have HG := hide hg
  clear hc hQ hR ht hg
  go_enter Tryz.func37, Tryz.ntmps37
  go_wp2_with fail
  refine (isDigits_is t _ hs false HG.out).mono ?_
  rintro e w1 ⟨rfl, rfl⟩
  go_wp2_with fail
  refine (unhide HC).mono ?_
  rintro e w' hq
  obtain ⟨n, rfl⟩ := HQ.out e w' hq
  have HH := hide hq
  clear hq
  go_wp2
  exact HH.out
end
end Go.Proofs.YtnanjomnldfidabGreatDoor

set_option linter.unusedSimpArgs false
set_option linter.unusedVariables false
set_option linter.unusedSectionVars false
namespace Go.Proofs.YtnanjomnldfidabGreatDoor
open Go.RowKit

section
variable {w : World} {P : Nat → Prop} {b : Nat} {R : Rd}

theorem post_err {Q : Nat → Prop} {e : Ending} {w' : World} {k : Int} (hk : k ≠ 0) (h : e = .returned (.int .i64 k) ∧ Kept Q w w') : TakePost Q b (k, R) w e w' := ⟨h.1, fun h0 => absurd h0 hk, h.2⟩
theorem post_ok {Q : Nat → Prop} {e : Ending} {w' : World} {R' : Rd} (h : e = .returned (.int .i64 0) ∧ RdIs w' Q b R' ∧ Kept Q w w') : TakePost Q b (0, R') w e w' := ⟨h.1, fun _ => h.2.1, h.2.2⟩

theorem word_any (hR : RdIs w P b R) (hk : R.Le 80000) (t : ByteArray) (hs : t.size ≤ maxLen) (hT : WordsAt w 2 listedL) (hd : R.due = false) (hg : digs t.toList = false) :
    Calls Tryz.prog 37 #[.pointer (some ⟨b, 0, none⟩), .string t] w (TakePost P b (R.word t.toList) w) := by
  obtain ⟨k1, k2, k3, k4, k5⟩ := hk
  have s1 : R.steps.length ≤ 90000 := by omega
  have s2 : R.forms.length ≤ 90000 := by omega
  have s3 : R.defs.length ≤ 90000 := by omega
  unfold Rd.word
  by_cases e1 : t.toList = [105, 102]
  · rw [if_pos e1]
    obtain rfl := eq_mk e1
    exact take_branch hR _ (.inl rfl) hd takePost_int ((takeBranch_if w P b R hR s1 s2).mono fun e w' h => post_ok h)
  rw [if_neg e1]
  by_cases e2 : t.toList = [101, 108, 115, 101]
  · rw [if_pos e2]
    obtain rfl := eq_mk e2
    refine take_branch hR _ (.inr (.inl rfl)) hd takePost_int ?_
    by_cases ht : R.top.1 = 1
    · rw [if_pos ht]; exact (takeBranch_else w P b R hR s1 s2 ht).mono fun e w' h => post_ok h
    · rw [if_neg ht]; exact (takeBranch_else_no w P b R hR s2 ht).mono fun e w' h => post_err (by decide) h
  rw [if_neg e2]
  by_cases e3 : t.toList = [116, 104, 101, 110]
  · rw [if_pos e3]
    obtain rfl := eq_mk e3
    refine take_branch hR _ (.inr (.inr rfl)) hd takePost_int ?_
    by_cases ht : R.top.1 = 1 ∨ R.top.1 = 2
    · rw [if_pos ht]; exact (takeBranch_then w P b R hR s1 s2 ht).mono fun e w' h => post_ok h
    · rw [if_neg ht]; exact (takeBranch_then_no w P b R hR s2 (fun h => ht (.inl h)) (fun h => ht (.inr h))).mono fun e w' h => post_err (by decide) h
  rw [if_neg e3]
  by_cases e4 : t.toList = [98, 101, 103, 105, 110]
  · rw [if_pos e4]
    obtain rfl := eq_mk e4
    exact take_loop hR _ (.inl rfl) hd takePost_int ((takeLoop_begin w P b R hR s1 s2).mono fun e w' h => post_ok h)
  rw [if_neg e4]
  by_cases e5 : t.toList = [114, 101, 112, 101, 97, 116]
  · rw [if_pos e5]
    obtain rfl := eq_mk e5
    refine take_loop hR _ (.inr (.inr (.inr rfl))) hd takePost_int ?_
    by_cases ht : R.top.1 = 4
    · rw [if_pos ht]; exact (takeLoop_repeat w P b R hR s1 s2 ht).mono fun e w' h => post_ok h
    · rw [if_neg ht]; exact (takeLoop_repeat_no w P b R hR s2 ht).mono fun e w' h => post_err (by decide) h
  rw [if_neg e5]
  by_cases e6 : t.toList = [117, 110, 116, 105, 108]
  · rw [if_pos e6]
    obtain rfl := eq_mk e6
    refine take_loop hR _ (.inr (.inl rfl)) hd takePost_int ?_
    by_cases ht : R.top.1 = 3
    · rw [if_pos ht]; exact (takeLoop_until w P b R hR s1 s2 ht).mono fun e w' h => post_ok h
    · rw [if_neg ht]; exact (takeLoop_no w P b R hR s2 ht _ (.inl rfl)).mono fun e w' h => post_err (by decide) h
  rw [if_neg e6]
  by_cases e7 : t.toList = [119, 104, 105, 108, 101]
  · rw [if_pos e7]
    obtain rfl := eq_mk e7
    refine take_loop hR _ (.inr (.inr (.inl rfl))) hd takePost_int ?_
    by_cases ht : R.top.1 = 3
    · rw [if_pos ht]; exact (takeLoop_while w P b R hR s1 s2 ht).mono fun e w' h => post_ok h
    · rw [if_neg ht]; exact (takeLoop_no w P b R hR s2 ht _ (.inr rfl)).mono fun e w' h => post_err (by decide) h
  rw [if_neg e7]
  by_cases e8 : t.toList = [58]
  · rw [if_pos e8]
    obtain rfl := eq_mk e8
    refine take_colon hR hd takePost_int ?_
    by_cases ht : R.inside = true ∨ R.forms ≠ []
    · rw [if_pos ht]; exact (openDef_no w P b R hR s2 ht).mono fun e w' h => post_err (by decide) h
    · rw [if_neg ht]
      have hi : R.inside = false := by cases hi : R.inside; rfl; exact absurd (.inl hi) ht
      have hf : R.forms = [] := by by_cases hf : R.forms = []; exact hf; exact absurd (.inr hf) ht
      exact (openDef_yes w P b R hR s1 hi hf).mono fun e w' h => post_ok h
  rw [if_neg e8]
  by_cases e9 : t.toList = [101, 120, 105, 116]
  · rw [if_pos e9]
    obtain rfl := eq_mk e9
    refine take_inside hR _ (.inr (.inl rfl)) hd takePost_int ?_
    by_cases ht : R.inside = true
    · rw [if_pos ht]; exact (takeInside_exit w P b R hR s1 ht).mono fun e w' h => post_ok h
    · rw [if_neg ht]; exact (takeInside_no w P b R hR _ (by simpa using ht)).mono fun e w' h => post_err (by decide) h
  rw [if_neg e9]
  by_cases e10 : t.toList = [114, 101, 99, 117, 114, 115, 101]
  · rw [if_pos e10]
    obtain rfl := eq_mk e10
    refine take_inside hR _ (.inr (.inr rfl)) hd takePost_int ?_
    by_cases ht : R.inside = true
    · rw [if_pos ht]; exact (takeInside_recurse w P b R hR s1 ht).mono fun e w' h => post_ok h
    · rw [if_neg ht]; exact (takeInside_no w P b R hR _ (by simpa using ht)).mono fun e w' h => post_err (by decide) h
  rw [if_neg e10]
  by_cases e11 : t.toList = [59]
  · rw [if_pos e11]
    obtain rfl := eq_mk e11
    refine take_inside hR _ (.inl rfl) hd takePost_int ?_
    by_cases ht : R.inside = false
    · rw [if_pos ht]; exact (takeInside_no w P b R hR _ ht).mono fun e w' h => post_err (by decide) h
    · rw [if_neg ht]
      have hi : R.inside = true := by simpa using ht
      by_cases hf : R.forms ≠ []
      · rw [if_pos hf]; exact (takeInside_end_no w P b R hR s2 hi hf).mono fun e w' h => post_err (by decide) h
      · rw [if_neg hf]; exact (takeInside_end w P b R hR s1 s3 hi (by simpa using hf) k4 (by omega)).mono fun e w' h => post_ok h
  rw [if_neg e11]
  refine take_other hR t hs ?_ hg hd takePost_int ?_
  · simp only [formsL, List.mem_cons, List.not_mem_nil, or_false]
    simp only [e1, e2, e3, e4, e5, e6, e7, e8, e9, e10, e11, or_false, not_false_eq_true]
  · refine (takeMeaning_any w P b R hR s1 s3 t hT).mono ?_
    rintro e w' ⟨m1, m2, m3⟩
    cases hl : lastDef R.defs t.toList with
    | some n => exact post_ok (m1 n hl)
    | none =>
      by_cases ho : listOk t.toList = true
      · simp only [ho, if_true]; exact post_ok (m2 hl ho)
      · simp only [ho, if_false]; exact post_err (by decide) (m3 hl (by simpa using ho))

theorem take_any (hR : RdIs w P b R) (hk : R.Le 80000) (t : ByteArray) (hs : t.size ≤ maxLen) (hT : WordsAt w 2 listedL) :
    Calls Tryz.prog 37 #[.pointer (some ⟨b, 0, none⟩), .string t] w (TakePost P b (R.take t) w) := by
  unfold Rd.take
  by_cases hd : R.due = true
  · rw [if_pos hd]
    refine take_due hR t hd takePost_int ?_
    by_cases hn : nameOk t.toList = true
    · rw [if_pos hn]; exact (takeName_yes w P b R hR t hs hn).mono fun e w' h => post_ok h
    · rw [if_neg hn]; exact (takeName_no w P b R hR t hs (by simpa using hn)).mono fun e w' h => post_err (by decide) h
  rw [if_neg hd]
  have hd' : R.due = false := by simpa using hd
  by_cases hg : digs t.toList = true
  · rw [if_pos hg]
    refine take_number hR t hs hd' hg takePost_int ?_
    refine (takeNumber_any w P b R hR (by have := hk.steps; omega) t hs hg).mono ?_
    rintro e w' ⟨n1, n2⟩
    cases hv : numVal t.toList with
    | some n => exact post_ok (n2 n hv)
    | none => exact post_err (by decide) (n1 hv)
  · rw [if_neg hg]
    exact word_any hR hk t hs hT hd' (by simpa using hg)
end
end Go.Proofs.YtnanjomnldfidabGreatDoor

set_option linter.unusedSimpArgs false
set_option linter.unusedVariables false
set_option linter.unusedSectionVars false
namespace Go.Proofs.YtnanjomnldfidabGreatDoor
open Go.RowKit

theorem WordsAt.kept {w w' : World} {P : Nat → Prop} {g : Nat} {l : List (List UInt8)} (h : WordsAt w g l) (hk : Kept P w w') (hg : g < w.heap.size) (hp : P g) : WordsAt w' g l :=
  fun i hi => (hk.cell (p := ⟨g, i, none⟩) hg hp).trans (h i hi)

theorem rd_fresh (w : World) (P : Nat → Prop) (hP : ∀ k, P k → k < w.heap.size) :
    RdIs (w.alloc (.cells #[.slice none 0 0, .slice none 0 0, .slice none 0 0, .string ByteArray.empty, .int .i64 0, .bool false, .bool false] 84)) P w.heap.size Rd.fresh :=
  ⟨_, _, _, fun k hk => by have := hP k hk; simp; omega, fun hp => by have := hP _ hp; omega, heap_alloc_new w _, Row.nil _ _ _ _, Row.nil _ _ _ _, Row.nil _ _ _ _⟩

/-- The steps with the halt behind them. -/
def withH (S : List (Int × Int)) : List (Int × Int) := S ++ [(0, 0)]
/-- What readProgram leaves. -/
def ReadPost (P : Nat → Prop) (r : Int × Nat × Rd) (w : World) (e : Ending) (w' : World) : Prop :=
  ∃ v, e = .returned (.tuple #[v, .int .i64 r.1, .int .i64 r.2.1]) ∧ (r.1 = 0 → Row w' P 105 2 v (withH r.2.2.steps).length (stepCells (withH r.2.2.steps))) ∧ Kept P w w'

theorem extract_size (s : ByteArray) (a z : Nat) (h : z ≤ s.size) : (s.extract a z).size ≤ s.size := by
  simp [ByteArray.size_extract]; omega

theorem readM_err {s : ByteArray} {e : Int} {a : Nat} {R : Rd} (hl : ¬ 400 < s.size) (h : Rd.fresh.read (toksFrom s 0) = (e, a, R)) (he : e ≠ 0) : readM s = (e, a, R) := by
  unfold readM
  rw [if_neg hl, h, if_pos he]
theorem readM_fin {s : ByteArray} {R : Rd} (hl : ¬ 400 < s.size) (h : Rd.fresh.read (toksFrom s 0) = (0, 0, R)) (hf : R.fin ≠ 0) : readM s = (R.fin, s.size, Rd.fresh) := by
  unfold readM
  rw [if_neg hl, h, if_neg (by simp), if_pos hf]
theorem readM_ok {s : ByteArray} {R : Rd} (hl : ¬ 400 < s.size) (h : Rd.fresh.read (toksFrom s 0) = (0, 0, R)) (hf : R.fin = 0) : readM s = (0, 0, R) := by
  unfold readM
  rw [if_neg hl, h, if_neg (by simp), if_neg (by simp [hf])]

set_option maxRecDepth 100000 in
set_option maxHeartbeats 1600000 in
theorem readProgram_any (s : ByteArray) (w : World) (P : Nat → Prop) (hP : ∀ k, P k → k < w.heap.size) (hs : s.size ≤ maxLen) (hT : WordsAt w 2 listedL) (hPT : P 2) :
    Calls Tryz.prog 20 #[.string s] w (ReadPost P (readM s) w) := by
  by_cases hlong : 400 < s.size
  · have e0 : Hid (readM s = (1, 0, Rd.fresh)) := by unfold Hid readM; rw [if_pos hlong]
    unfold maxLen at hs
    have post : Hid (∀ e, e = Ending.returned (.tuple #[.slice none 0 0, .int .i64 1, .int .i64 0]) → ReadPost P (readM s) w e w) := by
      intro e he
      rw [e0.out]
      exact ⟨_, he, fun h => (by cases h), Kept.refl _ _⟩
    clear hT e0
    go_enter Tryz.func20, Tryz.ntmps20
    go_wp2
    go_ret3
    exact post.out _ rfl
  · have hT2 : 2 < w.heap.size := hP _ hPT
    have hT' := hide hT
    have hf0 := rd_fresh w P hP
    have hk0 : Kept P w (w.alloc (.cells #[.slice none 0 0, .slice none 0 0, .slice none 0 0, .string ByteArray.empty, .int .i64 0, .bool false, .bool false] 84)) := (Kept.refl P w).alloc _
    have ht0 := hide (toksFrom_eq s 0 (Nat.zero_le _))
    have a2 := blankEnd_le s.data.toList 0 (Nat.zero_le _)
    have a3 := wordEnd_le s.data.toList (blankEnd s.data.toList 0) a2
    have a4 := wordEnd_ge s.data.toList (blankEnd s.data.toList 0)
    rw [len_data] at a2 a3
    clear hT hP
    go_enter Tryz.func20, Tryz.ntmps20
    go_wp2_with fail
    refine (nextWord_any s 0 _ hs (Nat.zero_le _)).mono ?_
    rintro e w1 ⟨rfl, rfl⟩
    generalize blankEnd s.data.toList 0 = k0 at a2 a3 a4 ht0 ⊢
    generalize wordEnd s.data.toList k0 = z0 at a3 a4 ht0 ⊢
    go_wp2
    go_loopw [6, 7] (fun i j wr => ∃ a z : Nat, ∃ R : Rd, a ≤ z ∧ z ≤ s.size ∧ i = .int .i64 a ∧ j = .int .i64 z ∧ RdIs wr P w.heap.size R ∧ R.Le a ∧ Kept P w wr ∧ Hid (R.read (toksAt s a z) = Rd.fresh.read (toksFrom s 0))) (fun i _ _ => s.size - (intOf i).toNat)
    case atStart => exact ⟨k0, z0, Rd.fresh, a4, a3, rfl, rfl, hf0, Rd.Le.fresh.mono (Nat.zero_le _), hk0, by unfold Hid; rw [ht0.out]⟩
    case round =>
      clear ht0 hf0 hk0 a2 a3 a4
      obtain ⟨a, z, R, haz, hz, rfl, rfl, hR, hLe, hk, hrd⟩ := hrel
      by_cases hlt : a < z
      · have htk : Hid (toksAt s a z = (s.extract a z, a) :: toksFrom s z) := by unfold Hid toksAt; rw [if_pos hlt]
        have hle8 : R.Le 80000 := hLe.mono (by omega)
        have hszt : Hid ((s.extract a z).size ≤ maxLen) := Nat.le_trans (extract_size s a z hz) hs
        have hTk : Hid (WordsAt wr 2 listedL) := hT'.out.kept hk hT2 hPT
        have hctr := hide (take_any hR hle8 (s.extract a z) hszt.out hTk.out)
        obtain ⟨r, hr⟩ : ∃ r, r = R.take (s.extract a z) := ⟨_, rfl⟩
        rw [← hr] at hctr
        have hLe2 : r.2.Le (a + 1) := by rw [hr]; exact hLe.take _
        have HR := hide hr
        clear hr
        by_cases h0 : r.1 = 0
        · have hb : (r.1 != 0) = false := by rw [h0]; rfl
          have hstep : Hid (r.2.read (toksFrom s z) = Rd.fresh.read (toksFrom s 0)) := by
            unfold Hid
            rw [← hrd.out, htk.out, HR.out]
            exact (Rd.read_yes R _ a _ (by rw [← HR.out]; exact h0)).symm
          have hte := hide (toksFrom_eq s z hz)
          have a2 := blankEnd_le s.data.toList z (by rw [len_data]; exact hz)
          have a3 := wordEnd_le s.data.toList (blankEnd s.data.toList z) a2
          have a4 := wordEnd_ge s.data.toList (blankEnd s.data.toList z)
          have a5 := blankEnd_ge s.data.toList z
          rw [len_data] at a2 a3
          have H0 := hide h0
          clear h0
          go_wp2_with fail
          refine (unhide hctr).mono ?_
          rintro e w2 ⟨rfl, hR2, hk2⟩
          have hR2' := hR2 H0.out
          clear hR2
          go_wp2_with fail
          refine (nextWord_any s z _ hs hz).mono ?_
          rintro e w1 ⟨rfl, rfl⟩
          generalize blankEnd s.data.toList z = k1 at a2 a3 a4 a5 hte ⊢
          generalize wordEnd s.data.toList k1 = z1 at a3 a4 hte ⊢
          go_wp2
          go_roundw
          case rel => exact ⟨k1, z1, r.2, a4, a3, rfl, rfl, hR2', hLe2.mono (by omega), hk.trans hk2, by unfold Hid; rw [← hte.out]; exact hstep.out⟩
          case measure => simp [intOf]; omega
        · have hb : (r.1 != 0) = true := bne_iff_ne.2 h0
          have hrm : Hid (readM s = (r.1, a, R)) := readM_err hlong (by
            rw [← hrd.out, htk.out, Rd.read_no R _ a _ (by rw [← HR.out]; exact h0), ← HR.out]) h0
          have post : Hid (∀ e w2, Kept P wr w2 → e = Ending.returned (.tuple #[.slice none 0 0, .int .i64 r.1, .int .i64 a]) → ReadPost P (readM s) w e w2) := by
            intro e w2 hk2 he
            rw [hrm.out]
            exact ⟨_, he, fun h => absurd h h0, hk.trans hk2⟩
          have H0 := hide h0
          clear h0 hrm
          go_wp2_with fail
          refine (unhide hctr).mono ?_
          rintro e w2 ⟨rfl, hR2, hk2⟩
          clear hR2
          go_wp2
          go_ret3
          exact post.out _ _ hk2 rfl
      · have htk : Hid (toksAt s a z = []) := by unfold Hid toksAt; rw [if_neg hlt]
        have hrd2 : Hid (Rd.fresh.read (toksFrom s 0) = (0, 0, R)) := by unfold Hid; rw [← hrd.out, htk.out]; rfl
        have hfl : R.forms.length ≤ 90000 := by have := hLe.forms; omega
        by_cases h0 : R.fin = 0
        · have hb : (R.fin != 0) = false := by rw [h0]; rfl
          have hrm : Hid (readM s = (0, 0, R)) := readM_ok hlong hrd2.out h0
          have hstl : R.steps.length ≤ 100000 := by have := hLe.steps; omega
          have hfin := hide (finish_any wr P w.heap.size R hR hfl)
          have hadd := hide (add_any wr P w.heap.size R 0 0 hR hstl)
          have hlt3 : w.heap.size < wr.heap.size := by obtain ⟨vs, vf, vd, hRa⟩ := hR; exact hRa.lt
          clear h0 hR
          go_wp2_with fail
          refine (unhide hfin).mono ?_
          rintro e w1 ⟨rfl, rfl⟩
          go_wp2_with fail
          refine (unhide hadd).mono ?_
          rintro e w2 ⟨rfl, ⟨vs, vf, vd, hRa⟩, hk2⟩
          have c0 : w2.cell? ⟨w.heap.size, 0, none⟩ = some vs := hRa.cell 0 _ rfl
          have hlt4 := hRa.lt
          obtain ⟨a0, cp0, hvs⟩ := own_slice hRa.steps.own
          have post : Hid (∀ e, e = Ending.returned (.tuple #[vs, .int .i64 0, .int .i64 0]) → ReadPost P (readM s) w e w2) := by
            intro e he
            rw [hrm.out]
            exact ⟨_, he, fun _ => hRa.steps, hk.trans hk2⟩
          rw [hvs] at c0 post
          clear hrm hvs hadd hRa hk2
          go_wp2
          go_ret3
          exact post.out _ rfl
        · have hb : (R.fin != 0) = true := bne_iff_ne.2 h0
          have hrm : Hid (readM s = (R.fin, s.size, Rd.fresh)) := readM_fin hlong hrd2.out h0
          have hfin := hide (finish_any wr P w.heap.size R hR hfl)
          have post : Hid (∀ e, e = Ending.returned (.tuple #[.slice none 0 0, .int .i64 R.fin, .int .i64 s.size]) → ReadPost P (readM s) w e wr) := by
            intro e he
            rw [hrm.out]
            exact ⟨_, he, fun h => absurd h h0, hk⟩
          clear h0 hrm
          unfold maxLen at hs
          go_wp2_with fail
          refine (unhide hfin).mono ?_
          rintro e w1 ⟨rfl, rfl⟩
          go_wp2
          go_ret3
          exact post.out _ rfl
end Go.Proofs.YtnanjomnldfidabGreatDoor
