/-
  The reader of package grader: takeNumber, takeMeaning, takeInside.
-/
import Derived.Test.YtepckhdnlfajbaaDoorRdDefs
set_option linter.unusedSimpArgs false
set_option linter.unusedVariables false
set_option linter.unusedSectionVars false
namespace Go.Proofs.YtepckhdnlfajbaaDoor
open Go.RowKit

theorem digs_at {s : ByteArray} (h : digs s.data.toList = true) (k : Nat) (hk : k < s.size) : 48 ≤ (s[k].toNat : Int) ∧ (s[k].toNat : Int) ≤ 57 := by
  have hm : s[k] ∈ s.data.toList := by
    have : k < s.data.toList.length := by simpa using hk
    exact List.getElem_mem this
  have := List.all_eq_true.1 h _ hm
  simp [UInt8.le_iff_toNat_le] at this
  omega
theorem take_snoc (s : ByteArray) (k : Nat) (h : k < s.size) : s.data.toList.take (k + 1) = s.data.toList.take k ++ [s[k]] := by
  rw [List.take_succ_eq_append_getElem (by simpa using h)]; rfl
/-- A number of k digits. -/
def numTo (s : ByteArray) (k : Nat) : Int := numOf (s.data.toList.take k)
theorem numTo_succ (s : ByteArray) (k : Nat) (h : k < s.size) : numTo s (k + 1) = numTo s k * 10 + ((s[k].toNat : Int) - 48) := by
  unfold numTo
  rw [take_snoc s k h, numOf_snoc]
theorem numTo_bd {s : ByteArray} (h : digs s.data.toList = true) : ∀ k, k ≤ s.size → 0 ≤ numTo s k ∧ numTo s k + 1 ≤ 10 ^ k
  | 0, _ => by simp [numTo, numOf]
  | k + 1, hk => by
    obtain ⟨h1, h2⟩ := numTo_bd h k (by omega)
    obtain ⟨d1, d2⟩ := digs_at h k (by omega)
    rw [numTo_succ s k (by omega)]
    have : (10 : Int) ^ (k + 1) = 10 ^ k * 10 := by rw [Int.pow_succ]
    omega
theorem numTo_small {s : ByteArray} (h : digs s.data.toList = true) (k : Nat) (hk : k ≤ s.size) (h5 : k ≤ 5) : 0 ≤ numTo s k ∧ numTo s k ≤ 99999 := by
  obtain ⟨h1, h2⟩ := numTo_bd h k hk
  refine ⟨h1, ?_⟩
  have : (10 : Int) ^ k ≤ 100000 := by
    rcases (show k = 0 ∨ k = 1 ∨ k = 2 ∨ k = 3 ∨ k = 4 ∨ k = 5 by omega) with rfl | rfl | rfl | rfl | rfl | rfl <;> decide
  omega
theorem numTo_all (s : ByteArray) : numTo s s.size = numOf s.toList := by
  unfold numTo
  rw [ByteArray.toList_eq, List.take_of_length_le (by simp)]

theorem toList_len (t : ByteArray) : t.toList.length = t.size := by rw [ByteArray.toList_eq]; simp

set_option maxRecDepth 100000 in
set_option maxHeartbeats 800000 in
theorem takeNumber_long (w : World) (P : Nat → Prop) (b : Nat) (t : ByteArray) (hs : t.size ≤ maxLen) (h5 : 5 < t.size) :
    Calls Tryd.prog 41 #[.pointer (some ⟨b, 0, none⟩), .string t] w fun e w' => e = .returned (.int .i64 2) ∧ Kept P w w' := by
  unfold maxLen at hs
  go_enter Tryd.func41, Tryd.ntmps41
  go_wp2
  go_ret
  exact ⟨rfl, Kept.refl _ _⟩

/-- What takeNumber leaves, by the number. -/
def NumPost (P : Nat → Prop) (b : Nat) (R : Rd) (v : Int) (w : World) (e : Ending) (w' : World) : Prop :=
  (65535 < v → e = .returned (.int .i64 2) ∧ Kept P w w') ∧ (v ≤ 65535 → e = .returned (.int .i64 0) ∧ RdIs w' P b (R.add 1 v) ∧ Kept P w w')
theorem numPost_no {P : Nat → Prop} {b : Nat} {R : Rd} {v : Int} {w : World} (hv : 65535 < v) : NumPost P b R v w (.returned (.int .i64 2)) w := ⟨fun _ => ⟨rfl, Kept.refl _ _⟩, fun h => by omega⟩
theorem numPost_yes {P : Nat → Prop} {b : Nat} {R : Rd} {v : Int} {w w' : World} (hv : ¬ 65535 < v) (h1 : RdIs w' P b (R.add 1 v)) (h2 : Kept P w w') : NumPost P b R v w (.returned (.int .i64 0)) w' := ⟨fun h => by omega, fun _ => ⟨rfl, h1, h2⟩⟩

set_option maxRecDepth 100000 in
set_option maxHeartbeats 800000 in
theorem takeNumber_short (w : World) (P : Nat → Prop) (b : Nat) (R : Rd) (hR : RdIs w P b R) (h1 : R.steps.length ≤ 90000) (t : ByteArray) (h5 : t.size ≤ 5) (hd : digs t.data.toList = true) :
    Calls Tryd.prog 41 #[.pointer (some ⟨b, 0, none⟩), .string t] w (NumPost P b R (numTo t t.size) w) := by
  have HD := hide hd
  clear hd
  go_enter Tryd.func41, Tryd.ntmps41
  go_wp2
  go_loop [5, 6] (fun n i => ∃ k : Nat, k ≤ t.size ∧ i = .int .i64 k ∧ n = .int .i64 (numTo t k)) (fun _ i => t.size - (intOf i).toNat)
  case atStart => exact ⟨0, by omega, rfl, rfl⟩
  case round =>
    obtain ⟨k, hk, rfl, rfl⟩ := hrel
    obtain ⟨b1, b2⟩ := numTo_small HD.out k hk (by omega)
    by_cases hlt : k < t.size
    · obtain ⟨d1, d2⟩ := digs_at HD.out k hlt
      have hst := hide (numTo_succ t k hlt)
      go_wp2
      go_round
      case rel => exact ⟨k + 1, by omega, by go_num, by rw [hst.out]⟩
      case measure => simp [intOf]; omega
    · have hks : k = t.size := by omega
      subst hks
      by_cases hv : 65535 < numTo t t.size
      · go_wp2
        go_ret
        exact numPost_no hv
      · go_wp2_with (go_at_call 63; refine (add_any _ P b R 1 _ hR (by omega)).mono ?_; rintro e w2 ⟨rfl, r2, q2⟩)
        go_ret
        exact numPost_yes (by omega) r2 q2

/-- takeNumber. -/
theorem takeNumber_any (w : World) (P : Nat → Prop) (b : Nat) (R : Rd) (hR : RdIs w P b R) (h1 : R.steps.length ≤ 90000) (t : ByteArray) (hs : t.size ≤ maxLen) (hd : digs t.toList = true) :
    Calls Tryd.prog 41 #[.pointer (some ⟨b, 0, none⟩), .string t] w fun e w' =>
      (numVal t.toList = none → e = .returned (.int .i64 2) ∧ Kept P w w') ∧ (∀ n, numVal t.toList = some n → e = .returned (.int .i64 0) ∧ RdIs w' P b (R.add 1 n) ∧ Kept P w w') := by
  by_cases h5 : 5 < t.size
  · have e1 : numVal t.toList = none := by unfold numVal; rw [toList_len, if_pos h5]
    rw [e1]
    refine (takeNumber_long w P b t hs h5).mono ?_
    rintro e w' h
    exact ⟨fun _ => h, fun n hn => by cases hn⟩
  · refine (takeNumber_short w P b R hR h1 t (by omega) (by rw [← ByteArray.toList_eq]; exact hd)).mono ?_
    rintro e w' ⟨g1, g2⟩
    rw [numTo_all] at g1 g2
    unfold numVal
    rw [toList_len, if_neg h5]
    by_cases hv : 65535 < numOf t.toList
    · rw [if_pos hv]
      exact ⟨fun _ => g1 hv, fun n hn => by cases hn⟩
    · rw [if_neg hv]
      refine ⟨fun h => by (cases h), fun n hn => ?_⟩
      cases hn
      exact g2 (by omega)

theorem defCells_at (l : List (ByteArray × Int)) : ∀ k (h : k < l.length), (defCells l)[k * 2]? = some (.string l[k].1) ∧ (defCells l)[k * 2 + 1]? = some (.int .i64 l[k].2) := by
  induction l with
  | nil => intro k h; simp at h
  | cons p l ih =>
    intro k h
    cases k with
    | zero => simp [defCells]
    | succ k =>
      have := ih k (by simpa using h)
      simp only [defCells, List.flatMap_cons, List.cons_append, List.nil_append] at this ⊢
      rw [show (k + 1) * 2 = (k * 2) + 1 + 1 by omega]
      simpa using this

/-- What takeMeaning leaves. -/
def MeanPost (P : Nat → Prop) (b : Nat) (R : Rd) (t : List UInt8) (w : World) (e : Ending) (w' : World) : Prop :=
  (∀ n, lastDef R.defs t = some n → e = .returned (.int .i64 0) ∧ RdIs w' P b (R.add 4 n) ∧ Kept P w w') ∧
  (lastDef R.defs t = none → listOk t = true → e = .returned (.int .i64 0) ∧ RdIs w' P b (R.add (listOp t) 0) ∧ Kept P w w') ∧
  (lastDef R.defs t = none → listOk t = false → e = .returned (.int .i64 2) ∧ Kept P w w')

set_option maxRecDepth 100000 in
set_option maxHeartbeats 800000 in
theorem takeMeaning_any (w : World) (P : Nat → Prop) (b : Nat) (R : Rd) (hR : RdIs w P b R) (h1 : R.steps.length ≤ 90000) (h2 : R.defs.length ≤ 90000) (t : ByteArray) (hT : WordsAt w 2 listedL) :
    Calls Tryd.prog 46 #[.pointer (some ⟨b, 0, none⟩), .string t] w (MeanPost P b R t.toList w) := by
  have hR0 := hR
  obtain ⟨vs, vf, vd, hR⟩ := hR
  have hlt := hR.lt
  have hown := hR.defs.own
  obtain ⟨a2, k2, rfl⟩ := own_slice hown
  have c2 := hR.cell 2 _ rfl
  have HT := hide hT
  clear hT
  go_enter Tryd.func46, Tryd.ntmps46
  go_wp2
  go_loop [5] (fun i => ∃ k : Nat, k ≤ R.defs.length ∧ i = .int .i64 ((k : Int) - 1) ∧ Hid (lastDef (R.defs.take k) t.toList = lastDef R.defs t.toList)) (fun i => ((intOf i) + 1).toNat)
  case atStart => exact ⟨R.defs.length, Nat.le_refl _, by go_num, by simp [Hid]⟩
  case round =>
    obtain ⟨k, hk, rfl, hd⟩ := hrel
    cases k with
    | zero =>
      have hd' := hide ((lastDef_nil t.toList).symm.trans hd.out)
      by_cases hl : listOk t.toList = true
      · go_wp2_with (first | (go_at_call 68; refine (listedOp_any t _ HT.out).mono ?_; rintro e w1 ⟨rfl, rfl⟩) | (go_at_call 63; refine (add_any _ P b R (listOp t.toList) 0 hR0 (by omega)).mono ?_; rintro e w2 ⟨rfl, r2, q2⟩))
        go_ret
        refine ⟨fun n hn => ?_, fun _ _ => ⟨rfl, r2, q2⟩, fun _ h => ?_⟩
        · rw [← hd'.out] at hn; cases hn
        · rw [hl] at h; cases h
      · have hl' : listOk t.toList = false := by simpa using hl
        clear hl
        go_wp2_with (first | (go_at_call 68; refine (listedOp_any t _ HT.out).mono ?_; rintro e w1 ⟨rfl, rfl⟩))
        go_ret
        refine ⟨fun n hn => ?_, fun _ h => ?_, fun _ _ => ⟨rfl, Kept.refl _ _⟩⟩
        · rw [← hd'.out] at hn; cases hn
        · rw [hl'] at h; cases h
    | succ k =>
      have hk' : k < R.defs.length := by omega
      obtain ⟨f, cp, hv⟩ := own_form hown (by omega)
      simp only [Value.slice.injEq, true_and] at hv
      obtain ⟨rfl, rfl⟩ := hv
      obtain ⟨d0, d1⟩ := defCells_at R.defs k hk'
      have e0 : w.cell? ⟨f, k * 2, none⟩ = some (.string R.defs[k].1) := by rw [hown.cellAt _ (by omega)]; exact d0
      have e1 : w.cell? ⟨f, k * 2 + 1, none⟩ = some (.int .i64 R.defs[k].2) := by rw [hown.cellAt _ (by omega)]; exact d1
      have htk : Hid (R.defs.take (k + 1) = R.defs.take k ++ [R.defs[k]]) := List.take_succ_eq_append_getElem hk'
      rw [htk.out] at hd
      obtain ⟨nm, hnm⟩ : ∃ nm, nm = R.defs[k].1 := ⟨_, rfl⟩
      obtain ⟨fs, hfs⟩ : ∃ fs, fs = R.defs[k].2 := ⟨_, rfl⟩
      rw [← hnm] at e0
      rw [← hfs] at e1
      have NM := hide hnm
      have FS := hide hfs
      clear hnm hfs d0 d1 htk
      cases hb : (nm.toList == t.toList)
      · have hn := hide (lastDef_no (R.defs.take k) R.defs[k] t.toList (by rw [← NM.out]; exact hb))
        go_wp2
        go_round
        case rel => exact ⟨k, by omega, by go_num, hn.out.symm.trans hd.out⟩
        case measure => simp [intOf]
      · have hn := hide (lastDef_yes (R.defs.take k) R.defs[k] t.toList (by rw [← NM.out]; exact hb))
        go_wp2_with (go_at_call 63; refine (add_any _ P b R 4 fs hR0 (by omega)).mono ?_; rintro e w2 ⟨rfl, r2, q2⟩)
        go_ret
        have hfin : lastDef R.defs t.toList = some fs := hd.out.symm.trans (hn.out.trans (by rw [FS.out]))
        unfold MeanPost
        rw [hfin]
        refine ⟨fun n hn => ?_, fun h => (by cases h), fun h => (by cases h)⟩
        cases hn
        exact ⟨rfl, r2, q2⟩
end Go.Proofs.YtepckhdnlfajbaaDoor
