/-
  The tables of words: grader.listedOp, graderref.Listed, graderref.form.
-/
import Derived.Test.YtnanjomnldfidabGreatDoorProg
import Derived.Test.YtnanjomnldfidabGreatDoorMem
import Derived.Test.YtnanjomnldfidabGreatDoorPure
set_option linter.unusedSimpArgs false
set_option linter.unusedVariables false
set_option linter.unusedSectionVars false
namespace Go.Proofs.YtnanjomnldfidabGreatDoor
open Go.RowKit

/-- A table of words lies in block g. -/
def WordsAt (w : World) (g : Nat) (l : List (List UInt8)) : Prop := ∀ i, i < l.length → w.cell? ⟨g, i, none⟩ = some (.string ⟨(l.getD i []).toArray⟩)
theorem WordsAt.below {w w' : World} {g B : Nat} {l : List (List UInt8)} (h : WordsAt w g l) (hb : Below B w w') (hg : g < B) : WordsAt w' g l :=
  fun i hi => (hb.cell (p := ⟨g, i, none⟩) hg).trans (h i hi)
theorem toList_mk (l : List UInt8) : (⟨l.toArray⟩ : ByteArray).toList = l := by rw [ByteArray.toList_eq]

set_option maxRecDepth 100000 in
set_option maxHeartbeats 400000 in
theorem listedOp_any (t : ByteArray) (w : World) (hT : WordsAt w 2 listedL) :
    Calls Tryz.prog 78 #[.string t] w fun e w' =>
      e = .returned (.tuple #[.int .i64 (listOp t.toList), .bool (listOk t.toList)]) ∧ w' = w := by
  go_enter Tryz.func78, Tryz.ntmps78
  go_wp2
  go_loop [4] (fun i => ∃ k : Nat, k ≤ 19 ∧ i = .int .i64 k ∧ Hid (findFrom listedL t.toList k = listIdx t.toList)) (fun i => 19 - (intOf i).toNat)
  case atStart => exact ⟨0, by omega, rfl, rfl⟩
  case round =>
    obtain ⟨k, hk, rfl, hd⟩ := hrel
    by_cases hlt : k < 19
    · have hc := hT k hlt
      obtain ⟨u, hu⟩ : ∃ u : ByteArray, u = ⟨(listedL.getD k []).toArray⟩ := ⟨_, rfl⟩
      rw [← hu] at hc
      have HU : Hid (u.toList = listedL.getD k []) := by rw [hu]; exact toList_mk _
      clear hu hT
      cases hb : (u.toList == t.toList)
      · have hb' := hide hb
        rw [HU.out] at hb'
        have hn := hide (findFrom_no listedL t.toList k hlt hb'.out)
        clear hb'
        go_wp2
        go_round
        case rel => exact ⟨k + 1, by omega, by go_num, hn.out.symm.trans hd.out⟩
        case measure => simp [intOf]; omega
      · have hb' := hide hb
        rw [HU.out] at hb'
        have hn := hide ((findFrom_yes listedL t.toList k hlt hb'.out).symm.trans hd.out)
        clear hb'
        go_wp2
        go_ret2
        obtain ⟨e1, e2, e3⟩ := listOp_of hn.out hlt
        exact ⟨by rw [e1, e2]; rfl, rfl⟩
    · have hn := hide ((findFrom_end listedL t.toList k (by show k = 19; omega)).symm.trans hd.out)
      go_wp2
      go_ret2
      obtain ⟨e1, e2, e3⟩ := listOp_no hn.out
      exact ⟨by rw [e1, e2]; rfl, rfl⟩

set_option maxRecDepth 100000 in
set_option maxHeartbeats 400000 in
theorem refListed_any (t : ByteArray) (w : World) (hT : WordsAt w 1 listedL) :
    Calls Tryz.prog 33 #[.string t] w fun e w' =>
      e = .returned (.int .i64 (listRef t.toList)) ∧ w' = w := by
  go_enter Tryz.func33, Tryz.ntmps33
  go_wp2
  go_loop [3] (fun i => ∃ k : Nat, k ≤ 19 ∧ i = .int .i64 k ∧ Hid (findFrom listedL t.toList k = listIdx t.toList)) (fun i => 19 - (intOf i).toNat)
  case atStart => exact ⟨0, by omega, rfl, rfl⟩
  case round =>
    obtain ⟨k, hk, rfl, hd⟩ := hrel
    by_cases hlt : k < 19
    · have hc := hT k hlt
      obtain ⟨u, hu⟩ : ∃ u : ByteArray, u = ⟨(listedL.getD k []).toArray⟩ := ⟨_, rfl⟩
      rw [← hu] at hc
      have HU : Hid (u.toList = listedL.getD k []) := by rw [hu]; exact toList_mk _
      clear hu hT
      cases hb : (u.toList == t.toList)
      · have hb' := hide hb
        rw [HU.out] at hb'
        have hn := hide (findFrom_no listedL t.toList k hlt hb'.out)
        clear hb'
        go_wp2
        go_round
        case rel => exact ⟨k + 1, by omega, by go_num, hn.out.symm.trans hd.out⟩
        case measure => simp [intOf]; omega
      · have hb' := hide hb
        rw [HU.out] at hb'
        have hn := hide ((findFrom_yes listedL t.toList k hlt hb'.out).symm.trans hd.out)
        clear hb'
        go_wp2
        go_ret
        obtain ⟨e1, e2, e3⟩ := listOp_of hn.out hlt
        exact ⟨by rw [e3]; rfl, rfl⟩
    · have hn := hide ((findFrom_end listedL t.toList k (by show k = 19; omega)).symm.trans hd.out)
      go_wp2
      go_ret
      obtain ⟨e1, e2, e3⟩ := listOp_no hn.out
      exact ⟨by rw [e3]; rfl, rfl⟩

set_option maxRecDepth 100000 in
set_option maxHeartbeats 400000 in
theorem refForm_any (t : ByteArray) (w : World) (hT : WordsAt w 0 formsL) :
    Calls Tryz.prog 30 #[.string t] w fun e w' =>
      e = .returned (.bool (isForm t.toList)) ∧ w' = w := by
  go_enter Tryz.func30, Tryz.ntmps30
  go_wp2
  go_loop [3] (fun i => ∃ k : Nat, k ≤ 11 ∧ i = .int .i64 k ∧ Hid (findFrom formsL t.toList k = findFrom formsL t.toList 0)) (fun i => 11 - (intOf i).toNat)
  case atStart => exact ⟨0, by omega, rfl, rfl⟩
  case round =>
    obtain ⟨k, hk, rfl, hd⟩ := hrel
    by_cases hlt : k < 11
    · have hc := hT k hlt
      obtain ⟨u, hu⟩ : ∃ u : ByteArray, u = ⟨(formsL.getD k []).toArray⟩ := ⟨_, rfl⟩
      rw [← hu] at hc
      have HU : Hid (u.toList = formsL.getD k []) := by rw [hu]; exact toList_mk _
      clear hu hT
      cases hb : (u.toList == t.toList)
      · have hb' := hide hb
        rw [HU.out] at hb'
        have hn := hide (findFrom_no formsL t.toList k hlt hb'.out)
        clear hb'
        go_wp2
        go_round
        case rel => exact ⟨k + 1, by omega, by go_num, hn.out.symm.trans hd.out⟩
        case measure => simp [intOf]; omega
      · have hb' := hide hb
        rw [HU.out] at hb'
        have hn := hide ((findFrom_yes formsL t.toList k hlt hb'.out).symm.trans hd.out)
        clear hb'
        go_wp2
        go_ret
        exact ⟨by unfold isForm; rw [← hn.out, decide_eq_true hlt]; rfl, rfl⟩
    · have hn := hide ((findFrom_end formsL t.toList k (by show k = 11; omega)).symm.trans hd.out)
      go_wp2
      go_ret
      exact ⟨by unfold isForm; rw [← hn.out]; rfl, rfl⟩
end Go.Proofs.YtnanjomnldfidabGreatDoor
