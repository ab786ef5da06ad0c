/-
  The leaves of package grader's reader: isDigits, nextWord.
-/
import Derived.Test.YtnanjomnldfidabGreatDoorProg
import Derived.WalkKit
import Derived.WalkSpells
import Derived.WalkLawsBesides
import Derived.Test.YtnanjomnldfidabGreatDoorToks
set_option linter.unusedSimpArgs false
set_option linter.unusedVariables false
set_option linter.unusedSectionVars false
namespace Go.Proofs.YtnanjomnldfidabGreatDoor
open Go.RowKit

theorem ret_int {k : IntKind} {a b : Int} (h : a = b) : Ending.returned (.int k a) = .returned (.int k b) := by rw [h]

theorem ret_bool {a b : Bool} (h : a = b) : Ending.returned (.bool a) = .returned (.bool b) := by rw [h]

theorem drop_cons (s : ByteArray) (k : Nat) (h : k < s.size) : s.data.toList.drop k = s[k] :: s.data.toList.drop (k + 1) := by
  have h' : k < s.data.toList.length := by simpa using h
  rw [List.drop_eq_getElem_cons h']
  rfl
theorem drop_end (s : ByteArray) (k : Nat) (h : ¬ k < s.size) : s.data.toList.drop k = [] := by
  apply List.drop_of_length_le
  have : s.data.toList.length = s.size := by simp
  omega

theorem digs_yes (s : ByteArray) (k : Nat) (h : k < s.size) (h1 : 48 ≤ (s[k].toNat : Int)) (h2 : (s[k].toNat : Int) ≤ 57) : digs (s.data.toList.drop k) = digs (s.data.toList.drop (k + 1)) := by
  rw [drop_cons s k h]
  simp only [digs, List.all_cons]
  have : (decide (48 ≤ s[k]) && decide (s[k] ≤ 57)) = true := by simp [UInt8.le_iff_toNat_le]; omega
  rw [this, Bool.true_and]
theorem digs_no (s : ByteArray) (k : Nat) (h : k < s.size) (h1 : (s[k].toNat : Int) < 48 ∨ 57 < (s[k].toNat : Int)) : digs (s.data.toList.drop k) = false := by
  rw [drop_cons s k h]
  simp only [digs, List.all_cons]
  have : (decide (48 ≤ s[k]) && decide (s[k] ≤ 57)) = false := by
    rw [Bool.eq_false_iff]; simp [UInt8.le_iff_toNat_le]; omega
  rw [this, Bool.false_and]

set_option maxHeartbeats 400000 in
theorem isDigits_any (s : ByteArray) (w : World) (hs : s.size ≤ maxLen) :
    Calls Tryz.prog 51 #[.string s] w fun e w' => e = .returned (.bool (digs s.data.toList)) ∧ w' = w := by
  unfold maxLen at hs
  go_enter Tryz.func51, Tryz.ntmps51
  go_wp2
  go_loop [3] (fun i => ∃ k : Nat, k ≤ s.size ∧ i = .int .i64 k ∧ Hid (digs (s.data.toList.drop k) = digs s.data.toList)) (fun i => s.size - (intOf i).toNat)
  case atStart => exact ⟨0, Nat.zero_le _, rfl, by simp [Hid]⟩
  case round =>
    obtain ⟨k, hk, rfl, hd⟩ := hrel
    by_cases hlt : k < s.size
    · by_cases h1 : 48 ≤ (s[k].toNat : Int)
      · by_cases h2 : (s[k].toNat : Int) ≤ 57
        · have hst : Hid _ := digs_yes s k hlt h1 h2
          go_wp2
          go_round
          case rel => exact ⟨k + 1, by omega, by go_num, hst.out.symm.trans hd.out⟩
          case measure => simp [intOf]; omega
        · have hst : Hid _ := digs_no s k hlt (.inr (by omega))
          go_wp2
          go_ret
          exact ⟨ret_bool (by rw [← hd.out, hst.out]), rfl⟩
      · have hst : Hid _ := digs_no s k hlt (.inl (by omega))
        go_wp2
        go_ret
        exact ⟨ret_bool (by rw [← hd.out, hst.out]), rfl⟩
    · go_wp2
      go_ret
      exact ⟨ret_bool (by rw [← hd.out, drop_end s k hlt]; rfl), rfl⟩

theorem blankEnd_yes (s : ByteArray) (k : Nat) (h : k < s.size) (h1 : (s[k].toNat : Int) ≤ 32) : blankEnd s.data.toList k = blankEnd s.data.toList (k + 1) := by
  unfold blankEnd
  rw [drop_cons s k h, List.takeWhile_cons, if_pos (by simp; omega)]
  simp only [List.length_cons]; omega
theorem blankEnd_no (s : ByteArray) (k : Nat) (h : k < s.size) (h1 : 32 < (s[k].toNat : Int)) : blankEnd s.data.toList k = k := by
  unfold blankEnd
  rw [drop_cons s k h, List.takeWhile_cons, if_neg (by simp; omega)]
  rfl
theorem blankEnd_end (s : ByteArray) (k : Nat) (h : ¬ k < s.size) : blankEnd s.data.toList k = k := by
  unfold blankEnd
  rw [drop_end s k h]; rfl
theorem wordEnd_yes (s : ByteArray) (k : Nat) (h : k < s.size) (h1 : 32 < (s[k].toNat : Int)) : wordEnd s.data.toList k = wordEnd s.data.toList (k + 1) := by
  unfold wordEnd
  rw [drop_cons s k h, List.takeWhile_cons, if_pos (by simp; omega)]
  simp only [List.length_cons]; omega
theorem wordEnd_no (s : ByteArray) (k : Nat) (h : k < s.size) (h1 : (s[k].toNat : Int) ≤ 32) : wordEnd s.data.toList k = k := by
  unfold wordEnd
  rw [drop_cons s k h, List.takeWhile_cons, if_neg (by simp; omega)]
  rfl
theorem wordEnd_end (s : ByteArray) (k : Nat) (h : ¬ k < s.size) : wordEnd s.data.toList k = k := by
  unfold wordEnd
  rw [drop_end s k h]; rfl

set_option maxHeartbeats 800000 in
theorem nextWord_any (s : ByteArray) (from' : Nat) (w : World) (hs : s.size ≤ maxLen) (hf : from' ≤ s.size) :
    Calls Tryz.prog 36 #[.string s, .int .i64 from'] w fun e w' =>
      e = .returned (.tuple #[.int .i64 (blankEnd s.data.toList from' : Nat), .int .i64 (wordEnd s.data.toList (blankEnd s.data.toList from') : Nat)]) ∧ w' = w := by
  unfold maxLen at hs
  go_enter Tryz.func36, Tryz.ntmps36
  go_wp2
  go_loop [6] (fun i => ∃ k : Nat, k ≤ s.size ∧ i = .int .i64 k ∧ Hid (blankEnd s.data.toList k = blankEnd s.data.toList from')) (fun i => s.size - (intOf i).toNat)
  case atStart => exact ⟨from', hf, rfl, rfl⟩
  case round =>
    obtain ⟨k, hk, rfl, hd⟩ := hrel
    by_cases hlt : k < s.size ∧ ∀ h : k < s.size, (s[k].toNat : Int) ≤ 32
    · have hlt1 := hlt.1
      have h1 := hlt.2 hlt1
      have hst : Hid _ := blankEnd_yes s k hlt1 h1
      clear hlt
      go_wp2
      go_round
      case rel => exact ⟨k + 1, by omega, by go_num, hst.out.symm.trans hd.out⟩
      case measure => simp [intOf]; omega
    · have hst : Hid (blankEnd s.data.toList k = k) := by
        by_cases h : k < s.size
        · exact blankEnd_no s k h (by by_cases g : (s[k].toNat : Int) ≤ 32; exact absurd ⟨h, fun _ => g⟩ hlt; omega)
        · exact blankEnd_end s k h
      have hst2 : Hid (blankEnd s.data.toList from' = k) := hd.out.symm.trans hst.out
      have rest : (k < s.size → ∀ h : k < s.size, 32 < (s[k].toNat : Int)) := by
        intro h _
        by_cases g : (s[k].toNat : Int) ≤ 32
        · exact absurd ⟨h, fun _ => g⟩ hlt
        · omega
      clear hd hst hlt
      have kS : k ≤ s.size := hk
      by_cases hlt : k < s.size
      · have h1 := rest hlt hlt
        have h1' : decide ((s[k].toNat : Int) ≤ 32) = false := by simp; omega
        clear rest
        go_wp2
        clear h1' h1
        go_loop [7] (fun i => ∃ j : Nat, j ≤ s.size ∧ i = .int .i64 j ∧ Hid (wordEnd s.data.toList j = wordEnd s.data.toList k)) (fun i => s.size - (intOf i).toNat)
        case atStart => exact ⟨k, kS, rfl, rfl⟩
        case round =>
          obtain ⟨j, hj, rfl, hd⟩ := hrel
          by_cases hl : j < s.size
          · by_cases h1 : (s[j].toNat : Int) ≤ 32
            · have hst : Hid _ := wordEnd_no s j hl h1
              go_wp2
              go_ret2
              exact ⟨by rw [hst2.out, ← hd.out, hst.out]; rfl, rfl⟩
            · have hst : Hid _ := wordEnd_yes s j hl (by omega)
              go_wp2
              go_round
              case rel => exact ⟨j + 1, by omega, by go_num, hst.out.symm.trans hd.out⟩
              case measure => simp [intOf]; omega
          · have hst : Hid _ := wordEnd_end s j hl
            go_wp2
            go_ret2
            exact ⟨by rw [hst2.out, ← hd.out, hst.out]; rfl, rfl⟩
      · have hst : Hid _ := wordEnd_end s k hlt
        clear rest
        go_wp2
        refine wp_loop_rounds 1 ?_; rw [rounds_succ]
        go_wp2
        go_ret2
        exact ⟨by rw [hst2.out, hst.out]; rfl, rfl⟩
end Go.Proofs.YtnanjomnldfidabGreatDoor
