/-
  Package graderref: digits, Value, isName, Split.
-/
import Derived.Test.YtepckhdnlfajbaaDoorRdWords
import Derived.Test.YtepckhdnlfajbaaDoorLeaf
import Derived.Test.YtepckhdnlfajbaaDoorListed
import Derived.Test.YtepckhdnlfajbaaDoorRefPure
set_option linter.unusedSimpArgs false
set_option linter.unusedVariables false
set_option linter.unusedSectionVars false
namespace Go.Proofs.YtepckhdnlfajbaaDoor
open Go.RowKit

set_option maxHeartbeats 400000 in
theorem refDigits_any (s : ByteArray) (w : World) (hs : s.size ≤ maxLen) :
    Calls Tryd.prog 31 #[.string s] w fun e w' => e = .returned (.bool (refDigs s.toList)) ∧ w' = w := by
  unfold maxLen at hs
  have hno : Hid (digs s.data.toList = false → refDigs s.toList = false) := by
    intro h; unfold refDigs; rw [ByteArray.toList_eq, h]; rfl
  have hyes : Hid (digs s.data.toList = true → refDigs s.toList = decide ((0 : Int) < s.size)) := by
    intro h; unfold refDigs; rw [ByteArray.toList_eq, h, Bool.true_and]
    cases hl : s.data.toList with
    | nil => have := len_data s; rw [hl] at this; simp at this; simp [← this]
    | cons a l => have := len_data s; rw [hl] at this; simp at this; simp [← this]
  go_enter Tryd.func31, Tryd.ntmps31
  go_wp2
  go_loop [3] (fun i => ∃ k : Nat, k ≤ s.size ∧ i = .int .i64 k ∧ Hid (digs (s.data.toList.drop k) = digs s.data.toList)) (fun i => s.size - (intOf i).toNat)
  case atStart => exact ⟨0, Nat.zero_le _, rfl, by simp [Hid]⟩
  case round =>
    obtain ⟨k, hk, rfl, hd⟩ := hrel
    by_cases hlt : k < s.size
    · by_cases h1 : 48 ≤ (s[k].toNat : Int)
      · by_cases h2 : (s[k].toNat : Int) ≤ 57
        · have hst : Hid _ := digs_yes s k hlt h1 h2
          go_wp2
          go_round
          case rel => exact ⟨k + 1, by omega, by go_num, hst.out.symm.trans hd.out⟩
          case measure => simp [intOf]; omega
        · have hst : Hid _ := digs_no s k hlt (.inr (by omega))
          go_wp2
          go_ret
          exact ⟨ret_bool (by rw [hno.out (by rw [← hd.out, hst.out])]), rfl⟩
      · have hst : Hid _ := digs_no s k hlt (.inl (by omega))
        go_wp2
        go_ret
        exact ⟨ret_bool (by rw [hno.out (by rw [← hd.out, hst.out])]), rfl⟩
    · have hy : Hid (refDigs s.toList = decide ((0 : Int) < s.size)) := hyes.out (by rw [← hd.out, drop_end s k hlt]; rfl)
      go_wp2
      go_ret
      exact ⟨ret_bool (by rw [hy.out, decide_eq_decide]; omega), rfl⟩

theorem refDigits_is (t : ByteArray) (w : World) (hs : t.size ≤ maxLen) (v : Bool) (h : refDigs t.toList = v) :
    Calls Tryd.prog 31 #[.string t] w fun e w' => e = .returned (.bool v) ∧ w' = w := by
  rw [← h]; exact refDigits_any t w hs

set_option maxRecDepth 100000 in
set_option maxHeartbeats 800000 in
theorem refValue_any (t : ByteArray) (w : World) (hs : t.size ≤ maxLen) :
    Calls Tryd.prog 28 #[.string t] w fun e w' => e = .returned (.int .i64 (refVal t.toList)) ∧ w' = w := by
  cases hg : refDigs t.toList with
  | false =>
    have hv : Hid (refVal t.toList = -1) := by unfold Hid refVal; rw [if_neg (by rw [hg]; decide)]
    have HG := hide hg
    clear hg
    go_enter Tryd.func28, Tryd.ntmps28
    go_wp2_with (go_at_call 31; refine (refDigits_is t _ hs false HG.out).mono ?_; rintro e w1 ⟨rfl, rfl⟩)
    go_ret
    exact ⟨ret_int hv.out.symm, rfl⟩
  | true =>
    have hdg : Hid (digs t.data.toList = true) := by unfold refDigs at hg; rw [ByteArray.toList_eq] at hg; simp at hg; exact hg.1
    by_cases h5 : 5 < t.size
    · have hv : Hid (refVal t.toList = -1) := by unfold Hid refVal numVal; rw [if_pos hg, toList_len, if_pos h5]
      have HG := hide hg
      unfold maxLen at hs
      clear hg
      go_enter Tryd.func28, Tryd.ntmps28
      go_wp2_with (go_at_call 31; refine (refDigits_is t _ hs true HG.out).mono ?_; rintro e w1 ⟨rfl, rfl⟩)
      go_ret
      exact ⟨ret_int hv.out.symm, rfl⟩
    · have hv : Hid (refVal t.toList = if 65535 < numTo t t.size then -1 else numTo t t.size) := by
        unfold Hid refVal numVal; rw [if_pos hg, toList_len, if_neg h5, numTo_all]; by_cases hv : 65535 < numOf t.toList <;> simp [hv]
      have HG := hide hg
      unfold maxLen at hs
      clear hg
      go_enter Tryd.func28, Tryd.ntmps28
      go_wp2_with (go_at_call 31; refine (refDigits_is t _ hs true HG.out).mono ?_; rintro e w1 ⟨rfl, rfl⟩)
      go_loop [4, 5] (fun n i => ∃ k : Nat, k ≤ t.size ∧ i = .int .i64 k ∧ n = .int .i64 (numTo t k)) (fun _ i => t.size - (intOf i).toNat)
      case atStart => exact ⟨0, by omega, rfl, rfl⟩
      case round =>
        obtain ⟨k, hk, rfl, rfl⟩ := hrel
        obtain ⟨b1, b2⟩ := numTo_small hdg.out k hk (by omega)
        by_cases hlt : k < t.size
        · obtain ⟨d1, d2⟩ := digs_at hdg.out k hlt
          have hst := hide (numTo_succ t k hlt)
          go_wp2
          go_round
          case rel => exact ⟨k + 1, by omega, by go_num, by rw [hst.out]⟩
          case measure => simp [intOf]; omega
        · have hks : k = t.size := by omega
          subst hks
          by_cases hb : 65536 ≤ numTo t t.size
          · go_wp2
            go_ret
            exact ⟨ret_int (by rw [hv.out, if_pos (by omega)]), rfl⟩
          · go_wp2
            go_ret
            exact ⟨ret_int (by rw [hv.out, if_neg (by omega)]), rfl⟩

set_option maxRecDepth 100000 in
set_option maxHeartbeats 800000 in
theorem refIsName_any (t : ByteArray) (w : World) (hs : t.size ≤ maxLen) (hF : WordsAt w 0 formsL) :
    Calls Tryd.prog 20 #[.string t] w fun e w' => e = .returned (.bool (refName t.toList)) ∧ w' = w := by
  have HF := hide hF
  clear hF
  cases hg : refDigs t.toList
  · have hv : Hid (refName t.toList = !isForm t.toList) := by unfold Hid refName; rw [hg]; rfl
    have HG := hide hg
    clear hg
    go_enter Tryd.func20, Tryd.ntmps20
    go_wp2_with (first | (go_at_call 31; refine (refDigits_is t _ hs false HG.out).mono ?_; rintro e w1 ⟨rfl, rfl⟩) | (go_at_call 26; refine (refForm_any t _ HF.out).mono ?_; rintro e w1 ⟨rfl, rfl⟩))
    go_ret
    exact ⟨ret_bool (by rw [hv.out]), rfl⟩
  · have hv : Hid (refName t.toList = false) := by unfold Hid refName; rw [hg]; rfl
    have HG := hide hg
    clear hg
    go_enter Tryd.func20, Tryd.ntmps20
    go_wp2_with (first | (go_at_call 31; refine (refDigits_is t _ hs true HG.out).mono ?_; rintro e w1 ⟨rfl, rfl⟩) | (go_at_call 26; refine (refForm_any t _ HF.out).mono ?_; rintro e w1 ⟨rfl, rfl⟩))
    go_ret
    exact ⟨ret_bool (by rw [hv.out]), rfl⟩
end Go.Proofs.YtepckhdnlfajbaaDoor
