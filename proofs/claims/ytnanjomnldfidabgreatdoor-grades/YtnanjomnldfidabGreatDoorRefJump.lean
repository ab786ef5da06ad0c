/-
  Package graderref: ahead, back, outer.
-/
import Derived.Test.YtnanjomnldfidabGreatDoorRefLeafToRefChk
import Derived.Test.YtnanjomnldfidabGreatDoorJumpPure
set_option linter.unusedSimpArgs false
set_option linter.unusedVariables false
set_option linter.unusedSectionVars false
namespace Go.Proofs.YtnanjomnldfidabGreatDoor
open Go.RowKit

set_option maxRecDepth 100000 in
set_option maxHeartbeats 800000 in
theorem outer_any (w : World) (v : Value) (T : Words) (hT : ToksIs w v T) (p : Nat) (hp : p < T.length) (hl : T.length ≤ 100000) :
    Calls Tryz.prog 70 #[v, .int .i64 p] w fun e w' => e = .returned (.int .i64 (outerM T p : Nat)) ∧ w' = w := by
  obtain ⟨a, cp, hv⟩ := hT.form
  have HT := hide hT
  clear hT
  subst hv
  go_enter Tryz.func70, Tryz.ntmps70
  go_wp2
  go_loop [1] (fun i => ∃ k : Nat, k ≤ p ∧ i = .int .i64 k ∧ Hid (outerL T k = outerL T p)) (fun i => (intOf i).toNat)
  case atStart => exact ⟨p, Nat.le_refl _, rfl, rfl⟩
  case round =>
    obtain ⟨k, hk, rfl, hd⟩ := hrel
    by_cases hlt : 0 < k
    · obtain ⟨f, cp', hv, hf, e0, _⟩ := (unhide HT).cells (k := k) (by omega)
      simp only [Value.slice.injEq, true_and] at hv
      obtain ⟨rfl, rfl⟩ := hv
      obtain ⟨u, hu⟩ : ∃ u, u = (T.getD k (ByteArray.empty, 0)).1 := ⟨_, rfl⟩
      rw [← hu] at e0
      have HU : Hid (wAt T k = u.toList) := by rw [hu]; rfl
      clear hu
      obtain ⟨j, rfl⟩ : ∃ j, k = j + 1 := ⟨k - 1, by omega⟩
      cases hb : (u.toList == [58])
      · have hn : Hid (outerL T (j + 1) = outerL T j) := by unfold Hid; rw [outerL, HU.out, hb]; rfl
        go_wp2
        go_round
        case rel => exact ⟨j, by omega, by go_num, hn.out.symm.trans hd.out⟩
        case measure => simp [intOf] <;> omega
      · have hn : Hid (outerL T (j + 1) = j + 1) := by unfold Hid; rw [outerL, HU.out, hb]; rfl
        go_wp2
        go_ret
        exact ⟨ret_int (by unfold outerM; rw [← hd.out, hn.out]; omega), rfl⟩
    · have hk0 : k = 0 := by omega
      subst hk0
      have hn : Hid (outerL T 0 = 0) := rfl
      clear hlt hk
      go_wp2
      go_ret
      exact ⟨ret_int (by unfold outerM; rw [← hd.out, hn.out]; rfl), rfl⟩

set_option maxRecDepth 100000 in
set_option maxHeartbeats 800000 in
theorem back_any (w : World) (v : Value) (T : Words) (hT : ToksIs w v T) (p : Nat) (hp : p ≤ T.length) (hl : T.length ≤ 100000) :
    Calls Tryz.prog 67 #[v, .int .i64 p] w fun e w' => e = .returned (.int .i64 (backM T p : Nat)) ∧ w' = w := by
  obtain ⟨a, cp, hv⟩ := hT.form
  have HT := hide hT
  clear hT
  subst hv
  go_enter Tryz.func67, Tryz.ntmps67
  go_wp2
  go_loop [1, 5] (fun i d => ∃ k : Nat, ∃ n : Int, k ≤ p ∧ i = .int .i64 ((k : Int) - 1) ∧ d = .int .i64 n ∧ -(p : Int) + k ≤ n ∧ n ≤ p - k ∧ Hid (backL T k n = backL T p 0)) (fun i _ => (intOf i + 1).toNat)
  case atStart => exact ⟨p, 0, Nat.le_refl _, rfl, rfl, by omega, by omega, rfl⟩
  case round =>
    obtain ⟨k, n, hk, rfl, rfl, b3, b4, hd⟩ := hrel
    by_cases hlt : 0 < k
    · obtain ⟨j, rfl⟩ : ∃ j, k = j + 1 := ⟨k - 1, by omega⟩
      obtain ⟨f, cp', hv, hf, e0, _⟩ := (unhide HT).cells (k := j) (by omega)
      simp only [Value.slice.injEq, true_and] at hv
      obtain ⟨rfl, rfl⟩ := hv
      obtain ⟨u, hu⟩ : ∃ u, u = (T.getD j (ByteArray.empty, 0)).1 := ⟨_, rfl⟩
      rw [← hu] at e0
      have HU : Hid (backL T (j + 1) n = if ((u.toList == wUntil) || (u.toList == wRepeat)) = true then backL T j (n + 1) else if (u.toList == wBegin) = true then (if (n == 0) = true then j else backL T j (n - 1)) else backL T j n) := by rw [hu]; rfl
      clear hu
      unfold wUntil wRepeat wBegin at HU
      rw [show ((j + 1 : Nat) : Int) - 1 = (j : Int) by omega]
      cases hb1 : (u.toList == [117, 110, 116, 105, 108])
      · cases hb2 : (u.toList == [114, 101, 112, 101, 97, 116])
        · cases hb3 : (u.toList == [98, 101, 103, 105, 110])
          · have hn : Hid (backL T (j + 1) n = backL T j n) := by unfold Hid; rw [HU.out, hb1, hb2, hb3]; rfl
            go_wp2
            go_round
            case rel => exact ⟨j, n, by omega, by go_num, rfl, by omega, by omega, hn.out.symm.trans hd.out⟩
            case measure => simp [intOf] <;> omega
          · cases hb4 : (n == 0)
            · have hn : Hid (backL T (j + 1) n = backL T j (n - 1)) := by unfold Hid; rw [HU.out, hb1, hb2, hb3, hb4]; rfl
              go_wp2
              go_round
              case rel => exact ⟨j, n - 1, by omega, by go_num, by go_num, by omega, by omega, hn.out.symm.trans hd.out⟩
              case measure => simp [intOf] <;> omega
            · have hn : Hid (backL T (j + 1) n = j) := by unfold Hid; rw [HU.out, hb1, hb2, hb3, hb4]; rfl
              go_wp2
              go_ret
              exact ⟨ret_int (by unfold backM; rw [← hd.out, hn.out]), rfl⟩
        · have hn : Hid (backL T (j + 1) n = backL T j (n + 1)) := by unfold Hid; rw [HU.out, hb1, hb2]; rfl
          go_wp2
          go_round
          case rel => exact ⟨j, n + 1, by omega, by go_num, by go_num, by omega, by omega, hn.out.symm.trans hd.out⟩
          case measure => simp [intOf] <;> omega
      · have hn : Hid (backL T (j + 1) n = backL T j (n + 1)) := by unfold Hid; rw [HU.out, hb1]; rfl
        go_wp2
        go_round
        case rel => exact ⟨j, n + 1, by omega, by go_num, by go_num, by omega, by omega, hn.out.symm.trans hd.out⟩
        case measure => simp [intOf] <;> omega
    · have hk0 : k = 0 := by omega
      subst hk0
      have hn : Hid (backL T 0 n = 0) := rfl
      clear hlt hk
      go_wp2
      go_ret
      exact ⟨ret_int (by unfold backM; rw [← hd.out, hn.out]; rfl), rfl⟩

set_option maxRecDepth 100000 in
set_option maxHeartbeats 1600000 in
theorem ahead_any (w : World) (v : Value) (T : Words) (hT : ToksIs w v T) (p : Nat) (hp : p ≤ T.length) (hl : T.length ≤ 100000) (up down : ByteArray) (els : Bool) :
    Calls Tryz.prog 66 #[v, .int .i64 p, .string up, .string down, .bool els] w fun e w' => e = .returned (.int .i64 (aheadM T p up.toList down.toList els : Nat)) ∧ w' = w := by
  obtain ⟨a, cp, hv⟩ := hT.form
  have HT := hide hT
  clear hT
  subst hv
  go_enter Tryz.func66, Tryz.ntmps66
  go_wp2
  go_loop [1, 11] (fun i d => ∃ k : Nat, ∃ n : Int, k ≤ T.length ∧ p ≤ k ∧ i = .int .i64 k ∧ d = .int .i64 n ∧ -(k : Int) + p ≤ n ∧ n ≤ k - p ∧ Hid (k + aheadL up.toList down.toList els (T.drop k) n = aheadM T p up.toList down.toList els)) (fun i _ => T.length - (intOf i).toNat)
  case atStart => exact ⟨p, 0, hp, Nat.le_refl _, rfl, rfl, by omega, by omega, rfl⟩
  case round =>
    obtain ⟨k, n, hk, hk2, rfl, rfl, b1, b2, hd⟩ := hrel
    by_cases hlt : k < T.length
    · obtain ⟨f, cp', hv, hf, e0, _⟩ := (unhide HT).cells (k := k) (by omega)
      simp only [Value.slice.injEq, true_and] at hv
      obtain ⟨rfl, rfl⟩ := hv
      obtain ⟨u, hu⟩ : ∃ u, u = (T.getD k (ByteArray.empty, 0)).1 := ⟨_, rfl⟩
      rw [← hu] at e0
      have HU : Hid (wAt T k = u.toList) := by rw [hu]; rfl
      clear hu
      cases hh : hitN n u.toList down.toList els
      · have hn : Hid (k + 1 + aheadL up.toList down.toList els (T.drop (k + 1)) (depN n u.toList up.toList down.toList) = aheadM T p up.toList down.toList els) := by
          unfold Hid
          rw [← hd.out, aheadL_on T k _ _ els n hlt (by rw [HU.out]; exact hh), HU.out]; omega
        have hdp : ∀ m, Hid (depN n u.toList up.toList down.toList = m) → Hid (k + 1 + aheadL up.toList down.toList els (T.drop (k + 1)) m = aheadM T p up.toList down.toList els) := by
          intro m hm; rw [← hm.out]; exact hn
        have hstop : Hid (hitN n u.toList down.toList els = false) := hh
        have hA : (n == 0) = false ∨ ((n == 0) = true ∧ (u.toList == down.toList) = false ∧ (els = false ∨ (els = true ∧ (u.toList == wElse) = false))) := by
          unfold hitN at hh
          revert hh
          cases n == 0 <;> cases u.toList == down.toList <;> cases els <;> cases u.toList == wElse <;> simp
        have hB : ((u.toList == up.toList) = true ∧ Hid (depN n u.toList up.toList down.toList = n + 1)) ∨ ((u.toList == up.toList) = false ∧ (u.toList == down.toList) = true ∧ Hid (depN n u.toList up.toList down.toList = n - 1))
            ∨ ((u.toList == up.toList) = false ∧ (u.toList == down.toList) = false ∧ (up.toList == wBegin) = false ∧ Hid (depN n u.toList up.toList down.toList = n))
            ∨ ((u.toList == up.toList) = false ∧ (u.toList == down.toList) = false ∧ (up.toList == wBegin) = true ∧ (u.toList == wUntil) = true ∧ Hid (depN n u.toList up.toList down.toList = n - 1))
            ∨ ((u.toList == up.toList) = false ∧ (u.toList == down.toList) = false ∧ (up.toList == wBegin) = true ∧ (u.toList == wUntil) = false ∧ Hid (depN n u.toList up.toList down.toList = n)) := by
          unfold Hid depN
          cases u.toList == up.toList <;> cases u.toList == down.toList <;> cases up.toList == wBegin <;> cases u.toList == wUntil <;> simp
        clear hh hn hd
        unfold wElse at hA
        unfold wBegin wUntil at hB
        rcases hB with ⟨q1, hm⟩ | ⟨q1, q2, hm⟩ | ⟨q1, q2, q3, hm⟩ | ⟨q1, q2, q3, q4, hm⟩ | ⟨q1, q2, q3, q4, hm⟩ <;> rcases hA with z1 | ⟨z1, z2, (rfl | ⟨rfl, z4⟩)⟩
        all_goals first
          | (exfalso; rw [z2] at q2; cases q2; done)
          | (have hfin := hdp _ hm
             clear hdp hm
             go_wp2
             go_round
             case rel => exact ⟨k + 1, _, by omega, by omega, by go_num, by go_num, by omega, by omega, hfin⟩
             case measure => simp [intOf] <;> omega)
      · have hn : Hid (k = aheadM T p up.toList down.toList els) := by
          unfold Hid
          rw [← hd.out, aheadL_hit T k _ _ els n hlt (by rw [HU.out]; exact hh)]; omega
        have hA : (n == 0) = true ∧ ((u.toList == down.toList) = true ∨ ((u.toList == down.toList) = false ∧ els = true ∧ (u.toList == wElse) = true)) := by
          unfold hitN at hh
          revert hh
          cases n == 0 <;> cases u.toList == down.toList <;> cases els <;> cases u.toList == wElse <;> simp
        unfold wElse at hA
        clear hh hd
        obtain ⟨z1, (z2 | ⟨z2, rfl, z3⟩)⟩ := hA
        all_goals
          go_wp2
          go_ret
          exact ⟨ret_int (by rw [← hn.out]), rfl⟩
    · have hn : Hid (k = aheadM T p up.toList down.toList els) := by
        unfold Hid
        rw [← hd.out, aheadL_end T k _ _ els n (by omega)]; omega
      go_wp2
      go_ret
      exact ⟨ret_int (by rw [← hn.out]), rfl⟩
end Go.Proofs.YtnanjomnldfidabGreatDoor
