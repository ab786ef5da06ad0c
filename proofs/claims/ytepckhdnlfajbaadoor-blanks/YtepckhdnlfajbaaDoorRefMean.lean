/-
  Package graderref: ends, meaning.
-/
import Derived.Test.YtepckhdnlfajbaaDoorRefPlace
import Derived.Test.YtepckhdnlfajbaaDoorRefPure
set_option linter.unusedSimpArgs false
set_option linter.unusedVariables false
set_option linter.unusedSectionVars false
namespace Go.Proofs.YtepckhdnlfajbaaDoor
open Go.RowKit

/-- A list of words lies in memory. -/
def ToksIs (w : World) (v : Value) (T : Words) : Prop := w.ownsRow 0 51 2 v T.length (tokCells T)
theorem ToksIs.cells {w : World} {v : Value} {T : Words} (h : ToksIs w v T) {k : Nat} (hk : k < T.length) : ∃ f cp, v = .slice (some ⟨f, 0, none⟩) T.length cp ∧ f < w.heap.size ∧
    w.cell? ⟨f, k * 2, none⟩ = some (.string (T.getD k (ByteArray.empty, 0)).1) ∧ w.cell? ⟨f, k * 2 + 1, none⟩ = some (.int .i64 ((T.getD k (ByteArray.empty, 0)).2 : Int)) := by
  obtain ⟨f, cp, rfl⟩ := own_form h (by omega)
  obtain ⟨h0, h1⟩ := tokCells_at T k hk
  have e : T.getD k (ByteArray.empty, 0) = T[k] := by simp [List.getD, hk]
  rw [e]
  exact ⟨f, cp, rfl, (World.ownsRow.lt h f rfl).2, by rw [World.ownsRow.cellAt h _ (by omega)]; exact h0, by rw [World.ownsRow.cellAt h _ (by omega)]; exact h1⟩
theorem ToksIs.form {w : World} {v : Value} {T : Words} (h : ToksIs w v T) : ∃ a cp, v = .slice a T.length cp := own_slice h

set_option maxRecDepth 100000 in
set_option maxHeartbeats 800000 in
theorem ends_any (w : World) (v : Value) (T : Words) (hT : ToksIs w v T) (p : Nat) (hp : p ≤ T.length) (hl : T.length ≤ 100000) :
    Calls Tryd.prog 48 #[v, .int .i64 p] w fun e w' => e = .returned (.int .i64 (endsM T p : Nat)) ∧ w' = w := by
  obtain ⟨a, cp, hv⟩ := hT.form
  have HT := hide hT
  clear hT
  subst hv
  go_enter Tryd.func48, Tryd.ntmps48
  go_wp2
  go_loop [1] (fun i => ∃ k : Nat, k ≤ T.length ∧ i = .int .i64 k ∧ Hid (endsM T k = endsM T p)) (fun i => T.length - (intOf i).toNat)
  case atStart => exact ⟨p, hp, rfl, rfl⟩
  case round =>
    obtain ⟨k, hk, rfl, hd⟩ := hrel
    by_cases hlt : k < T.length
    · obtain ⟨f, cp', hv, hf, e0, _⟩ := (unhide HT).cells hlt
      simp only [Value.slice.injEq, true_and] at hv
      obtain ⟨rfl, rfl⟩ := hv
      obtain ⟨u, hu⟩ : ∃ u, u = (T.getD k (ByteArray.empty, 0)).1 := ⟨_, rfl⟩
      rw [← hu] at e0
      have HU : Hid (wAt T k = u.toList) := by rw [hu]; rfl
      clear hu
      cases hb : (u.toList == [59])
      · have hn := hide (endsM_no T k hlt (by rw [HU.out]; exact hb))
        go_wp2
        go_round
        case rel => exact ⟨k + 1, by omega, by go_num, hn.out.symm.trans hd.out⟩
        case measure => simp [intOf]; omega
      · have hn := hide (endsM_yes T k hlt (by rw [HU.out]; exact hb))
        go_wp2
        go_ret
        exact ⟨ret_int (by rw [← hd.out, hn.out]), rfl⟩
    · have hn := hide (endsM_end T k (by omega))
      go_wp2
      go_ret
      exact ⟨ret_int (by rw [← hd.out, hn.out]), rfl⟩

set_option maxRecDepth 100000 in
set_option maxHeartbeats 800000 in
theorem meaning_any (w : World) (v : Value) (T : Words) (hT : ToksIs w v T) (p : Nat) (hp : p ≤ T.length) (hl : T.length ≤ 100000) (s : ByteArray) :
    Calls Tryd.prog 30 #[v, .int .i64 p, .string s] w fun e w' => e = .returned (.int .i64 (meaningM T p s.toList)) ∧ w' = w := by
  obtain ⟨a, cp, hv⟩ := hT.form
  have HT := hide hT
  clear hT
  subst hv
  go_enter Tryd.func30, Tryd.ntmps30
  go_wp2
  go_loop [7, 8] (fun n i => ∃ k : Nat, k ≤ p - 1 ∧ i = .int .i64 k ∧ n = .int .i64 (meanTo T p s.toList k)) (fun _ i => p - (intOf i).toNat)
  case atStart => exact ⟨0, Nat.zero_le _, rfl, rfl⟩
  case round =>
    obtain ⟨k, hk, rfl, rfl⟩ := hrel
    obtain ⟨b1, b2⟩ := meanTo_bd T p s.toList k
    by_cases hlt : k + 1 < p
    · obtain ⟨f, cp', hv, hf, e0, _⟩ := (unhide HT).cells (k := k) (by omega)
      simp only [Value.slice.injEq, true_and] at hv
      obtain ⟨rfl, rfl⟩ := hv
      obtain ⟨f', cp'', hv, _, e1, _⟩ := (unhide HT).cells (k := k + 1) (by omega)
      simp only [Value.slice.injEq, true_and, Option.some.injEq, Addr.mk.injEq, and_true] at hv
      obtain ⟨rfl, rfl⟩ := hv
      obtain ⟨u, hu⟩ : ∃ u, u = (T.getD k (ByteArray.empty, 0)).1 := ⟨_, rfl⟩
      obtain ⟨u2, hu2⟩ : ∃ u, u = (T.getD (k + 1) (ByteArray.empty, 0)).1 := ⟨_, rfl⟩
      rw [← hu] at e0
      rw [← hu2] at e1
      have HS : Hid (meanTo T p s.toList (k + 1) = if (u.toList == [58] && u2.toList == s.toList && decide (endsM T k < p)) = true then (k : Int) + 2 else meanTo T p s.toList k) := by rw [hu, hu2]; rfl
      clear hu hu2
      obtain ⟨n1, n2⟩ := endsM_le T k (by omega)
      have hends := hide (ends_any w _ T (unhide HT) k (by omega) hl)
      cases hb : (u.toList == [58])
      · have hn : Hid (meanTo T p s.toList (k + 1) = meanTo T p s.toList k) := by unfold Hid; rw [HS.out, hb]; rfl
        go_wp2
        go_round
        case rel => exact ⟨k + 1, by omega, by go_num, by rw [hn.out]⟩
        case measure => simp [intOf]; omega
      · cases hb2 : (u2.toList == s.toList)
        · have hn : Hid (meanTo T p s.toList (k + 1) = meanTo T p s.toList k) := by unfold Hid; rw [HS.out, hb, hb2]; rfl
          go_wp2
          go_round
          case rel => exact ⟨k + 1, by omega, by go_num, by rw [hn.out]⟩
          case measure => simp [intOf]; omega
        · by_cases hle : endsM T k < p
          · have hn : Hid (meanTo T p s.toList (k + 1) = (k : Int) + 2) := by unfold Hid; rw [HS.out, hb, hb2, decide_eq_true hle]; rfl
            go_wp2_with (go_at_call 48; refine (unhide hends).mono ?_; rintro e w1 ⟨rfl, rfl⟩)
            go_round
            case rel => exact ⟨k + 1, by omega, by go_num, by rw [hn.out]⟩
            case measure => simp [intOf]; omega
          · have hn : Hid (meanTo T p s.toList (k + 1) = meanTo T p s.toList k) := by unfold Hid; rw [HS.out, hb, hb2, decide_eq_false hle]; rfl
            go_wp2_with (go_at_call 48; refine (unhide hends).mono ?_; rintro e w1 ⟨rfl, rfl⟩)
            go_round
            case rel => exact ⟨k + 1, by omega, by go_num, by rw [hn.out]⟩
            case measure => simp [intOf]; omega
    · have hk1 : Hid (k = p - 1) := by unfold Hid; omega
      go_wp2
      go_ret
      exact ⟨ret_int (by unfold meaningM; rw [← hk1.out]), rfl⟩
end Go.Proofs.YtepckhdnlfajbaaDoor
