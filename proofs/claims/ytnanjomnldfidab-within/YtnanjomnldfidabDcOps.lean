/-
  Package grader's code: leads, instructionSize, instructionAt, endsARun.
-/
import Derived.Test.YtnanjomnldfidabDmNew
import Derived.Test.YtnanjomnldfidabVerPure
import Derived.Test.YtnanjomnldfidabLeaf
set_option linter.unusedSimpArgs false
set_option linter.unusedVariables false
set_option linter.unusedSectionVars false
namespace Go.Proofs.Ytnanjomnldfidab
open Go.RowKit

set_option maxRecDepth 100000 in
set_option maxHeartbeats 400000 in
theorem leads_any (op : Int) (w : World) : Calls Try.prog 28 #[.int .i64 op] w fun e w' => e = .returned (.bool (leadI op)) ∧ w' = w := by
  by_cases c2 : op = 2
  · subst c2
    go_enter Try.func28, Try.ntmps28
    go_wp2
    go_ret
    exact ⟨rfl, rfl⟩
  by_cases c3 : op = 3
  · subst c3
    go_enter Try.func28, Try.ntmps28
    go_wp2
    go_ret
    exact ⟨rfl, rfl⟩
  by_cases c4 : op = 4
  · subst c4
    go_enter Try.func28, Try.ntmps28
    go_wp2
    go_ret
    exact ⟨rfl, rfl⟩
  have b2 : (op == 2) = false := by simpa using c2
  have b3 : (op == 3) = false := by simpa using c3
  have b4 : (op == 4) = false := by simpa using c4
  have hl : leadI op = false := by unfold leadI; rw [b2, b3, b4]; rfl
  rw [hl]
  clear hl c2 c3 c4
  go_enter Try.func28, Try.ntmps28
  go_wp2
  go_ret
  exact ⟨rfl, rfl⟩

set_option maxRecDepth 100000 in
set_option maxHeartbeats 400000 in
theorem insSize_any (op : Int) (w : World) : Calls Try.prog 15 #[.int .i64 op] w fun e w' => e = .returned (.int .i64 (szI op : Nat)) ∧ w' = w := by
  by_cases c1 : op = 1
  · subst c1
    go_enter Try.func15, Try.ntmps15
    go_wp2
    go_ret
    exact ⟨rfl, rfl⟩
  have b1 : (op == 1) = false := by simpa using c1
  have hl := hide (leads_any op w)
  by_cases cl : leadI op = true
  · have hs : szI op = 3 := by
      unfold leadI at cl; simp at cl
      unfold szI; rw [if_pos (by omega)]
    rw [cl] at hl
    rw [hs]
    clear cl hs c1
    go_enter Try.func15, Try.ntmps15
    go_wp2_with fail
    refine (unhide hl).mono ?_
    rintro e w1 ⟨rfl, rfl⟩
    clear hl
    go_wp2
    go_ret
    exact ⟨rfl, rfl⟩
  · have cl' : leadI op = false := by simpa using cl
    have hn : ¬ (op = 1 ∨ op = 2 ∨ op = 3 ∨ op = 4) := by
      unfold leadI at cl'; simp at cl'; omega
    rw [cl'] at hl
    by_cases c0 : op = 0
    · subst c0
      clear cl cl' c1 hn
      go_enter Try.func15, Try.ntmps15
      go_wp2_with fail
      refine (unhide hl).mono ?_
      rintro e w1 ⟨rfl, rfl⟩
      clear hl
      go_wp2
      go_ret
      exact ⟨rfl, rfl⟩
    by_cases c5 : op = 5
    · subst c5
      clear cl cl' c1 hn
      go_enter Try.func15, Try.ntmps15
      go_wp2_with fail
      refine (unhide hl).mono ?_
      rintro e w1 ⟨rfl, rfl⟩
      clear hl
      go_wp2
      go_ret
      exact ⟨rfl, rfl⟩
    have b0 : (op == 0) = false := by simpa using c0
    have b5 : (op == 5) = false := by simpa using c5
    by_cases hr : 16 ≤ op ∧ op ≤ 34
    · have hs : szI op = 1 := by unfold szI; rw [if_neg hn, if_pos (by omega)]
      rw [hs]
      obtain ⟨r1, r2⟩ := hr
      clear cl cl' c1 hn c0 c5 hs
      go_enter Try.func15, Try.ntmps15
      go_wp2_with fail
      refine (unhide hl).mono ?_
      rintro e w1 ⟨rfl, rfl⟩
      clear hl
      go_wp2
      go_ret
      exact ⟨rfl, rfl⟩
    · have hs : szI op = 0 := by unfold szI; rw [if_neg hn, if_neg (by omega)]
      rw [hs]
      by_cases r1 : 16 ≤ op
      · have r2 : ¬ op ≤ 34 := fun h => hr ⟨r1, h⟩
        clear cl cl' c1 hn c0 c5 hs hr
        go_enter Try.func15, Try.ntmps15
        go_wp2_with fail
        refine (unhide hl).mono ?_
        rintro e w1 ⟨rfl, rfl⟩
        clear hl
        go_wp2
        go_ret
        exact ⟨rfl, rfl⟩
      · clear cl cl' c1 hn c0 c5 hs hr
        go_enter Try.func15, Try.ntmps15
        go_wp2_with fail
        refine (unhide hl).mono ?_
        rintro e w1 ⟨rfl, rfl⟩
        clear hl
        go_wp2
        go_ret
        exact ⟨rfl, rfl⟩

theorem atC_is (s : ByteArray) (k : Nat) (h : k < s.size) : atC s.toList (k : Int) = s[k] := by
  unfold atC
  rw [Int.toNat_natCast, ByteArray.toList_eq]
  have h' : k < s.data.toList.length := by simpa using h
  simp only [List.getD]
  rw [List.getElem?_eq_getElem h']
  rfl

theorem str_at (s : ByteArray) (k : Nat) (h : k < s.size) (i : Int) (hi : i = (k : Int)) (w' : World) : (Instr.index 9 (.string s) (.int .i64 i)).run Try.prog w' = .ok (.int .u8 (s[k].toNat : Int)) w' := by
  subst hi
  rw [run_index_string w' 9 s .i64 (k : Int) Try.underlying9, dif_pos ⟨by omega, by omega⟩]
  simp only [Int.toNat_natCast]
/-- What instructionAt leaves. -/
def InsPost (x : Int × Int × Int) (w : World) (e : Ending) (w' : World) : Prop :=
  e = .returned (.tuple #[.agg #[.int .i64 x.1, .int .i64 x.2.1], .int .i64 x.2.2]) ∧ Kept (fun k => k < w.heap.size) w w'

set_option maxRecDepth 100000 in
set_option maxHeartbeats 1600000 in
theorem insAt_any (s : ByteArray) (hs : s.size ≤ 1024) (p : Int) (w : World) : Calls Try.prog 12 #[.string s, .int .i64 p] w (InsPost (insA s.toList p) w) := by
  have hl : s.toList.length = s.size := toList_len s
  have hkA : ∀ o, Kept (fun k => k < w.heap.size) w (w.alloc o) := fun o => (Kept.refl _ w).alloc o
  by_cases hin : 0 ≤ p ∧ p < (s.size : Int)
  · obtain ⟨k, rfl⟩ := Int.eq_ofNat_of_zero_le hin.1
    have hk : k < s.size := by omega
    have hc := atC_is s k hk
    have hsc : sizeC s[k] = szI (s[k].toNat : Int) := sizeC_szI _ _ rfl
    have hsz := hide (fun w' => insSize_any (s[k].toNat : Int) w')
    have hle := szI_le (s[k].toNat : Int)
    have hc0 : 0 ≤ (s[k].toNat : Int) := by omega
    have hc1 : (s[k].toNat : Int) < 256 := by have := s[k].toNat_lt; omega
    have hA : insA s.toList (k : Int) = if (s.size : Int) - k < (szI (s[k].toNat : Int) : Nat) then (0, 0, 0) else if szI (s[k].toNat : Int) = 3 then ((s[k].toNat : Int), operC s.toList (k : Int), 3) else ((s[k].toNat : Int), 0, (szI (s[k].toNat : Int) : Int)) := by
      unfold insA; rw [hl, hc, hsc, if_pos hin]
    rw [hA]
    by_cases h1 : (s.size : Int) - k < (szI (s[k].toNat : Int) : Nat)
    · rw [if_pos h1]
      have post : Hid (InsPost (0, 0, 0) w (.returned (.tuple #[.agg #[.int .i64 0, .int .i64 0], .int .i64 0])) (w.alloc (.cells #[.int .i64 0, .int .i64 0] 40))) := ⟨rfl, hkA _⟩
      generalize szI (s[k].toNat : Int) = n at *
      clear hA hsc hc hkA hin
      generalize hcc : (s[k].toNat : Int) = c at *
      go_enter Try.func12, Try.ntmps12
      go_wp2_with fail
      refine ((unhide hsz) _).mono ?_
      rintro e w1 ⟨rfl, rfl⟩
      clear hsz
      go_wp2
      exact bodyPost_ret (v := .tuple #[.agg #[.int .i64 0, .int .i64 0], .int .i64 0]) (by simp [results, Try.results12, go_sem]) rfl post.out
    · rw [if_neg h1]
      by_cases h3 : szI (s[k].toNat : Int) = 3
      · rw [if_pos h3]
        rw [h3] at h1 hsz
        have hk1 : k + 1 < s.size := by omega
        have hk2 : k + 2 < s.size := by omega
        have hop : operC s.toList (k : Int) = (s[k + 1].toNat : Int) * 256 + (s[k + 2].toNat : Int) := by
          unfold operC
          rw [show ((k : Int) + 1) = ((k + 1 : Nat) : Int) by omega, show ((k : Int) + 2) = ((k + 2 : Nat) : Int) by omega, atC_is s (k + 1) hk1, atC_is s (k + 2) hk2]
        rw [hop]
        have l1 : 0 ≤ (s[k + 1].toNat : Int) := by omega
        have l1' : (s[k + 1].toNat : Int) < 256 := by have := s[k + 1].toNat_lt; omega
        have l2 : 0 ≤ (s[k + 2].toNat : Int) := by omega
        have l2' : (s[k + 2].toNat : Int) < 256 := by have := s[k + 2].toNat_lt; omega
        have i1 : ∀ w', (Instr.index 9 (.string s) (.int .i64 ((k : Int) + 1))).run Try.prog w' = .ok (.int .u8 (s[k + 1].toNat : Int)) w' := fun w' => str_at s (k + 1) hk1 _ (by omega) w'
        have i2 : ∀ w', (Instr.index 9 (.string s) (.int .i64 ((k : Int) + 2))).run Try.prog w' = .ok (.int .u8 (s[k + 2].toNat : Int)) w' := fun w' => str_at s (k + 2) hk2 _ (by omega) w'
        generalize hcc : (s[k].toNat : Int) = c at *
        generalize (s[k + 1].toNat : Int) = x at *
        generalize (s[k + 2].toNat : Int) = y at *
        have post : Hid (InsPost (c, x * 256 + y, 3) w (.returned (.tuple #[.agg #[.int .i64 c, .int .i64 (x * 256 + y)], .int .i64 3])) (w.alloc (.cells #[.int .i64 c, .int .i64 (x * 256 + y)] 40)).drew) := ⟨rfl, (hkA _).drew⟩
        clear hA hsc hc hkA hop h3
        go_enter Try.func12, Try.ntmps12
        go_wp2_with fail
        refine ((unhide hsz) _).mono ?_
        rintro e w1 ⟨rfl, rfl⟩
        clear hsz
        go_wp2
        go_region
        go_wp2
        exact bodyPost_ret (v := .tuple #[.agg #[.int .i64 c, .int .i64 (x * 256 + y)], .int .i64 3]) (by simp [results, Try.results12, go_sem]) rfl post.out
      · rw [if_neg h3]
        generalize hn : szI (s[k].toNat : Int) = n at *
        have hb3 : ((n : Int) == 3) = false := by simp; omega
        generalize hcc : (s[k].toNat : Int) = c at *
        have post : Hid (InsPost (c, 0, (n : Int)) w (.returned (.tuple #[.agg #[.int .i64 c, .int .i64 0], .int .i64 n])) (w.alloc (.cells #[.int .i64 c, .int .i64 0] 40))) := ⟨rfl, hkA _⟩
        clear hA hsc hc hkA hn
        go_enter Try.func12, Try.ntmps12
        go_wp2_with fail
        refine ((unhide hsz) _).mono ?_
        rintro e w1 ⟨rfl, rfl⟩
        clear hsz
        go_wp2
        exact bodyPost_ret (v := .tuple #[.agg #[.int .i64 c, .int .i64 0], .int .i64 n]) (by simp [results, Try.results12, go_sem]) rfl post.out
  · have hA : insA s.toList p = (0, 0, 0) := by unfold insA; rw [hl, if_neg hin]
    rw [hA]
    have post : Hid (InsPost (0, 0, 0) w (.returned (.tuple #[.agg #[.int .i64 0, .int .i64 0], .int .i64 0])) (w.alloc (.cells #[.int .i64 0, .int .i64 0] 40))) := ⟨rfl, hkA _⟩
    by_cases h0 : p < 0
    · clear hin hA hkA
      go_enter Try.func12, Try.ntmps12
      go_wp2
      exact bodyPost_ret (v := .tuple #[.agg #[.int .i64 0, .int .i64 0], .int .i64 0]) (by simp [results, Try.results12, go_sem]) rfl post.out
    · have h1 : (s.size : Int) ≤ p := by omega
      clear hin hA hkA
      go_enter Try.func12, Try.ntmps12
      go_wp2
      exact bodyPost_ret (v := .tuple #[.agg #[.int .i64 0, .int .i64 0], .int .i64 0]) (by simp [results, Try.results12, go_sem]) rfl post.out
end Go.Proofs.Ytnanjomnldfidab
