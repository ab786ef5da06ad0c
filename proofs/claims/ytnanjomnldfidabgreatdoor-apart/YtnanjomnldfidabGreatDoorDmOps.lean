/-
  Package grader's machine: the small functions and methods.
-/
import Derived.Test.YtnanjomnldfidabGreatDoorDmMem
import Derived.Test.YtnanjomnldfidabGreatDoorRmTwoToRmAny
set_option linter.unusedSimpArgs false
set_option linter.unusedVariables false
set_option linter.unusedSectionVars false
namespace Go.Proofs.YtnanjomnldfidabGreatDoor
open Go.RowKit

theorem and_low (x : Int) : bits BinOp.and IntKind.i64 x 65535 = x % 65536 := by
  have e : bits BinOp.and IntKind.i64 x 65535 = IntKind.i64.wrap (((BitVec.ofInt 64 x &&& BitVec.ofInt 64 65535).toNat : Nat) : Int) := rfl
  have e2 : (BitVec.ofInt 64 x &&& BitVec.ofInt 64 65535).toNat = (x % 18446744073709551616).toNat % 65536 := by
    rw [BitVec.toNat_and]
    have h1 : (BitVec.ofInt 64 65535).toNat = 2 ^ 16 - 1 := by decide
    rw [h1, Nat.and_two_pow_sub_one_eq_mod, BitVec.toNat_ofInt]
    rfl
  rw [e, e2, IntKind.wrap_i64]
  omega

/-- The steps' numbers. -/
def opOk (op : Int) : Prop := (1 ≤ op ∧ op ≤ 5) ∨ (16 ≤ op ∧ op ≤ 34)
theorem casesOp {n : Int} (h : opOk n) : n = 1 ∨ n = 2 ∨ n = 3 ∨ n = 4 ∨ n = 5 ∨ n = 16 ∨ n = 17 ∨ n = 18 ∨ n = 19 ∨ n = 20 ∨ n = 21 ∨ n = 22 ∨ n = 23 ∨ n = 24 ∨ n = 25 ∨ n = 26 ∨ n = 27 ∨ n = 28 ∨ n = 29 ∨ n = 30 ∨ n = 31 ∨ n = 32 ∨ n = 33 ∨ n = 34 := by unfold opOk at h; omega
def takesD (op : Int) : Int := if op = 3 then 1 else if op ≤ 5 then 0 else takesN (op - 16)
def givesD (op : Int) : Int := if op = 1 then 1 else if op ≤ 5 then 0 else givesN (op - 16)
def isOp (op : Int) : Bool := decide (20 ≤ op) && decide (op ≤ 29)

set_option maxRecDepth 100000 in
theorem isOperator_any (op : Int) (w : World) (h : opOk op) : Calls Tryz.prog 101 #[.int .i64 op] w fun e w' => e = .returned (.bool (isOp op)) ∧ w' = w := by
  rcases casesOp h with rfl | rfl | rfl | rfl | rfl | rfl | rfl | rfl | rfl | rfl | rfl | rfl | rfl | rfl | rfl | rfl | rfl | rfl | rfl | rfl | rfl | rfl | rfl | rfl
  all_goals
    clear h
    go_enter Tryz.func101, Tryz.ntmps101
    go_wp2
    go_ret
    exact ⟨rfl, rfl⟩
set_option maxRecDepth 100000 in
set_option maxHeartbeats 1600000 in
theorem dTakes_any (op : Int) (w : World) (h : opOk op) : Calls Tryz.prog 79 #[.int .i64 op] w fun e w' => e = .returned (.int .i64 (takesD op)) ∧ w' = w := by
  have hc := hide (isOperator_any op w h)
  rcases casesOp h with rfl | rfl | rfl | rfl | rfl | rfl | rfl | rfl | rfl | rfl | rfl | rfl | rfl | rfl | rfl | rfl | rfl | rfl | rfl | rfl | rfl | rfl | rfl | rfl
  all_goals
    clear h
    go_enter Tryz.func79, Tryz.ntmps79
    go_wp2_with (go_at_call 101; refine (unhide hc).mono ?_; rintro e w1 ⟨rfl, rfl⟩)
    go_ret
    exact ⟨rfl, rfl⟩
set_option maxRecDepth 100000 in
set_option maxHeartbeats 1600000 in
theorem dGives_any (op : Int) (w : World) (h : opOk op) : Calls Tryz.prog 80 #[.int .i64 op] w fun e w' => e = .returned (.int .i64 (givesD op)) ∧ w' = w := by
  have hc := hide (isOperator_any op w h)
  rcases casesOp h with rfl | rfl | rfl | rfl | rfl | rfl | rfl | rfl | rfl | rfl | rfl | rfl | rfl | rfl | rfl | rfl | rfl | rfl | rfl | rfl | rfl | rfl | rfl | rfl
  all_goals
    clear h
    go_enter Tryz.func80, Tryz.ntmps80
    go_wp2_with (go_at_call 101; refine (unhide hc).mono ?_; rintro e w1 ⟨rfl, rfl⟩)
    go_ret
    exact ⟨rfl, rfl⟩

set_option maxRecDepth 100000 in
theorem truth_any (v : Bool) (w : World) : Calls Tryz.prog 104 #[.bool v] w fun e w' => e = .returned (.int .i64 (oneN v)) ∧ w' = w := by
  cases v
  all_goals
    go_enter Tryz.func104, Tryz.ntmps104
    go_wp2
    go_ret
    exact ⟨rfl, rfl⟩

set_option maxRecDepth 100000 in
theorem divide_any (op a b : Int) (w : World) (ho : op = 23 ∨ op = 24) (ha : 0 ≤ a) (ha' : a < 65536) (hb : 1 ≤ b) (hb' : b < 65536) :
    Calls Tryz.prog 103 #[.int .i64 op, .int .i64 a, .int .i64 b] w fun e w' => e = .returned (.int .i64 (sumN (op - 16) a b)) ∧ w' = w := by
  have hz : (b == 0) = false := by rw [beq_eq_false_iff_ne]; omega
  rcases ho with rfl | rfl
  · have e : Hid (sumN (23 - 16) a b = a / b) := rfl
    generalize sumN (23 - 16) a b = z at e ⊢
    go_enter Tryz.func103, Tryz.ntmps103
    go_wp2
    go_ret
    exact ⟨ret_int e.out.symm, rfl⟩
  · have e : Hid (sumN (24 - 16) a b = a % b) := rfl
    generalize sumN (24 - 16) a b = z at e ⊢
    go_enter Tryz.func103, Tryz.ntmps103
    go_wp2
    go_ret
    exact ⟨ret_int e.out.symm, rfl⟩

theorem sub_low (a b : Int) : (a - b) % 65536 = (a + 65536 - b) % 65536 := by omega
set_option maxRecDepth 100000 in
set_option maxHeartbeats 1600000 in
theorem combine_any (op a b : Int) (w : World) (h0 : 20 ≤ op) (h1 : op ≤ 29) (ha : 0 ≤ a) (ha' : a < 65536) (hb : 0 ≤ b) (hb' : b < 65536) (hz : op = 23 ∨ op = 24 → b ≠ 0) :
    Calls Tryz.prog 90 #[.int .i64 op, .int .i64 a, .int .i64 b] w fun e w' => e = .returned (.int .i64 (sumN (op - 16) a b)) ∧ w' = w := by
  obtain ⟨m1, m2⟩ := mul_bd ha ha' hb hb'
  have ht := hide (fun v w' => truth_any v w')
  have hdv := hide (fun (ho : op = 23 ∨ op = 24) => divide_any op a b w ho ha ha' (by have := hz ho; omega) hb')
  have e1 : Hid (sumN (20 - 16) a b = bits BinOp.and IntKind.i64 (a + b) 65535) := by unfold Hid; rw [and_low]; rfl
  have e2 : Hid (sumN (21 - 16) a b = bits BinOp.and IntKind.i64 (a - b) 65535) := by unfold Hid; rw [and_low, sub_low]; rfl
  have e3 : Hid (sumN (22 - 16) a b = bits BinOp.and IntKind.i64 (a * b) 65535) := by unfold Hid; rw [and_low]; rfl
  have e4 : Hid (sumN (25 - 16) a b = bits BinOp.and IntKind.i64 a b) := rfl
  have e5 : Hid (sumN (26 - 16) a b = bits BinOp.or IntKind.i64 a b) := rfl
  have e6 : Hid (sumN (27 - 16) a b = bits BinOp.xor IntKind.i64 a b) := rfl
  have e7 : Hid (sumN (28 - 16) a b = oneN (a == b)) := rfl
  have e8 : Hid (sumN (29 - 16) a b = oneN (decide (a < b))) := rfl
  rcases (show op = 20 ∨ op = 21 ∨ op = 22 ∨ op = 25 ∨ op = 26 ∨ op = 27 ∨ op = 23 ∨ op = 24 ∨ op = 28 ∨ op = 29 by omega) with rfl | rfl | rfl | rfl | rfl | rfl | rfl | rfl | rfl | rfl
  · generalize sumN (20 - 16) a b = z at e1 ⊢
    clear hz h0 h1 m1 m2 hdv
    go_enter Tryz.func90, Tryz.ntmps90
    go_wp2
    go_ret
    exact ⟨ret_int e1.out.symm, rfl⟩
  · generalize sumN (21 - 16) a b = z at e2 ⊢
    clear hz h0 h1 m1 m2 hdv
    go_enter Tryz.func90, Tryz.ntmps90
    go_wp2
    go_ret
    exact ⟨ret_int e2.out.symm, rfl⟩
  · generalize sumN (22 - 16) a b = z at e3 ⊢
    clear hz h0 h1 hdv
    go_enter Tryz.func90, Tryz.ntmps90
    go_wp2
    go_ret
    exact ⟨ret_int e3.out.symm, rfl⟩
  · generalize sumN (25 - 16) a b = z at e4 ⊢
    clear hz h0 h1 m1 m2 hdv
    go_enter Tryz.func90, Tryz.ntmps90
    go_wp2
    go_ret
    exact ⟨ret_int e4.out.symm, rfl⟩
  · generalize sumN (26 - 16) a b = z at e5 ⊢
    clear hz h0 h1 m1 m2 hdv
    go_enter Tryz.func90, Tryz.ntmps90
    go_wp2
    go_ret
    exact ⟨ret_int e5.out.symm, rfl⟩
  · generalize sumN (27 - 16) a b = z at e6 ⊢
    clear hz h0 h1 m1 m2 hdv
    go_enter Tryz.func90, Tryz.ntmps90
    go_wp2
    go_ret
    exact ⟨ret_int e6.out.symm, rfl⟩
  · have hd := hide ((unhide hdv) (.inl rfl))
    generalize sumN (23 - 16) a b = z at hd ⊢
    clear hz h0 h1 m1 m2 hdv
    go_enter Tryz.func90, Tryz.ntmps90
    go_wp2_with (go_at_call 103; refine (unhide hd).mono ?_; rintro e w1 ⟨rfl, rfl⟩)
    go_ret
    exact ⟨rfl, rfl⟩
  · have hd := hide ((unhide hdv) (.inr rfl))
    generalize sumN (24 - 16) a b = z at hd ⊢
    clear hz h0 h1 m1 m2 hdv
    go_enter Tryz.func90, Tryz.ntmps90
    go_wp2_with (go_at_call 103; refine (unhide hd).mono ?_; rintro e w1 ⟨rfl, rfl⟩)
    go_ret
    exact ⟨rfl, rfl⟩
  · have hd := hide ((unhide ht) (a == b) w)
    generalize sumN (28 - 16) a b = z at e7 ⊢
    cases hab : (a == b)
    all_goals
      rw [hab] at hd e7
      clear hz h0 h1 m1 m2 hdv ht
      go_enter Tryz.func90, Tryz.ntmps90
      go_wp2_with (go_at_call 104; refine (unhide hd).mono ?_; rintro e w1 ⟨rfl, rfl⟩)
      go_ret
      exact ⟨ret_int e7.out.symm, rfl⟩
  · have hd := hide ((unhide ht) (decide (a < b)) w)
    generalize sumN (29 - 16) a b = z at e8 ⊢
    by_cases hab : a < b
    all_goals
      clear hz h0 h1 m1 m2 hdv ht
      simp only [hab, decide_true, decide_false] at hd e8
      go_enter Tryz.func90, Tryz.ntmps90
      go_wp2_with (go_at_call 104; refine (unhide hd).mono ?_; rintro e w1 ⟨rfl, rfl⟩)
      go_ret
      exact ⟨ret_int e8.out.symm, rfl⟩

set_option maxRecDepth 100000 in
theorem clamp_any (n most : Int) (w : World) : Calls Tryz.prog 58 #[.int .i64 n, .int .i64 most] w fun e w' => e = .returned (.int .i64 (clampN n most)) ∧ w' = w := by
  by_cases q1 : n < 0
  · have e : Hid (clampN n most = 0) := by unfold Hid clampN; rw [if_pos q1]
    go_enter Tryz.func58, Tryz.ntmps58
    go_wp2
    go_ret
    exact ⟨ret_int e.out.symm, rfl⟩
  · by_cases q2 : most < n
    · have e : Hid (clampN n most = most) := by unfold Hid clampN; rw [if_neg q1, if_pos q2]
      go_enter Tryz.func58, Tryz.ntmps58
      go_wp2
      go_ret
      exact ⟨ret_int e.out.symm, rfl⟩
    · have e : Hid (clampN n most = n) := by unfold Hid clampN; rw [if_neg q1, if_neg q2]
      go_enter Tryz.func58, Tryz.ntmps58
      go_wp2
      go_ret
      exact ⟨ret_int e.out.symm, rfl⟩
end Go.Proofs.YtnanjomnldfidabGreatDoor
