/-
  Package grader's machine: fault in all.
  Package grader's machine: moveNumbers, useImage, useRight.
  Package grader's machine: makeStep.
  Package grader's machine as plain functions: a step, a run of steps.
-/
import Derived.Test.YtnanjomnldfidabGreatDoorDmFault
set_option linter.unusedSimpArgs false
set_option linter.unusedVariables false
set_option linter.unusedSectionVars false
namespace Go.Proofs.YtnanjomnldfidabGreatDoor
open Go.RowKit

/-- The first error of a step. -/
def faultD (M : Ma) (op : Int) : Int :=
  if M.fuel ≤ M.used then 6
  else if (M.stack.length : Int) - takesD op < 0 ∨ (op = 5 ∧ M.calls.length = 0) then 7
  else if 16 < (M.stack.length : Int) - takesD op + givesD op then 8
  else if op = 4 ∧ 12 ≤ M.calls.length then 9
  else if deniedD M op = true then 10
  else if op = 32 ∧ 64 ≤ M.out.length then 11
  else if (op = 23 ∨ op = 24) ∧ M.top = 0 then 12
  else if fencedD M op = true then 13
  else 0

section
variable {w : World} {P : Nat → Prop} {b : Nat} {M : Ma}

theorem dFault_any (h : DmIs w P b M) (hok : M.Ok) (op : Int) (ho : opOk op) :
    Calls Tryz.prog 60 #[.pointer (some ⟨b, 0, none⟩), .int .i64 op] w (DPost P b (.int .i64 (faultD M op)) M w) := by
  have o1 := hok.stack
  unfold faultD
  by_cases q1 : M.fuel ≤ M.used
  · rw [if_pos q1]
    by_cases c5 : op = 5
    · subst c5; exact dfault_o5_fuel h hok q1
    by_cases c4 : op = 4
    · subst c4; exact dfault_o4_fuel h hok q1
    by_cases c32 : op = 32
    · subst c32; exact dfault_o32_fuel h hok q1
    by_cases c23 : op = 23
    · subst c23; exact dfault_o23_fuel h hok q1
    by_cases c24 : op = 24
    · subst c24; exact dfault_o24_fuel h hok q1
    exact dfault_any_fuel h hok op ho (by simpa using c5) (by simpa using c4) (by simpa using c32) (by simpa using c23) (by simpa using c24) q1
  rw [if_neg q1]
  have q1' : M.used < M.fuel := by omega
  by_cases c5 : op = 5
  · subst c5
    have t5 : takesD 5 = 0 := rfl
    have g5 : givesD 5 = 0 := rfl
    have hd : deniedD M 5 = false := by simp [deniedD]
    have hf : fencedD M 5 = false := by simp [fencedD]
    by_cases q2 : M.calls.length = 0
    · rw [if_pos (.inr ⟨rfl, q2⟩)]; exact dfault_o5_calls h hok q1' (by rw [t5]; omega) q2
    · rw [if_neg (by rw [t5]; rintro (h1 | h1); omega; exact q2 h1.2), if_neg (by rw [t5, g5]; omega), if_neg (by omega), if_neg (by rw [hd]; simp), if_neg (by omega), if_neg (by omega), if_neg (by rw [hf]; simp)]
      exact dfault_o5_ok h hok q1' (by rw [t5]; omega) (by rw [t5, g5]; omega) (by omega) hd hf
  by_cases c4 : op = 4
  · subst c4
    have t5 : takesD 4 = 0 := rfl
    have g5 : givesD 4 = 0 := rfl
    have hd : deniedD M 4 = false := by simp [deniedD]
    have hf : fencedD M 4 = false := by simp [fencedD]
    rw [if_neg (by rw [t5]; rintro (h1 | h1); omega; omega), if_neg (by rw [t5, g5]; omega)]
    by_cases q2 : 12 ≤ M.calls.length
    · rw [if_pos ⟨rfl, q2⟩]; exact dfault_o4_deep h hok q1' (by rw [t5]; omega) (by rw [t5, g5]; omega) q2
    · rw [if_neg (fun h1 => q2 h1.2), if_neg (by rw [hd]; simp), if_neg (by omega), if_neg (by omega), if_neg (by rw [hf]; simp)]
      exact dfault_o4_ok h hok q1' (by rw [t5]; omega) (by rw [t5, g5]; omega) (by omega) hd hf
  by_cases q2 : (M.stack.length : Int) - takesD op < 0
  · rw [if_pos (.inl q2)]
    by_cases c32 : op = 32
    · subst c32; exact dfault_o32_under h hok q1' q2
    by_cases c23 : op = 23
    · subst c23; exact dfault_o23_under h hok q1' q2
    by_cases c24 : op = 24
    · subst c24; exact dfault_o24_under h hok q1' q2
    exact dfault_any_under h hok op ho (by simpa using c5) (by simpa using c4) (by simpa using c32) (by simpa using c23) (by simpa using c24) q1' q2
  rw [if_neg (fun h1 => h1.elim q2 (fun h2 => c5 h2.1))]
  have q2' : 0 ≤ (M.stack.length : Int) - takesD op := by omega
  have r4 : ¬ (op = 4 ∧ 12 ≤ M.calls.length) := fun h1 => c4 h1.1
  by_cases c32 : op = 32
  · subst c32
    have t5 : takesD 32 = 1 := rfl
    have g5 : givesD 32 = 0 := rfl
    have hf : fencedD M 32 = false := by simp [fencedD]
    have q3 : (M.stack.length : Int) - takesD 32 + givesD 32 ≤ 16 := by rw [t5, g5]; omega
    rw [if_neg (by omega), if_neg r4]
    cases hd : deniedD M 32
    · rw [if_neg (by simp)]
      by_cases q4 : 64 ≤ M.out.length
      · rw [if_pos ⟨rfl, q4⟩]; exact dfault_o32_full h hok q1' q2' q3 hd q4
      · rw [if_neg (fun h1 => q4 h1.2), if_neg (by omega), if_neg (by rw [hf]; simp)]
        exact dfault_o32_ok h hok q1' q2' q3 hd (by omega) hf
    · rw [if_pos rfl]; exact dfault_o32_denied h hok q1' q2' q3 hd
  have r32 : ¬ (op = 32 ∧ 64 ≤ M.out.length) := fun h1 => c32 h1.1
  by_cases c23 : op = 23
  · subst c23
    have t5 : takesD 23 = 2 := rfl
    have g5 : givesD 23 = 1 := rfl
    have hd : deniedD M 23 = false := by simp [deniedD]
    have hf : fencedD M 23 = false := by simp [fencedD]
    have q3 : (M.stack.length : Int) - takesD 23 + givesD 23 ≤ 16 := by rw [t5, g5]; omega
    rw [if_neg (by omega), if_neg r4, if_neg (by rw [hd]; simp), if_neg r32]
    by_cases q4 : M.top = 0
    · rw [if_pos ⟨.inl rfl, q4⟩]; exact dfault_o23_zero h hok q1' q2' q3 hd (by simpa using q4)
    · rw [if_neg (fun h1 => q4 h1.2), if_neg (by rw [hf]; simp)]
      exact dfault_o23_ok h hok q1' q2' q3 hd (by simpa using q4) hf
  by_cases c24 : op = 24
  · subst c24
    have t5 : takesD 24 = 2 := rfl
    have g5 : givesD 24 = 1 := rfl
    have hd : deniedD M 24 = false := by simp [deniedD]
    have hf : fencedD M 24 = false := by simp [fencedD]
    have q3 : (M.stack.length : Int) - takesD 24 + givesD 24 ≤ 16 := by rw [t5, g5]; omega
    rw [if_neg (by omega), if_neg r4, if_neg (by rw [hd]; simp), if_neg r32]
    by_cases q4 : M.top = 0
    · rw [if_pos ⟨.inr rfl, q4⟩]; exact dfault_o24_zero h hok q1' q2' q3 hd (by simpa using q4)
    · rw [if_neg (fun h1 => q4 h1.2), if_neg (by rw [hf]; simp)]
      exact dfault_o24_ok h hok q1' q2' q3 hd (by simpa using q4) hf
  have n5 : (op == 5) = false := by simpa using c5
  have n4 : (op == 4) = false := by simpa using c4
  have n32 : (op == 32) = false := by simpa using c32
  have n23 : (op == 23) = false := by simpa using c23
  have n24 : (op == 24) = false := by simpa using c24
  by_cases q3 : 16 < (M.stack.length : Int) - takesD op + givesD op
  · rw [if_pos q3]; exact dfault_any_over h hok op ho n5 n4 n32 n23 n24 q1' q2' q3
  rw [if_neg q3, if_neg r4]
  have q3' : (M.stack.length : Int) - takesD op + givesD op ≤ 16 := by omega
  cases hd : deniedD M op
  · rw [if_neg (by simp), if_neg r32, if_neg (fun h1 => h1.1.elim c23 c24)]
    cases hf : fencedD M op
    · rw [if_neg (by simp)]; exact dfault_any_ok h hok op ho n5 n4 n32 n23 n24 q1' q2' q3' hd hf
    · rw [if_pos rfl]; exact dfault_any_fence h hok op ho n5 n4 n32 n23 n24 q1' q2' q3' hd hf
  · rw [if_pos rfl]; exact dfault_any_denied h hok op ho n5 n4 n32 n23 n24 q1' q2' q3' hd
end
end Go.Proofs.YtnanjomnldfidabGreatDoor

set_option linter.unusedSimpArgs false
set_option linter.unusedVariables false
set_option linter.unusedSectionVars false
namespace Go.Proofs.YtnanjomnldfidabGreatDoor
open Go.RowKit

section
variable {w : World} {P : Nat → Prop} {b : Nat} {M : Ma}

set_option maxRecDepth 100000 in
set_option maxHeartbeats 800000 in
theorem move_drop (h : DmIs w P b M) (hl : M.stack.length ≤ 900) (h1 : 1 ≤ M.stack.length) :
    Calls Tryz.prog 87 #[.pointer (some ⟨b, 0, none⟩), .int .i64 17] w (DPost P b (.tuple #[]) M.pop w) := by
  have hp := hide (dPop_any h (by omega) (Ma.ne_of_len h1))
  unfold DPost at hp
  generalize M.top = tp at hp
  clear h
  go_enter Tryz.func87, Tryz.ntmps87
  go_wp2_with fail
  refine (unhide hp).mono ?_
  rintro e w1 ⟨rfl, q1, k1⟩
  have post : Hid (DPost P b (.tuple #[]) M.pop w (.returned (.tuple #[])) w1) := ⟨rfl, q1, k1⟩
  clear q1 k1 hp
  go_wp2
  go_end0
  exact post.out

set_option maxRecDepth 100000 in
set_option maxHeartbeats 800000 in
theorem move_dup (h : DmIs w P b M) (hl : M.stack.length ≤ 900) (h1 : 1 ≤ M.stack.length) :
    Calls Tryz.prog 87 #[.pointer (some ⟨b, 0, none⟩), .int .i64 16] w (DPost P b (.tuple #[]) ((M.pop.push M.top).push M.top) w) := by
  have hp := hide (dPop_any h (by omega) (Ma.ne_of_len h1))
  unfold DPost at hp
  have hlp : M.pop.stack.length ≤ 900 := by show M.stack.dropLast.length ≤ _; simp; omega
  generalize M.pop = Mp at hp hlp ⊢
  generalize M.top = tp at hp ⊢
  clear h
  go_enter Tryz.func87, Tryz.ntmps87
  go_wp2_with fail
  refine (unhide hp).mono ?_
  rintro e w1 ⟨rfl, q1, k1⟩
  go_wp2_with fail
  refine (dPush_any q1 tp (by omega)).mono ?_
  rintro e w2 ⟨rfl, q2, k2⟩
  go_wp2_with fail
  refine (dPush_any q2 tp (by show (Mp.stack ++ [tp]).length ≤ _; simp; omega)).mono ?_
  rintro e w3 ⟨rfl, q3, k3⟩
  have post : Hid (DPost P b (.tuple #[]) ((Mp.push tp).push tp) w (.returned (.tuple #[])) w3) := ⟨rfl, q3, k1.trans (k2.trans k3)⟩
  clear q1 k1 q2 k2 q3 k3 hp
  go_wp2
  go_end0
  exact post.out

set_option maxRecDepth 100000 in
set_option maxHeartbeats 800000 in
theorem move_swap (h : DmIs w P b M) (hl : M.stack.length ≤ 900) (h1 : 2 ≤ M.stack.length) :
    Calls Tryz.prog 87 #[.pointer (some ⟨b, 0, none⟩), .int .i64 18] w (DPost P b (.tuple #[]) ((M.pop.pop.push M.top).push M.pop.top) w) := by
  have hp := hide (dPop_any h (by omega) (Ma.ne_of_len (by omega)))
  unfold DPost at hp
  have hlp : M.pop.stack.length ≤ 900 := by show M.stack.dropLast.length ≤ _; simp; omega
  have hne := hide (Ma.pop_ne h1)
  have hlp2 : M.pop.pop.stack.length ≤ 900 := by show M.stack.dropLast.dropLast.length ≤ _; simp; omega
  generalize M.pop = Mp at hp hlp hlp2 hne ⊢
  generalize M.top = tp at hp ⊢
  have hp2 := hide (fun w' (h' : DmIs w' P b Mp) => dPop_any h' (by omega) hne.out)
  unfold DPost at hp2
  generalize Mp.pop = Mpp at hp2 hlp2 ⊢
  generalize Mp.top = tq at hp2 ⊢
  clear h
  go_enter Tryz.func87, Tryz.ntmps87
  go_wp2_with fail
  refine (unhide hp).mono ?_
  rintro e w1 ⟨rfl, q1, k1⟩
  go_wp2_with fail
  refine ((unhide hp2) _ q1).mono ?_
  rintro e w2 ⟨rfl, q2, k2⟩
  go_wp2_with fail
  refine (dPush_any q2 tp (by omega)).mono ?_
  rintro e w3 ⟨rfl, q3, k3⟩
  go_wp2_with fail
  refine (dPush_any q3 tq (by show (Mpp.stack ++ [tp]).length ≤ _; simp; omega)).mono ?_
  rintro e w4 ⟨rfl, q4, k4⟩
  have post : Hid (DPost P b (.tuple #[]) ((Mpp.push tp).push tq) w (.returned (.tuple #[])) w4) := ⟨rfl, q4, k1.trans (k2.trans (k3.trans k4))⟩
  clear q1 k1 q2 k2 q3 k3 q4 k4 hp hp2
  go_wp2
  go_end0
  exact post.out

set_option maxRecDepth 100000 in
set_option maxHeartbeats 800000 in
theorem move_over (h : DmIs w P b M) (hl : M.stack.length ≤ 900) (h1 : 2 ≤ M.stack.length) :
    Calls Tryz.prog 87 #[.pointer (some ⟨b, 0, none⟩), .int .i64 19] w (DPost P b (.tuple #[]) (((M.pop.pop.push M.pop.top).push M.top).push M.pop.top) w) := by
  have hp := hide (dPop_any h (by omega) (Ma.ne_of_len (by omega)))
  unfold DPost at hp
  have hlp : M.pop.stack.length ≤ 900 := by show M.stack.dropLast.length ≤ _; simp; omega
  have hne := hide (Ma.pop_ne h1)
  have hlp2 : M.pop.pop.stack.length ≤ 900 := by show M.stack.dropLast.dropLast.length ≤ _; simp; omega
  generalize M.pop = Mp at hp hlp hlp2 hne ⊢
  generalize M.top = tp at hp ⊢
  have hp2 := hide (fun w' (h' : DmIs w' P b Mp) => dPop_any h' (by omega) hne.out)
  unfold DPost at hp2
  generalize Mp.pop = Mpp at hp2 hlp2 ⊢
  generalize Mp.top = tq at hp2 ⊢
  clear h
  go_enter Tryz.func87, Tryz.ntmps87
  go_wp2_with fail
  refine (unhide hp).mono ?_
  rintro e w1 ⟨rfl, q1, k1⟩
  go_wp2_with fail
  refine ((unhide hp2) _ q1).mono ?_
  rintro e w2 ⟨rfl, q2, k2⟩
  go_wp2_with fail
  refine (dPush_any q2 tq (by omega)).mono ?_
  rintro e w3 ⟨rfl, q3, k3⟩
  go_wp2_with fail
  refine (dPush_any q3 tp (by show (Mpp.stack ++ [tq]).length ≤ _; simp; omega)).mono ?_
  rintro e w4 ⟨rfl, q4, k4⟩
  go_wp2_with fail
  refine (dPush_any q4 tq (by show ((Mpp.stack ++ [tq]) ++ [tp]).length ≤ _; simp; omega)).mono ?_
  rintro e w5 ⟨rfl, q5, k5⟩
  have post : Hid (DPost P b (.tuple #[]) (((Mpp.push tq).push tp).push tq) w (.returned (.tuple #[])) w5) := ⟨rfl, q5, k1.trans (k2.trans (k3.trans (k4.trans k5)))⟩
  clear q1 k1 q2 k2 q3 k3 q4 k4 q5 k5 hp hp2
  go_wp2
  go_end0
  exact post.out

set_option maxRecDepth 100000 in
set_option maxHeartbeats 800000 in
theorem image_at (h : DmIs w P b M) (hl : M.stack.length ≤ 900) (h1 : 1 ≤ M.stack.length) (hi : M.image.length ≤ 1000) (k : Nat) (hk : M.top = (k : Int)) (hk2 : k < M.image.length) :
    Calls Tryz.prog 88 #[.pointer (some ⟨b, 0, none⟩), .int .i64 30] w (DPost P b (.tuple #[]) (M.pop.push ((M.image.getD k 0).toNat : Int)) w) := by
  have hp := hide (dPop_any h (by omega) (Ma.ne_of_len (by omega)))
  unfold DPost at hp
  have hlp : M.pop.stack.length ≤ 900 := by show M.stack.dropLast.length ≤ _; simp; omega
  have himg : M.pop.image = M.image := rfl
  rw [← himg] at hk2 hi ⊢
  rw [hk] at hp
  generalize M.pop = Mp at hp hlp hk2 hi ⊢
  obtain ⟨x, hx⟩ : ∃ x, x = (Mp.image.getD k 0) := ⟨_, rfl⟩
  rw [← hx]
  have HX := hide hx
  clear h himg hk hx
  go_enter Tryz.func88, Tryz.ntmps88
  go_wp2_with fail
  refine (unhide hp).mono ?_
  rintro e w1 ⟨rfl, q1, k1⟩
  have hq := hide q1
  obtain ⟨vi, vs, vc, vo, hat⟩ := q1
  obtain ⟨g, cap, rfl, hglt, hcell, _, _, _⟩ := hat.poke k hk2 0
  have c2 := hat.cell 2 _ rfl
  have hlt := hat.lt
  rw [← HX.out] at hcell
  have hxb : x.toNat < 256 := x.toNat_lt
  have hwr : IntKind.i64.wrap (x.toNat : Int) = (x.toNat : Int) := wrap_in _ (by omega) (by omega)
  clear hat hp
  go_wp2_with fail
  refine (dPush_any hq.out (x.toNat : Int) (by omega)).mono ?_
  rintro e w2 ⟨rfl, q2, k2⟩
  have post : Hid (DPost P b (.tuple #[]) (Mp.push (x.toNat : Int)) w (.returned (.tuple #[])) w2) := ⟨rfl, q2, k1.trans k2⟩
  clear q2 k2 k1
  go_wp2
  go_end0
  exact post.out

set_option maxRecDepth 100000 in
set_option maxHeartbeats 800000 in
theorem image_st (h : DmIs w P b M) (hok : M.Ok) (h1 : 2 ≤ M.stack.length) (k : Nat) (hk : M.top = (k : Int)) (hk2 : k < M.image.length) :
    Calls Tryz.prog 88 #[.pointer (some ⟨b, 0, none⟩), .int .i64 31] w (DPost P b (.tuple #[]) { M.pop.pop with image := M.image.set k (byteOf M.pop.top) } w) := by
  have hl := hok.stack
  have hi := hok.image
  have hp := hide (dPop_any h (by omega) (Ma.ne_of_len (by omega)))
  unfold DPost at hp
  have hlp : M.pop.stack.length ≤ 900 := by show M.stack.dropLast.length ≤ _; simp; omega
  have hne := hide (Ma.pop_ne h1)
  obtain ⟨x1, x2⟩ := hok.top2 hne.out
  have himg : M.pop.image = M.image := rfl
  rw [← himg] at hk2 hi ⊢
  rw [hk] at hp
  generalize M.pop = Mp at hp hlp hk2 hi hne x1 x2 ⊢
  have hp2 := hide (fun w' (h' : DmIs w' P b Mp) => dPop_any h' (by omega) hne.out)
  unfold DPost at hp2
  have himg2 : Mp.pop.image = Mp.image := rfl
  have hk3 : k < Mp.pop.image.length := hk2
  have hset : { Mp.pop with image := Mp.image.set k (byteOf Mp.top) } = { Mp.pop with image := Mp.pop.image.set k (byteOf Mp.top) } := rfl
  rw [hset]
  generalize Mp.pop = Mpp at hp2 hk3 ⊢
  generalize Mp.top = tq at hp2 x1 x2 ⊢
  clear h himg hk himg2 hset
  go_enter Tryz.func88, Tryz.ntmps88
  go_wp2_with fail
  refine (unhide hp).mono ?_
  rintro e w1 ⟨rfl, q1, k1⟩
  obtain ⟨gi, ki, sa, ks, ac, kc, ao, ko, hlt, c0, c1, c2, c3, c4, c5, c6, c7, c8, c9, c10, c11, fr⟩ := q1.view
  have hq := hide q1
  clear c0 c1 c3 c4 c5 c6 c7 c8 c9 c10 c11 fr q1 hp
  go_wp2_with fail
  refine ((unhide hp2) _ hq.out).mono ?_
  rintro e w2 ⟨rfl, q2, k2⟩
  obtain ⟨vi, vs, vc, vo, hat⟩ := q2
  obtain ⟨g, cap, rfl, hglt, hcell, hfz, r1, r2⟩ := hat.poke k hk3 (byteOf tq)
  have e2 := hat.cell 2 _ rfl
  have hlt2 := hat.lt
  have hby : Hid (((byteOf tq).toNat : Int) = tq % 256) := by
    unfold Hid byteOf
    rw [UInt8.toNat_ofNat']
    omega
  have post : Hid (DPost P b (.tuple #[]) { Mpp with image := Mpp.image.set k (byteOf tq) } w (.returned (.tuple #[])) (w2.setCell ⟨g, k, none⟩ (.int .u8 ((byteOf tq).toNat : Int)))) := ⟨rfl, ⟨_, _, _, _, r1⟩, k1.trans (k2.trans r2)⟩
  rw [hby.out] at post
  clear hat r1 r2 hp2 k1 k2 c2
  go_wp2
  go_end0
  exact post.out

set_option maxRecDepth 100000 in
set_option maxHeartbeats 800000 in
theorem right_mark (h : DmIs w P b M) (hl : M.stack.length ≤ 900) (h1 : 1 ≤ M.stack.length) :
    Calls Tryz.prog 89 #[.pointer (some ⟨b, 0, none⟩), .int .i64 34] w (DPost P b (.tuple #[]) { M.pop with mark := M.top } w) := by
  have hp := hide (dPop_any h (by omega) (Ma.ne_of_len (by omega)))
  unfold DPost at hp
  generalize M.pop = Mp at hp ⊢
  generalize M.top = tp at hp ⊢
  clear h
  go_enter Tryz.func89, Tryz.ntmps89
  go_wp2_with fail
  refine (unhide hp).mono ?_
  rintro e w1 ⟨rfl, q1, k1⟩
  obtain ⟨gi, ki, sa, ks, ac, kc, ao, ko, hlt, c0, c1, c2, c3, c4, c5, c6, c7, c8, c9, c10, c11, fr⟩ := q1.view
  have f11 := fr 11
  obtain ⟨r1, r2⟩ := q1.setMark tp
  have post : Hid (DPost P b (.tuple #[]) { Mp with mark := tp } w (.returned (.tuple #[])) (w1.setCell ⟨b, 11, none⟩ (.int .i64 tp))) := ⟨rfl, r1, k1.trans r2⟩
  clear c0 c1 c2 c3 c4 c5 c6 c7 c8 c9 c10 fr q1 r1 r2 k1 hp
  go_wp2
  go_end0
  exact post.out

set_option maxRecDepth 100000 in
set_option maxHeartbeats 800000 in
theorem right_key (h : DmIs w P b M) (hok : M.Ok) :
    Calls Tryz.prog 89 #[.pointer (some ⟨b, 0, none⟩), .int .i64 33] w (DPost P b (.tuple #[]) (M.act 17) w) := by
  have hl := hok.stack
  by_cases hp : M.pos < M.inp.size
  · have hk := hide (nextKey_more h hok.inp hok.pos hp)
    unfold DPost at hk
    have ea : M.act 17 = ({ M with pos := M.pos + 1 } : Ma).push ((M.inp.toList.getD M.pos.toNat 0).toNat : Int) := by unfold Ma.act; rw [if_pos rfl, if_pos hp]; rfl
    rw [ea]
    have hl2 : ({ M with pos := M.pos + 1 } : Ma).stack.length ≤ 16 := hl
    generalize ({ M with pos := M.pos + 1 } : Ma) = M2 at hk hl2 ⊢
    generalize ((M.inp.toList.getD M.pos.toNat 0).toNat : Int) = x at hk ⊢
    clear h hok hp ea hl
    go_enter Tryz.func89, Tryz.ntmps89
    go_wp2_with fail
    refine (unhide hk).mono ?_
    rintro e w1 ⟨rfl, q1, k1⟩
    go_wp2_with fail
    refine (dPush_any q1 x (by omega)).mono ?_
    rintro e w2 ⟨rfl, q2, k2⟩
    have post : Hid (DPost P b (.tuple #[]) (M2.push x) w (.returned (.tuple #[])) w2) := ⟨rfl, q2, k1.trans k2⟩
    clear q1 k1 q2 k2 hk
    go_wp2
    go_end0
    exact post.out
  · have hk := hide (nextKey_end h hok.inp hp)
    unfold DPost at hk
    have ea : M.act 17 = M.push 65535 := by unfold Ma.act; rw [if_pos rfl, if_neg hp]
    rw [ea]
    clear h hok hp ea
    go_enter Tryz.func89, Tryz.ntmps89
    go_wp2_with fail
    refine (unhide hk).mono ?_
    rintro e w1 ⟨rfl, q1, k1⟩
    go_wp2_with fail
    refine (dPush_any q1 65535 (by omega)).mono ?_
    rintro e w2 ⟨rfl, q2, k2⟩
    have post : Hid (DPost P b (.tuple #[]) (M.push 65535) w (.returned (.tuple #[])) w2) := ⟨rfl, q2, k1.trans k2⟩
    clear q1 k1 q2 k2 hk
    go_wp2
    go_end0
    exact post.out

set_option maxRecDepth 100000 in
set_option maxHeartbeats 800000 in
theorem right_emit (h : DmIs w P b M) (hok : M.Ok) (h1 : 1 ≤ M.stack.length) :
    Calls Tryz.prog 89 #[.pointer (some ⟨b, 0, none⟩), .int .i64 32] w (DPost P b (.tuple #[]) { M.pop with out := M.out ++ [byteOf M.top] } w) := by
  have hl := hok.stack
  have ho := hok.out
  have hne := Ma.ne_of_len h1
  obtain ⟨x1, x2⟩ := hok.top hne
  have hp := hide (dPop_any h (by omega) hne)
  unfold DPost at hp
  have hout : M.out = M.pop.out := rfl
  rw [hout] at ho ⊢
  generalize M.pop = Mp at hp ho ⊢
  generalize M.top = tp at hp x1 x2 ⊢
  obtain ⟨i0, hi, hz0, hz1, hz2⟩ := info_parts Tryz.infoByte
  have hby : Hid (((byteOf tp).toNat : Int) = tp % 256) := by
    unfold Hid byteOf
    rw [UInt8.toNat_ofNat']
    omega
  clear h hok hout hne
  go_enter Tryz.func89, Tryz.ntmps89
  go_wp2_with fail
  refine (unhide hp).mono ?_
  rintro e w1 ⟨rfl, q1, k1⟩
  obtain ⟨vi, vs, vc, vo, hat⟩ := q1
  obtain ⟨ao, ko, hvo⟩ := own_slice hat.outp.own
  subst hvo
  have c10 := hat.cell 10 _ rfl
  have hlt := hat.lt
  have hrow : Row w1 (fun k => P k ∨ vi.ownBlock = some k) 5 1 (.slice ao Mp.out.length ko) Mp.out.length (byteCells Mp.out) := ⟨hat.outp.own, fun k hk hp => hp.elim (hat.outp.out k hk) (hat.sepo k hk)⟩
  have hbd : Hid (∀ k, P k ∨ vi.ownBlock = some k → k < (w1.alloc (.cells #[.int .u8 (tp % 256)] 5)).heap.size) := by
    intro k hk
    rcases hk with hk | hk
    · exact (hat.alloc _).bound k hk
    · obtain ⟨g, cs, fr, g1, g2⟩ := (hat.image.alloc (.cells #[.int .u8 (tp % 256)] 5)).own
      rw [g1] at hk; cases hk; exact lt_of_block g2
  clear hp
  go_wp2_with (at_builtin; refine wpList_append_mine _ rfl _ _ 89 rfl _ hbd.out 5 i0 _ 1 1 Tryz.underlying89 hi hz0 hz1 hz2 rfl (by decide) _ _ _ rfl (hrow.alloc _) ⟨w1.heap.size, 0, none⟩ 1 1 [.int .u8 (tp % 256)] rfl rfl ?c1 ?c2 ?c3 ?c4 ?_)
  case c1 => exact cell_one_new _ _ _
  case c2 => intro u hu; simp at hu; subst hu; rfl
  case c3 => unfold maxLen; omega
  case c4 => omega
  intro v' w2 hown' hgrow
  have hown2 : Row w2 (fun k => P k ∨ vi.ownBlock = some k) 5 1 v' (Mp.out ++ [byteOf tp]).length (byteCells (Mp.out ++ [byteOf tp])) := by
    rw [byteCells_snoc, hby.out]; simp only [List.length_append, List.length_cons, List.length_nil]; exact hown'
  obtain ⟨r1, r2, cc, ff, hlt1⟩ := (hat.alloc (.cells #[.int .u8 (tp % 256)] 5)).pushOut hgrow (Mp.out ++ [byteOf tp]) hown2
  obtain ⟨g', cp', hv⟩ := own_form hown'.own (by omega)
  have fin : Hid (DPost P b (.tuple #[]) { Mp with out := Mp.out ++ [byteOf tp] } w (.returned (.tuple #[])) (w2.setCell ⟨b, 10, none⟩ v')) := ⟨rfl, ⟨_, _, _, _, r1⟩, k1.trans (((Kept.refl P w1).alloc _).trans r2)⟩
  rw [hv] at fin
  rw [hv]
  clear hown' hown2 hgrow hv hrow r1 r2 hat
  go_wp2
  go_end0
  exact fin.out
end
end Go.Proofs.YtnanjomnldfidabGreatDoor

set_option linter.unusedSimpArgs false
set_option linter.unusedVariables false
set_option linter.unusedSectionVars false
namespace Go.Proofs.YtnanjomnldfidabGreatDoor
open Go.RowKit

section
variable {w : World} {P : Nat → Prop} {b : Nat} {M M2 : Ma}

set_option maxRecDepth 100000 in
set_option maxHeartbeats 800000 in
theorem make_push (h : DmIs w P b M) (hok : M.Ok) (arg behind : Int) :
    Calls Tryz.prog 61 #[.pointer (some ⟨b, 0, none⟩), .int .i64 1, .int .i64 arg, .int .i64 behind] w (DPost P b (.int .i64 behind) (M.tick.push arg) w) := by
  obtain ⟨gi, ki, sa, ks, ac, kc, ao, ko, hlt, c0, c1, c2, c3, c4, c5, c6, c7, c8, c9, c10, c11, fr⟩ := h.view
  have f7 := fr 7
  have o2 := hok.used
  have o3 := hok.used'
  have o1 := hok.stack
  obtain ⟨r1, r2⟩ := h.setUsed (M.used + 1)
  have hc := hide (dPush_any (M := M.tick) r1 arg (by show M.stack.length ≤ _; omega))
  unfold DPost at hc
  clear c0 c1 c2 c3 c4 c5 c6 c8 c9 c10 c11 fr h hok r1
  generalize M.tick.push arg = MM at hc ⊢
  go_enter Tryz.func61, Tryz.ntmps61
  go_wp2_with fail
  refine (unhide hc).mono ?_
  rintro e w1 ⟨rfl, q1, k1⟩
  have post : Hid (DPost P b (.int .i64 behind) MM w (.returned (.int .i64 behind)) w1) := ⟨rfl, q1, r2.trans k1⟩
  clear q1 k1 hc r2
  go_wp2
  go_ret
  exact post.out

set_option maxRecDepth 100000 in
set_option maxHeartbeats 800000 in
theorem make_jump (h : DmIs w P b M) (hok : M.Ok) (arg behind : Int) :
    Calls Tryz.prog 61 #[.pointer (some ⟨b, 0, none⟩), .int .i64 2, .int .i64 arg, .int .i64 behind] w (DPost P b (.int .i64 arg) M.tick w) := by
  obtain ⟨gi, ki, sa, ks, ac, kc, ao, ko, hlt, c0, c1, c2, c3, c4, c5, c6, c7, c8, c9, c10, c11, fr⟩ := h.view
  have f7 := fr 7
  have o2 := hok.used
  have o3 := hok.used'
  obtain ⟨r1, r2⟩ := h.setUsed (M.used + 1)
  have post : Hid (DPost P b (.int .i64 arg) M.tick w (.returned (.int .i64 arg)) (w.setCell ⟨b, 7, none⟩ (.int .i64 (M.used + 1)))) := ⟨rfl, r1, r2⟩
  clear c0 c1 c2 c3 c4 c5 c6 c8 c9 c10 c11 fr h hok r1 r2
  go_enter Tryz.func61, Tryz.ntmps61
  go_wp2
  go_ret
  exact post.out

set_option maxRecDepth 100000 in
set_option maxHeartbeats 800000 in
theorem make_zero (h : DmIs w P b M) (hok : M.Ok) (h1 : 1 ≤ M.stack.length) (arg behind : Int) :
    Calls Tryz.prog 61 #[.pointer (some ⟨b, 0, none⟩), .int .i64 3, .int .i64 arg, .int .i64 behind] w (DPost P b (.int .i64 (if M.top = 0 then arg else behind)) M.tick.pop w) := by
  obtain ⟨gi, ki, sa, ks, ac, kc, ao, ko, hlt, c0, c1, c2, c3, c4, c5, c6, c7, c8, c9, c10, c11, fr⟩ := h.view
  have f7 := fr 7
  have o2 := hok.used
  have o3 := hok.used'
  have o1 := hok.stack
  obtain ⟨r1, r2⟩ := h.setUsed (M.used + 1)
  have hc := hide (dPop_any (M := M.tick) r1 (by show M.stack.length ≤ _; omega) (Ma.ne_of_len (M := M.tick) h1))
  unfold DPost at hc
  have htt : M.tick.top = M.top := rfl
  rw [htt] at hc
  clear c0 c1 c2 c3 c4 c5 c6 c8 c9 c10 c11 fr h hok r1 htt
  generalize M.tick.pop = MM at hc ⊢
  by_cases hz : M.top = 0
  · rw [if_pos hz]
    rw [hz] at hc
    clear hz
    go_enter Tryz.func61, Tryz.ntmps61
    go_wp2_with fail
    refine (unhide hc).mono ?_
    rintro e w1 ⟨rfl, q1, k1⟩
    have post : Hid (DPost P b (.int .i64 arg) MM w (.returned (.int .i64 arg)) w1) := ⟨rfl, q1, r2.trans k1⟩
    clear q1 k1 hc r2
    go_wp2
    go_ret
    exact post.out
  · rw [if_neg hz]
    have hzb : (M.top == 0) = false := by simpa using hz
    generalize M.top = tp at hc hzb
    clear hz
    go_enter Tryz.func61, Tryz.ntmps61
    go_wp2_with fail
    refine (unhide hc).mono ?_
    rintro e w1 ⟨rfl, q1, k1⟩
    have post : Hid (DPost P b (.int .i64 behind) MM w (.returned (.int .i64 behind)) w1) := ⟨rfl, q1, r2.trans k1⟩
    clear q1 k1 hc r2
    go_wp2
    go_ret
    exact post.out

set_option maxRecDepth 100000 in
set_option maxHeartbeats 800000 in
theorem make_ret (h : DmIs w P b M) (hok : M.Ok) (h1 : M.calls ≠ []) (arg behind : Int) :
    Calls Tryz.prog 61 #[.pointer (some ⟨b, 0, none⟩), .int .i64 5, .int .i64 arg, .int .i64 behind] w (DPost P b (.int .i64 (M.calls.getLastD 0)) { M.tick with calls := M.calls.dropLast } w) := by
  obtain ⟨gi, ki, sa, ks, ac, kc, ao, ko, hlt, c0, c1, c2, c3, c4, c5, c6, c7, c8, c9, c10, c11, fr⟩ := h.view
  have f7 := fr 7
  have o2 := hok.used
  have o3 := hok.used'
  have o1 := hok.calls
  obtain ⟨r1, r2⟩ := h.setUsed (M.used + 1)
  have hc := hide (popCall_any (M := M.tick) r1 (by show M.calls.length ≤ _; omega) h1 behind)
  unfold DPost at hc
  have e1 : ({ M.tick with calls := M.calls.dropLast } : Ma) = { M.tick with calls := M.tick.calls.dropLast } := rfl
  have e2 : M.calls.getLastD 0 = M.tick.calls.getLastD 0 := rfl
  rw [e1, e2]
  clear c0 c1 c2 c3 c4 c5 c6 c8 c9 c10 c11 fr h hok r1 h1 e1 e2
  generalize ({ M.tick with calls := M.tick.calls.dropLast } : Ma) = MM at hc ⊢
  generalize M.tick.calls.getLastD 0 = x at hc ⊢
  go_enter Tryz.func61, Tryz.ntmps61
  go_wp2_with fail
  refine (unhide hc).mono ?_
  rintro e w1 ⟨rfl, q1, k1⟩
  have post : Hid (DPost P b (.int .i64 x) MM w (.returned (.int .i64 x)) w1) := ⟨rfl, q1, r2.trans k1⟩
  clear q1 k1 hc r2
  go_wp2
  go_ret
  exact post.out

set_option maxRecDepth 100000 in
set_option maxHeartbeats 800000 in
theorem make_sub (h : DmIs w P b M) (hok : M.Ok) (arg behind op : Int) (ho : op = 16 ∨ op = 17 ∨ op = 18 ∨ op = 19 ∨ op = 30 ∨ op = 31 ∨ op = 32 ∨ op = 33 ∨ op = 34)
    (hc1 : op = 16 ∨ op = 17 ∨ op = 18 ∨ op = 19 → ∀ w', DmIs w' P b M.tick → Calls Tryz.prog 87 #[.pointer (some ⟨b, 0, none⟩), .int .i64 op] w' (DPost P b (.tuple #[]) M2 w'))
    (hc2 : op = 30 ∨ op = 31 → ∀ w', DmIs w' P b M.tick → Calls Tryz.prog 88 #[.pointer (some ⟨b, 0, none⟩), .int .i64 op] w' (DPost P b (.tuple #[]) M2 w'))
    (hc3 : op = 32 ∨ op = 33 ∨ op = 34 → ∀ w', DmIs w' P b M.tick → Calls Tryz.prog 89 #[.pointer (some ⟨b, 0, none⟩), .int .i64 op] w' (DPost P b (.tuple #[]) M2 w')) :
    Calls Tryz.prog 61 #[.pointer (some ⟨b, 0, none⟩), .int .i64 op, .int .i64 arg, .int .i64 behind] w (DPost P b (.int .i64 behind) M2 w) := by
  obtain ⟨gi, ki, sa, ks, ac, kc, ao, ko, hlt, c0, c1, c2, c3, c4, c5, c6, c7, c8, c9, c10, c11, fr⟩ := h.view
  have f7 := fr 7
  have o2 := hok.used
  have o3 := hok.used'
  obtain ⟨r1, r2⟩ := h.setUsed (M.used + 1)
  have H1 := hide hc1
  have H2 := hide hc2
  have H3 := hide hc3
  have R1 : Hid (DmIs (w.setCell ⟨b, 7, none⟩ (.int .i64 (M.used + 1))) P b M.tick) := r1
  unfold DPost at H1 H2 H3
  clear c0 c1 c2 c3 c4 c5 c6 c8 c9 c10 c11 fr h hok r1 hc1 hc2 hc3
  rcases ho with rfl | rfl | rfl | rfl | rfl | rfl | rfl | rfl | rfl
  all_goals
    go_enter Tryz.func61, Tryz.ntmps61
    go_wp2_with fail
    first
      | refine ((unhide H1) (by decide) _ R1.out).mono ?_
      | refine ((unhide H2) (by decide) _ R1.out).mono ?_
      | refine ((unhide H3) (by decide) _ R1.out).mono ?_
    rintro e w1 ⟨rfl, q1, k1⟩
    have post : Hid (DPost P b (.int .i64 behind) M2 w (.returned (.int .i64 behind)) w1) := ⟨rfl, q1, r2.trans k1⟩
    clear q1 k1 r2
    go_wp2
    go_ret
    exact post.out

set_option maxRecDepth 100000 in
set_option maxHeartbeats 3200000 in
theorem make_sum (h : DmIs w P b M) (hok : M.Ok) (h2 : 2 ≤ M.stack.length) (arg behind op : Int) (ho1 : 20 ≤ op) (ho2 : op ≤ 29) (hz : op = 23 ∨ op = 24 → M.top ≠ 0) :
    Calls Tryz.prog 61 #[.pointer (some ⟨b, 0, none⟩), .int .i64 op, .int .i64 arg, .int .i64 behind] w (DPost P b (.int .i64 behind) (M.tick.pop.pop.push (sumN (op - 16) M.pop.top M.top)) w) := by
  obtain ⟨gi, ki, sa, ks, ac, kc, ao, ko, hlt, c0, c1, c2, c3, c4, c5, c6, c7, c8, c9, c10, c11, fr⟩ := h.view
  have f7 := fr 7
  have o2 := hok.used
  have o3 := hok.used'
  have o1 := hok.stack
  obtain ⟨x1, x2⟩ := hok.top2 (Ma.pop_ne h2)
  obtain ⟨y1, y2⟩ := hok.top (Ma.ne_of_len (by omega))
  obtain ⟨r1, r2⟩ := h.setUsed (M.used + 1)
  have hp1 := hide (dPop_any (M := M.tick) r1 (by show M.stack.length ≤ _; omega) (Ma.ne_of_len (M := M.tick) (by show 1 ≤ M.stack.length; omega)))
  have hlp : M.tick.pop.stack.length ≤ 100 := by show M.stack.dropLast.length ≤ _; simp; omega
  have hp2 := hide (fun w' (h' : DmIs w' P b M.tick.pop) => dPop_any h' (by omega) (Ma.pop_ne (M := M.tick) h2))
  have hlp2 : M.tick.pop.pop.stack.length ≤ 100 := by show M.stack.dropLast.dropLast.length ≤ _; simp; omega
  have hcm := hide (fun w' => combine_any op M.pop.top M.top w' ho1 ho2 x1 x2 y1 y2 hz)
  unfold DPost at hp1 hp2
  have e1 : M.tick.top = M.top := rfl
  have e2 : M.tick.pop.top = M.pop.top := rfl
  rw [e1] at hp1
  rw [e2] at hp2
  clear c0 c1 c2 c3 c4 c5 c6 c8 c9 c10 c11 fr h hok r1 e1 e2 x1 x2 y1 y2 hz h2
  generalize sumN (op - 16) M.pop.top M.top = z at hcm ⊢
  generalize M.pop.top = tq at hp2 hcm
  generalize M.top = tp at hp1 hcm
  generalize M.tick.pop = Mp at hp1 hp2 hlp hlp2 ⊢
  generalize Mp.pop = Mpp at hp2 hlp2 ⊢
  rcases (show op = 20 ∨ op = 21 ∨ op = 22 ∨ op = 23 ∨ op = 24 ∨ op = 25 ∨ op = 26 ∨ op = 27 ∨ op = 28 ∨ op = 29 by omega) with rfl | rfl | rfl | rfl | rfl | rfl | rfl | rfl | rfl | rfl
  all_goals
    clear ho1 ho2
    go_enter Tryz.func61, Tryz.ntmps61
    go_wp2_with fail
    refine (unhide hp1).mono ?_
    rintro e w1 ⟨rfl, q1, k1⟩
    go_wp2_with fail
    refine ((unhide hp2) _ q1).mono ?_
    rintro e w2 ⟨rfl, q2, k2⟩
    go_wp2_with fail
    refine ((unhide hcm) _).mono ?_
    rintro e w3 ⟨rfl, rfl⟩
    go_wp2_with fail
    refine (dPush_any q2 z (by omega)).mono ?_
    rintro e w4 ⟨rfl, q4, k4⟩
    have post : Hid (DPost P b (.int .i64 behind) (Mpp.push z) w (.returned (.int .i64 behind)) w4) := ⟨rfl, q4, r2.trans (k1.trans (k2.trans k4))⟩
    clear q1 k1 q2 k2 q4 k4 r2 hp1 hp2 hcm
    go_wp2
    go_ret
    exact post.out

set_option maxRecDepth 100000 in
set_option maxHeartbeats 800000 in
theorem make_call (h : DmIs w P b M) (hok : M.Ok) (arg behind : Int) :
    Calls Tryz.prog 61 #[.pointer (some ⟨b, 0, none⟩), .int .i64 4, .int .i64 arg, .int .i64 behind] w (DPost P b (.int .i64 arg) { M.tick with calls := M.calls ++ [behind] } w) := by
  have o2 := hok.used
  have o3 := hok.used'
  have o4 := hok.calls
  obtain ⟨vi, vs, vc, vo, hat⟩ := h
  obtain ⟨ac, kc, hvc⟩ := own_slice hat.calls.own
  subst hvc
  have hlt := hat.lt
  have c7 : w.cell? ⟨b, 7, none⟩ = some (.int .i64 M.used) := hat.cell 7 _ rfl
  have f7 := hat.free 7
  have c9 := hat.cell 9 _ rfl
  obtain ⟨g, r2⟩ := hat.field M.tick 7 (.int .i64 (M.used + 1)) rfl rfl rfl rfl rfl
  obtain ⟨i0, hi, hz0, hz1, hz2⟩ := info_parts Tryz.infoInt
  have hrow : Row ((w.setCell ⟨b, 7, none⟩ (.int .i64 (M.used + 1))).alloc (.cells #[.int .i64 behind] 3)) (fun k => P k ∨ vs.ownBlock = some k) 3 1 (.slice ac M.calls.length kc) M.calls.length (intCells M.calls) :=
    Row.alloc ⟨g.calls.own, fun k hk hp => hp.elim (g.calls.out k hk) (fun hv => g.sep k hv hk)⟩ _
  have hbd : Hid (∀ k, P k ∨ vs.ownBlock = some k → k < ((w.setCell ⟨b, 7, none⟩ (.int .i64 (M.used + 1))).alloc (.cells #[.int .i64 behind] 3)).heap.size) := by
    intro k hk
    rcases hk with hk | hk
    · exact (g.alloc _).bound k hk
    · exact (g.stack.alloc _).lt hk
  have CE : Hid (∀ j u, [Value.int .i64 behind][j]? = some u → ((w.setCell ⟨b, 7, none⟩ (.int .i64 (M.used + 1))).alloc (.cells #[.int .i64 behind] 3)).cell? ((⟨w.heap.size, 0, none⟩ : Addr).add j) = some u) := by
    have := cell_one_new (w.setCell ⟨b, 7, none⟩ (.int .i64 (M.used + 1))) (.int .i64 behind) 3
    intro j u hj
    have h2 := this j u hj
    have hsz : (w.setCell ⟨b, 7, none⟩ (.int .i64 (M.used + 1))).heap.size = w.heap.size := by simp [World.setCell]
    rw [hsz] at h2
    exact h2
  clear hok
  go_enter Tryz.func61, Tryz.ntmps61
  go_wp2_with (at_builtin; refine wpList_append_mine _ rfl _ _ 107 rfl _ hbd.out 3 i0 _ 1 8 Tryz.underlying107 hi hz0 hz1 hz2 rfl (by decide) _ _ _ rfl hrow ⟨w.heap.size, 0, none⟩ 1 1 [.int .i64 behind] rfl rfl ?c1 ?c2 ?c3 ?c4 ?_)
  case c1 => exact CE.out
  case c2 => intro u hu; simp at hu; subst hu; rfl
  case c3 => unfold maxLen; omega
  case c4 => omega
  intro v' w1 hown' hgrow
  have hown2 : Row w1 (fun k => P k ∨ vs.ownBlock = some k) 3 1 v' (M.calls ++ [behind]).length (intCells (M.calls ++ [behind])) := by
    rw [intCells_snoc]; simp only [List.length_append, List.length_cons, List.length_nil]; exact hown'
  obtain ⟨r1, r3, cc, ff, hlt1⟩ := (g.alloc (.cells #[.int .i64 behind] 3)).pushCalls hgrow (M.calls ++ [behind]) hown2
  obtain ⟨g', cp', hv⟩ := own_form hown'.own (by omega)
  have fin : Hid (DPost P b (.int .i64 arg) { M.tick with calls := M.calls ++ [behind] } w (.returned (.int .i64 arg)) (w1.setCell ⟨b, 9, none⟩ v')) := ⟨rfl, ⟨_, _, _, _, r1⟩, r2.trans (((Kept.refl P _).alloc _).trans r3)⟩
  rw [hv] at fin
  rw [hv]
  clear hown' hown2 hgrow hv hrow r1 r2 r3 hat g CE hbd
  go_wp2
  go_ret
  exact fin.out
end
end Go.Proofs.YtnanjomnldfidabGreatDoor

set_option linter.unusedSimpArgs false
set_option linter.unusedVariables false
set_option linter.unusedSectionVars false
namespace Go.Proofs.YtnanjomnldfidabGreatDoor

/-- A step: where the run goes on, the error, the machine. -/
def stepM (op arg behind : Int) (M : Ma) : Int × Int × Ma :=
  if op = 1 then (behind, M.number arg)
  else if op = 2 then (arg, M.pass)
  else if op = 3 then (if M.takeN.1 = 0 then arg else behind, M.takeN.2)
  else if op = 4 then (arg, M.call behind)
  else if op = 5 then M.ret
  else (behind, M.doN (op - 16))

theorem room_eq (M : Ma) (t g : Int) : M.room t g = if M.fuel ≤ M.used then 6 else if (M.stack.length : Int) < t then 7 else if 16 < (M.stack.length : Int) - t + g then 8 else 0 := rfl

theorem takesD_low {op : Int} (h : 16 ≤ op) : takesD op = takesN (op - 16) := by unfold takesD; rw [if_neg (by omega), if_neg (by omega)]
theorem givesD_low {op : Int} (h : 16 ≤ op) : givesD op = givesN (op - 16) := by unfold givesD; rw [if_neg (by omega), if_neg (by omega)]

theorem fencedD_iff (M : Ma) (n : Int) : fencedD M (n + 16) = true ↔ (n = 14 ∧ ((M.image.length : Int) ≤ M.top ∨ (M.kernel ≤ M.top ∧ M.top < M.fence ∧ noRight M.rights 4 = true))) ∨ (n = 15 ∧ (M.top < M.fence ∨ (M.image.length : Int) ≤ M.top)) := by
  unfold fencedD
  simp only [Bool.or_eq_true, Bool.and_eq_true, beq_iff_eq, decide_eq_true_eq]
  constructor
  · rintro (⟨h1, h2⟩ | ⟨h1, h2⟩)
    · refine .inl ⟨by omega, h2.imp id fun h => ⟨h.1.1, h.1.2, h.2⟩⟩
    · exact .inr ⟨by omega, h2.symm⟩
  · rintro (⟨h1, h2⟩ | ⟨h1, h2⟩)
    · exact .inl ⟨by omega, h2.imp id fun h => ⟨⟨h.1, h.2.1⟩, h.2.2⟩⟩
    · exact .inr ⟨by omega, h2.symm⟩
/-- The errors of a listed word. -/
theorem faultD_listed (M : Ma) (op : Int) (h : 16 ≤ op) (h2 : op ≤ 34) : faultD M op = if M.room (takesN (op - 16)) (givesN (op - 16)) ≠ 0 then M.room (takesN (op - 16)) (givesN (op - 16)) else M.fault (op - 16) := by
  unfold faultD
  rw [takesD_low h, givesD_low h, room_eq]
  by_cases q1 : M.fuel ≤ M.used
  · rw [if_pos q1, if_pos q1, if_pos (by decide)]
  rw [if_neg q1, if_neg q1]
  by_cases q2 : (M.stack.length : Int) < takesN (op - 16)
  · rw [if_pos (.inl (by omega)), if_pos q2, if_pos (by decide)]
  rw [if_neg (by rintro (h1 | h1) <;> omega), if_neg q2]
  by_cases q3 : 16 < (M.stack.length : Int) - takesN (op - 16) + givesN (op - 16)
  · rw [if_pos q3, if_pos q3, if_pos (by decide)]
  rw [if_neg q3, if_neg q3, if_neg (show ¬ ((0 : Int) ≠ 0) by simp), if_neg (show ¬ (op = 4 ∧ 12 ≤ M.calls.length) by omega)]
  unfold Ma.fault deniedD
  obtain ⟨n, rfl⟩ : ∃ n, op = n + 16 := ⟨op - 16, by omega⟩
  have e : n + 16 - 16 = n := by omega
  rw [e]
  by_cases a1 : (n = 16 ∧ noRight M.rights 1 = true) ∨ (n = 17 ∧ noRight M.rights 2 = true) ∨ (n = 18 ∧ noRight M.rights 8 = true)
  · rw [if_pos a1, if_pos]
    rcases a1 with ⟨rfl, h1⟩ | ⟨rfl, h1⟩ | ⟨rfl, h1⟩ <;> simp [h1]
  have a1' : ¬ ((n + 16 == 32 && noRight M.rights 1 || n + 16 == 33 && noRight M.rights 2 || n + 16 == 34 && noRight M.rights 8) = true) := by
    intro hc
    apply a1
    simp at hc
    rcases hc with (⟨h1, h3⟩ | ⟨h1, h3⟩) | ⟨h1, h3⟩
    · exact .inl ⟨by omega, h3⟩
    · exact .inr (.inl ⟨by omega, h3⟩)
    · exact .inr (.inr ⟨by omega, h3⟩)
  rw [if_neg a1, if_neg a1']
  by_cases a2 : n = 16 ∧ 64 ≤ M.out.length
  · rw [if_pos a2, if_pos ⟨by omega, a2.2⟩]
  rw [if_neg a2, if_neg (fun hc => a2 ⟨by omega, hc.2⟩)]
  by_cases a3 : (n = 7 ∨ n = 8) ∧ M.top = 0
  · rw [if_pos a3, if_pos ⟨by omega, a3.2⟩]
  rw [if_neg a3, if_neg (fun hc => a3 ⟨by omega, hc.2⟩)]
  by_cases a4 : n = 14 ∧ ((M.image.length : Int) ≤ M.top ∨ (M.kernel ≤ M.top ∧ M.top < M.fence ∧ noRight M.rights 4 = true))
  · rw [if_pos ((fencedD_iff M n).2 (.inl a4)), if_pos a4]
  by_cases a5 : n = 15 ∧ (M.top < M.fence ∨ (M.image.length : Int) ≤ M.top)
  · rw [if_pos ((fencedD_iff M n).2 (.inr a5)), if_neg a4, if_pos a5]
  rw [if_neg (fun hc => ((fencedD_iff M n).1 hc).elim a4 a5), if_neg a4, if_neg a5]

theorem faultD_step (M : Ma) (hok : M.Ok) (op arg behind : Int) (ho : opOk op) : faultD M op = (stepM op arg behind M).2.1 := by
  unfold stepM
  by_cases c1 : op = 1
  · subst c1
    rw [if_pos rfl]
    have t1 : takesD 1 = 0 := rfl
    have g1 : givesD 1 = 1 := rfl
    unfold faultD Ma.number
    rw [t1, g1, room_eq]
    by_cases q1 : M.fuel ≤ M.used
    · rw [if_pos q1, if_pos q1, if_pos (by decide)]
    rw [if_neg q1, if_neg q1, if_neg (by rintro (h1 | h1) <;> omega), if_neg (show ¬ (M.stack.length : Int) < 0 by omega)]
    by_cases q3 : 16 < (M.stack.length : Int) - 0 + 1
    · rw [if_pos q3, if_pos q3, if_pos (by decide)]
    rw [if_neg q3, if_neg q3, if_neg (by omega), if_neg (by simp [deniedD]), if_neg (by omega), if_neg (by omega), if_neg (by simp [fencedD]), if_neg (by simp)]
  rw [if_neg c1]
  by_cases c2 : op = 2
  · subst c2
    rw [if_pos rfl]
    have t1 : takesD 2 = 0 := rfl
    have g1 : givesD 2 = 0 := rfl
    unfold faultD Ma.pass
    rw [t1, g1, room_eq]
    by_cases q1 : M.fuel ≤ M.used
    · rw [if_pos q1, if_pos q1, if_pos (by decide)]
    rw [if_neg q1, if_neg q1, if_neg (by rintro (h1 | h1) <;> omega), if_neg (show ¬ (M.stack.length : Int) < 0 by omega)]
    by_cases q3 : 16 < (M.stack.length : Int) - 0 + 0
    · rw [if_pos q3, if_pos q3, if_pos (by decide)]
    rw [if_neg q3, if_neg q3, if_neg (by omega), if_neg (by simp [deniedD]), if_neg (by omega), if_neg (by omega), if_neg (by simp [fencedD]), if_neg (by simp)]
  rw [if_neg c2]
  by_cases c3 : op = 3
  · subst c3
    rw [if_pos rfl]
    show faultD M 3 = M.takeN.2.1
    have t1 : takesD 3 = 1 := rfl
    have g1 : givesD 3 = 0 := rfl
    unfold faultD Ma.takeN
    rw [t1, g1, room_eq]
    by_cases q1 : M.fuel ≤ M.used
    · rw [if_pos q1, if_pos q1, if_pos (by decide)]
    rw [if_neg q1, if_neg q1]
    by_cases q2 : (M.stack.length : Int) < 1
    · rw [if_pos (.inl (by omega)), if_pos q2, if_pos (by decide)]
    rw [if_neg (by rintro (h1 | h1) <;> omega), if_neg q2]
    by_cases q3 : 16 < (M.stack.length : Int) - 1 + 0
    · rw [if_pos q3, if_pos q3, if_pos (by decide)]
    rw [if_neg q3, if_neg q3, if_neg (by omega), if_neg (by simp [deniedD]), if_neg (by omega), if_neg (by omega), if_neg (by simp [fencedD]), if_neg (by simp)]
  rw [if_neg c3]
  by_cases c4 : op = 4
  · subst c4
    rw [if_pos rfl]
    have t1 : takesD 4 = 0 := rfl
    have g1 : givesD 4 = 0 := rfl
    unfold faultD Ma.call
    rw [t1, g1, room_eq]
    by_cases q1 : M.fuel ≤ M.used
    · rw [if_pos q1, if_pos q1, if_pos (by decide)]
    rw [if_neg q1, if_neg q1, if_neg (by rintro (h1 | h1) <;> omega), if_neg (show ¬ (M.stack.length : Int) < 0 by omega)]
    by_cases q3 : 16 < (M.stack.length : Int) - 0 + 0
    · rw [if_pos q3, if_pos q3, if_pos (by decide)]
    rw [if_neg q3, if_neg q3, if_neg (show ¬ ((0 : Int) ≠ 0) by simp)]
    by_cases q4 : 12 ≤ M.calls.length
    · rw [if_pos ⟨rfl, q4⟩, if_pos q4]
    rw [if_neg (fun hc => q4 hc.2), if_neg q4, if_neg (by simp [deniedD]), if_neg (by omega), if_neg (by omega), if_neg (by simp [fencedD])]
  rw [if_neg c4]
  by_cases c5 : op = 5
  · subst c5
    rw [if_pos rfl]
    have t1 : takesD 5 = 0 := rfl
    have g1 : givesD 5 = 0 := rfl
    unfold faultD Ma.ret
    rw [t1, g1, room_eq]
    by_cases q1 : M.fuel ≤ M.used
    · rw [if_pos q1, if_pos q1, if_pos (by decide)]
    rw [if_neg q1, if_neg q1, if_neg (show ¬ (M.stack.length : Int) < 0 by omega)]
    by_cases q3 : 16 < (M.stack.length : Int) - 0 + 0
    · have := hok.stack; omega
    rw [if_neg q3, if_neg q3, if_neg (show ¬ ((0 : Int) ≠ 0) by simp)]
    by_cases q4 : M.calls.length = 0
    · rw [if_pos (.inr ⟨rfl, q4⟩), if_pos (List.length_eq_zero_iff.1 q4)]
    rw [if_neg (by rintro (h1 | h1); omega; exact q4 h1.2), if_neg (show ¬ ((5 : Int) = 4 ∧ 12 ≤ M.calls.length) by omega), if_neg (by simp [deniedD]), if_neg (by omega), if_neg (by omega), if_neg (by simp [fencedD]), if_neg (fun hc => q4 (by rw [hc]; rfl))]
  rw [if_neg c5]
  have h16 : 16 ≤ op ∧ op ≤ 34 := by unfold opOk at ho; omega
  rw [faultD_listed M op h16.1 h16.2]
  unfold Ma.doN
  by_cases q : M.room (takesN (op - 16)) (givesN (op - 16)) ≠ 0
  · rw [if_pos q, if_pos q]
  · rw [if_neg q, if_neg q]
    by_cases q2 : M.fault (op - 16) ≠ 0
    · rw [if_pos q2]
    · rw [if_neg q2]; simpa using q2

/-- The run of steps. -/
def stepAt (S : List (Int × Int)) (p : Int) : Int × Int := S.getD p.toNat (0, 0)
def nextS (S : List (Int × Int)) (p : Int) (M : Ma) : Int × Int × Ma := if (stepAt S p).1 = -1 then ((stepAt S p).2, 0, M) else stepM (stepAt S p).1 (stepAt S p).2 (p + 1) M
def runS (S : List (Int × Int)) : Nat → Int → Ma → Int × Ma
  | 0, _, M => (0, M)
  | n + 1, p, M => if 0 ≤ p ∧ p < S.length then (if (nextS S p M).2.1 ≠ 0 then (nextS S p M).2 else runS S n (nextS S p M).1 (nextS S p M).2.2) else (0, M)
theorem runS_end (S : List (Int × Int)) (n : Nat) (p : Int) (M : Ma) (h : ¬ (0 ≤ p ∧ p < S.length)) : runS S n p M = (0, M) := by
  cases n with
  | zero => rfl
  | succ n => unfold runS; rw [if_neg h]
theorem runS_err (S : List (Int × Int)) (n : Nat) (p : Int) (M : Ma) (h : 0 ≤ p ∧ p < S.length) (he : (nextS S p M).2.1 ≠ 0) : runS S (n + 1) p M = (nextS S p M).2 := by
  conv => lhs; unfold runS
  rw [if_pos h, if_pos he]
theorem runS_on (S : List (Int × Int)) (n : Nat) (p : Int) (M : Ma) (h : 0 ≤ p ∧ p < S.length) (he : (nextS S p M).2.1 = 0) : runS S (n + 1) p M = runS S n (nextS S p M).1 (nextS S p M).2.2 := by
  conv => lhs; unfold runS
  rw [if_pos h, if_neg (by simp [he])]

/-- A step with an error changes nothing. -/
theorem stepM_same (op arg behind : Int) (M : Ma) (he : (stepM op arg behind M).2.1 ≠ 0) : (stepM op arg behind M).2.2 = M := by
  revert he
  unfold stepM Ma.number Ma.pass Ma.takeN Ma.call Ma.ret Ma.doN
  repeat' split
  all_goals simp

open Go.RowKit
section
variable {w : World} {P : Nat → Prop} {b : Nat} {M : Ma}
theorem stack_of_room {M : Ma} {t g : Int} (h : M.room t g = 0) : t ≤ M.stack.length := by
  rw [room_eq] at h
  by_cases q1 : M.fuel ≤ M.used
  · rw [if_pos q1] at h; cases h
  · rw [if_neg q1] at h
    by_cases q2 : (M.stack.length : Int) < t
    · rw [if_pos q2] at h; cases h
    · omega
theorem room_used {M : Ma} {t g : Int} (h : M.room t g = 0) : M.used < M.fuel := by
  rw [room_eq] at h
  by_cases q1 : M.fuel ≤ M.used
  · rw [if_pos q1] at h; cases h
  · omega
theorem Ma.Ok.tick {M : Ma} (h : M.Ok) (hu : M.used < M.fuel) : M.tick.Ok :=
  ⟨h.stack, h.nums, h.calls, h.image, h.kernel, h.fence, h.fence', h.inp, h.pos, h.pos', h.fuel, (by have := h.used; show 0 ≤ M.used + 1; omega), (by have := h.fuel; show M.used + 1 ≤ 10000; omega), h.out, h.mark, h.mark'⟩
/-- makeStep of a step without an error. -/
theorem make_any (h : DmIs w P b M) (hok : M.Ok) (op arg behind : Int) (ho : opOk op) (he : (stepM op arg behind M).2.1 = 0) :
    Calls Tryz.prog 61 #[.pointer (some ⟨b, 0, none⟩), .int .i64 op, .int .i64 arg, .int .i64 behind] w (DPost P b (.int .i64 (stepM op arg behind M).1) (stepM op arg behind M).2.2 w) := by
  by_cases c1 : op = 1
  · subst c1
    have e : stepM 1 arg behind M = (behind, M.number arg) := rfl
    rw [e] at he ⊢
    have : M.number arg = (0, M.tick.push arg) := by
      unfold Ma.number at he ⊢
      by_cases q : M.room 0 1 ≠ 0
      · rw [if_pos q] at he; exact absurd he q
      · rw [if_neg q]; rfl
    rw [this]
    exact make_push h hok arg behind
  by_cases c2 : op = 2
  · subst c2
    have e : stepM 2 arg behind M = (arg, M.pass) := rfl
    rw [e] at he ⊢
    have : M.pass = (0, M.tick) := by
      unfold Ma.pass at he ⊢
      by_cases q : M.room 0 0 ≠ 0
      · rw [if_pos q] at he; exact absurd he q
      · rw [if_neg q]
    rw [this]
    exact make_jump h hok arg behind
  by_cases c3 : op = 3
  · subst c3
    have e : stepM 3 arg behind M = (if M.takeN.1 = 0 then arg else behind, M.takeN.2) := rfl
    rw [e] at he ⊢
    have q : ¬ M.room 1 0 ≠ 0 := by
      intro q
      have he2 : M.takeN.2.1 = 0 := he
      unfold Ma.takeN at he2
      rw [if_pos q] at he2
      exact q he2
    have : M.takeN = (M.top, 0, M.tick.pop) := by unfold Ma.takeN; rw [if_neg q]
    rw [this]
    exact make_zero h hok (by have := stack_of_room (M := M) (t := 1) (g := 0) (by simpa using q); omega) arg behind
  by_cases c4 : op = 4
  · subst c4
    have e : stepM 4 arg behind M = (arg, M.call behind) := rfl
    rw [e] at he ⊢
    have : M.call behind = (0, { M.tick with calls := M.calls ++ [behind] }) := by
      unfold Ma.call at he ⊢
      by_cases q : M.room 0 0 ≠ 0
      · rw [if_pos q] at he; exact absurd he q
      · rw [if_neg q] at he ⊢
        by_cases q2 : 12 ≤ M.calls.length
        · rw [if_pos q2] at he; cases he
        · rw [if_neg q2]
    rw [this]
    exact make_call h hok arg behind
  by_cases c5 : op = 5
  · subst c5
    have e : stepM 5 arg behind M = M.ret := rfl
    rw [e] at he ⊢
    by_cases q2 : M.calls = []
    · exfalso
      unfold Ma.ret at he
      by_cases q : M.room 0 0 ≠ 0
      · rw [if_pos q] at he; exact q he
      · rw [if_neg q, if_pos q2] at he; cases he
    have : M.ret = (M.calls.getLastD 0, 0, { M.tick with calls := M.calls.dropLast }) := by
      unfold Ma.ret at he ⊢
      by_cases q : M.room 0 0 ≠ 0
      · rw [if_pos q] at he; exact absurd he q
      · rw [if_neg q, if_neg q2]
    rw [this]
    exact make_ret h hok q2 arg behind
  have h16 : 16 ≤ op ∧ op ≤ 34 := by unfold opOk at ho; omega
  have e : stepM op arg behind M = (behind, M.doN (op - 16)) := by unfold stepM; rw [if_neg c1, if_neg c2, if_neg c3, if_neg c4, if_neg c5]
  rw [e] at he ⊢
  have hroom : M.room (takesN (op - 16)) (givesN (op - 16)) = 0 := by
    unfold Ma.doN at he
    by_cases q : M.room (takesN (op - 16)) (givesN (op - 16)) ≠ 0
    · rw [if_pos q] at he; exact absurd he q
    · simpa using q
  have hfl : M.fault (op - 16) = 0 := by
    unfold Ma.doN at he
    rw [if_neg (by simp [hroom])] at he
    by_cases q : M.fault (op - 16) ≠ 0
    · rw [if_pos q] at he; exact absurd he q
    · simpa using q
  have hdo : M.doN (op - 16) = (0, M.tick.act (op - 16)) := by unfold Ma.doN; rw [if_neg (by simp [hroom]), if_neg (by simp [hfl])]
  rw [hdo]
  have hlen := stack_of_room hroom
  have htick : M.tick.Ok ∨ True := .inr trivial
  have o1 := hok.stack
  by_cases d20 : 20 ≤ op ∧ op ≤ 29
  · have ht : takesN (op - 16) = 2 := by unfold takesN; rw [if_neg (by omega), if_neg (by omega)]
    have hact : M.tick.act (op - 16) = M.tick.pop.pop.push (sumN (op - 16) M.pop.top M.top) := act_two (by omega) (by omega) (by omega) (by omega)
    show Calls _ _ _ _ (DPost P b (.int .i64 behind) (M.tick.act (op - 16)) w)
    rw [hact]
    refine make_sum h hok (by omega) arg behind op d20.1 d20.2 fun hz hc => ?_
    have : M.fault (op - 16) = 12 := by
      rcases hz with rfl | rfl <;> simp [Ma.fault, hc]
    rw [this] at hfl; cases hfl
  · refine make_sub h hok arg behind op (by omega) ?_ ?_ ?_
    · intro hc w' h'
      rcases hc with rfl | rfl | rfl | rfl
      · have hne : M.tick.stack ≠ [] := Ma.ne_of_len (M := M) (by have : takesN (16 - 16) = 1 := rfl; omega)
        have := Ma.pop_push hne
        show Calls _ _ _ _ (DPost P b (.tuple #[]) (M.tick.push M.tick.top) w')
        have e2 : M.tick.push M.tick.top = (M.tick.pop.push M.tick.top).push M.tick.top := by rw [this]
        rw [e2]
        exact move_dup h' (by show M.stack.length ≤ _; omega) (by show 1 ≤ M.stack.length; have : takesN (16 - 16) = 1 := rfl; omega)
      · exact move_drop h' (by show M.stack.length ≤ _; omega) (by show 1 ≤ M.stack.length; have : takesN (17 - 16) = 1 := rfl; omega)
      · exact move_swap h' (by show M.stack.length ≤ _; omega) (by show 2 ≤ M.stack.length; have : takesN (18 - 16) = 2 := rfl; omega)
      · have l2 : 2 ≤ M.stack.length := by have : takesN (19 - 16) = 2 := rfl; omega
        have q1 := Ma.pop_push (M := M.tick.pop) (Ma.pop_ne (M := M.tick) l2)
        have q2 := Ma.pop_push (M := M.tick) (Ma.ne_of_len (M := M) (by omega))
        show Calls _ _ _ _ (DPost P b (.tuple #[]) (M.tick.push M.tick.pop.top) w')
        have e2 : M.tick.push M.tick.pop.top = ((M.tick.pop.pop.push M.tick.pop.top).push M.tick.top).push M.tick.pop.top := by rw [q1, q2]
        rw [e2]
        exact move_over h' (by show M.stack.length ≤ _; omega) l2
    · intro hc w' h'
      have hok' : ∀ x ∈ M.stack, 0 ≤ x ∧ x < 65536 := hok.nums
      rcases hc with rfl | rfl
      · have l1 : 1 ≤ M.stack.length := by have : takesN (30 - 16) = 1 := rfl; omega
        obtain ⟨y1, y2⟩ := hok.top (Ma.ne_of_len l1)
        obtain ⟨k, hk⟩ := Int.eq_ofNat_of_zero_le y1
        have hkl : k < M.image.length := by
          by_cases hc : (M.image.length : Int) ≤ M.top
          · have : M.fault (30 - 16) = 13 := by simp [Ma.fault, hc]
            rw [this] at hfl; cases hfl
          · omega
        have : M.tick.act (30 - 16) = M.tick.pop.push ((M.tick.image.getD k 0).toNat : Int) := by
          show M.tick.pop.push ((M.image.getD M.top.toNat 0).toNat : Int) = _
          rw [hk, Int.toNat_natCast]; rfl
        rw [this]
        exact image_at h' (by show M.stack.length ≤ _; omega) l1 (by have := hok.image; show M.image.length ≤ _; omega) k hk hkl
      · have l2 : 2 ≤ M.stack.length := by have : takesN (31 - 16) = 2 := rfl; omega
        obtain ⟨y1, y2⟩ := hok.top (Ma.ne_of_len (by omega))
        obtain ⟨k, hk⟩ := Int.eq_ofNat_of_zero_le y1
        have hkl : k < M.image.length := by
          by_cases hc : (M.image.length : Int) ≤ M.top
          · have : M.fault (31 - 16) = 13 := by simp [Ma.fault, hc]
            rw [this] at hfl; cases hfl
          · omega
        have : M.tick.act (31 - 16) = { M.tick.pop.pop with image := M.tick.image.set k (byteOf M.tick.pop.top) } := by
          show { M.tick.pop.pop with image := M.image.set M.top.toNat (byteOf M.pop.top) } = _
          rw [hk, Int.toNat_natCast]; rfl
        rw [this]
        exact image_st h' (hok.tick (room_used hroom)) l2 k hk hkl
    · intro hc w' h'
      rcases hc with rfl | rfl | rfl
      · have l1 : 1 ≤ M.stack.length := by have : takesN (32 - 16) = 1 := rfl; omega
        exact right_emit h' (hok.tick (room_used hroom)) l1
      · exact right_key h' (hok.tick (room_used hroom))
      · have l1 : 1 ≤ M.stack.length := by have : takesN (34 - 16) = 1 := rfl; omega
        exact right_mark h' (by show M.stack.length ≤ _; omega) l1
end
end Go.Proofs.YtnanjomnldfidabGreatDoor
