/-
  Package grader's machine: fault. (Written by wip/gen/gen_dfault.py.)
-/
import Derived.Test.YtnanjomnldfidabGreatDoorDmStep
set_option linter.unusedSimpArgs false
set_option linter.unusedVariables false
set_option linter.unusedSectionVars false
namespace Go.Proofs.YtnanjomnldfidabGreatDoor
open Go.RowKit

section
variable {w : World} {P : Nat → Prop} {b : Nat} {M : Ma}

theorem takesD_bd (op : Int) (ho : opOk op) : 0 ≤ takesD op ∧ takesD op ≤ 2 := by
  unfold takesD takesN
  repeat' split
  all_goals omega
theorem givesD_bd (op : Int) (ho : opOk op) : 0 ≤ givesD op ∧ givesD op ≤ 3 := by
  unfold givesD givesN
  repeat' split
  all_goals omega

set_option maxRecDepth 100000 in
set_option maxHeartbeats 1600000 in
theorem dfault_any_fuel (h : DmIs w P b M) (hok : M.Ok) (op : Int) (ho : opOk op) (n5 : (op == 5) = false) (n4 : (op == 4) = false) (n32 : (op == 32) = false) (n23 : (op == 23) = false) (n24 : (op == 24) = false) (hfu : M.fuel ≤ M.used) : Calls Tryz.prog 60 #[.pointer (some ⟨b, 0, none⟩), .int .i64 op] w (DPost P b (.int .i64 6) M w) := by
  have o1 := hok.stack
  have o2 := hok.calls
  have o3 := hok.out
  have o4 := hok.image
  obtain ⟨t1, t2⟩ := takesD_bd op ho
  obtain ⟨g1, g2⟩ := givesD_bd op ho
  have HT := hide (fun w' => dTakes_any op w' ho)
  have HG := hide (fun w' => dGives_any op w' ho)
  have HD := hide (fun w' (h' : DmIs w' P b M) => denied_any h' op ho)
  have HF := hide (fun w' (h' : DmIs w' P b M) => fenced_any h' (by omega) (by omega) op ho)
  have HTop := hide (fun w' (h' : DmIs w' P b M) => top_any h' (by omega))
  obtain ⟨gi, ki, sa, ks, ac, kc, ao, ko, hlt, c0, c1, c2, c3, c4, c5, c6, c7, c8, c9, c10, c11, fr⟩ := h.view
  have H0 := hide h
  clear c0 c1 c2 c3 c4 c5 c11 fr h hok
  unfold DPost at HD HF HTop
  generalize takesD op = tk at *
  generalize givesD op = gv at *
  generalize M.top = tp at *
  clear ho
  go_enter Tryz.func60, Tryz.ntmps60
  go_wp2
  go_quiet (fail)
  go_wp2
  go_ret
  exact ⟨rfl, H0.out.drewN _, Kept.drewN _ _ _⟩

set_option maxRecDepth 100000 in
set_option maxHeartbeats 1600000 in
theorem dfault_any_under (h : DmIs w P b M) (hok : M.Ok) (op : Int) (ho : opOk op) (n5 : (op == 5) = false) (n4 : (op == 4) = false) (n32 : (op == 32) = false) (n23 : (op == 23) = false) (n24 : (op == 24) = false) (hfu : M.used < M.fuel) (hun : (M.stack.length : Int) - takesD op < 0) : Calls Tryz.prog 60 #[.pointer (some ⟨b, 0, none⟩), .int .i64 op] w (DPost P b (.int .i64 7) M w) := by
  have o1 := hok.stack
  have o2 := hok.calls
  have o3 := hok.out
  have o4 := hok.image
  obtain ⟨t1, t2⟩ := takesD_bd op ho
  obtain ⟨g1, g2⟩ := givesD_bd op ho
  have HT := hide (fun w' => dTakes_any op w' ho)
  have HG := hide (fun w' => dGives_any op w' ho)
  have HD := hide (fun w' (h' : DmIs w' P b M) => denied_any h' op ho)
  have HF := hide (fun w' (h' : DmIs w' P b M) => fenced_any h' (by omega) (by omega) op ho)
  have HTop := hide (fun w' (h' : DmIs w' P b M) => top_any h' (by omega))
  obtain ⟨gi, ki, sa, ks, ac, kc, ao, ko, hlt, c0, c1, c2, c3, c4, c5, c6, c7, c8, c9, c10, c11, fr⟩ := h.view
  have H0 := hide h
  clear c0 c1 c2 c3 c4 c5 c11 fr h hok
  unfold DPost at HD HF HTop
  generalize takesD op = tk at *
  generalize givesD op = gv at *
  generalize M.top = tp at *
  clear ho
  go_enter Tryz.func60, Tryz.ntmps60
  go_wp2
  go_quiet (fail)
  have hh1 := H0.out.drewN nq
  have kk1 := Kept.drewN P w nq
  generalize w.drewN nq = w1 at hh1 kk1 ⊢
  clear c6 c7 c8 c9 c10 H0 hlt
  obtain ⟨gi, ki, sa, ks, ac, kc, ao, ko, hlt, c0, c1, c2, c3, c4, c5, c6, c7, c8, c9, c10, c11, fr⟩ := hh1.view
  have H0 := hide hh1
  clear c0 c1 c2 c3 c4 c5 c6 c7 c11 fr hh1
  go_wp2
  go_quiet (first | (go_at_call 79; refine Calls.quiet_of_same ((unhide HT) _)))
  go_wp2
  go_ret
  exact ⟨rfl, H0.out.drewN _, kk1.trans (Kept.drewN _ _ _)⟩

set_option maxRecDepth 100000 in
set_option maxHeartbeats 1600000 in
theorem dfault_any_over (h : DmIs w P b M) (hok : M.Ok) (op : Int) (ho : opOk op) (n5 : (op == 5) = false) (n4 : (op == 4) = false) (n32 : (op == 32) = false) (n23 : (op == 23) = false) (n24 : (op == 24) = false) (hfu : M.used < M.fuel) (hun : 0 ≤ (M.stack.length : Int) - takesD op) (hov : 16 < (M.stack.length : Int) - takesD op + givesD op) : Calls Tryz.prog 60 #[.pointer (some ⟨b, 0, none⟩), .int .i64 op] w (DPost P b (.int .i64 8) M w) := by
  have o1 := hok.stack
  have o2 := hok.calls
  have o3 := hok.out
  have o4 := hok.image
  obtain ⟨t1, t2⟩ := takesD_bd op ho
  obtain ⟨g1, g2⟩ := givesD_bd op ho
  have HT := hide (fun w' => dTakes_any op w' ho)
  have HG := hide (fun w' => dGives_any op w' ho)
  have HD := hide (fun w' (h' : DmIs w' P b M) => denied_any h' op ho)
  have HF := hide (fun w' (h' : DmIs w' P b M) => fenced_any h' (by omega) (by omega) op ho)
  have HTop := hide (fun w' (h' : DmIs w' P b M) => top_any h' (by omega))
  obtain ⟨gi, ki, sa, ks, ac, kc, ao, ko, hlt, c0, c1, c2, c3, c4, c5, c6, c7, c8, c9, c10, c11, fr⟩ := h.view
  have H0 := hide h
  clear c0 c1 c2 c3 c4 c5 c11 fr h hok
  unfold DPost at HD HF HTop
  generalize takesD op = tk at *
  generalize givesD op = gv at *
  generalize M.top = tp at *
  clear ho
  go_enter Tryz.func60, Tryz.ntmps60
  go_wp2
  go_quiet (fail)
  have hh1 := H0.out.drewN nq
  have kk1 := Kept.drewN P w nq
  generalize w.drewN nq = w1 at hh1 kk1 ⊢
  clear c6 c7 c8 c9 c10 H0 hlt
  obtain ⟨gi, ki, sa, ks, ac, kc, ao, ko, hlt, c0, c1, c2, c3, c4, c5, c6, c7, c8, c9, c10, c11, fr⟩ := hh1.view
  have H0 := hide hh1
  clear c0 c1 c2 c3 c4 c5 c6 c7 c11 fr hh1
  go_wp2
  go_quiet (first | (go_at_call 79; refine Calls.quiet_of_same ((unhide HT) _)))
  go_wp2_with fail
  refine ((unhide HG) _).mono ?_
  rintro e w2 ⟨rfl, rfl⟩
  go_wp2
  go_ret
  exact ⟨rfl, H0.out.drewN _, kk1.trans (Kept.drewN _ _ _)⟩

set_option maxRecDepth 100000 in
set_option maxHeartbeats 1600000 in
theorem dfault_any_denied (h : DmIs w P b M) (hok : M.Ok) (op : Int) (ho : opOk op) (n5 : (op == 5) = false) (n4 : (op == 4) = false) (n32 : (op == 32) = false) (n23 : (op == 23) = false) (n24 : (op == 24) = false) (hfu : M.used < M.fuel) (hun : 0 ≤ (M.stack.length : Int) - takesD op) (hov : (M.stack.length : Int) - takesD op + givesD op ≤ 16) (hden : deniedD M op = true) : Calls Tryz.prog 60 #[.pointer (some ⟨b, 0, none⟩), .int .i64 op] w (DPost P b (.int .i64 10) M w) := by
  have o1 := hok.stack
  have o2 := hok.calls
  have o3 := hok.out
  have o4 := hok.image
  obtain ⟨t1, t2⟩ := takesD_bd op ho
  obtain ⟨g1, g2⟩ := givesD_bd op ho
  have HT := hide (fun w' => dTakes_any op w' ho)
  have HG := hide (fun w' => dGives_any op w' ho)
  have HD := hide (fun w' (h' : DmIs w' P b M) => denied_any h' op ho)
  have HF := hide (fun w' (h' : DmIs w' P b M) => fenced_any h' (by omega) (by omega) op ho)
  have HTop := hide (fun w' (h' : DmIs w' P b M) => top_any h' (by omega))
  obtain ⟨gi, ki, sa, ks, ac, kc, ao, ko, hlt, c0, c1, c2, c3, c4, c5, c6, c7, c8, c9, c10, c11, fr⟩ := h.view
  have H0 := hide h
  clear c0 c1 c2 c3 c4 c5 c11 fr h hok
  unfold DPost at HD HF HTop
  rw [hden] at HD
  generalize takesD op = tk at *
  generalize givesD op = gv at *
  generalize M.top = tp at *
  clear ho
  go_enter Tryz.func60, Tryz.ntmps60
  go_wp2
  go_quiet (fail)
  have hh1 := H0.out.drewN nq
  have kk1 := Kept.drewN P w nq
  generalize w.drewN nq = w1 at hh1 kk1 ⊢
  clear c6 c7 c8 c9 c10 H0 hlt
  obtain ⟨gi, ki, sa, ks, ac, kc, ao, ko, hlt, c0, c1, c2, c3, c4, c5, c6, c7, c8, c9, c10, c11, fr⟩ := hh1.view
  have H0 := hide hh1
  clear c0 c1 c2 c3 c4 c5 c6 c7 c11 fr hh1
  go_wp2
  go_quiet (first | (go_at_call 79; refine Calls.quiet_of_same ((unhide HT) _)))
  go_wp2_with fail
  refine ((unhide HG) _).mono ?_
  rintro e w2 ⟨rfl, rfl⟩
  go_wp2_with fail
  refine ((unhide HD) _ (H0.out.drewN _)).mono ?_
  rintro e w3 ⟨rfl, h3, k3⟩
  have K3 := (kk1.trans (Kept.drewN P w1 _)).trans k3
  obtain ⟨gi3, ki3, sa3, ks3, ac3, kc3, ao3, ko3, hlt3, d0, d1, d2, d3, d4, d5, d6, d7, d8, d9, d10, d11, fr3⟩ := h3.view
  have H3 := hide h3
  clear d0 d1 d2 d3 d4 d5 d6 d7 d8 d9 d11 fr3 h3 k3
  go_wp2
  go_ret
  exact ⟨rfl, H3.out, K3⟩

set_option maxRecDepth 100000 in
set_option maxHeartbeats 1600000 in
theorem dfault_any_fence (h : DmIs w P b M) (hok : M.Ok) (op : Int) (ho : opOk op) (n5 : (op == 5) = false) (n4 : (op == 4) = false) (n32 : (op == 32) = false) (n23 : (op == 23) = false) (n24 : (op == 24) = false) (hfu : M.used < M.fuel) (hun : 0 ≤ (M.stack.length : Int) - takesD op) (hov : (M.stack.length : Int) - takesD op + givesD op ≤ 16) (hden : deniedD M op = false) (hfen : fencedD M op = true) : Calls Tryz.prog 60 #[.pointer (some ⟨b, 0, none⟩), .int .i64 op] w (DPost P b (.int .i64 13) M w) := by
  have o1 := hok.stack
  have o2 := hok.calls
  have o3 := hok.out
  have o4 := hok.image
  obtain ⟨t1, t2⟩ := takesD_bd op ho
  obtain ⟨g1, g2⟩ := givesD_bd op ho
  have HT := hide (fun w' => dTakes_any op w' ho)
  have HG := hide (fun w' => dGives_any op w' ho)
  have HD := hide (fun w' (h' : DmIs w' P b M) => denied_any h' op ho)
  have HF := hide (fun w' (h' : DmIs w' P b M) => fenced_any h' (by omega) (by omega) op ho)
  have HTop := hide (fun w' (h' : DmIs w' P b M) => top_any h' (by omega))
  obtain ⟨gi, ki, sa, ks, ac, kc, ao, ko, hlt, c0, c1, c2, c3, c4, c5, c6, c7, c8, c9, c10, c11, fr⟩ := h.view
  have H0 := hide h
  clear c0 c1 c2 c3 c4 c5 c11 fr h hok
  unfold DPost at HD HF HTop
  rw [hden] at HD
  rw [hfen] at HF
  generalize takesD op = tk at *
  generalize givesD op = gv at *
  generalize M.top = tp at *
  clear ho
  go_enter Tryz.func60, Tryz.ntmps60
  go_wp2
  go_quiet (fail)
  have hh1 := H0.out.drewN nq
  have kk1 := Kept.drewN P w nq
  generalize w.drewN nq = w1 at hh1 kk1 ⊢
  clear c6 c7 c8 c9 c10 H0 hlt
  obtain ⟨gi, ki, sa, ks, ac, kc, ao, ko, hlt, c0, c1, c2, c3, c4, c5, c6, c7, c8, c9, c10, c11, fr⟩ := hh1.view
  have H0 := hide hh1
  clear c0 c1 c2 c3 c4 c5 c6 c7 c11 fr hh1
  go_wp2
  go_quiet (first | (go_at_call 79; refine Calls.quiet_of_same ((unhide HT) _)))
  go_wp2_with fail
  refine ((unhide HG) _).mono ?_
  rintro e w2 ⟨rfl, rfl⟩
  go_wp2_with fail
  refine ((unhide HD) _ (H0.out.drewN _)).mono ?_
  rintro e w3 ⟨rfl, h3, k3⟩
  have K3 := (kk1.trans (Kept.drewN P w1 _)).trans k3
  obtain ⟨gi3, ki3, sa3, ks3, ac3, kc3, ao3, ko3, hlt3, d0, d1, d2, d3, d4, d5, d6, d7, d8, d9, d10, d11, fr3⟩ := h3.view
  have H3 := hide h3
  clear d0 d1 d2 d3 d4 d5 d6 d7 d8 d9 d11 fr3 h3 k3
  go_wp2_with fail
  refine ((unhide HF) _ H3.out).mono ?_
  rintro e w5 ⟨rfl, h5, k5⟩
  have post : Hid (DmIs w5 P b M ∧ Kept P w w5) := ⟨h5, K3.trans k5⟩
  clear h5 k5
  go_wp2
  go_ret
  exact ⟨rfl, post.out.1, post.out.2⟩

set_option maxRecDepth 100000 in
set_option maxHeartbeats 1600000 in
theorem dfault_any_ok (h : DmIs w P b M) (hok : M.Ok) (op : Int) (ho : opOk op) (n5 : (op == 5) = false) (n4 : (op == 4) = false) (n32 : (op == 32) = false) (n23 : (op == 23) = false) (n24 : (op == 24) = false) (hfu : M.used < M.fuel) (hun : 0 ≤ (M.stack.length : Int) - takesD op) (hov : (M.stack.length : Int) - takesD op + givesD op ≤ 16) (hden : deniedD M op = false) (hfen : fencedD M op = false) : Calls Tryz.prog 60 #[.pointer (some ⟨b, 0, none⟩), .int .i64 op] w (DPost P b (.int .i64 0) M w) := by
  have o1 := hok.stack
  have o2 := hok.calls
  have o3 := hok.out
  have o4 := hok.image
  obtain ⟨t1, t2⟩ := takesD_bd op ho
  obtain ⟨g1, g2⟩ := givesD_bd op ho
  have HT := hide (fun w' => dTakes_any op w' ho)
  have HG := hide (fun w' => dGives_any op w' ho)
  have HD := hide (fun w' (h' : DmIs w' P b M) => denied_any h' op ho)
  have HF := hide (fun w' (h' : DmIs w' P b M) => fenced_any h' (by omega) (by omega) op ho)
  have HTop := hide (fun w' (h' : DmIs w' P b M) => top_any h' (by omega))
  obtain ⟨gi, ki, sa, ks, ac, kc, ao, ko, hlt, c0, c1, c2, c3, c4, c5, c6, c7, c8, c9, c10, c11, fr⟩ := h.view
  have H0 := hide h
  clear c0 c1 c2 c3 c4 c5 c11 fr h hok
  unfold DPost at HD HF HTop
  rw [hden] at HD
  rw [hfen] at HF
  generalize takesD op = tk at *
  generalize givesD op = gv at *
  generalize M.top = tp at *
  clear ho
  go_enter Tryz.func60, Tryz.ntmps60
  go_wp2
  go_quiet (fail)
  have hh1 := H0.out.drewN nq
  have kk1 := Kept.drewN P w nq
  generalize w.drewN nq = w1 at hh1 kk1 ⊢
  clear c6 c7 c8 c9 c10 H0 hlt
  obtain ⟨gi, ki, sa, ks, ac, kc, ao, ko, hlt, c0, c1, c2, c3, c4, c5, c6, c7, c8, c9, c10, c11, fr⟩ := hh1.view
  have H0 := hide hh1
  clear c0 c1 c2 c3 c4 c5 c6 c7 c11 fr hh1
  go_wp2
  go_quiet (first | (go_at_call 79; refine Calls.quiet_of_same ((unhide HT) _)))
  go_wp2_with fail
  refine ((unhide HG) _).mono ?_
  rintro e w2 ⟨rfl, rfl⟩
  go_wp2_with fail
  refine ((unhide HD) _ (H0.out.drewN _)).mono ?_
  rintro e w3 ⟨rfl, h3, k3⟩
  have K3 := (kk1.trans (Kept.drewN P w1 _)).trans k3
  obtain ⟨gi3, ki3, sa3, ks3, ac3, kc3, ao3, ko3, hlt3, d0, d1, d2, d3, d4, d5, d6, d7, d8, d9, d10, d11, fr3⟩ := h3.view
  have H3 := hide h3
  clear d0 d1 d2 d3 d4 d5 d6 d7 d8 d9 d11 fr3 h3 k3
  go_wp2_with fail
  refine ((unhide HF) _ H3.out).mono ?_
  rintro e w5 ⟨rfl, h5, k5⟩
  have post : Hid (DmIs w5 P b M ∧ Kept P w w5) := ⟨h5, K3.trans k5⟩
  clear h5 k5
  go_wp2
  go_ret
  exact ⟨rfl, post.out.1, post.out.2⟩

set_option maxRecDepth 100000 in
set_option maxHeartbeats 1600000 in
theorem dfault_o5_fuel (h : DmIs w P b M) (hok : M.Ok) (hfu : M.fuel ≤ M.used) : Calls Tryz.prog 60 #[.pointer (some ⟨b, 0, none⟩), .int .i64 5] w (DPost P b (.int .i64 6) M w) := by
  have ho : opOk 5 := by unfold opOk; omega
  have o1 := hok.stack
  have o2 := hok.calls
  have o3 := hok.out
  have o4 := hok.image
  obtain ⟨t1, t2⟩ := takesD_bd 5 ho
  obtain ⟨g1, g2⟩ := givesD_bd 5 ho
  have HT := hide (fun w' => dTakes_any 5 w' ho)
  have HG := hide (fun w' => dGives_any 5 w' ho)
  have HD := hide (fun w' (h' : DmIs w' P b M) => denied_any h' 5 ho)
  have HF := hide (fun w' (h' : DmIs w' P b M) => fenced_any h' (by omega) (by omega) 5 ho)
  have HTop := hide (fun w' (h' : DmIs w' P b M) => top_any h' (by omega))
  obtain ⟨gi, ki, sa, ks, ac, kc, ao, ko, hlt, c0, c1, c2, c3, c4, c5, c6, c7, c8, c9, c10, c11, fr⟩ := h.view
  have H0 := hide h
  clear c0 c1 c2 c3 c4 c5 c11 fr h hok
  unfold DPost at HD HF HTop
  generalize takesD 5 = tk at *
  generalize givesD 5 = gv at *
  generalize M.top = tp at *
  clear ho
  go_enter Tryz.func60, Tryz.ntmps60
  go_wp2
  go_quiet (fail)
  go_wp2
  go_ret
  exact ⟨rfl, H0.out.drewN _, Kept.drewN _ _ _⟩

set_option maxRecDepth 100000 in
set_option maxHeartbeats 1600000 in
theorem dfault_o5_calls (h : DmIs w P b M) (hok : M.Ok) (hfu : M.used < M.fuel) (hun : 0 ≤ (M.stack.length : Int) - takesD 5) (hca : M.calls.length = 0) : Calls Tryz.prog 60 #[.pointer (some ⟨b, 0, none⟩), .int .i64 5] w (DPost P b (.int .i64 7) M w) := by
  have ho : opOk 5 := by unfold opOk; omega
  have o1 := hok.stack
  have o2 := hok.calls
  have o3 := hok.out
  have o4 := hok.image
  obtain ⟨t1, t2⟩ := takesD_bd 5 ho
  obtain ⟨g1, g2⟩ := givesD_bd 5 ho
  have HT := hide (fun w' => dTakes_any 5 w' ho)
  have HG := hide (fun w' => dGives_any 5 w' ho)
  have HD := hide (fun w' (h' : DmIs w' P b M) => denied_any h' 5 ho)
  have HF := hide (fun w' (h' : DmIs w' P b M) => fenced_any h' (by omega) (by omega) 5 ho)
  have HTop := hide (fun w' (h' : DmIs w' P b M) => top_any h' (by omega))
  obtain ⟨gi, ki, sa, ks, ac, kc, ao, ko, hlt, c0, c1, c2, c3, c4, c5, c6, c7, c8, c9, c10, c11, fr⟩ := h.view
  have H0 := hide h
  clear c0 c1 c2 c3 c4 c5 c11 fr h hok
  unfold DPost at HD HF HTop
  generalize takesD 5 = tk at *
  generalize givesD 5 = gv at *
  generalize M.top = tp at *
  clear ho
  go_enter Tryz.func60, Tryz.ntmps60
  go_wp2
  go_quiet (fail)
  have hh1 := H0.out.drewN nq
  have kk1 := Kept.drewN P w nq
  generalize w.drewN nq = w1 at hh1 kk1 ⊢
  clear c6 c7 c8 c9 c10 H0 hlt
  obtain ⟨gi, ki, sa, ks, ac, kc, ao, ko, hlt, c0, c1, c2, c3, c4, c5, c6, c7, c8, c9, c10, c11, fr⟩ := hh1.view
  have H0 := hide hh1
  clear c0 c1 c2 c3 c4 c5 c6 c7 c11 fr hh1
  go_wp2
  go_quiet (first | (go_at_call 79; refine Calls.quiet_of_same ((unhide HT) _)))
  go_wp2
  go_ret
  exact ⟨rfl, H0.out.drewN _, kk1.trans (Kept.drewN _ _ _)⟩

set_option maxRecDepth 100000 in
set_option maxHeartbeats 1600000 in
theorem dfault_o5_ok (h : DmIs w P b M) (hok : M.Ok) (hfu : M.used < M.fuel) (hun : 0 ≤ (M.stack.length : Int) - takesD 5) (hov : (M.stack.length : Int) - takesD 5 + givesD 5 ≤ 16) (hca : 0 < M.calls.length) (hden : deniedD M 5 = false) (hfen : fencedD M 5 = false) : Calls Tryz.prog 60 #[.pointer (some ⟨b, 0, none⟩), .int .i64 5] w (DPost P b (.int .i64 0) M w) := by
  have ho : opOk 5 := by unfold opOk; omega
  have o1 := hok.stack
  have o2 := hok.calls
  have o3 := hok.out
  have o4 := hok.image
  obtain ⟨t1, t2⟩ := takesD_bd 5 ho
  obtain ⟨g1, g2⟩ := givesD_bd 5 ho
  have HT := hide (fun w' => dTakes_any 5 w' ho)
  have HG := hide (fun w' => dGives_any 5 w' ho)
  have HD := hide (fun w' (h' : DmIs w' P b M) => denied_any h' 5 ho)
  have HF := hide (fun w' (h' : DmIs w' P b M) => fenced_any h' (by omega) (by omega) 5 ho)
  have HTop := hide (fun w' (h' : DmIs w' P b M) => top_any h' (by omega))
  obtain ⟨gi, ki, sa, ks, ac, kc, ao, ko, hlt, c0, c1, c2, c3, c4, c5, c6, c7, c8, c9, c10, c11, fr⟩ := h.view
  have H0 := hide h
  clear c0 c1 c2 c3 c4 c5 c11 fr h hok
  unfold DPost at HD HF HTop
  rw [hden] at HD
  rw [hfen] at HF
  generalize takesD 5 = tk at *
  generalize givesD 5 = gv at *
  generalize M.top = tp at *
  clear ho
  have hcb : ((M.calls.length : Int) == 0) = false := by rw [beq_eq_false_iff_ne]; omega
  go_enter Tryz.func60, Tryz.ntmps60
  go_wp2
  go_quiet (fail)
  have hh1 := H0.out.drewN nq
  have kk1 := Kept.drewN P w nq
  generalize w.drewN nq = w1 at hh1 kk1 ⊢
  clear c6 c7 c8 c9 c10 H0 hlt
  obtain ⟨gi, ki, sa, ks, ac, kc, ao, ko, hlt, c0, c1, c2, c3, c4, c5, c6, c7, c8, c9, c10, c11, fr⟩ := hh1.view
  have H0 := hide hh1
  clear c0 c1 c2 c3 c4 c5 c6 c7 c11 fr hh1
  go_wp2
  go_quiet (first | (go_at_call 79; refine Calls.quiet_of_same ((unhide HT) _)))
  go_wp2_with fail
  refine ((unhide HG) _).mono ?_
  rintro e w2 ⟨rfl, rfl⟩
  go_wp2_with fail
  refine ((unhide HD) _ (H0.out.drewN _)).mono ?_
  rintro e w3 ⟨rfl, h3, k3⟩
  have K3 := (kk1.trans (Kept.drewN P w1 _)).trans k3
  obtain ⟨gi3, ki3, sa3, ks3, ac3, kc3, ao3, ko3, hlt3, d0, d1, d2, d3, d4, d5, d6, d7, d8, d9, d10, d11, fr3⟩ := h3.view
  have H3 := hide h3
  clear d0 d1 d2 d3 d4 d5 d6 d7 d8 d9 d11 fr3 h3 k3
  go_wp2_with fail
  refine ((unhide HF) _ H3.out).mono ?_
  rintro e w5 ⟨rfl, h5, k5⟩
  have post : Hid (DmIs w5 P b M ∧ Kept P w w5) := ⟨h5, K3.trans k5⟩
  clear h5 k5
  go_wp2
  go_ret
  exact ⟨rfl, post.out.1, post.out.2⟩

set_option maxRecDepth 100000 in
set_option maxHeartbeats 1600000 in
theorem dfault_o4_fuel (h : DmIs w P b M) (hok : M.Ok) (hfu : M.fuel ≤ M.used) : Calls Tryz.prog 60 #[.pointer (some ⟨b, 0, none⟩), .int .i64 4] w (DPost P b (.int .i64 6) M w) := by
  have ho : opOk 4 := by unfold opOk; omega
  have o1 := hok.stack
  have o2 := hok.calls
  have o3 := hok.out
  have o4 := hok.image
  obtain ⟨t1, t2⟩ := takesD_bd 4 ho
  obtain ⟨g1, g2⟩ := givesD_bd 4 ho
  have HT := hide (fun w' => dTakes_any 4 w' ho)
  have HG := hide (fun w' => dGives_any 4 w' ho)
  have HD := hide (fun w' (h' : DmIs w' P b M) => denied_any h' 4 ho)
  have HF := hide (fun w' (h' : DmIs w' P b M) => fenced_any h' (by omega) (by omega) 4 ho)
  have HTop := hide (fun w' (h' : DmIs w' P b M) => top_any h' (by omega))
  obtain ⟨gi, ki, sa, ks, ac, kc, ao, ko, hlt, c0, c1, c2, c3, c4, c5, c6, c7, c8, c9, c10, c11, fr⟩ := h.view
  have H0 := hide h
  clear c0 c1 c2 c3 c4 c5 c11 fr h hok
  unfold DPost at HD HF HTop
  generalize takesD 4 = tk at *
  generalize givesD 4 = gv at *
  generalize M.top = tp at *
  clear ho
  go_enter Tryz.func60, Tryz.ntmps60
  go_wp2
  go_quiet (fail)
  go_wp2
  go_ret
  exact ⟨rfl, H0.out.drewN _, Kept.drewN _ _ _⟩

set_option maxRecDepth 100000 in
set_option maxHeartbeats 1600000 in
theorem dfault_o4_deep (h : DmIs w P b M) (hok : M.Ok) (hfu : M.used < M.fuel) (hun : 0 ≤ (M.stack.length : Int) - takesD 4) (hov : (M.stack.length : Int) - takesD 4 + givesD 4 ≤ 16) (hca : 12 ≤ M.calls.length) : Calls Tryz.prog 60 #[.pointer (some ⟨b, 0, none⟩), .int .i64 4] w (DPost P b (.int .i64 9) M w) := by
  have ho : opOk 4 := by unfold opOk; omega
  have o1 := hok.stack
  have o2 := hok.calls
  have o3 := hok.out
  have o4 := hok.image
  obtain ⟨t1, t2⟩ := takesD_bd 4 ho
  obtain ⟨g1, g2⟩ := givesD_bd 4 ho
  have HT := hide (fun w' => dTakes_any 4 w' ho)
  have HG := hide (fun w' => dGives_any 4 w' ho)
  have HD := hide (fun w' (h' : DmIs w' P b M) => denied_any h' 4 ho)
  have HF := hide (fun w' (h' : DmIs w' P b M) => fenced_any h' (by omega) (by omega) 4 ho)
  have HTop := hide (fun w' (h' : DmIs w' P b M) => top_any h' (by omega))
  obtain ⟨gi, ki, sa, ks, ac, kc, ao, ko, hlt, c0, c1, c2, c3, c4, c5, c6, c7, c8, c9, c10, c11, fr⟩ := h.view
  have H0 := hide h
  clear c0 c1 c2 c3 c4 c5 c11 fr h hok
  unfold DPost at HD HF HTop
  generalize takesD 4 = tk at *
  generalize givesD 4 = gv at *
  generalize M.top = tp at *
  clear ho
  go_enter Tryz.func60, Tryz.ntmps60
  go_wp2
  go_quiet (fail)
  have hh1 := H0.out.drewN nq
  have kk1 := Kept.drewN P w nq
  generalize w.drewN nq = w1 at hh1 kk1 ⊢
  clear c6 c7 c8 c9 c10 H0 hlt
  obtain ⟨gi, ki, sa, ks, ac, kc, ao, ko, hlt, c0, c1, c2, c3, c4, c5, c6, c7, c8, c9, c10, c11, fr⟩ := hh1.view
  have H0 := hide hh1
  clear c0 c1 c2 c3 c4 c5 c6 c7 c11 fr hh1
  go_wp2
  go_quiet (first | (go_at_call 79; refine Calls.quiet_of_same ((unhide HT) _)))
  go_wp2_with fail
  refine ((unhide HG) _).mono ?_
  rintro e w2 ⟨rfl, rfl⟩
  go_wp2
  go_ret
  exact ⟨rfl, H0.out.drewN _, kk1.trans (Kept.drewN _ _ _)⟩

set_option maxRecDepth 100000 in
set_option maxHeartbeats 1600000 in
theorem dfault_o4_ok (h : DmIs w P b M) (hok : M.Ok) (hfu : M.used < M.fuel) (hun : 0 ≤ (M.stack.length : Int) - takesD 4) (hov : (M.stack.length : Int) - takesD 4 + givesD 4 ≤ 16) (hca : M.calls.length < 12) (hden : deniedD M 4 = false) (hfen : fencedD M 4 = false) : Calls Tryz.prog 60 #[.pointer (some ⟨b, 0, none⟩), .int .i64 4] w (DPost P b (.int .i64 0) M w) := by
  have ho : opOk 4 := by unfold opOk; omega
  have o1 := hok.stack
  have o2 := hok.calls
  have o3 := hok.out
  have o4 := hok.image
  obtain ⟨t1, t2⟩ := takesD_bd 4 ho
  obtain ⟨g1, g2⟩ := givesD_bd 4 ho
  have HT := hide (fun w' => dTakes_any 4 w' ho)
  have HG := hide (fun w' => dGives_any 4 w' ho)
  have HD := hide (fun w' (h' : DmIs w' P b M) => denied_any h' 4 ho)
  have HF := hide (fun w' (h' : DmIs w' P b M) => fenced_any h' (by omega) (by omega) 4 ho)
  have HTop := hide (fun w' (h' : DmIs w' P b M) => top_any h' (by omega))
  obtain ⟨gi, ki, sa, ks, ac, kc, ao, ko, hlt, c0, c1, c2, c3, c4, c5, c6, c7, c8, c9, c10, c11, fr⟩ := h.view
  have H0 := hide h
  clear c0 c1 c2 c3 c4 c5 c11 fr h hok
  unfold DPost at HD HF HTop
  rw [hden] at HD
  rw [hfen] at HF
  generalize takesD 4 = tk at *
  generalize givesD 4 = gv at *
  generalize M.top = tp at *
  clear ho
  go_enter Tryz.func60, Tryz.ntmps60
  go_wp2
  go_quiet (fail)
  have hh1 := H0.out.drewN nq
  have kk1 := Kept.drewN P w nq
  generalize w.drewN nq = w1 at hh1 kk1 ⊢
  clear c6 c7 c8 c9 c10 H0 hlt
  obtain ⟨gi, ki, sa, ks, ac, kc, ao, ko, hlt, c0, c1, c2, c3, c4, c5, c6, c7, c8, c9, c10, c11, fr⟩ := hh1.view
  have H0 := hide hh1
  clear c0 c1 c2 c3 c4 c5 c6 c7 c11 fr hh1
  go_wp2
  go_quiet (first | (go_at_call 79; refine Calls.quiet_of_same ((unhide HT) _)))
  go_wp2_with fail
  refine ((unhide HG) _).mono ?_
  rintro e w2 ⟨rfl, rfl⟩
  go_wp2_with fail
  refine ((unhide HD) _ (H0.out.drewN _)).mono ?_
  rintro e w3 ⟨rfl, h3, k3⟩
  have K3 := (kk1.trans (Kept.drewN P w1 _)).trans k3
  obtain ⟨gi3, ki3, sa3, ks3, ac3, kc3, ao3, ko3, hlt3, d0, d1, d2, d3, d4, d5, d6, d7, d8, d9, d10, d11, fr3⟩ := h3.view
  have H3 := hide h3
  clear d0 d1 d2 d3 d4 d5 d6 d7 d8 d9 d11 fr3 h3 k3
  go_wp2_with fail
  refine ((unhide HF) _ H3.out).mono ?_
  rintro e w5 ⟨rfl, h5, k5⟩
  have post : Hid (DmIs w5 P b M ∧ Kept P w w5) := ⟨h5, K3.trans k5⟩
  clear h5 k5
  go_wp2
  go_ret
  exact ⟨rfl, post.out.1, post.out.2⟩

set_option maxRecDepth 100000 in
set_option maxHeartbeats 1600000 in
theorem dfault_o32_fuel (h : DmIs w P b M) (hok : M.Ok) (hfu : M.fuel ≤ M.used) : Calls Tryz.prog 60 #[.pointer (some ⟨b, 0, none⟩), .int .i64 32] w (DPost P b (.int .i64 6) M w) := by
  have ho : opOk 32 := by unfold opOk; omega
  have o1 := hok.stack
  have o2 := hok.calls
  have o3 := hok.out
  have o4 := hok.image
  obtain ⟨t1, t2⟩ := takesD_bd 32 ho
  obtain ⟨g1, g2⟩ := givesD_bd 32 ho
  have HT := hide (fun w' => dTakes_any 32 w' ho)
  have HG := hide (fun w' => dGives_any 32 w' ho)
  have HD := hide (fun w' (h' : DmIs w' P b M) => denied_any h' 32 ho)
  have HF := hide (fun w' (h' : DmIs w' P b M) => fenced_any h' (by omega) (by omega) 32 ho)
  have HTop := hide (fun w' (h' : DmIs w' P b M) => top_any h' (by omega))
  obtain ⟨gi, ki, sa, ks, ac, kc, ao, ko, hlt, c0, c1, c2, c3, c4, c5, c6, c7, c8, c9, c10, c11, fr⟩ := h.view
  have H0 := hide h
  clear c0 c1 c2 c3 c4 c5 c11 fr h hok
  unfold DPost at HD HF HTop
  generalize takesD 32 = tk at *
  generalize givesD 32 = gv at *
  generalize M.top = tp at *
  clear ho
  go_enter Tryz.func60, Tryz.ntmps60
  go_wp2
  go_quiet (fail)
  go_wp2
  go_ret
  exact ⟨rfl, H0.out.drewN _, Kept.drewN _ _ _⟩

set_option maxRecDepth 100000 in
set_option maxHeartbeats 1600000 in
theorem dfault_o32_under (h : DmIs w P b M) (hok : M.Ok) (hfu : M.used < M.fuel) (hun : (M.stack.length : Int) - takesD 32 < 0) : Calls Tryz.prog 60 #[.pointer (some ⟨b, 0, none⟩), .int .i64 32] w (DPost P b (.int .i64 7) M w) := by
  have ho : opOk 32 := by unfold opOk; omega
  have o1 := hok.stack
  have o2 := hok.calls
  have o3 := hok.out
  have o4 := hok.image
  obtain ⟨t1, t2⟩ := takesD_bd 32 ho
  obtain ⟨g1, g2⟩ := givesD_bd 32 ho
  have HT := hide (fun w' => dTakes_any 32 w' ho)
  have HG := hide (fun w' => dGives_any 32 w' ho)
  have HD := hide (fun w' (h' : DmIs w' P b M) => denied_any h' 32 ho)
  have HF := hide (fun w' (h' : DmIs w' P b M) => fenced_any h' (by omega) (by omega) 32 ho)
  have HTop := hide (fun w' (h' : DmIs w' P b M) => top_any h' (by omega))
  obtain ⟨gi, ki, sa, ks, ac, kc, ao, ko, hlt, c0, c1, c2, c3, c4, c5, c6, c7, c8, c9, c10, c11, fr⟩ := h.view
  have H0 := hide h
  clear c0 c1 c2 c3 c4 c5 c11 fr h hok
  unfold DPost at HD HF HTop
  generalize takesD 32 = tk at *
  generalize givesD 32 = gv at *
  generalize M.top = tp at *
  clear ho
  go_enter Tryz.func60, Tryz.ntmps60
  go_wp2
  go_quiet (fail)
  have hh1 := H0.out.drewN nq
  have kk1 := Kept.drewN P w nq
  generalize w.drewN nq = w1 at hh1 kk1 ⊢
  clear c6 c7 c8 c9 c10 H0 hlt
  obtain ⟨gi, ki, sa, ks, ac, kc, ao, ko, hlt, c0, c1, c2, c3, c4, c5, c6, c7, c8, c9, c10, c11, fr⟩ := hh1.view
  have H0 := hide hh1
  clear c0 c1 c2 c3 c4 c5 c6 c7 c11 fr hh1
  go_wp2
  go_quiet (first | (go_at_call 79; refine Calls.quiet_of_same ((unhide HT) _)))
  go_wp2
  go_ret
  exact ⟨rfl, H0.out.drewN _, kk1.trans (Kept.drewN _ _ _)⟩

set_option maxRecDepth 100000 in
set_option maxHeartbeats 1600000 in
theorem dfault_o32_denied (h : DmIs w P b M) (hok : M.Ok) (hfu : M.used < M.fuel) (hun : 0 ≤ (M.stack.length : Int) - takesD 32) (hov : (M.stack.length : Int) - takesD 32 + givesD 32 ≤ 16) (hden : deniedD M 32 = true) : Calls Tryz.prog 60 #[.pointer (some ⟨b, 0, none⟩), .int .i64 32] w (DPost P b (.int .i64 10) M w) := by
  have ho : opOk 32 := by unfold opOk; omega
  have o1 := hok.stack
  have o2 := hok.calls
  have o3 := hok.out
  have o4 := hok.image
  obtain ⟨t1, t2⟩ := takesD_bd 32 ho
  obtain ⟨g1, g2⟩ := givesD_bd 32 ho
  have HT := hide (fun w' => dTakes_any 32 w' ho)
  have HG := hide (fun w' => dGives_any 32 w' ho)
  have HD := hide (fun w' (h' : DmIs w' P b M) => denied_any h' 32 ho)
  have HF := hide (fun w' (h' : DmIs w' P b M) => fenced_any h' (by omega) (by omega) 32 ho)
  have HTop := hide (fun w' (h' : DmIs w' P b M) => top_any h' (by omega))
  obtain ⟨gi, ki, sa, ks, ac, kc, ao, ko, hlt, c0, c1, c2, c3, c4, c5, c6, c7, c8, c9, c10, c11, fr⟩ := h.view
  have H0 := hide h
  clear c0 c1 c2 c3 c4 c5 c11 fr h hok
  unfold DPost at HD HF HTop
  rw [hden] at HD
  generalize takesD 32 = tk at *
  generalize givesD 32 = gv at *
  generalize M.top = tp at *
  clear ho
  go_enter Tryz.func60, Tryz.ntmps60
  go_wp2
  go_quiet (fail)
  have hh1 := H0.out.drewN nq
  have kk1 := Kept.drewN P w nq
  generalize w.drewN nq = w1 at hh1 kk1 ⊢
  clear c6 c7 c8 c9 c10 H0 hlt
  obtain ⟨gi, ki, sa, ks, ac, kc, ao, ko, hlt, c0, c1, c2, c3, c4, c5, c6, c7, c8, c9, c10, c11, fr⟩ := hh1.view
  have H0 := hide hh1
  clear c0 c1 c2 c3 c4 c5 c6 c7 c11 fr hh1
  go_wp2
  go_quiet (first | (go_at_call 79; refine Calls.quiet_of_same ((unhide HT) _)))
  go_wp2_with fail
  refine ((unhide HG) _).mono ?_
  rintro e w2 ⟨rfl, rfl⟩
  go_wp2_with fail
  refine ((unhide HD) _ (H0.out.drewN _)).mono ?_
  rintro e w3 ⟨rfl, h3, k3⟩
  have K3 := (kk1.trans (Kept.drewN P w1 _)).trans k3
  obtain ⟨gi3, ki3, sa3, ks3, ac3, kc3, ao3, ko3, hlt3, d0, d1, d2, d3, d4, d5, d6, d7, d8, d9, d10, d11, fr3⟩ := h3.view
  have H3 := hide h3
  clear d0 d1 d2 d3 d4 d5 d6 d7 d8 d9 d11 fr3 h3 k3
  go_wp2
  go_ret
  exact ⟨rfl, H3.out, K3⟩

set_option maxRecDepth 100000 in
set_option maxHeartbeats 1600000 in
theorem dfault_o32_full (h : DmIs w P b M) (hok : M.Ok) (hfu : M.used < M.fuel) (hun : 0 ≤ (M.stack.length : Int) - takesD 32) (hov : (M.stack.length : Int) - takesD 32 + givesD 32 ≤ 16) (hden : deniedD M 32 = false) (hfl : 64 ≤ M.out.length) : Calls Tryz.prog 60 #[.pointer (some ⟨b, 0, none⟩), .int .i64 32] w (DPost P b (.int .i64 11) M w) := by
  have ho : opOk 32 := by unfold opOk; omega
  have o1 := hok.stack
  have o2 := hok.calls
  have o3 := hok.out
  have o4 := hok.image
  obtain ⟨t1, t2⟩ := takesD_bd 32 ho
  obtain ⟨g1, g2⟩ := givesD_bd 32 ho
  have HT := hide (fun w' => dTakes_any 32 w' ho)
  have HG := hide (fun w' => dGives_any 32 w' ho)
  have HD := hide (fun w' (h' : DmIs w' P b M) => denied_any h' 32 ho)
  have HF := hide (fun w' (h' : DmIs w' P b M) => fenced_any h' (by omega) (by omega) 32 ho)
  have HTop := hide (fun w' (h' : DmIs w' P b M) => top_any h' (by omega))
  obtain ⟨gi, ki, sa, ks, ac, kc, ao, ko, hlt, c0, c1, c2, c3, c4, c5, c6, c7, c8, c9, c10, c11, fr⟩ := h.view
  have H0 := hide h
  clear c0 c1 c2 c3 c4 c5 c11 fr h hok
  unfold DPost at HD HF HTop
  rw [hden] at HD
  generalize takesD 32 = tk at *
  generalize givesD 32 = gv at *
  generalize M.top = tp at *
  clear ho
  go_enter Tryz.func60, Tryz.ntmps60
  go_wp2
  go_quiet (fail)
  have hh1 := H0.out.drewN nq
  have kk1 := Kept.drewN P w nq
  generalize w.drewN nq = w1 at hh1 kk1 ⊢
  clear c6 c7 c8 c9 c10 H0 hlt
  obtain ⟨gi, ki, sa, ks, ac, kc, ao, ko, hlt, c0, c1, c2, c3, c4, c5, c6, c7, c8, c9, c10, c11, fr⟩ := hh1.view
  have H0 := hide hh1
  clear c0 c1 c2 c3 c4 c5 c6 c7 c11 fr hh1
  go_wp2
  go_quiet (first | (go_at_call 79; refine Calls.quiet_of_same ((unhide HT) _)))
  go_wp2_with fail
  refine ((unhide HG) _).mono ?_
  rintro e w2 ⟨rfl, rfl⟩
  go_wp2_with fail
  refine ((unhide HD) _ (H0.out.drewN _)).mono ?_
  rintro e w3 ⟨rfl, h3, k3⟩
  have K3 := (kk1.trans (Kept.drewN P w1 _)).trans k3
  obtain ⟨gi3, ki3, sa3, ks3, ac3, kc3, ao3, ko3, hlt3, d0, d1, d2, d3, d4, d5, d6, d7, d8, d9, d10, d11, fr3⟩ := h3.view
  have H3 := hide h3
  clear d0 d1 d2 d3 d4 d5 d6 d7 d8 d9 d11 fr3 h3 k3
  go_wp2
  go_ret
  exact ⟨rfl, H3.out, K3⟩

set_option maxRecDepth 100000 in
set_option maxHeartbeats 1600000 in
theorem dfault_o32_ok (h : DmIs w P b M) (hok : M.Ok) (hfu : M.used < M.fuel) (hun : 0 ≤ (M.stack.length : Int) - takesD 32) (hov : (M.stack.length : Int) - takesD 32 + givesD 32 ≤ 16) (hden : deniedD M 32 = false) (hfl : M.out.length < 64) (hfen : fencedD M 32 = false) : Calls Tryz.prog 60 #[.pointer (some ⟨b, 0, none⟩), .int .i64 32] w (DPost P b (.int .i64 0) M w) := by
  have ho : opOk 32 := by unfold opOk; omega
  have o1 := hok.stack
  have o2 := hok.calls
  have o3 := hok.out
  have o4 := hok.image
  obtain ⟨t1, t2⟩ := takesD_bd 32 ho
  obtain ⟨g1, g2⟩ := givesD_bd 32 ho
  have HT := hide (fun w' => dTakes_any 32 w' ho)
  have HG := hide (fun w' => dGives_any 32 w' ho)
  have HD := hide (fun w' (h' : DmIs w' P b M) => denied_any h' 32 ho)
  have HF := hide (fun w' (h' : DmIs w' P b M) => fenced_any h' (by omega) (by omega) 32 ho)
  have HTop := hide (fun w' (h' : DmIs w' P b M) => top_any h' (by omega))
  obtain ⟨gi, ki, sa, ks, ac, kc, ao, ko, hlt, c0, c1, c2, c3, c4, c5, c6, c7, c8, c9, c10, c11, fr⟩ := h.view
  have H0 := hide h
  clear c0 c1 c2 c3 c4 c5 c11 fr h hok
  unfold DPost at HD HF HTop
  rw [hden] at HD
  rw [hfen] at HF
  generalize takesD 32 = tk at *
  generalize givesD 32 = gv at *
  generalize M.top = tp at *
  clear ho
  go_enter Tryz.func60, Tryz.ntmps60
  go_wp2
  go_quiet (fail)
  have hh1 := H0.out.drewN nq
  have kk1 := Kept.drewN P w nq
  generalize w.drewN nq = w1 at hh1 kk1 ⊢
  clear c6 c7 c8 c9 c10 H0 hlt
  obtain ⟨gi, ki, sa, ks, ac, kc, ao, ko, hlt, c0, c1, c2, c3, c4, c5, c6, c7, c8, c9, c10, c11, fr⟩ := hh1.view
  have H0 := hide hh1
  clear c0 c1 c2 c3 c4 c5 c6 c7 c11 fr hh1
  go_wp2
  go_quiet (first | (go_at_call 79; refine Calls.quiet_of_same ((unhide HT) _)))
  go_wp2_with fail
  refine ((unhide HG) _).mono ?_
  rintro e w2 ⟨rfl, rfl⟩
  go_wp2_with fail
  refine ((unhide HD) _ (H0.out.drewN _)).mono ?_
  rintro e w3 ⟨rfl, h3, k3⟩
  have K3 := (kk1.trans (Kept.drewN P w1 _)).trans k3
  obtain ⟨gi3, ki3, sa3, ks3, ac3, kc3, ao3, ko3, hlt3, d0, d1, d2, d3, d4, d5, d6, d7, d8, d9, d10, d11, fr3⟩ := h3.view
  have H3 := hide h3
  clear d0 d1 d2 d3 d4 d5 d6 d7 d8 d9 d11 fr3 h3 k3
  go_wp2_with fail
  refine ((unhide HF) _ H3.out).mono ?_
  rintro e w5 ⟨rfl, h5, k5⟩
  have post : Hid (DmIs w5 P b M ∧ Kept P w w5) := ⟨h5, K3.trans k5⟩
  clear h5 k5
  go_wp2
  go_ret
  exact ⟨rfl, post.out.1, post.out.2⟩

set_option maxRecDepth 100000 in
set_option maxHeartbeats 1600000 in
theorem dfault_o23_fuel (h : DmIs w P b M) (hok : M.Ok) (hfu : M.fuel ≤ M.used) : Calls Tryz.prog 60 #[.pointer (some ⟨b, 0, none⟩), .int .i64 23] w (DPost P b (.int .i64 6) M w) := by
  have ho : opOk 23 := by unfold opOk; omega
  have o1 := hok.stack
  have o2 := hok.calls
  have o3 := hok.out
  have o4 := hok.image
  obtain ⟨t1, t2⟩ := takesD_bd 23 ho
  obtain ⟨g1, g2⟩ := givesD_bd 23 ho
  have HT := hide (fun w' => dTakes_any 23 w' ho)
  have HG := hide (fun w' => dGives_any 23 w' ho)
  have HD := hide (fun w' (h' : DmIs w' P b M) => denied_any h' 23 ho)
  have HF := hide (fun w' (h' : DmIs w' P b M) => fenced_any h' (by omega) (by omega) 23 ho)
  have HTop := hide (fun w' (h' : DmIs w' P b M) => top_any h' (by omega))
  obtain ⟨gi, ki, sa, ks, ac, kc, ao, ko, hlt, c0, c1, c2, c3, c4, c5, c6, c7, c8, c9, c10, c11, fr⟩ := h.view
  have H0 := hide h
  clear c0 c1 c2 c3 c4 c5 c11 fr h hok
  unfold DPost at HD HF HTop
  generalize takesD 23 = tk at *
  generalize givesD 23 = gv at *
  generalize M.top = tp at *
  clear ho
  go_enter Tryz.func60, Tryz.ntmps60
  go_wp2
  go_quiet (fail)
  go_wp2
  go_ret
  exact ⟨rfl, H0.out.drewN _, Kept.drewN _ _ _⟩

set_option maxRecDepth 100000 in
set_option maxHeartbeats 1600000 in
theorem dfault_o23_under (h : DmIs w P b M) (hok : M.Ok) (hfu : M.used < M.fuel) (hun : (M.stack.length : Int) - takesD 23 < 0) : Calls Tryz.prog 60 #[.pointer (some ⟨b, 0, none⟩), .int .i64 23] w (DPost P b (.int .i64 7) M w) := by
  have ho : opOk 23 := by unfold opOk; omega
  have o1 := hok.stack
  have o2 := hok.calls
  have o3 := hok.out
  have o4 := hok.image
  obtain ⟨t1, t2⟩ := takesD_bd 23 ho
  obtain ⟨g1, g2⟩ := givesD_bd 23 ho
  have HT := hide (fun w' => dTakes_any 23 w' ho)
  have HG := hide (fun w' => dGives_any 23 w' ho)
  have HD := hide (fun w' (h' : DmIs w' P b M) => denied_any h' 23 ho)
  have HF := hide (fun w' (h' : DmIs w' P b M) => fenced_any h' (by omega) (by omega) 23 ho)
  have HTop := hide (fun w' (h' : DmIs w' P b M) => top_any h' (by omega))
  obtain ⟨gi, ki, sa, ks, ac, kc, ao, ko, hlt, c0, c1, c2, c3, c4, c5, c6, c7, c8, c9, c10, c11, fr⟩ := h.view
  have H0 := hide h
  clear c0 c1 c2 c3 c4 c5 c11 fr h hok
  unfold DPost at HD HF HTop
  generalize takesD 23 = tk at *
  generalize givesD 23 = gv at *
  generalize M.top = tp at *
  clear ho
  go_enter Tryz.func60, Tryz.ntmps60
  go_wp2
  go_quiet (fail)
  have hh1 := H0.out.drewN nq
  have kk1 := Kept.drewN P w nq
  generalize w.drewN nq = w1 at hh1 kk1 ⊢
  clear c6 c7 c8 c9 c10 H0 hlt
  obtain ⟨gi, ki, sa, ks, ac, kc, ao, ko, hlt, c0, c1, c2, c3, c4, c5, c6, c7, c8, c9, c10, c11, fr⟩ := hh1.view
  have H0 := hide hh1
  clear c0 c1 c2 c3 c4 c5 c6 c7 c11 fr hh1
  go_wp2
  go_quiet (first | (go_at_call 79; refine Calls.quiet_of_same ((unhide HT) _)))
  go_wp2
  go_ret
  exact ⟨rfl, H0.out.drewN _, kk1.trans (Kept.drewN _ _ _)⟩

set_option maxRecDepth 100000 in
set_option maxHeartbeats 1600000 in
theorem dfault_o23_zero (h : DmIs w P b M) (hok : M.Ok) (hfu : M.used < M.fuel) (hun : 0 ≤ (M.stack.length : Int) - takesD 23) (hov : (M.stack.length : Int) - takesD 23 + givesD 23 ≤ 16) (hden : deniedD M 23 = false) (hz : (M.top == 0) = true) : Calls Tryz.prog 60 #[.pointer (some ⟨b, 0, none⟩), .int .i64 23] w (DPost P b (.int .i64 12) M w) := by
  have ho : opOk 23 := by unfold opOk; omega
  have o1 := hok.stack
  have o2 := hok.calls
  have o3 := hok.out
  have o4 := hok.image
  obtain ⟨t1, t2⟩ := takesD_bd 23 ho
  obtain ⟨g1, g2⟩ := givesD_bd 23 ho
  have HT := hide (fun w' => dTakes_any 23 w' ho)
  have HG := hide (fun w' => dGives_any 23 w' ho)
  have HD := hide (fun w' (h' : DmIs w' P b M) => denied_any h' 23 ho)
  have HF := hide (fun w' (h' : DmIs w' P b M) => fenced_any h' (by omega) (by omega) 23 ho)
  have HTop := hide (fun w' (h' : DmIs w' P b M) => top_any h' (by omega))
  obtain ⟨gi, ki, sa, ks, ac, kc, ao, ko, hlt, c0, c1, c2, c3, c4, c5, c6, c7, c8, c9, c10, c11, fr⟩ := h.view
  have H0 := hide h
  clear c0 c1 c2 c3 c4 c5 c11 fr h hok
  unfold DPost at HD HF HTop
  rw [hden] at HD
  generalize takesD 23 = tk at *
  generalize givesD 23 = gv at *
  generalize M.top = tp at *
  clear ho
  go_enter Tryz.func60, Tryz.ntmps60
  go_wp2
  go_quiet (fail)
  have hh1 := H0.out.drewN nq
  have kk1 := Kept.drewN P w nq
  generalize w.drewN nq = w1 at hh1 kk1 ⊢
  clear c6 c7 c8 c9 c10 H0 hlt
  obtain ⟨gi, ki, sa, ks, ac, kc, ao, ko, hlt, c0, c1, c2, c3, c4, c5, c6, c7, c8, c9, c10, c11, fr⟩ := hh1.view
  have H0 := hide hh1
  clear c0 c1 c2 c3 c4 c5 c6 c7 c11 fr hh1
  go_wp2
  go_quiet (first | (go_at_call 79; refine Calls.quiet_of_same ((unhide HT) _)))
  go_wp2_with fail
  refine ((unhide HG) _).mono ?_
  rintro e w2 ⟨rfl, rfl⟩
  go_wp2_with fail
  refine ((unhide HD) _ (H0.out.drewN _)).mono ?_
  rintro e w3 ⟨rfl, h3, k3⟩
  have K3 := (kk1.trans (Kept.drewN P w1 _)).trans k3
  obtain ⟨gi3, ki3, sa3, ks3, ac3, kc3, ao3, ko3, hlt3, d0, d1, d2, d3, d4, d5, d6, d7, d8, d9, d10, d11, fr3⟩ := h3.view
  have H3 := hide h3
  clear d0 d1 d2 d3 d4 d5 d6 d7 d8 d9 d11 fr3 h3 k3
  go_wp2_with fail
  refine ((unhide HTop) _ H3.out).mono ?_
  rintro e w4 ⟨rfl, h4, k4⟩
  have K4 := K3.trans k4
  have H4 := hide h4
  clear h4 k4
  go_wp2
  go_ret
  exact ⟨rfl, H4.out, K4⟩

set_option maxRecDepth 100000 in
set_option maxHeartbeats 1600000 in
theorem dfault_o23_ok (h : DmIs w P b M) (hok : M.Ok) (hfu : M.used < M.fuel) (hun : 0 ≤ (M.stack.length : Int) - takesD 23) (hov : (M.stack.length : Int) - takesD 23 + givesD 23 ≤ 16) (hden : deniedD M 23 = false) (hz : (M.top == 0) = false) (hfen : fencedD M 23 = false) : Calls Tryz.prog 60 #[.pointer (some ⟨b, 0, none⟩), .int .i64 23] w (DPost P b (.int .i64 0) M w) := by
  have ho : opOk 23 := by unfold opOk; omega
  have o1 := hok.stack
  have o2 := hok.calls
  have o3 := hok.out
  have o4 := hok.image
  obtain ⟨t1, t2⟩ := takesD_bd 23 ho
  obtain ⟨g1, g2⟩ := givesD_bd 23 ho
  have HT := hide (fun w' => dTakes_any 23 w' ho)
  have HG := hide (fun w' => dGives_any 23 w' ho)
  have HD := hide (fun w' (h' : DmIs w' P b M) => denied_any h' 23 ho)
  have HF := hide (fun w' (h' : DmIs w' P b M) => fenced_any h' (by omega) (by omega) 23 ho)
  have HTop := hide (fun w' (h' : DmIs w' P b M) => top_any h' (by omega))
  obtain ⟨gi, ki, sa, ks, ac, kc, ao, ko, hlt, c0, c1, c2, c3, c4, c5, c6, c7, c8, c9, c10, c11, fr⟩ := h.view
  have H0 := hide h
  clear c0 c1 c2 c3 c4 c5 c11 fr h hok
  unfold DPost at HD HF HTop
  rw [hden] at HD
  rw [hfen] at HF
  generalize takesD 23 = tk at *
  generalize givesD 23 = gv at *
  generalize M.top = tp at *
  clear ho
  go_enter Tryz.func60, Tryz.ntmps60
  go_wp2
  go_quiet (fail)
  have hh1 := H0.out.drewN nq
  have kk1 := Kept.drewN P w nq
  generalize w.drewN nq = w1 at hh1 kk1 ⊢
  clear c6 c7 c8 c9 c10 H0 hlt
  obtain ⟨gi, ki, sa, ks, ac, kc, ao, ko, hlt, c0, c1, c2, c3, c4, c5, c6, c7, c8, c9, c10, c11, fr⟩ := hh1.view
  have H0 := hide hh1
  clear c0 c1 c2 c3 c4 c5 c6 c7 c11 fr hh1
  go_wp2
  go_quiet (first | (go_at_call 79; refine Calls.quiet_of_same ((unhide HT) _)))
  go_wp2_with fail
  refine ((unhide HG) _).mono ?_
  rintro e w2 ⟨rfl, rfl⟩
  go_wp2_with fail
  refine ((unhide HD) _ (H0.out.drewN _)).mono ?_
  rintro e w3 ⟨rfl, h3, k3⟩
  have K3 := (kk1.trans (Kept.drewN P w1 _)).trans k3
  obtain ⟨gi3, ki3, sa3, ks3, ac3, kc3, ao3, ko3, hlt3, d0, d1, d2, d3, d4, d5, d6, d7, d8, d9, d10, d11, fr3⟩ := h3.view
  have H3 := hide h3
  clear d0 d1 d2 d3 d4 d5 d6 d7 d8 d9 d11 fr3 h3 k3
  go_wp2_with fail
  refine ((unhide HTop) _ H3.out).mono ?_
  rintro e w4 ⟨rfl, h4, k4⟩
  have K4 := K3.trans k4
  have H4 := hide h4
  clear h4 k4
  go_wp2_with fail
  refine ((unhide HF) _ H4.out).mono ?_
  rintro e w5 ⟨rfl, h5, k5⟩
  have post : Hid (DmIs w5 P b M ∧ Kept P w w5) := ⟨h5, K4.trans k5⟩
  clear h5 k5
  go_wp2
  go_ret
  exact ⟨rfl, post.out.1, post.out.2⟩

set_option maxRecDepth 100000 in
set_option maxHeartbeats 1600000 in
theorem dfault_o24_fuel (h : DmIs w P b M) (hok : M.Ok) (hfu : M.fuel ≤ M.used) : Calls Tryz.prog 60 #[.pointer (some ⟨b, 0, none⟩), .int .i64 24] w (DPost P b (.int .i64 6) M w) := by
  have ho : opOk 24 := by unfold opOk; omega
  have o1 := hok.stack
  have o2 := hok.calls
  have o3 := hok.out
  have o4 := hok.image
  obtain ⟨t1, t2⟩ := takesD_bd 24 ho
  obtain ⟨g1, g2⟩ := givesD_bd 24 ho
  have HT := hide (fun w' => dTakes_any 24 w' ho)
  have HG := hide (fun w' => dGives_any 24 w' ho)
  have HD := hide (fun w' (h' : DmIs w' P b M) => denied_any h' 24 ho)
  have HF := hide (fun w' (h' : DmIs w' P b M) => fenced_any h' (by omega) (by omega) 24 ho)
  have HTop := hide (fun w' (h' : DmIs w' P b M) => top_any h' (by omega))
  obtain ⟨gi, ki, sa, ks, ac, kc, ao, ko, hlt, c0, c1, c2, c3, c4, c5, c6, c7, c8, c9, c10, c11, fr⟩ := h.view
  have H0 := hide h
  clear c0 c1 c2 c3 c4 c5 c11 fr h hok
  unfold DPost at HD HF HTop
  generalize takesD 24 = tk at *
  generalize givesD 24 = gv at *
  generalize M.top = tp at *
  clear ho
  go_enter Tryz.func60, Tryz.ntmps60
  go_wp2
  go_quiet (fail)
  go_wp2
  go_ret
  exact ⟨rfl, H0.out.drewN _, Kept.drewN _ _ _⟩

set_option maxRecDepth 100000 in
set_option maxHeartbeats 1600000 in
theorem dfault_o24_under (h : DmIs w P b M) (hok : M.Ok) (hfu : M.used < M.fuel) (hun : (M.stack.length : Int) - takesD 24 < 0) : Calls Tryz.prog 60 #[.pointer (some ⟨b, 0, none⟩), .int .i64 24] w (DPost P b (.int .i64 7) M w) := by
  have ho : opOk 24 := by unfold opOk; omega
  have o1 := hok.stack
  have o2 := hok.calls
  have o3 := hok.out
  have o4 := hok.image
  obtain ⟨t1, t2⟩ := takesD_bd 24 ho
  obtain ⟨g1, g2⟩ := givesD_bd 24 ho
  have HT := hide (fun w' => dTakes_any 24 w' ho)
  have HG := hide (fun w' => dGives_any 24 w' ho)
  have HD := hide (fun w' (h' : DmIs w' P b M) => denied_any h' 24 ho)
  have HF := hide (fun w' (h' : DmIs w' P b M) => fenced_any h' (by omega) (by omega) 24 ho)
  have HTop := hide (fun w' (h' : DmIs w' P b M) => top_any h' (by omega))
  obtain ⟨gi, ki, sa, ks, ac, kc, ao, ko, hlt, c0, c1, c2, c3, c4, c5, c6, c7, c8, c9, c10, c11, fr⟩ := h.view
  have H0 := hide h
  clear c0 c1 c2 c3 c4 c5 c11 fr h hok
  unfold DPost at HD HF HTop
  generalize takesD 24 = tk at *
  generalize givesD 24 = gv at *
  generalize M.top = tp at *
  clear ho
  go_enter Tryz.func60, Tryz.ntmps60
  go_wp2
  go_quiet (fail)
  have hh1 := H0.out.drewN nq
  have kk1 := Kept.drewN P w nq
  generalize w.drewN nq = w1 at hh1 kk1 ⊢
  clear c6 c7 c8 c9 c10 H0 hlt
  obtain ⟨gi, ki, sa, ks, ac, kc, ao, ko, hlt, c0, c1, c2, c3, c4, c5, c6, c7, c8, c9, c10, c11, fr⟩ := hh1.view
  have H0 := hide hh1
  clear c0 c1 c2 c3 c4 c5 c6 c7 c11 fr hh1
  go_wp2
  go_quiet (first | (go_at_call 79; refine Calls.quiet_of_same ((unhide HT) _)))
  go_wp2
  go_ret
  exact ⟨rfl, H0.out.drewN _, kk1.trans (Kept.drewN _ _ _)⟩

set_option maxRecDepth 100000 in
set_option maxHeartbeats 1600000 in
theorem dfault_o24_zero (h : DmIs w P b M) (hok : M.Ok) (hfu : M.used < M.fuel) (hun : 0 ≤ (M.stack.length : Int) - takesD 24) (hov : (M.stack.length : Int) - takesD 24 + givesD 24 ≤ 16) (hden : deniedD M 24 = false) (hz : (M.top == 0) = true) : Calls Tryz.prog 60 #[.pointer (some ⟨b, 0, none⟩), .int .i64 24] w (DPost P b (.int .i64 12) M w) := by
  have ho : opOk 24 := by unfold opOk; omega
  have o1 := hok.stack
  have o2 := hok.calls
  have o3 := hok.out
  have o4 := hok.image
  obtain ⟨t1, t2⟩ := takesD_bd 24 ho
  obtain ⟨g1, g2⟩ := givesD_bd 24 ho
  have HT := hide (fun w' => dTakes_any 24 w' ho)
  have HG := hide (fun w' => dGives_any 24 w' ho)
  have HD := hide (fun w' (h' : DmIs w' P b M) => denied_any h' 24 ho)
  have HF := hide (fun w' (h' : DmIs w' P b M) => fenced_any h' (by omega) (by omega) 24 ho)
  have HTop := hide (fun w' (h' : DmIs w' P b M) => top_any h' (by omega))
  obtain ⟨gi, ki, sa, ks, ac, kc, ao, ko, hlt, c0, c1, c2, c3, c4, c5, c6, c7, c8, c9, c10, c11, fr⟩ := h.view
  have H0 := hide h
  clear c0 c1 c2 c3 c4 c5 c11 fr h hok
  unfold DPost at HD HF HTop
  rw [hden] at HD
  generalize takesD 24 = tk at *
  generalize givesD 24 = gv at *
  generalize M.top = tp at *
  clear ho
  go_enter Tryz.func60, Tryz.ntmps60
  go_wp2
  go_quiet (fail)
  have hh1 := H0.out.drewN nq
  have kk1 := Kept.drewN P w nq
  generalize w.drewN nq = w1 at hh1 kk1 ⊢
  clear c6 c7 c8 c9 c10 H0 hlt
  obtain ⟨gi, ki, sa, ks, ac, kc, ao, ko, hlt, c0, c1, c2, c3, c4, c5, c6, c7, c8, c9, c10, c11, fr⟩ := hh1.view
  have H0 := hide hh1
  clear c0 c1 c2 c3 c4 c5 c6 c7 c11 fr hh1
  go_wp2
  go_quiet (first | (go_at_call 79; refine Calls.quiet_of_same ((unhide HT) _)))
  go_wp2_with fail
  refine ((unhide HG) _).mono ?_
  rintro e w2 ⟨rfl, rfl⟩
  go_wp2_with fail
  refine ((unhide HD) _ (H0.out.drewN _)).mono ?_
  rintro e w3 ⟨rfl, h3, k3⟩
  have K3 := (kk1.trans (Kept.drewN P w1 _)).trans k3
  obtain ⟨gi3, ki3, sa3, ks3, ac3, kc3, ao3, ko3, hlt3, d0, d1, d2, d3, d4, d5, d6, d7, d8, d9, d10, d11, fr3⟩ := h3.view
  have H3 := hide h3
  clear d0 d1 d2 d3 d4 d5 d6 d7 d8 d9 d11 fr3 h3 k3
  go_wp2_with fail
  refine ((unhide HTop) _ H3.out).mono ?_
  rintro e w4 ⟨rfl, h4, k4⟩
  have K4 := K3.trans k4
  have H4 := hide h4
  clear h4 k4
  go_wp2
  go_ret
  exact ⟨rfl, H4.out, K4⟩

set_option maxRecDepth 100000 in
set_option maxHeartbeats 1600000 in
theorem dfault_o24_ok (h : DmIs w P b M) (hok : M.Ok) (hfu : M.used < M.fuel) (hun : 0 ≤ (M.stack.length : Int) - takesD 24) (hov : (M.stack.length : Int) - takesD 24 + givesD 24 ≤ 16) (hden : deniedD M 24 = false) (hz : (M.top == 0) = false) (hfen : fencedD M 24 = false) : Calls Tryz.prog 60 #[.pointer (some ⟨b, 0, none⟩), .int .i64 24] w (DPost P b (.int .i64 0) M w) := by
  have ho : opOk 24 := by unfold opOk; omega
  have o1 := hok.stack
  have o2 := hok.calls
  have o3 := hok.out
  have o4 := hok.image
  obtain ⟨t1, t2⟩ := takesD_bd 24 ho
  obtain ⟨g1, g2⟩ := givesD_bd 24 ho
  have HT := hide (fun w' => dTakes_any 24 w' ho)
  have HG := hide (fun w' => dGives_any 24 w' ho)
  have HD := hide (fun w' (h' : DmIs w' P b M) => denied_any h' 24 ho)
  have HF := hide (fun w' (h' : DmIs w' P b M) => fenced_any h' (by omega) (by omega) 24 ho)
  have HTop := hide (fun w' (h' : DmIs w' P b M) => top_any h' (by omega))
  obtain ⟨gi, ki, sa, ks, ac, kc, ao, ko, hlt, c0, c1, c2, c3, c4, c5, c6, c7, c8, c9, c10, c11, fr⟩ := h.view
  have H0 := hide h
  clear c0 c1 c2 c3 c4 c5 c11 fr h hok
  unfold DPost at HD HF HTop
  rw [hden] at HD
  rw [hfen] at HF
  generalize takesD 24 = tk at *
  generalize givesD 24 = gv at *
  generalize M.top = tp at *
  clear ho
  go_enter Tryz.func60, Tryz.ntmps60
  go_wp2
  go_quiet (fail)
  have hh1 := H0.out.drewN nq
  have kk1 := Kept.drewN P w nq
  generalize w.drewN nq = w1 at hh1 kk1 ⊢
  clear c6 c7 c8 c9 c10 H0 hlt
  obtain ⟨gi, ki, sa, ks, ac, kc, ao, ko, hlt, c0, c1, c2, c3, c4, c5, c6, c7, c8, c9, c10, c11, fr⟩ := hh1.view
  have H0 := hide hh1
  clear c0 c1 c2 c3 c4 c5 c6 c7 c11 fr hh1
  go_wp2
  go_quiet (first | (go_at_call 79; refine Calls.quiet_of_same ((unhide HT) _)))
  go_wp2_with fail
  refine ((unhide HG) _).mono ?_
  rintro e w2 ⟨rfl, rfl⟩
  go_wp2_with fail
  refine ((unhide HD) _ (H0.out.drewN _)).mono ?_
  rintro e w3 ⟨rfl, h3, k3⟩
  have K3 := (kk1.trans (Kept.drewN P w1 _)).trans k3
  obtain ⟨gi3, ki3, sa3, ks3, ac3, kc3, ao3, ko3, hlt3, d0, d1, d2, d3, d4, d5, d6, d7, d8, d9, d10, d11, fr3⟩ := h3.view
  have H3 := hide h3
  clear d0 d1 d2 d3 d4 d5 d6 d7 d8 d9 d11 fr3 h3 k3
  go_wp2_with fail
  refine ((unhide HTop) _ H3.out).mono ?_
  rintro e w4 ⟨rfl, h4, k4⟩
  have K4 := K3.trans k4
  have H4 := hide h4
  clear h4 k4
  go_wp2_with fail
  refine ((unhide HF) _ H4.out).mono ?_
  rintro e w5 ⟨rfl, h5, k5⟩
  have post : Hid (DmIs w5 P b M ∧ Kept P w w5) := ⟨h5, K4.trans k5⟩
  clear h5 k5
  go_wp2
  go_ret
  exact ⟨rfl, post.out.1, post.out.2⟩

end
end Go.Proofs.YtnanjomnldfidabGreatDoor
