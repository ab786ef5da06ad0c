/-
  Package grader's machine: top, push, pop, popCall, nextKey, denied, fenced.
-/
import Derived.Test.YtnanjomnldfidabGreatDoorDmOps
set_option linter.unusedSimpArgs false
set_option linter.unusedVariables false
set_option linter.unusedSectionVars false
namespace Go.Proofs.YtnanjomnldfidabGreatDoor
open Go.RowKit

/-- What a method leaves. -/
def DPost (P : Nat → Prop) (b : Nat) (v : Value) (M : Ma) (w : World) (e : Ending) (w' : World) : Prop := e = .returned v ∧ DmIs w' P b M ∧ Kept P w w'

section
variable {w : World} {P : Nat → Prop} {b : Nat} {M : Ma}
theorem DmIs.view (h : DmIs w P b M) : ∃ gi ki sa ks ac kc ao ko, b < w.heap.size ∧ w.cell? ⟨b, 0, none⟩ = some (.string M.inp) ∧ w.cell? ⟨b, 1, none⟩ = some (.int .i64 M.pos) ∧ w.cell? ⟨b, 2, none⟩ = some (.slice (some ⟨gi, 0, none⟩) M.image.length ki) ∧
    w.cell? ⟨b, 3, none⟩ = some (.int .i64 M.kernel) ∧ w.cell? ⟨b, 4, none⟩ = some (.int .i64 M.fence) ∧ w.cell? ⟨b, 5, none⟩ = some (.int .i64 M.rights) ∧ w.cell? ⟨b, 6, none⟩ = some (.int .i64 M.fuel) ∧ w.cell? ⟨b, 7, none⟩ = some (.int .i64 M.used) ∧
    w.cell? ⟨b, 8, none⟩ = some (.slice sa M.stack.length ks) ∧ w.cell? ⟨b, 9, none⟩ = some (.slice ac M.calls.length kc) ∧ w.cell? ⟨b, 10, none⟩ = some (.slice ao M.out.length ko) ∧ w.cell? ⟨b, 11, none⟩ = some (.int .i64 M.mark) ∧ (∀ j, w.frozen? ⟨b, j, none⟩ = false) := by
  obtain ⟨vi, vs, vc, vo, h⟩ := h
  obtain ⟨gi, ki, cs, fr, hi⟩ := h.image
  obtain ⟨a0, k0, rfl⟩ := own_slice h.stack.own
  obtain ⟨a1, k1, rfl⟩ := own_slice h.calls.own
  obtain ⟨a2, k2, rfl⟩ := own_slice h.outp.own
  have c2 := h.cell 2 _ rfl
  rw [hi.val] at c2
  exact ⟨gi, ki, a0, k0, a1, k1, a2, k2, h.lt, h.cell 0 _ rfl, h.cell 1 _ rfl, c2, h.cell 3 _ rfl, h.cell 4 _ rfl, h.cell 5 _ rfl, h.cell 6 _ rfl, h.cell 7 _ rfl, h.cell 8 _ rfl, h.cell 9 _ rfl, h.cell 10 _ rfl, h.cell 11 _ rfl, h.free⟩
theorem DmIs.setUsed (h : DmIs w P b M) (n : Int) : DmIs (w.setCell ⟨b, 7, none⟩ (.int .i64 n)) P b { M with used := n } ∧ Kept P w (w.setCell ⟨b, 7, none⟩ (.int .i64 n)) := by
  obtain ⟨vi, vs, vc, vo, h⟩ := h
  obtain ⟨r1, r2⟩ := h.field { M with used := n } 7 (.int .i64 n) rfl rfl rfl rfl rfl
  exact ⟨⟨_, _, _, _, r1⟩, r2⟩
theorem DmIs.setPos (h : DmIs w P b M) (n : Int) : DmIs (w.setCell ⟨b, 1, none⟩ (.int .i64 n)) P b { M with pos := n } ∧ Kept P w (w.setCell ⟨b, 1, none⟩ (.int .i64 n)) := by
  obtain ⟨vi, vs, vc, vo, h⟩ := h
  obtain ⟨r1, r2⟩ := h.field { M with pos := n } 1 (.int .i64 n) rfl rfl rfl rfl rfl
  exact ⟨⟨_, _, _, _, r1⟩, r2⟩
theorem DmIs.setMark (h : DmIs w P b M) (n : Int) : DmIs (w.setCell ⟨b, 11, none⟩ (.int .i64 n)) P b { M with mark := n } ∧ Kept P w (w.setCell ⟨b, 11, none⟩ (.int .i64 n)) := by
  obtain ⟨vi, vs, vc, vo, h⟩ := h
  obtain ⟨r1, r2⟩ := h.field { M with mark := n } 11 (.int .i64 n) rfl rfl rfl rfl rfl
  exact ⟨⟨_, _, _, _, r1⟩, r2⟩

set_option maxRecDepth 100000 in
set_option maxHeartbeats 800000 in
theorem top_any (h : DmIs w P b M) (hl : M.stack.length ≤ 1000) : Calls Tryz.prog 82 #[.pointer (some ⟨b, 0, none⟩)] w (DPost P b (.int .i64 M.top) M w) := by
  have h0 := hide h
  by_cases hne : M.stack = []
  · obtain ⟨gi, ki, sa, ks, ac, kc, ao, ko, hlt, c0, c1, c2, c3, c4, c5, c6, c7, c8, c9, c10, c11, fr⟩ := h.view
    have ht : Hid (M.top = 0) := by unfold Hid Ma.top; rw [hne]; rfl
    have hz : M.stack.length = 0 := by rw [hne]; rfl
    rw [hz] at c8
    clear c0 c1 c2 c3 c4 c5 c6 c7 c9 c10 c11 fr h hne hz
    go_enter Tryz.func82, Tryz.ntmps82
    go_wp2
    go_ret
    exact ⟨ret_int ht.out.symm, h0.out, Kept.refl _ _⟩
  · obtain ⟨vi, vs, vc, vo, h⟩ := h
    have hlt := h.lt
    have hpos : 0 < M.stack.length := List.length_pos_iff.2 hne
    obtain ⟨f, cp, rfl, hflt, hcp1, hcp2, hlast, hrow⟩ := row_last h.stack hne
    have c8 := h.cell 8 _ rfl
    have hlast' : w.cell? ⟨f, M.stack.length - 1, none⟩ = some (.int .i64 M.top) := hlast
    have hzb : ((M.stack.length : Int) == 0) = false := by rw [beq_eq_false_iff_ne]; omega
    clear h hne hlast hrow
    generalize M.top = tp at hlast' ⊢
    go_enter Tryz.func82, Tryz.ntmps82
    go_wp2
    go_quiet (fail)
    go_wp2
    go_ret
    exact ⟨rfl, h0.out.drewN _, Kept.drewN _ _ _⟩

set_option maxRecDepth 100000 in
set_option maxHeartbeats 400000 in
theorem dPush_any (h : DmIs w P b M) (n : Int) (hl : M.stack.length ≤ 1000) : Calls Tryz.prog 84 #[.pointer (some ⟨b, 0, none⟩), .int .i64 n] w (DPost P b (.tuple #[]) (M.push n) w) := by
  obtain ⟨vi, vs, vc, vo, h⟩ := h
  have hlt := h.lt
  have c0 : w.cell? ⟨b, 8, none⟩ = some vs := h.cell 8 _ rfl
  obtain ⟨i0, hi, hz0, hz1, hz2⟩ := info_parts Tryz.infoInt
  have hrow : Row w (fun k => P k ∨ vc.ownBlock = some k) 3 1 vs M.stack.length (intCells M.stack) := ⟨h.stack.own, fun k hk hp => hp.elim (h.stack.out k hk) (h.sep k hk)⟩
  have hbd : Hid (∀ k, P k ∨ vc.ownBlock = some k → k < (w.alloc (.cells #[.int .i64 n] 3)).heap.size) := by
    intro k hk
    rcases hk with hk | hk
    · exact (h.alloc _).bound k hk
    · exact (h.calls.alloc _).lt hk
  obtain ⟨sa, ks, hvs⟩ := own_slice h.stack.own
  subst hvs
  go_enter Tryz.func84, Tryz.ntmps84
  go_wp2_with (at_builtin; refine wpList_append_mine _ rfl _ _ 107 rfl _ hbd.out 3 i0 _ 1 8 Tryz.underlying107 hi hz0 hz1 hz2 rfl (by decide) _ _ _ rfl (hrow.alloc _) ⟨w.heap.size, 0, none⟩ 1 1 [.int .i64 n] rfl rfl ?c1 ?c2 ?c3 ?c4 ?_)
  case c1 => exact cell_one_new _ _ _
  case c2 => intro u hu; simp at hu; subst hu; rfl
  case c3 => unfold maxLen; omega
  case c4 => omega
  intro v' w1 hown' hgrow
  have hown2 : Row w1 (fun k => P k ∨ vc.ownBlock = some k) 3 1 v' (M.stack ++ [n]).length (intCells (M.stack ++ [n])) := by
    rw [intCells_snoc]; simp only [List.length_append, List.length_cons, List.length_nil]; exact hown'
  obtain ⟨r1, r2, cc, ff, hlt1⟩ := (h.alloc (.cells #[.int .i64 n] 3)).pushStack hgrow (M.stack ++ [n]) hown2
  obtain ⟨g', cp', hv⟩ := own_form hown'.own (by omega)
  have fin : Hid (DPost P b (.tuple #[]) (M.push n) w (.returned (.tuple #[])) (w1.setCell ⟨b, 8, none⟩ v')) := ⟨rfl, ⟨_, _, _, _, r1⟩, ((Kept.refl P w).alloc _).trans r2⟩
  rw [hv] at fin
  rw [hv]
  clear hown' hown2 hgrow hv hrow r1 r2 h
  go_wp2
  go_end0
  exact fin.out

set_option maxRecDepth 100000 in
set_option maxHeartbeats 800000 in
theorem dPop_any (h : DmIs w P b M) (hl : M.stack.length ≤ 1000) (hne : M.stack ≠ []) : Calls Tryz.prog 85 #[.pointer (some ⟨b, 0, none⟩)] w (DPost P b (.int .i64 M.top) M.pop w) := by
  have ht := hide (top_any h hl)
  unfold DPost at ht
  have hpos : 0 < M.stack.length := List.length_pos_iff.2 hne
  have HN := hide hne
  clear h hne
  generalize M.top = tp at ht ⊢
  go_enter Tryz.func85, Tryz.ntmps85
  go_wp2_with fail
  refine (unhide ht).mono ?_
  rintro e w1 ⟨rfl, ⟨vi, vs, vc, vo, h⟩, k1⟩
  have hlt := h.lt
  obtain ⟨f, cp, rfl, hflt, hcp1, hcp2, hlast, hrow⟩ := row_last h.stack HN.out
  have c8 := h.cell 8 _ rfl
  have f8 := h.free 8
  obtain ⟨r1, r2⟩ := h.newStack M.stack.dropLast _ hrow h.sep
  have fin : Hid (DPost P b (.int .i64 tp) M.pop w (.returned (.int .i64 tp)) (w1.setCell ⟨b, 8, none⟩ (.slice (some ⟨f, 0, none⟩) (M.stack.length - 1) cp)).drew) := ⟨rfl, (show DmIs _ P b M.pop from ⟨_, _, _, _, r1⟩).drew, k1.trans r2.drew⟩
  clear hrow hlast r1 r2 h k1 ht
  go_wp2
  go_region
  go_wp2
  go_ret
  exact fin.out

set_option maxRecDepth 100000 in
set_option maxHeartbeats 800000 in
theorem popCall_any (h : DmIs w P b M) (hl : M.calls.length ≤ 1000) (hne : M.calls ≠ []) (behind : Int) : Calls Tryz.prog 86 #[.pointer (some ⟨b, 0, none⟩), .int .i64 behind] w (DPost P b (.int .i64 (M.calls.getLastD 0)) { M with calls := M.calls.dropLast } w) := by
  obtain ⟨vi, vs, vc, vo, h⟩ := h
  have hlt := h.lt
  have hpos : 0 < M.calls.length := List.length_pos_iff.2 hne
  obtain ⟨f, cp, rfl, hflt, hcp1, hcp2, hlast, hrow⟩ := row_last h.calls hne
  have c9 := h.cell 9 _ rfl
  have f9 := h.free 9
  obtain ⟨r1, r2⟩ := h.newCalls M.calls.dropLast _ hrow h.sep
  have fin : Hid (DPost P b (.int .i64 (M.calls.getLastD 0)) { M with calls := M.calls.dropLast } w (.returned (.int .i64 (M.calls.getLastD 0))) (w.setCell ⟨b, 9, none⟩ (.slice (some ⟨f, 0, none⟩) (M.calls.length - 1) cp))) := ⟨rfl, ⟨_, _, _, _, r1⟩, r2⟩
  clear hrow r1 r2 h hne
  generalize M.calls.getLastD 0 = tp at hlast fin ⊢
  go_enter Tryz.func86, Tryz.ntmps86
  go_wp2
  go_ret
  exact fin.out

set_option maxRecDepth 100000 in
set_option maxHeartbeats 800000 in
theorem nextKey_end (h : DmIs w P b M) (hin : M.inp.size ≤ 9223372036854775807) (hp : ¬ M.pos < M.inp.size) :
    Calls Tryz.prog 102 #[.pointer (some ⟨b, 0, none⟩)] w (DPost P b (.int .i64 65535) M w) := by
  have h0 := hide h
  obtain ⟨gi, ki, sa, ks, ac, kc, ao, ko, hlt, c0, c1, c2, c3, c4, c5, c6, c7, c8, c9, c10, c11, fr⟩ := h.view
  clear c2 c3 c4 c5 c6 c7 c8 c9 c10 c11 fr h
  have hp' : (M.inp.size : Int) ≤ M.pos := by omega
  clear hp
  go_enter Tryz.func102, Tryz.ntmps102
  go_wp2
  go_quiet (fail)
  go_wp2
  go_ret
  exact ⟨rfl, h0.out.drewN _, Kept.drewN _ _ _⟩

set_option maxRecDepth 100000 in
set_option maxHeartbeats 800000 in
theorem nextKey_more (h : DmIs w P b M) (hin : M.inp.size ≤ 9223372036854775807) (hp0 : 0 ≤ M.pos) (hp : M.pos < M.inp.size) :
    Calls Tryz.prog 102 #[.pointer (some ⟨b, 0, none⟩)] w (DPost P b (.int .i64 ((M.inp.toList.getD M.pos.toNat 0).toNat : Int)) { M with pos := M.pos + 1 } w) := by
  obtain ⟨p, hpn⟩ := Int.eq_ofNat_of_zero_le hp0
  have hps : p < M.inp.size := by omega
  have hby : M.inp.toList.getD M.pos.toNat 0 = M.inp[p] := by
    rw [hpn, Int.toNat_natCast, ByteArray.toList_eq]
    have : p < M.inp.data.toList.length := by rw [len_data]; exact hps
    rw [List.getD_eq_getElem?_getD, List.getElem?_eq_getElem this]
    rfl
  rw [hby, hpn]
  have hR := hide (fun n => ((h.drewN n).drewN n))
  obtain ⟨gi, ki, sa, ks, ac, kc, ao, ko, hlt, c0, c1, c2, c3, c4, c5, c6, c7, c8, c9, c10, c11, fr⟩ := h.view
  rw [hpn] at c1
  have f1 := fr 1
  have h0 := hide h
  have hbl : M.inp[p].toNat < 256 := M.inp[p].toNat_lt
  clear c2 c3 c4 c5 c6 c7 c8 c9 c10 c11 fr h
  go_enter Tryz.func102, Tryz.ntmps102
  go_wp2
  go_quiet (fail)
  go_wp2
  go_quiet (fail)
  go_wp2
  go_ret
  exact ⟨rfl, ((h0.out.drewN _).setPos _).1, (Kept.drewN _ _ _).trans ((h0.out.drewN _).setPos _).2⟩

/-- The rights that a step needs. -/
def deniedD (M : Ma) (op : Int) : Bool := (op == 32 && noRight M.rights 1) || (op == 33 && noRight M.rights 2) || (op == 34 && noRight M.rights 8)
set_option maxRecDepth 100000 in
set_option maxHeartbeats 1600000 in
theorem denied_any (h : DmIs w P b M) (op : Int) (ho : opOk op) :
    Calls Tryz.prog 81 #[.pointer (some ⟨b, 0, none⟩), .int .i64 op] w (DPost P b (.bool (deniedD M op)) M w) := by
  obtain ⟨gi, ki, sa, ks, ac, kc, ao, ko, hlt, c0, c1, c2, c3, c4, c5, c6, c7, c8, c9, c10, c11, fr⟩ := h.view
  have post : Hid (∀ v, v = deniedD M op → DPost P b (.bool (deniedD M op)) M w (.returned (.bool v)) w) := fun v hv => ⟨by rw [hv], h, Kept.refl _ _⟩
  have e1 : Hid (op = 32 → deniedD M op = (bits BinOp.and IntKind.i64 M.rights 1 == 0)) := by intro e; subst e; unfold deniedD noRight; simp
  have e2 : Hid (op = 33 → deniedD M op = (bits BinOp.and IntKind.i64 M.rights 2 == 0)) := by intro e; subst e; unfold deniedD noRight; simp
  have e3 : Hid (op = 34 → deniedD M op = (bits BinOp.and IntKind.i64 M.rights 8 == 0)) := by intro e; subst e; unfold deniedD noRight; simp
  have e4 : Hid (op ≠ 32 → op ≠ 33 → op ≠ 34 → deniedD M op = false) := by intro h1 h2 h3; unfold deniedD; simp [h1, h2, h3]
  clear c0 c1 c2 c3 c4 c6 c7 c8 c9 c10 c11 fr h
  generalize deniedD M op = d at post e1 e2 e3 e4 ⊢
  generalize DPost P b (.bool d) M w = QQ at post ⊢
  rcases casesOp ho with rfl | rfl | rfl | rfl | rfl | rfl | rfl | rfl | rfl | rfl | rfl | rfl | rfl | rfl | rfl | rfl | rfl | rfl | rfl | rfl | rfl | rfl | rfl | rfl
  all_goals
    clear ho
    go_enter Tryz.func81, Tryz.ntmps81
    go_wp2
    first
      | exact post.out _ (e4.out (by decide) (by decide) (by decide)).symm
      | exact post.out _ ((unhide e1) (by trivial)).symm
      | exact post.out _ ((unhide e2) (by trivial)).symm
      | exact post.out _ ((unhide e3) (by trivial)).symm

/-- The places that a step may not reach. -/
def fencedD (M : Ma) (op : Int) : Bool := (op == 30 && (decide ((M.image.length : Int) ≤ M.top) || (decide (M.kernel ≤ M.top) && decide (M.top < M.fence) && noRight M.rights 4))) || (op == 31 && (decide ((M.image.length : Int) ≤ M.top) || decide (M.top < M.fence)))
theorem fencedD_at (M : Ma) : fencedD M 30 = (decide ((M.image.length : Int) ≤ M.top) || (decide (M.kernel ≤ M.top) && decide (M.top < M.fence) && (bits BinOp.and IntKind.i64 M.rights 4 == 0))) := by
  unfold fencedD noRight; simp
theorem fencedD_st (M : Ma) : fencedD M 31 = (decide ((M.image.length : Int) ≤ M.top) || decide (M.top < M.fence)) := by
  unfold fencedD; simp

set_option maxRecDepth 100000 in
set_option maxHeartbeats 1600000 in
theorem fenced_plain (h : DmIs w P b M) (hl : M.stack.length ≤ 1000) (hi : M.image.length ≤ 1000) (op : Int) (ho : opOk op) (h1 : op ≠ 30) (h2 : op ≠ 31) :
    Calls Tryz.prog 83 #[.pointer (some ⟨b, 0, none⟩), .int .i64 op] w (DPost P b (.bool (fencedD M op)) M w) := by
  have ht := hide (top_any h hl)
  have ed : Hid (fencedD M op = false) := by unfold Hid fencedD; simp [h1, h2]
  generalize fencedD M op = d at ed ⊢
  unfold DPost at ht
  generalize M.top = tp at ht
  have h1' : (op == 30) = false := by simpa using h1
  have h2' : (op == 31) = false := by simpa using h2
  clear h h1 h2 ho
  go_enter Tryz.func83, Tryz.ntmps83
  go_wp2_with fail
  refine (unhide ht).mono ?_
  rintro e w1 ⟨rfl, h1, k1⟩
  obtain ⟨gi, ki, sa, ks, ac, kc, ao, ko, hlt, c0, c1, c2, c3, c4, c5, c6, c7, c8, c9, c10, c11, fr⟩ := h1.view
  have post : Hid (∀ v, v = d → DPost P b (.bool d) M w (.returned (.bool v)) w1) := fun v hv => ⟨by rw [hv], h1, k1⟩
  clear c0 c1 c3 c4 c5 c6 c7 c8 c9 c10 c11 fr h1 k1 ht
  generalize decide ((M.image.length : Int) ≤ tp) = bb
  go_wp2
  go_ret
  exact post.out _ ed.out.symm

set_option maxRecDepth 100000 in
set_option maxHeartbeats 3200000 in
theorem fenced_at (h : DmIs w P b M) (hl : M.stack.length ≤ 1000) (hi : M.image.length ≤ 1000) :
    Calls Tryz.prog 83 #[.pointer (some ⟨b, 0, none⟩), .int .i64 30] w (DPost P b (.bool (fencedD M 30)) M w) := by
  have ht := hide (top_any h hl)
  have e := hide (fencedD_at M)
  generalize fencedD M 30 = d at e ⊢
  unfold DPost at ht
  generalize M.top = tp at ht e
  clear h
  by_cases q1 : (M.image.length : Int) ≤ tp
  · have e' : Hid (d = true) := by unfold Hid; rw [e.out]; simp [q1]
    clear e
    by_cases q2 : M.kernel ≤ tp
    · by_cases q3 : tp < M.fence
      all_goals
        go_enter Tryz.func83, Tryz.ntmps83
        go_wp2_with fail
        refine (unhide ht).mono ?_
        rintro e w1 ⟨rfl, h1, k1⟩
        obtain ⟨gi, ki, sa, ks, ac, kc, ao, ko, hlt, c0, c1, c2, c3, c4, c5, c6, c7, c8, c9, c10, c11, fr⟩ := h1.view
        have post : Hid (DPost P b (.bool d) M w (.returned (.bool true)) w1) := ⟨by rw [e'.out], h1, k1⟩
        clear c0 c1 c6 c7 c8 c9 c10 c11 fr h1 k1 ht
        go_wp2
        go_ret
        exact post.out
    · go_enter Tryz.func83, Tryz.ntmps83
      go_wp2_with fail
      refine (unhide ht).mono ?_
      rintro e w1 ⟨rfl, h1, k1⟩
      obtain ⟨gi, ki, sa, ks, ac, kc, ao, ko, hlt, c0, c1, c2, c3, c4, c5, c6, c7, c8, c9, c10, c11, fr⟩ := h1.view
      have post : Hid (DPost P b (.bool d) M w (.returned (.bool true)) w1) := ⟨by rw [e'.out], h1, k1⟩
      clear c0 c1 c6 c7 c8 c9 c10 c11 fr h1 k1 ht
      go_wp2
      go_ret
      exact post.out
  · by_cases q2 : M.kernel ≤ tp
    · by_cases q3 : tp < M.fence
      · cases q4 : (bits BinOp.and IntKind.i64 M.rights 4 == 0)
        all_goals
          have e' := e
          rw [q4] at e'
          simp only [q1, q2, q3, decide_true, decide_false, Bool.false_or, Bool.true_and] at e'
          clear e
          go_enter Tryz.func83, Tryz.ntmps83
          go_wp2_with fail
          refine (unhide ht).mono ?_
          rintro e w1 ⟨rfl, h1, k1⟩
          obtain ⟨gi, ki, sa, ks, ac, kc, ao, ko, hlt, c0, c1, c2, c3, c4, c5, c6, c7, c8, c9, c10, c11, fr⟩ := h1.view
          have post : Hid (∀ v, v = d → DPost P b (.bool d) M w (.returned (.bool v)) w1) := fun v hv => ⟨by rw [hv], h1, k1⟩
          clear c0 c1 c6 c7 c8 c9 c10 c11 fr h1 k1 ht
          go_wp2
          go_ret
          exact post.out _ (by simp [e'.out, q1, q3])
      · have e' : Hid (d = false) := by unfold Hid; rw [e.out]; simp [q1, q3]
        clear e
        go_enter Tryz.func83, Tryz.ntmps83
        go_wp2_with fail
        refine (unhide ht).mono ?_
        rintro e w1 ⟨rfl, h1, k1⟩
        obtain ⟨gi, ki, sa, ks, ac, kc, ao, ko, hlt, c0, c1, c2, c3, c4, c5, c6, c7, c8, c9, c10, c11, fr⟩ := h1.view
        have post : Hid (∀ v, v = d → DPost P b (.bool d) M w (.returned (.bool v)) w1) := fun v hv => ⟨by rw [hv], h1, k1⟩
        clear c0 c1 c6 c7 c8 c9 c10 c11 fr h1 k1 ht
        go_wp2
        go_ret
        exact post.out _ (by simp [e'.out, q1, q3])
    · have e' : Hid (d = false) := by unfold Hid; rw [e.out]; simp [q1, q2]
      clear e
      go_enter Tryz.func83, Tryz.ntmps83
      go_wp2_with fail
      refine (unhide ht).mono ?_
      rintro e w1 ⟨rfl, h1, k1⟩
      obtain ⟨gi, ki, sa, ks, ac, kc, ao, ko, hlt, c0, c1, c2, c3, c4, c5, c6, c7, c8, c9, c10, c11, fr⟩ := h1.view
      have post : Hid (∀ v, v = d → DPost P b (.bool d) M w (.returned (.bool v)) w1) := fun v hv => ⟨by rw [hv], h1, k1⟩
      clear c0 c1 c6 c7 c8 c9 c10 c11 fr h1 k1 ht
      go_wp2
      go_ret
      exact post.out _ (by simp [e'.out, q1, q2])

set_option maxRecDepth 100000 in
set_option maxHeartbeats 3200000 in
theorem fenced_st (h : DmIs w P b M) (hl : M.stack.length ≤ 1000) (hi : M.image.length ≤ 1000) :
    Calls Tryz.prog 83 #[.pointer (some ⟨b, 0, none⟩), .int .i64 31] w (DPost P b (.bool (fencedD M 31)) M w) := by
  have ht := hide (top_any h hl)
  have e := hide (fencedD_st M)
  generalize fencedD M 31 = d at e ⊢
  unfold DPost at ht
  generalize M.top = tp at ht e
  clear h
  by_cases q1 : (M.image.length : Int) ≤ tp
  · have e' : Hid (d = true) := by unfold Hid; rw [e.out]; simp [q1]
    clear e
    go_enter Tryz.func83, Tryz.ntmps83
    go_wp2_with fail
    refine (unhide ht).mono ?_
    rintro e w1 ⟨rfl, h1, k1⟩
    obtain ⟨gi, ki, sa, ks, ac, kc, ao, ko, hlt, c0, c1, c2, c3, c4, c5, c6, c7, c8, c9, c10, c11, fr⟩ := h1.view
    have post : Hid (DPost P b (.bool d) M w (.returned (.bool true)) w1) := ⟨by rw [e'.out], h1, k1⟩
    clear c0 c1 c6 c7 c8 c9 c10 c11 fr h1 k1 ht
    go_wp2
    go_ret
    exact post.out
  · by_cases q3 : tp < M.fence
    all_goals
      have e' := e
      simp only [q1, q3, decide_true, decide_false, Bool.false_or] at e'
      clear e
      go_enter Tryz.func83, Tryz.ntmps83
      go_wp2_with fail
      refine (unhide ht).mono ?_
      rintro e w1 ⟨rfl, h1, k1⟩
      obtain ⟨gi, ki, sa, ks, ac, kc, ao, ko, hlt, c0, c1, c2, c3, c4, c5, c6, c7, c8, c9, c10, c11, fr⟩ := h1.view
      have post : Hid (∀ v, v = d → DPost P b (.bool d) M w (.returned (.bool v)) w1) := fun v hv => ⟨by rw [hv], h1, k1⟩
      clear c0 c1 c6 c7 c8 c9 c10 c11 fr h1 k1 ht
      go_wp2
      go_ret
      exact post.out _ (by simp [e'.out, q1, q3])

theorem fenced_any (h : DmIs w P b M) (hl : M.stack.length ≤ 1000) (hi : M.image.length ≤ 1000) (op : Int) (ho : opOk op) :
    Calls Tryz.prog 83 #[.pointer (some ⟨b, 0, none⟩), .int .i64 op] w (DPost P b (.bool (fencedD M op)) M w) := by
  by_cases h1 : op = 30
  · subst h1; exact fenced_at h hl hi
  by_cases h2 : op = 31
  · subst h2; exact fenced_st h hl hi
  exact fenced_plain h hl hi op ho h1 h2
end
end Go.Proofs.YtnanjomnldfidabGreatDoor
