/-
  graderref's machine in memory; room, push, pop.
-/
import Derived.Test.YtnanjomnldfidabGreatDoorProg
import Derived.Test.YtnanjomnldfidabGreatDoorMem
import Derived.Test.YtnanjomnldfidabGreatDoorMachPure
import Derived.Test.YtnanjomnldfidabGreatDoorLeaf
import Derived.BigQuiet
import Derived.Deep.QuietTactic
set_option linter.unusedSimpArgs false
set_option linter.unusedVariables false
set_option linter.unusedSectionVars false
namespace Go.Proofs.YtnanjomnldfidabGreatDoor
open Go.RowKit

def intCells (l : List Int) : List Value := l.map fun x => .int .i64 x
theorem intCells_length (l : List Int) : (intCells l).length = l.length := by simp [intCells]
theorem intCells_snoc (l : List Int) (a : Int) : intCells (l ++ [a]) = intCells l ++ [.int .i64 a] := by simp [intCells]
theorem Tryz.infoInt : (Tryz.prog.info? 3).map (fun i => (i.zero, i.size, i.bytes)) = some (some (.int .i64 0), 1, 8) := by kernel_rfl

/-- The machine in memory: block b. -/
structure RmAt (w : World) (P : Nat → Prop) (b : Nat) (M : Ma) (vs vc : Value) : Prop where
  bound : ∀ k, P k → k < w.heap.size
  out : ¬ P b
  box : w.heap[b]? = some (.cells #[vs, vc, .string (mkB M.image), .int .i64 M.kernel, .int .i64 M.fence, .string M.inp, .int .i64 M.pos, .int .i64 M.rights, .int .i64 M.fuel, .string (mkB M.out), .int .i64 M.mark, .int .i64 M.used] 114 (0, 0))
  stack : Row w P 3 1 vs M.stack.length (intCells M.stack)
  calls : Row w P 3 1 vc M.calls.length (intCells M.calls)
  sep : ∀ k, vs.ownBlock = some k → vc.ownBlock ≠ some k
def RmIs (w : World) (P : Nat → Prop) (b : Nat) (M : Ma) : Prop := ∃ vs vc, RmAt w P b M vs vc

section
variable {w : World} {P : Nat → Prop} {b : Nat} {M : Ma} {vs vc : Value}
theorem RmAt.alloc (h : RmAt w P b M vs vc) (o : Obj) : RmAt (w.alloc o) P b M vs vc :=
  ⟨fun k hk => by have := h.bound k hk; simp; omega, h.out, alloc_block h.box, h.stack.alloc o, h.calls.alloc o, h.sep⟩
theorem RmAt.drew (h : RmAt w P b M vs vc) : RmAt w.drew P b M vs vc := ⟨h.bound, h.out, h.box, h.stack.drew, h.calls.drew, h.sep⟩
theorem RmAt.lt (h : RmAt w P b M vs vc) : b < w.heap.size := lt_of_block h.box
theorem RmAt.cell (h : RmAt w P b M vs vc) (j : Nat) (v : Value) (hj : #[vs, vc, .string (mkB M.image), .int .i64 M.kernel, .int .i64 M.fence, .string M.inp, .int .i64 M.pos, .int .i64 M.rights, .int .i64 M.fuel, .string (mkB M.out), .int .i64 M.mark, .int .i64 M.used][j]? = some v) : w.cell? ⟨b, j, none⟩ = some v := cell_of_block h.box j v hj
theorem RmAt.free (h : RmAt w P b M vs vc) (j : Nat) : w.frozen? ⟨b, j, none⟩ = false := frozen_of_row _ _ _ _ _ h.box
theorem RmIs.alloc (h : RmIs w P b M) (o : Obj) : RmIs (w.alloc o) P b M := by obtain ⟨vs, vc, h⟩ := h; exact ⟨vs, vc, h.alloc o⟩
theorem RmIs.drew (h : RmIs w P b M) : RmIs w.drew P b M := by obtain ⟨vs, vc, h⟩ := h; exact ⟨vs, vc, h.drew⟩
theorem RmIs.drewN (h : RmIs w P b M) (n : Nat) : RmIs (w.drewN n) P b M := by
  induction n with
  | zero => exact h
  | succ n ih => exact ih.drew
theorem Kept.drewN (P : Nat → Prop) (w : World) (n : Nat) : Kept P w (w.drewN n) := by
  induction n with
  | zero => exact Kept.refl _ _
  | succ n ih => exact ih.drew
theorem RmIs.bound (h : RmIs w P b M) : ∀ k, P k → k < w.heap.size := by obtain ⟨vs, vc, h⟩ := h; exact h.bound
/-- A store into a field of the box, the rows as they were. -/
theorem RmAt.field (h : RmAt w P b M vs vc) (M' : Ma) (j : Nat) (v : Value) (hst : M'.stack = M.stack) (hca : M'.calls = M.calls)
    (hbox : #[vs, vc, .string (mkB M.image), .int .i64 M.kernel, .int .i64 M.fence, .string M.inp, .int .i64 M.pos, .int .i64 M.rights, .int .i64 M.fuel, .string (mkB M.out), .int .i64 M.mark, .int .i64 M.used].setIfInBounds j v = #[vs, vc, .string (mkB M'.image), .int .i64 M'.kernel, .int .i64 M'.fence, .string M'.inp, .int .i64 M'.pos, .int .i64 M'.rights, .int .i64 M'.fuel, .string (mkB M'.out), .int .i64 M'.mark, .int .i64 M'.used]) :
    RmAt (w.setCell ⟨b, j, none⟩ v) P b M' vs vc ∧ Kept P w (w.setCell ⟨b, j, none⟩ v) := by
  refine ⟨⟨?_, h.out, ?_, ?_, ?_, h.sep⟩, (Kept.refl P w).setCell h.out _⟩
  · intro k hk; have := h.bound k hk; simpa [World.setCell] using this
  · rw [heap_setCell_same _ _ _ _ _ _ h.box, hbox]
  · rw [hst]; exact h.stack.set (own_ne h.stack.own h.box (by decide)) _
  · rw [hca]; exact h.calls.set (own_ne h.calls.own h.box (by decide)) _
/-- The stack's slice laid anew. -/
theorem RmAt.newStack (h : RmAt w P b M vs vc) (l : List Int) (v : Value) (hrow : Row w P 3 1 v l.length (intCells l)) (hsep : ∀ k, v.ownBlock = some k → vc.ownBlock ≠ some k) :
    RmAt (w.setCell ⟨b, 0, none⟩ v) P b { M with stack := l } v vc ∧ Kept P w (w.setCell ⟨b, 0, none⟩ v) := by
  refine ⟨⟨?_, h.out, ?_, ?_, ?_, hsep⟩, (Kept.refl P w).setCell h.out _⟩
  · intro k hk; have := h.bound k hk; simpa [World.setCell] using this
  · rw [heap_setCell_same _ _ _ _ _ _ h.box]; rfl
  · exact hrow.set (own_ne hrow.own h.box (by decide)) _
  · exact h.calls.set (own_ne h.calls.own h.box (by decide)) _
theorem RmAt.newCalls (h : RmAt w P b M vs vc) (l : List Int) (v : Value) (hrow : Row w P 3 1 v l.length (intCells l)) (hsep : ∀ k, vs.ownBlock = some k → v.ownBlock ≠ some k) :
    RmAt (w.setCell ⟨b, 1, none⟩ v) P b { M with calls := l } vs v ∧ Kept P w (w.setCell ⟨b, 1, none⟩ v) := by
  refine ⟨⟨?_, h.out, ?_, ?_, ?_, hsep⟩, (Kept.refl P w).setCell h.out _⟩
  · intro k hk; have := h.bound k hk; simpa [World.setCell] using this
  · rw [heap_setCell_same _ _ _ _ _ _ h.box]; rfl
  · exact h.stack.set (own_ne h.stack.own h.box (by decide)) _
  · exact hrow.set (own_ne hrow.own h.box (by decide)) _
end

/-- The last number of a row. -/
theorem row_last {w : World} {P : Nat → Prop} {v : Value} {l : List Int} (h : Row w P 3 1 v l.length (intCells l)) (hne : l ≠ []) :
    ∃ f cp, v = .slice (some ⟨f, 0, none⟩) l.length cp ∧ f < w.heap.size ∧ l.length ≤ cp ∧ cp ≤ 9223372036854775807 ∧ w.cell? ⟨f, l.length - 1, none⟩ = some (.int .i64 (l.getLastD 0)) ∧
      Row w P 3 1 (.slice (some ⟨f, 0, none⟩) (l.length - 1) cp) l.dropLast.length (intCells l.dropLast) := by
  have hpos : 0 < l.length := List.length_pos_iff.2 hne
  obtain ⟨f, cp, rfl⟩ := own_form h.own hpos
  have hcp : l.length ≤ cp ∧ cp ≤ maxLen := by
    rcases h.own.2 with ⟨h0, _⟩ | ⟨g', cap', cur, hv, hg, hh, hnn, hcap, _⟩
    · cases h0
    · cases hv; exact ⟨hnn, hcap⟩
  unfold maxLen at hcp
  refine ⟨f, cp, rfl, h.lt rfl, hcp.1, by omega, ?_, ?_, ?_⟩
  · rw [h.own.cellAt _ (by omega)]
    unfold intCells
    rw [List.getElem?_map, List.getElem?_eq_getElem (by omega)]
    congr 2
    rw [List.getLastD_eq_getLast?, List.getLast?_eq_getElem?, List.getElem?_eq_getElem (by omega)]
    rfl
  · have e : l = l.dropLast ++ [l.getLast hne] := (List.dropLast_concat_getLast hne).symm
    have hown := h.own
    have hl : l.length = l.dropLast.length + 1 := by rw [List.length_dropLast]; omega
    have hc : intCells l = intCells l.dropLast ++ [.int .i64 (l.getLast hne)] := by rw [← intCells_snoc, ← e]
    rw [hc, hl] at hown
    have := ownsRow_pop (size := 1) (by rw [intCells_length]; omega) hown
    rw [show l.length - 1 = l.dropLast.length by rw [List.length_dropLast]]
    exact this
  · exact h.out

set_option maxRecDepth 100000 in
set_option maxHeartbeats 800000 in
theorem room_any (w : World) (P : Nat → Prop) (b : Nat) (M : Ma) (take give : Int) (h : RmIs w P b M) (hok : M.Ok) (h1 : 0 ≤ take) (h2 : take ≤ 100) (h3 : 0 ≤ give) (h4 : give ≤ 100) :
    Calls Tryz.prog 93 #[.pointer (some ⟨b, 0, none⟩), .int .i64 take, .int .i64 give] w fun e w' => e = .returned (.int .i64 (M.room take give)) ∧ RmIs w' P b M ∧ Kept P w w' := by
  have h0 := h
  obtain ⟨vs, vc, h⟩ := h
  have hlt := h.lt
  obtain ⟨a0, k0, rfl⟩ := own_slice h.stack.own
  have c0 := h.cell 0 _ rfl
  have c8 := h.cell 8 _ rfl
  have c11 := h.cell 11 _ rfl
  have o1 := hok.stack
  by_cases q1 : M.fuel ≤ M.used
  · have e : Hid (M.room take give = 6) := by unfold Hid Ma.room; rw [if_pos q1]
    clear hok
    go_enter Tryz.func93, Tryz.ntmps93
    go_wp2
    go_quiet (fail)
    go_wp2
    go_ret
    exact ⟨ret_int e.out.symm, h0.drewN _, Kept.drewN _ _ _⟩
  · by_cases q2 : (M.stack.length : Int) < take
    · have e : Hid (M.room take give = 7) := by unfold Hid Ma.room; rw [if_neg q1, if_pos q2]
      clear hok
      go_enter Tryz.func93, Tryz.ntmps93
      go_wp2
      go_quiet (fail)
      go_wp2
      go_ret
      exact ⟨ret_int e.out.symm, h0.drewN _, Kept.drewN _ _ _⟩
    · by_cases q3 : 16 < (M.stack.length : Int) - take + give
      · have e : Hid (M.room take give = 8) := by unfold Hid Ma.room; rw [if_neg q1, if_neg q2, if_pos q3]
        clear hok
        go_enter Tryz.func93, Tryz.ntmps93
        go_wp2
        go_quiet (fail)
        go_wp2
        go_ret
        exact ⟨ret_int e.out.symm, h0.drewN _, Kept.drewN _ _ _⟩
      · have e : Hid (M.room take give = 0) := by unfold Hid Ma.room; rw [if_neg q1, if_neg q2, if_neg q3]
        clear hok
        go_enter Tryz.func93, Tryz.ntmps93
        go_wp2
        go_quiet (fail)
        go_wp2
        go_ret
        exact ⟨ret_int e.out.symm, h0.drewN _, Kept.drewN _ _ _⟩

set_option maxRecDepth 100000 in
set_option maxHeartbeats 400000 in
theorem push_any (w : World) (P : Nat → Prop) (b : Nat) (M : Ma) (n : Int) (h : RmIs w P b M) (hl : M.stack.length ≤ 1000) :
    Calls Tryz.prog 99 #[.pointer (some ⟨b, 0, none⟩), .int .i64 n] w fun e w' => e = .returned (.tuple #[]) ∧ RmIs w' P b (M.push n) ∧ Kept P w w' := by
  obtain ⟨vs, vc, h⟩ := h
  have hlt := h.lt
  have c0 : w.cell? ⟨b, 0, none⟩ = some vs := h.cell 0 _ rfl
  obtain ⟨i0, hi, hz0, hz1, hz2⟩ := info_parts Tryz.infoInt
  have hrow : Row w (fun k => P k ∨ vc.ownBlock = some k) 3 1 vs M.stack.length (intCells M.stack) := ⟨h.stack.own, fun k hk hp => hp.elim (h.stack.out k hk) (h.sep k hk)⟩
  have hbd : Hid (∀ k, P k ∨ vc.ownBlock = some k → k < (w.alloc (.cells #[.int .i64 n] 3)).heap.size) := by
    intro k hk
    rcases hk with hk | hk
    · exact (h.alloc _).bound k hk
    · exact (h.calls.alloc _).lt hk
  go_enter Tryz.func99, Tryz.ntmps99
  go_wp2_with (at_builtin; refine wpList_append_mine _ rfl _ _ 107 rfl _ hbd.out 3 i0 _ 1 8 Tryz.underlying107 hi hz0 hz1 hz2 rfl (by decide) _ _ _ rfl (hrow.alloc _) ⟨w.heap.size, 0, none⟩ 1 1 [.int .i64 n] rfl rfl ?c1 ?c2 ?c3 ?c4 ?_)
  case c1 => exact cell_one_new _ _ _
  case c2 => intro u hu; simp at hu; subst hu; rfl
  case c3 => unfold maxLen; omega
  case c4 => omega
  intro v' w1 hown' hgrow
  have ha := h.alloc (.cells #[.int .i64 n] 3)
  have hb1 := grown_block hgrow ha.box (own_ne ha.stack.own ha.box (by decide))
  have hm1 : RmAt w1 P b { M with stack := M.stack ++ [n] } v' vc → True := fun _ => trivial
  have hc1 := ha.calls.kept hgrow (by
    cases hvc : vc.ownBlock with
    | none => exact .inl rfl
    | some k => exact .inr fun e => h.sep k e.symm hvc)
  have cc : w1.cell? ⟨b, 0, none⟩ = some vs := cell_of_block hb1 0 _ rfl
  have ff : w1.frozen? ⟨b, 0, none⟩ = false := frozen_of_row _ _ _ _ _ hb1
  have hkk : Kept P w w1 := ((Kept.refl P w).alloc _).grown hgrow h.stack.out
  obtain ⟨g', cp', hv⟩ := own_form hown'.own (by omega)
  have fin : Hid (RmIs (w1.setCell ⟨b, 0, none⟩ v') P b (M.push n) ∧ Kept P w1 (w1.setCell ⟨b, 0, none⟩ v')) := by
    refine ⟨⟨v', vc, fun k hk => ?_, h.out, ?_, ?_, hc1.set (own_ne hc1.own hb1 (by decide)) _, fun k hk hk2 => hown'.out k hk (.inr hk2)⟩, (Kept.refl P w1).setCell h.out _⟩
    · have := Nat.lt_of_lt_of_le (ha.bound k hk) hgrow.size; simpa [World.setCell] using this
    · rw [heap_setCell_same _ _ _ _ _ _ hb1]; rfl
    · show Row _ _ _ _ _ (M.stack ++ [n]).length (intCells (M.stack ++ [n]))
      rw [intCells_snoc]
      simp only [List.length_append, List.length_cons, List.length_nil]
      exact Row.set ⟨hown'.own, fun k hk hp => hown'.out k hk (.inl hp)⟩ (own_ne hown'.own hb1 (by decide)) _
  rw [hv] at fin
  rw [hv]
  clear hown' hgrow hv hb1 hc1 hm1 ha hrow
  go_wp2
  go_end0
  exact ⟨rfl, fin.out.1, hkk.trans fin.out.2⟩

set_option maxRecDepth 100000 in
set_option maxHeartbeats 400000 in
theorem pop_any (w : World) (P : Nat → Prop) (b : Nat) (M : Ma) (h : RmIs w P b M) (hl : M.stack.length ≤ 1000) (hne : M.stack ≠ []) :
    Calls Tryz.prog 98 #[.pointer (some ⟨b, 0, none⟩)] w fun e w' => e = .returned (.int .i64 M.top) ∧ RmIs w' P b M.pop ∧ Kept P w w' := by
  obtain ⟨vs, vc, h⟩ := h
  have hlt := h.lt
  have hpos : 0 < M.stack.length := List.length_pos_iff.2 hne
  obtain ⟨f, cp, rfl, hflt, hcp1, hcp2, hlast, hrow⟩ := row_last h.stack hne
  have c0 := h.cell 0 _ rfl
  have f0 := h.free 0
  obtain ⟨r1, r2⟩ := h.newStack M.stack.dropLast _ hrow h.sep
  have hlast' : w.cell? ⟨f, M.stack.length - 1, none⟩ = some (.int .i64 M.top) := hlast
  clear hrow hne hlast
  generalize M.top = tp at hlast' ⊢
  go_enter Tryz.func98, Tryz.ntmps98
  go_wp2
  go_ret
  exact ⟨rfl, ⟨_, _, r1⟩, r2⟩
end Go.Proofs.YtnanjomnldfidabGreatDoor
