/-
  The reader of package grader in memory, and its small methods: add, pushForm, topForm, popForm, aimHere.
-/
import Derived.Test.YtnanjomnldfidabGreatDoorProg
import Derived.Test.YtnanjomnldfidabGreatDoorMem
import Derived.Test.YtnanjomnldfidabGreatDoorPure
set_option linter.unusedSimpArgs false
set_option linter.unusedVariables false
set_option linter.unusedSectionVars false
namespace Go.Proofs.YtnanjomnldfidabGreatDoor
open Go.RowKit

def stepCells (l : List (Int × Int)) : List Value := l.flatMap fun p => [.int .i64 p.1, .int .i64 p.2]
def formCells (l : List (Int × Int × Int)) : List Value := l.flatMap fun p => [.int .i64 p.1, .int .i64 p.2.1, .int .i64 p.2.2]
def defCells (l : List (ByteArray × Int)) : List Value := l.flatMap fun p => [.string p.1, .int .i64 p.2]

/-- The reader in memory: block b; its rows' blocks and b are none of P's. -/
structure RdAt (w : World) (P : Nat → Prop) (b : Nat) (R : Rd) (vs vf vd : Value) : Prop where
  bound : ∀ k, P k → k < w.heap.size
  out : ¬ P b
  box : w.heap[b]? = some (.cells #[vs, vf, vd, .string R.name, .int .i64 R.first, .bool R.inside, .bool R.due] 84 (0, 0))
  steps : Row w P 105 2 vs R.steps.length (stepCells R.steps)
  forms : Row w P 121 3 vf R.forms.length (formCells R.forms)
  defs : Row w P 82 2 vd R.defs.length (defCells R.defs)
def RdIs (w : World) (P : Nat → Prop) (b : Nat) (R : Rd) : Prop := ∃ vs vf vd, RdAt w P b R vs vf vd

theorem RdAt.alloc {w : World} {P : Nat → Prop} {b : Nat} {R : Rd} {vs vf vd : Value} (h : RdAt w P b R vs vf vd) (o : Obj) : RdAt (w.alloc o) P b R vs vf vd :=
  ⟨fun k hk => by have := h.bound k hk; simp; omega, h.out, alloc_block h.box, h.steps.alloc o, h.forms.alloc o, h.defs.alloc o⟩
theorem RdAt.drew {w : World} {P : Nat → Prop} {b : Nat} {R : Rd} {vs vf vd : Value} (h : RdAt w P b R vs vf vd) : RdAt w.drew P b R vs vf vd :=
  ⟨h.bound, h.out, h.box, h.steps.drew, h.forms.drew, h.defs.drew⟩
theorem RdAt.lt {w : World} {P : Nat → Prop} {b : Nat} {R : Rd} {vs vf vd : Value} (h : RdAt w P b R vs vf vd) : b < w.heap.size := lt_of_block h.box
theorem RdAt.cell {w : World} {P : Nat → Prop} {b : Nat} {R : Rd} {vs vf vd : Value} (h : RdAt w P b R vs vf vd) (j : Nat) (v : Value) (hj : #[vs, vf, vd, .string R.name, .int .i64 R.first, .bool R.inside, .bool R.due][j]? = some v) : w.cell? ⟨b, j, none⟩ = some v := cell_of_block h.box j v hj
theorem RdAt.free {w : World} {P : Nat → Prop} {b : Nat} {R : Rd} {vs vf vd : Value} (h : RdAt w P b R vs vf vd) (j : Nat) : w.frozen? ⟨b, j, none⟩ = false := frozen_of_row _ _ _ _ _ h.box
theorem RdIs.alloc {w : World} {P : Nat → Prop} {b : Nat} {R : Rd} (h : RdIs w P b R) (o : Obj) : RdIs (w.alloc o) P b R := by
  obtain ⟨vs, vf, vd, h⟩ := h
  exact ⟨vs, vf, vd, h.alloc o⟩
theorem RdIs.drew {w : World} {P : Nat → Prop} {b : Nat} {R : Rd} (h : RdIs w P b R) : RdIs w.drew P b R := by
  obtain ⟨vs, vf, vd, h⟩ := h
  exact ⟨vs, vf, vd, h.drew⟩
theorem RdIs.protect {w : World} {P : Nat → Prop} {b : Nat} {R : Rd} (h : RdIs w P b R) (o : Obj) : RdIs (w.alloc o) (fun k => P k ∨ k = w.heap.size) b R := by
  obtain ⟨vs, vf, vd, h⟩ := h
  refine ⟨vs, vf, vd, fun k hk => ?_, ?_, alloc_block h.box, h.steps.protect o, h.forms.protect o, h.defs.protect o⟩
  · rcases hk with hk | hk
    · have := h.bound k hk; simp; omega
    · simp; omega
  · intro hp
    rcases hp with hp | hp
    · exact h.out hp
    · have := h.lt; omega
theorem RdIs.mono {w : World} {P Q : Nat → Prop} {b : Nat} {R : Rd} (h : RdIs w P b R) (hq : ∀ k, Q k → P k) : RdIs w Q b R := by
  obtain ⟨vs, vf, vd, h⟩ := h
  exact ⟨vs, vf, vd, fun k hk => h.bound k (hq k hk), fun hp => h.out (hq b hp), h.box, h.steps.mono hq, h.forms.mono hq, h.defs.mono hq⟩
/-- What a walk reads of the reader. -/
theorem RdIs.view {w : World} {P : Nat → Prop} {b : Nat} {R : Rd} (h : RdIs w P b R) : ∃ a0 c0 a1 c1 a2 c2, w.cell? ⟨b, 0, none⟩ = some (.slice a0 R.steps.length c0) ∧ w.cell? ⟨b, 1, none⟩ = some (.slice a1 R.forms.length c1) ∧ w.cell? ⟨b, 2, none⟩ = some (.slice a2 R.defs.length c2) ∧
    w.cell? ⟨b, 3, none⟩ = some (.string R.name) ∧ w.cell? ⟨b, 4, none⟩ = some (.int .i64 R.first) ∧ w.cell? ⟨b, 5, none⟩ = some (.bool R.inside) ∧ w.cell? ⟨b, 6, none⟩ = some (.bool R.due) ∧ b < w.heap.size := by
  obtain ⟨vs, vf, vd, h⟩ := h
  obtain ⟨a0, c0, rfl⟩ := own_slice h.steps.own
  obtain ⟨a1, c1, rfl⟩ := own_slice h.forms.own
  obtain ⟨a2, c2, rfl⟩ := own_slice h.defs.own
  exact ⟨a0, c0, a1, c1, a2, c2, h.cell 0 _ rfl, h.cell 1 _ rfl, h.cell 2 _ rfl, h.cell 3 _ rfl, h.cell 4 _ rfl, h.cell 5 _ rfl, h.cell 6 _ rfl, h.lt⟩

theorem Tryz.infoStep : (Tryz.prog.info? 105).map (fun i => (i.zero, i.size, i.bytes)) = some (some (.agg #[.int .i64 0, .int .i64 0]), 2, 16) := by kernel_rfl
theorem Tryz.infoForm : (Tryz.prog.info? 121).map (fun i => (i.zero, i.size, i.bytes)) = some (some (.agg #[.int .i64 0, .int .i64 0, .int .i64 0]), 3, 24) := by kernel_rfl
theorem Tryz.infoDef : (Tryz.prog.info? 82).map (fun i => (i.zero, i.size, i.bytes)) = some (some (.agg #[.string ByteArray.empty, .int .i64 0]), 2, 24) := by kernel_rfl

theorem stepCells_snoc (l : List (Int × Int)) (a b : Int) : stepCells (l ++ [(a, b)]) = stepCells l ++ [.int .i64 a, .int .i64 b] := by simp [stepCells]
theorem formCells_snoc (l : List (Int × Int × Int)) (a b c : Int) : formCells (l ++ [(a, b, c)]) = formCells l ++ [.int .i64 a, .int .i64 b, .int .i64 c] := by simp [formCells]
theorem defCells_snoc (l : List (ByteArray × Int)) (a : ByteArray) (b : Int) : defCells (l ++ [(a, b)]) = defCells l ++ [.string a, .int .i64 b] := by simp [defCells]
theorem stepCells_length (l : List (Int × Int)) : (stepCells l).length = l.length * 2 := by
  induction l with
  | nil => rfl
  | cons a l ih => simp only [stepCells, List.flatMap_cons, List.length_append, List.length_cons, List.length_nil] at ih ⊢; omega
theorem formCells_length (l : List (Int × Int × Int)) : (formCells l).length = l.length * 3 := by
  induction l with
  | nil => rfl
  | cons a l ih => simp only [formCells, List.flatMap_cons, List.length_append, List.length_cons, List.length_nil] at ih ⊢; omega
theorem defCells_length (l : List (ByteArray × Int)) : (defCells l).length = l.length * 2 := by
  induction l with
  | nil => rfl
  | cons a l ih => simp only [defCells, List.flatMap_cons, List.length_append, List.length_cons, List.length_nil] at ih ⊢; omega

/-- A store into a field of the box. -/
theorem RdAt.field {w : World} {P : Nat → Prop} {b : Nat} {R R' : Rd} {vs vf vd vs' vf' vd' : Value} (h : RdAt w P b R vs vf vd) (j : Nat) (v : Value)
    (hbox : #[vs, vf, vd, .string R.name, .int .i64 R.first, .bool R.inside, .bool R.due].setIfInBounds j v = #[vs', vf', vd', .string R'.name, .int .i64 R'.first, .bool R'.inside, .bool R'.due])
    (hs : Row w P 105 2 vs' R'.steps.length (stepCells R'.steps)) (hf : Row w P 121 3 vf' R'.forms.length (formCells R'.forms)) (hd : Row w P 82 2 vd' R'.defs.length (defCells R'.defs)) :
    RdAt (w.setCell ⟨b, j, none⟩ v) P b R' vs' vf' vd' ∧ Kept P w (w.setCell ⟨b, j, none⟩ v) := by
  refine ⟨⟨?_, h.out, ?_, ?_, ?_, ?_⟩, (Kept.refl P w).setCell h.out _⟩
  · intro k hk; have := h.bound k hk; simpa [World.setCell] using this
  · rw [heap_setCell_same _ _ _ _ _ _ h.box, hbox]
  · exact hs.set (own_ne hs.own h.box (by decide)) _
  · exact hf.set (own_ne hf.own h.box (by decide)) _
  · exact hd.set (own_ne hd.own h.box (by decide)) _
/-- What the growth of one of the rows leaves of the reader: given in the three cases. -/
theorem RdAt.grown {w w1 : World} {P : Nat → Prop} {b : Nat} {R : Rd} {vs vf vd : Value} (h : RdAt w P b R vs vf vd) {row : Option Nat} (hg : w.grownBy w1 row) (hb : row ≠ some b) :
    (∀ k, P k → k < w1.heap.size) ∧ w1.heap[b]? = some (.cells #[vs, vf, vd, .string R.name, .int .i64 R.first, .bool R.inside, .bool R.due] 84 (0, 0)) :=
  ⟨fun k hk => Nat.lt_of_lt_of_le (h.bound k hk) hg.size, grown_block hg h.box hb⟩

/-- What an append to the steps and its store do to the reader. -/
theorem RdAt.add {w w1 : World} {P : Nat → Prop} {b : Nat} {R : Rd} {op arg : Int} {vs vf vd v' : Value} (h : RdAt w P b R vs vf vd)
    (hown : Row w1 P 105 2 v' (R.steps.length + 1) (stepCells R.steps ++ [.int .i64 op, .int .i64 arg])) (hg : w.grownBy w1 vs.ownBlock) :
    RdAt (w1.setCell ⟨b, 0, none⟩ v') P b (R.add op arg) v' vf vd ∧ Kept P w (w1.setCell ⟨b, 0, none⟩ v') ∧ w1.cell? ⟨b, 0, none⟩ = some vs ∧ w1.frozen? ⟨b, 0, none⟩ = false := by
  obtain ⟨g1, g2⟩ := h.grown hg (own_ne h.steps.own h.box (by decide))
  have hf1 := h.forms.kept hg (own_ne_own h.forms.own h.steps.own (by decide))
  have hd1 := h.defs.kept hg (own_ne_own h.defs.own h.steps.own (by decide))
  refine ⟨⟨fun k hk => by have := g1 k hk; simpa [World.setCell] using this, h.out, ?_, ?_, ?_, ?_⟩, ?_, cell_of_block g2 0 _ rfl, frozen_of_row _ _ _ _ _ g2⟩
  · rw [heap_setCell_same _ _ _ _ _ _ g2]; rfl
  · show Row _ _ _ _ _ (R.steps ++ [(op, arg)]).length (stepCells (R.steps ++ [(op, arg)]))
    rw [stepCells_snoc]
    simp only [List.length_append, List.length_cons, List.length_nil]
    exact hown.set (own_ne hown.own g2 (by decide)) _
  · exact hf1.set (own_ne hf1.own g2 (by decide)) _
  · exact hd1.set (own_ne hd1.own g2 (by decide)) _
  · exact ((Kept.refl P w).grown hg h.steps.out).setCell h.out _

set_option maxRecDepth 100000 in
set_option maxHeartbeats 400000 in
theorem add_any (w : World) (P : Nat → Prop) (b : Nat) (R : Rd) (op arg : Int) (h : RdIs w P b R) (hn : R.steps.length ≤ 100000) :
    Calls Tryz.prog 39 #[.pointer (some ⟨b, 0, none⟩), .int .i64 op, .int .i64 arg] w fun e w' =>
      e = .returned (.tuple #[]) ∧ RdIs w' P b (R.add op arg) ∧ Kept P w w' := by
  obtain ⟨vs, vf, vd, h⟩ := h
  have hlt := h.lt
  have c0 : w.cell? ⟨b, 0, none⟩ = some vs := h.cell 0 _ rfl
  obtain ⟨i0, hi, hz0, hz1, hz2⟩ := info_parts Tryz.infoStep
  go_enter Tryz.func39, Tryz.ntmps39
  go_wp2_with (at_builtin; refine wpList_append_mine _ rfl _ _ 63 rfl P (h.alloc _).bound 105 i0 _ 2 16 Tryz.underlying63 hi hz0 hz1 hz2 rfl (by decide) _ _ _ rfl (h.steps.alloc _) ⟨w.heap.size, 0, none⟩ 1 1 [.int .i64 op, .int .i64 arg] rfl rfl ?c1 ?c2 ?c3 ?c4 ?_)
  case c1 => exact cell_two_new _ _ _ _
  case c2 => intro u hu; simp at hu; rcases hu with rfl | rfl <;> rfl
  case c3 => unfold maxLen; omega
  case c4 => omega
  intro v' w1 hown' hgrow
  obtain ⟨r1, r2, c1, f1⟩ := (h.alloc _).add hown' hgrow
  obtain ⟨g', cp', hv⟩ := own_form hown'.own (by omega)
  rw [hv] at r1 r2
  rw [hv]
  clear hown' hgrow hv
  go_wp2
  go_end0
  exact ⟨rfl, ⟨_, _, _, r1⟩, ((Kept.refl P w).alloc _).trans r2⟩

theorem RdAt.push {w w1 : World} {P : Nat → Prop} {b : Nat} {R : Rd} {k g h : Int} {vs vf vd v' : Value} (hR : RdAt w P b R vs vf vd)
    (hown : Row w1 P 121 3 v' (R.forms.length + 1) (formCells R.forms ++ [.int .i64 k, .int .i64 g, .int .i64 h])) (hg : w.grownBy w1 vf.ownBlock) :
    RdAt (w1.setCell ⟨b, 1, none⟩ v') P b (R.push k g h) vs v' vd ∧ Kept P w (w1.setCell ⟨b, 1, none⟩ v') ∧ w1.cell? ⟨b, 1, none⟩ = some vf ∧ w1.frozen? ⟨b, 1, none⟩ = false := by
  obtain ⟨g1, g2⟩ := hR.grown hg (own_ne hR.forms.own hR.box (by decide))
  have hs1 := hR.steps.kept hg (own_ne_own hR.steps.own hR.forms.own (by decide))
  have hd1 := hR.defs.kept hg (own_ne_own hR.defs.own hR.forms.own (by decide))
  refine ⟨⟨fun k hk => by have := g1 k hk; simpa [World.setCell] using this, hR.out, ?_, ?_, ?_, ?_⟩, ?_, cell_of_block g2 1 _ rfl, frozen_of_row _ _ _ _ _ g2⟩
  · rw [heap_setCell_same _ _ _ _ _ _ g2]; rfl
  · exact hs1.set (own_ne hs1.own g2 (by decide)) _
  · show Row _ _ _ _ _ (R.forms ++ [(k, g, h)]).length (formCells (R.forms ++ [(k, g, h)]))
    rw [formCells_snoc]
    simp only [List.length_append, List.length_cons, List.length_nil]
    exact hown.set (own_ne hown.own g2 (by decide)) _
  · exact hd1.set (own_ne hd1.own g2 (by decide)) _
  · exact ((Kept.refl P w).grown hg hR.forms.out).setCell hR.out _

theorem cell_three_new (w : World) (a b c : Value) (t : TypeId) : ∀ j u, [a, b, c][j]? = some u → (w.alloc (.cells #[a, b, c] t)).cell? ((⟨w.heap.size, 0, none⟩ : Addr).add j) = some u := by
  intro j u hj
  match j, hj with
  | 0, hj => simp at hj; subst hj; simp [Addr.add]
  | 1, hj => simp at hj; subst hj; simp [Addr.add]
  | 2, hj => simp at hj; subst hj; simp [Addr.add]
  | j + 3, hj => simp at hj

set_option maxRecDepth 100000 in
set_option maxHeartbeats 400000 in
theorem pushForm_any (w : World) (P : Nat → Prop) (b : Nat) (R : Rd) (k g h : Int) (hR : RdIs w P b R) (hn : R.forms.length ≤ 100000) :
    Calls Tryz.prog 74 #[.pointer (some ⟨b, 0, none⟩), .agg #[.int .i64 k, .int .i64 g, .int .i64 h]] w fun e w' =>
      e = .returned (.tuple #[]) ∧ RdIs w' P b (R.push k g h) ∧ Kept P w w' := by
  obtain ⟨vs, vf, vd, hR⟩ := hR
  have hlt := hR.lt
  have c0 : w.cell? ⟨b, 1, none⟩ = some vf := hR.cell 1 _ rfl
  obtain ⟨i0, hi, hz0, hz1, hz2⟩ := info_parts Tryz.infoForm
  have cells := cell_three_new (w.alloc (.cells #[.int .i64 k, .int .i64 g, .int .i64 h] 121)) (.int .i64 k) (.int .i64 g) (.int .i64 h) 121
  have CE : Hid (∀ j u, [Value.int .i64 k, .int .i64 g, .int .i64 h][j]? = some u → (((w.alloc (.cells #[.int .i64 k, .int .i64 g, .int .i64 h] 121)).alloc (.cells #[.int .i64 k, .int .i64 g, .int .i64 h] 121)).drew).cell? ((⟨w.heap.size + 1, 0, none⟩ : Addr).add j) = some u) := by
    intro j u hj
    have := cells j u hj
    simpa using this
  clear cells
  have hR2 := ((hR.alloc (.cells #[.int .i64 k, .int .i64 g, .int .i64 h] 121)).alloc (.cells #[.int .i64 k, .int .i64 g, .int .i64 h] 121)).drew
  have hbel : Kept P w ((w.alloc (.cells #[.int .i64 k, .int .i64 g, .int .i64 h] 121)).alloc (.cells #[.int .i64 k, .int .i64 g, .int .i64 h] 121)).drew :=
    (((Kept.refl P w).alloc _).alloc _).drew
  go_enter Tryz.func74, Tryz.ntmps74
  go_wp2
  go_region_law (refine step_append_mine rfl (.tmp 8) (.tmp 10) 79 rfl P hR2.bound 121 i0 (.agg #[.int .i64 0, .int .i64 0, .int .i64 0]) 3 24 Tryz.underlying79 hi hz0 hz1 hz2 rfl (by decide) vf R.forms.length (formCells R.forms) (by simp [Act.eval, Act.put]) hR2.forms ⟨w.heap.size + 1, 0, none⟩ 1 1 [.int .i64 k, .int .i64 g, .int .i64 h] (by simp [Act.eval, Act.put]) rfl CE.out (by intro u hu; simp at hu; rcases hu with rfl | rfl | rfl <;> rfl) (by unfold maxLen; omega) (by omega) ?_; intro v' w1 hown' hgrow; obtain ⟨r1, r2, c1, f1⟩ := hR2.push hown' hgrow; obtain ⟨g', cp', hv⟩ := own_form hown'.own (by omega); rw [hv] at r1 r2; rw [hv]; clear hown' hgrow hv)
  all_goals go_end0
  all_goals exact ⟨rfl, ⟨_, _, _, by assumption⟩, hbel.trans (by assumption)⟩

set_option maxRecDepth 100000 in
set_option maxHeartbeats 400000 in
theorem topForm_nil (w : World) (P : Nat → Prop) (b : Nat) (R : Rd) (hR : RdIs w P b R) (hn : R.forms = []) :
    Calls Tryz.prog 75 #[.pointer (some ⟨b, 0, none⟩)] w fun e w' =>
      e = .returned (.agg #[.int .i64 0, .int .i64 0, .int .i64 0]) ∧ RdIs w' P b R ∧ Kept P w w' := by
  obtain ⟨vs, vf, vd, hR⟩ := hR
  have hlt := hR.lt
  have c0 : w.cell? ⟨b, 1, none⟩ = some vf := hR.cell 1 _ rfl
  obtain ⟨a, cp, rfl⟩ := own_slice hR.forms.own
  have hl : ((R.forms.length : Int) == 0) = true := by rw [hn]; rfl
  clear hn
  have hr := hR.alloc (.cells #[.int .i64 0, .int .i64 0, .int .i64 0] 121)
  have hr2 : Kept P w (w.alloc (.cells #[.int .i64 0, .int .i64 0, .int .i64 0] 121)) := (Kept.refl P w).alloc _
  go_enter Tryz.func75, Tryz.ntmps75
  go_wp2
  exact bodyPost_ret (v := .agg #[.int .i64 0, .int .i64 0, .int .i64 0]) (by simp [results, Tryz.results75, go_sem]) rfl ⟨rfl, ⟨_, _, _, hr⟩, hr2⟩

set_option maxRecDepth 100000 in
set_option maxHeartbeats 400000 in
theorem topForm_cons (w : World) (P : Nat → Prop) (b : Nat) (R : Rd) (hR : RdIs w P b R) (l : List (Int × Int × Int)) (k g h : Int) (hn : R.forms = l ++ [(k, g, h)]) (hl : l.length ≤ 100000) :
    Calls Tryz.prog 75 #[.pointer (some ⟨b, 0, none⟩)] w fun e w' =>
      e = .returned (.agg #[.int .i64 k, .int .i64 g, .int .i64 h]) ∧ RdIs w' P b R ∧ Kept P w w' := by
  obtain ⟨vs, vf, vd, hR⟩ := hR
  have hlt := hR.lt
  have c0 : w.cell? ⟨b, 1, none⟩ = some vf := hR.cell 1 _ rfl
  have hown := hR.forms.own
  rw [hn, formCells_snoc, List.length_append] at hown
  simp only [List.length_cons, List.length_nil, Nat.zero_add] at hown
  obtain ⟨f, cp, rfl⟩ := own_form hown (by omega)
  have e0 : w.cell? ⟨f, l.length * 3, none⟩ = some (.int .i64 k) := by rw [hown.cellAt _ (by omega), List.getElem?_append_right (by rw [formCells_length]; omega), formCells_length]; simp
  have e1 : w.cell? ⟨f, l.length * 3 + 1, none⟩ = some (.int .i64 g) := by rw [hown.cellAt _ (by omega), List.getElem?_append_right (by rw [formCells_length]; omega), formCells_length]; simp [Nat.add_sub_cancel_left]
  have e2 : w.cell? ⟨f, l.length * 3 + 2, none⟩ = some (.int .i64 h) := by rw [hown.cellAt _ (by omega), List.getElem?_append_right (by rw [formCells_length]; omega), formCells_length]; simp [Nat.add_sub_cancel_left]
  have hflt : f < w.heap.size := (hown.lt f rfl).2
  clear hown hn
  have hr := (hR.alloc (.cells #[.int .i64 k, .int .i64 g, .int .i64 h] 121)).drew
  have hr2 : Kept P w (w.alloc (.cells #[.int .i64 k, .int .i64 g, .int .i64 h] 121)).drew := ((Kept.refl P w).alloc _).drew
  go_enter Tryz.func75, Tryz.ntmps75
  go_wp2
  go_region
  go_wp2
  exact bodyPost_ret (v := .agg #[.int .i64 k, .int .i64 g, .int .i64 h]) (by simp [results, Tryz.results75, go_sem]) rfl ⟨rfl, ⟨_, _, _, hr⟩, hr2⟩

theorem topForm_any (w : World) (P : Nat → Prop) (b : Nat) (R : Rd) (hR : RdIs w P b R) (hl : R.forms.length ≤ 100000) :
    Calls Tryz.prog 75 #[.pointer (some ⟨b, 0, none⟩)] w fun e w' =>
      e = .returned (.agg #[.int .i64 R.top.1, .int .i64 R.top.2.1, .int .i64 R.top.2.2]) ∧ RdIs w' P b R ∧ Kept P w w' := by
  rcases List.eq_nil_or_concat R.forms with h | ⟨l, ⟨k, g, h⟩, hc⟩
  · have e : R.top = (0, 0, 0) := by simp [Rd.top, topOf, h]
    rw [e]
    exact topForm_nil w P b R hR h
  · have e : R.top = (k, g, h) := by simp [Rd.top, topOf, hc]
    rw [e]
    rw [hc] at hl
    simp at hl
    exact topForm_cons w P b R hR l k g h (by simpa using hc) (by omega)

set_option maxRecDepth 100000 in
set_option maxHeartbeats 400000 in
theorem popForm_nil (w : World) (P : Nat → Prop) (b : Nat) (R : Rd) (hR : RdIs w P b R) (hn : R.forms = []) :
    Calls Tryz.prog 76 #[.pointer (some ⟨b, 0, none⟩)] w fun e w' =>
      e = .returned (.tuple #[]) ∧ RdIs w' P b R ∧ Kept P w w' := by
  have hR0 := hR
  obtain ⟨vs, vf, vd, hR⟩ := hR
  have hlt := hR.lt
  have c0 : w.cell? ⟨b, 1, none⟩ = some vf := hR.cell 1 _ rfl
  obtain ⟨a, cp, rfl⟩ := own_slice hR.forms.own
  have hl : ¬ (0 : Int) < (R.forms.length : Int) := by rw [hn]; simp
  clear hn
  go_enter Tryz.func76, Tryz.ntmps76
  go_wp2
  go_end0
  exact ⟨rfl, hR0, Kept.refl _ _⟩

set_option maxRecDepth 100000 in
set_option maxHeartbeats 400000 in
theorem popForm_cons (w : World) (P : Nat → Prop) (b : Nat) (R : Rd) (hR : RdIs w P b R) (l : List (Int × Int × Int)) (k g h : Int) (hn : R.forms = l ++ [(k, g, h)]) (hl : l.length ≤ 100000) :
    Calls Tryz.prog 76 #[.pointer (some ⟨b, 0, none⟩)] w fun e w' =>
      e = .returned (.tuple #[]) ∧ RdIs w' P b { R with forms := l } ∧ Kept P w w' := by
  obtain ⟨vs, vf, vd, hR⟩ := hR
  have hlt := hR.lt
  have c0 : w.cell? ⟨b, 1, none⟩ = some vf := hR.cell 1 _ rfl
  have f0 := hR.free 1
  have hown := hR.forms.own
  have hout := hR.forms.out
  rw [hn, formCells_snoc, List.length_append] at hown
  simp only [List.length_cons, List.length_nil, Nat.zero_add] at hown
  obtain ⟨f, cp, rfl⟩ := own_form hown (by omega)
  have hcp : l.length + 1 ≤ cp ∧ cp ≤ maxLen := by
    rcases hown.2 with ⟨h0, _⟩ | ⟨g', cap', cur, hv, hg, hh, hnn, hcap, _⟩
    · cases h0
    · cases hv; exact ⟨hnn, hcap⟩
  obtain ⟨hcp1, hcp2⟩ := hcp
  unfold maxLen at hcp2
  have hf2 := ownsRow_pop (formCells_length l) hown
  obtain ⟨r1, r2⟩ := hR.field (R' := { R with forms := l }) (vs' := vs) (vf' := .slice (some ⟨f, 0, none⟩) l.length cp) (vd' := vd) 1 (.slice (some ⟨f, 0, none⟩) l.length cp) rfl hR.steps ⟨hf2, hout⟩ hR.defs
  have r1 := r1.drew
  have r2 := r2.drew
  clear hown hn hf2 hout
  go_enter Tryz.func76, Tryz.ntmps76
  go_wp2
  go_region
  go_wp2
  go_end0
  exact ⟨rfl, ⟨_, _, _, r1⟩, r2⟩

theorem popForm_any (w : World) (P : Nat → Prop) (b : Nat) (R : Rd) (hR : RdIs w P b R) (hl : R.forms.length ≤ 100000) :
    Calls Tryz.prog 76 #[.pointer (some ⟨b, 0, none⟩)] w fun e w' =>
      e = .returned (.tuple #[]) ∧ RdIs w' P b R.pop ∧ Kept P w w' := by
  rcases List.eq_nil_or_concat R.forms with h | ⟨l, ⟨k, g, h⟩, hc⟩
  · refine (popForm_nil w P b R hR h).mono ?_
    rintro e w' ⟨h1, h2, h3⟩
    have e2 : R.pop = R := by cases R; simp only at h; subst h; rfl
    rw [e2]
    exact ⟨h1, h2, h3⟩
  · have hc' : R.forms = l ++ [(k, g, h)] := by simpa using hc
    have e2 : R.pop = { R with forms := l } := by unfold Rd.pop; rw [hc', List.dropLast_concat]
    rw [e2]
    rw [hc'] at hl
    simp at hl
    exact popForm_cons w P b R hR l k g h hc' (by omega)

theorem stepCells_aim (l : List (Int × Int)) (v : Int) : ∀ k, (stepCells l).set (k * 2 + 1) (.int .i64 v) = stepCells (aimAt l k v) := by
  induction l with
  | nil => intro k; simp [stepCells, aimAt]
  | cons p l ih =>
    intro k
    cases k with
    | zero => simp [stepCells, aimAt]
    | succ k =>
      have := ih k
      simp only [stepCells, aimAt, List.flatMap_cons, List.modify_succ_cons] at this ⊢
      rw [← this]
      show List.set ([_, _] ++ _) _ _ = [_, _] ++ _
      rw [show (k + 1) * 2 + 1 = (k * 2 + 1) + 2 by omega]
      simp

set_option maxRecDepth 100000 in
set_option maxHeartbeats 400000 in
theorem aimHere_yes (w : World) (P : Nat → Prop) (b : Nat) (R : Rd) (hR : RdIs w P b R) (k : Nat) (hk : k < R.steps.length) (hl : R.steps.length ≤ 100000) :
    Calls Tryz.prog 77 #[.pointer (some ⟨b, 0, none⟩), .int .i64 k] w fun e w' =>
      e = .returned (.tuple #[]) ∧ RdIs w' P b { R with steps := aimAt R.steps k R.steps.length } ∧ Kept P w w' := by
  obtain ⟨vs, vf, vd, hR⟩ := hR
  have hlt := hR.lt
  have c0 : w.cell? ⟨b, 0, none⟩ = some vs := hR.cell 0 _ rfl
  obtain ⟨f, cp, rfl⟩ := own_form hR.steps.own (by omega)
  have hflt : f < w.heap.size := hR.steps.lt rfl
  have hcell : ∃ u, w.cell? ⟨f, k * 2 + 1, none⟩ = some u := ⟨_, by rw [hR.steps.own.cellAt _ (by omega), List.getElem?_eq_getElem (by rw [stepCells_length]; omega)]⟩
  obtain ⟨u, hcell⟩ := hcell
  have f0 : w.frozen? ⟨f, k * 2 + 1, none⟩ = false := hR.steps.own.frozenAt _
  obtain ⟨s1, s2⟩ := hR.steps.own.stored (k * 2 + 1) (.int .i64 R.steps.length)
  have hne : some f ≠ some b := own_ne hR.steps.own hR.box (by decide)
  have r1 : RdAt (w.setCell ⟨f, k * 2 + 1, none⟩ (.int .i64 R.steps.length)) P b { R with steps := aimAt R.steps k R.steps.length } (.slice (some ⟨f, 0, none⟩) R.steps.length cp) vf vd := by
    refine ⟨fun k hk => by have := hR.bound k hk; simpa [World.setCell] using this, hR.out, grown_block s2 hR.box hne, ⟨?_, hR.steps.out⟩, hR.forms.kept s2 (own_ne_own hR.forms.own hR.steps.own (by decide)), hR.defs.kept s2 (own_ne_own hR.defs.own hR.steps.own (by decide))⟩
    rw [← stepCells_aim]
    simpa [aimAt] using s1
  have r1 := r1.drew
  have r2 : Kept P w (w.setCell ⟨f, k * 2 + 1, none⟩ (.int .i64 R.steps.length)).drew := ((Kept.refl P w).setCell (hR.steps.out f rfl) _).drew
  clear s1 s2 hne
  go_enter Tryz.func77, Tryz.ntmps77
  go_wp2
  go_region
  go_wp2
  go_end0
  exact ⟨rfl, ⟨_, _, _, r1⟩, r2⟩

set_option maxRecDepth 100000 in
set_option maxHeartbeats 400000 in
theorem aimHere_no (w : World) (P : Nat → Prop) (b : Nat) (R : Rd) (hR : RdIs w P b R) (x : Int) (hx : x < 0 ∨ (R.steps.length : Int) ≤ x) (hl : R.steps.length ≤ 100000) :
    Calls Tryz.prog 77 #[.pointer (some ⟨b, 0, none⟩), .int .i64 x] w fun e w' =>
      e = .returned (.tuple #[]) ∧ RdIs w' P b R ∧ Kept P w w' := by
  obtain ⟨a0, k0, a1, k1, a2, k2, c0, c1, c2, c3, c4, c5, c6, hlt⟩ := hR.view
  clear c1 c2 c3 c4 c5 c6
  by_cases h0 : x < 0
  · clear hx
    go_enter Tryz.func77, Tryz.ntmps77
    go_wp2
    go_end0
    exact ⟨rfl, hR, Kept.refl _ _⟩
  · have h1 : (R.steps.length : Int) ≤ x := by omega
    have h2 : 0 ≤ x := by omega
    clear hx h0
    go_enter Tryz.func77, Tryz.ntmps77
    go_wp2
    go_end0
    exact ⟨rfl, hR, Kept.refl _ _⟩

theorem aimHere_any (w : World) (P : Nat → Prop) (b : Nat) (R : Rd) (hR : RdIs w P b R) (x : Int) (hl : R.steps.length ≤ 100000) :
    Calls Tryz.prog 77 #[.pointer (some ⟨b, 0, none⟩), .int .i64 x] w fun e w' =>
      e = .returned (.tuple #[]) ∧ RdIs w' P b (R.aim x) ∧ Kept P w w' := by
  unfold Rd.aim aimI
  by_cases h : 0 ≤ x ∧ x < (R.steps.length : Int)
  · rw [if_pos h]
    obtain ⟨n, rfl⟩ := Int.eq_ofNat_of_zero_le h.1
    rw [Int.toNat_natCast]
    exact aimHere_yes w P b R hR n (by omega) hl
  · rw [if_neg h]
    exact aimHere_no w P b R hR x (by omega) hl
end Go.Proofs.YtnanjomnldfidabGreatDoor
