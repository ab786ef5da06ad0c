/-
  Package grader's machine in memory: the box and its four rows.
-/
import Derived.Test.YtnanjomnldfidabGreatDoorRmMem
import Derived.Laws.IdiomStrings
set_option linter.unusedSimpArgs false
set_option linter.unusedVariables false
set_option linter.unusedSectionVars false
namespace Go.Proofs.YtnanjomnldfidabGreatDoor
open Go.RowKit

def byteCells (l : List UInt8) : List Value := l.map fun x => .int .u8 (x.toNat : Int)
theorem byteCells_length (l : List UInt8) : (byteCells l).length = l.length := by simp [byteCells]
theorem byteCells_snoc (l : List UInt8) (a : UInt8) : byteCells (l ++ [a]) = byteCells l ++ [.int .u8 (a.toNat : Int)] := by simp [byteCells]
theorem Tryz.infoByte : (Tryz.prog.info? 5).map (fun i => (i.zero, i.size, i.bytes)) = some (some (.int .u8 0), 1, 1) := by kernel_rfl

/-- The bytes of the image: a block that bears the run-time's mark behind its last cell. -/
structure Img (w : World) (P : Nat → Prop) (v : Value) (l : List UInt8) (g cap : Nat) (cs : Array Value) (fr : Nat × Nat) : Prop where
  val : v = .slice (some ⟨g, 0, none⟩) l.length cap
  out : ¬ P g
  at' : w.heap[g]? = some (.cells cs 5 fr)
  cells : ∀ j (h : j < l.length), cs[j]? = some (.int .u8 (l[j].toNat : Int))
  mark : l.length ≤ fr.1
def ImgIs (w : World) (P : Nat → Prop) (v : Value) (l : List UInt8) : Prop := ∃ g cap cs fr, Img w P v l g cap cs fr
theorem ImgIs.own {w : World} {P : Nat → Prop} {v : Value} {l : List UInt8} (h : ImgIs w P v l) : ∃ g cs fr, v.ownBlock = some g ∧ w.heap[g]? = some (.cells cs 5 fr) := by
  obtain ⟨g, cap, cs, fr, h⟩ := h; exact ⟨g, cs, fr, by rw [h.val]; rfl, h.at'⟩
theorem ImgIs.moved {w w' : World} {P : Nat → Prop} {v : Value} {l : List UInt8} (h : ImgIs w P v l) (hb : ∀ g, v.ownBlock = some g → w'.heap[g]? = w.heap[g]?) : ImgIs w' P v l := by
  obtain ⟨g, cap, cs, fr, h⟩ := h
  exact ⟨g, cap, cs, fr, h.val, h.out, (hb g (by rw [h.val]; rfl)).trans h.at', h.cells, h.mark⟩

/-- The machine in memory: block b. -/
structure DmAt (w : World) (P : Nat → Prop) (b : Nat) (M : Ma) (vi vs vc vo : Value) : Prop where
  bound : ∀ k, P k → k < w.heap.size
  out : ¬ P b
  box : w.heap[b]? = some (.cells #[.string M.inp, .int .i64 M.pos, vi, .int .i64 M.kernel, .int .i64 M.fence, .int .i64 M.rights, .int .i64 M.fuel, .int .i64 M.used, vs, vc, vo, .int .i64 M.mark] 109 (0, 0))
  image : ImgIs w P vi M.image
  stack : Row w P 3 1 vs M.stack.length (intCells M.stack)
  calls : Row w P 3 1 vc M.calls.length (intCells M.calls)
  outp : Row w P 5 1 vo M.out.length (byteCells M.out)
  sep : ∀ k, vs.ownBlock = some k → vc.ownBlock ≠ some k
  sepo : ∀ k, vo.ownBlock = some k → vi.ownBlock ≠ some k
def DmIs (w : World) (P : Nat → Prop) (b : Nat) (M : Ma) : Prop := ∃ vi vs vc vo, DmAt w P b M vi vs vc vo

section
variable {w w' : World} {P : Nat → Prop} {b : Nat} {M : Ma} {vi vs vc vo : Value}
theorem DmAt.lt (h : DmAt w P b M vi vs vc vo) : b < w.heap.size := lt_of_block h.box
theorem DmAt.free (h : DmAt w P b M vi vs vc vo) (j : Nat) : w.frozen? ⟨b, j, none⟩ = false := frozen_of_row _ _ _ _ _ h.box
theorem DmAt.cell (h : DmAt w P b M vi vs vc vo) (j : Nat) (v : Value) (hj : #[.string M.inp, .int .i64 M.pos, vi, .int .i64 M.kernel, .int .i64 M.fence, .int .i64 M.rights, .int .i64 M.fuel, .int .i64 M.used, vs, vc, vo, .int .i64 M.mark][j]? = some v) : w.cell? ⟨b, j, none⟩ = some v := cell_of_block h.box j v hj
/-- Nothing of the machine lies in the block that changes. -/
theorem ImgIs.set {v : Value} {l : List UInt8} (h : ImgIs w P v l) {a : Addr} (ha : v.ownBlock ≠ some a.block) (u : Value) : ImgIs (w.setCell a u) P v l :=
  h.moved fun g hg => Below.heap_setCell _ _ _ _ (fun e => ha (e ▸ hg))
theorem ImgIs.alloc {v : Value} {l : List UInt8} (h : ImgIs w P v l) (o : Obj) : ImgIs (w.alloc o) P v l := by
  obtain ⟨g, cs, fr, h1, h2⟩ := h.own
  exact h.moved fun g' hg => by
    rw [h1] at hg; cases hg
    exact Below.heap_alloc _ _ _ (lt_of_block h2)
theorem ImgIs.grown {v : Value} {l : List UInt8} {row : Option Nat} (h : ImgIs w P v l) (hg : w.grownBy w' row) (hne : row ≠ v.ownBlock) : ImgIs w' P v l := by
  obtain ⟨g, cs, fr, h1, h2⟩ := h.own
  exact h.moved fun g' hg' => by
    rw [h1] at hg'; cases hg'
    exact hg.block g (lt_of_block h2) (fun e => hne (by rw [h1]; exact e.symm))
theorem ImgIs.ne_box (h : ImgIs w P vi M.image) {cs : Array Value} {t : TypeId} {f : Nat × Nat} (hb : w.heap[b]? = some (.cells cs t f)) (ht : t ≠ 5) : vi.ownBlock ≠ some b := by
  obtain ⟨g, cs', fr, h1, h2⟩ := h.own
  rw [h1]
  intro e
  cases e
  exact ne_of_type hb h2 ht rfl
theorem DmAt.alloc (h : DmAt w P b M vi vs vc vo) (o : Obj) : DmAt (w.alloc o) P b M vi vs vc vo :=
  ⟨fun k hk => by have := h.bound k hk; simp; omega, h.out, alloc_block h.box, h.image.alloc o, h.stack.alloc o, h.calls.alloc o, h.outp.alloc o, h.sep, h.sepo⟩
theorem DmAt.drew (h : DmAt w P b M vi vs vc vo) : DmAt w.drew P b M vi vs vc vo := ⟨h.bound, h.out, h.box, h.image.moved (fun _ _ => rfl), h.stack.drew, h.calls.drew, h.outp.drew, h.sep, h.sepo⟩
theorem DmIs.alloc (h : DmIs w P b M) (o : Obj) : DmIs (w.alloc o) P b M := by obtain ⟨vi, vs, vc, vo, h⟩ := h; exact ⟨vi, vs, vc, vo, h.alloc o⟩
theorem DmIs.drew (h : DmIs w P b M) : DmIs w.drew P b M := by obtain ⟨vi, vs, vc, vo, h⟩ := h; exact ⟨vi, vs, vc, vo, h.drew⟩
theorem DmIs.drewN (h : DmIs w P b M) (n : Nat) : DmIs (w.drewN n) P b M := by
  induction n with
  | zero => exact h
  | succ n ih => exact ih.drew
theorem DmIs.bound (h : DmIs w P b M) : ∀ k, P k → k < w.heap.size := by obtain ⟨vi, vs, vc, vo, h⟩ := h; exact h.bound
/-- A store into a field of the box, the rows as they were. -/
theorem DmAt.field (h : DmAt w P b M vi vs vc vo) (M' : Ma) (j : Nat) (v : Value) (hst : M'.stack = M.stack) (hca : M'.calls = M.calls) (him : M'.image = M.image) (hou : M'.out = M.out)
    (hbox : #[.string M.inp, .int .i64 M.pos, vi, .int .i64 M.kernel, .int .i64 M.fence, .int .i64 M.rights, .int .i64 M.fuel, .int .i64 M.used, vs, vc, vo, .int .i64 M.mark].setIfInBounds j v = #[.string M'.inp, .int .i64 M'.pos, vi, .int .i64 M'.kernel, .int .i64 M'.fence, .int .i64 M'.rights, .int .i64 M'.fuel, .int .i64 M'.used, vs, vc, vo, .int .i64 M'.mark]) :
    DmAt (w.setCell ⟨b, j, none⟩ v) P b M' vi vs vc vo ∧ Kept P w (w.setCell ⟨b, j, none⟩ v) := by
  refine ⟨⟨?_, h.out, ?_, ?_, ?_, ?_, ?_, h.sep, h.sepo⟩, (Kept.refl P w).setCell h.out _⟩
  · intro k hk; have := h.bound k hk; simpa [World.setCell] using this
  · rw [heap_setCell_same _ _ _ _ _ _ h.box, hbox]
  · rw [him]; exact h.image.set (h.image.ne_box h.box (by decide)) _
  · rw [hst]; exact h.stack.set (own_ne h.stack.own h.box (by decide)) _
  · rw [hca]; exact h.calls.set (own_ne h.calls.own h.box (by decide)) _
  · rw [hou]; exact h.outp.set (own_ne h.outp.own h.box (by decide)) _
/-- A row of the box laid anew (the other rows as they were). -/
theorem DmAt.newStack (h : DmAt w P b M vi vs vc vo) (l : List Int) (v : Value) (hrow : Row w P 3 1 v l.length (intCells l)) (hsep : ∀ k, v.ownBlock = some k → vc.ownBlock ≠ some k) :
    DmAt (w.setCell ⟨b, 8, none⟩ v) P b { M with stack := l } vi v vc vo ∧ Kept P w (w.setCell ⟨b, 8, none⟩ v) := by
  refine ⟨⟨?_, h.out, ?_, ?_, ?_, ?_, ?_, hsep, h.sepo⟩, (Kept.refl P w).setCell h.out _⟩
  · intro k hk; have := h.bound k hk; simpa [World.setCell] using this
  · rw [heap_setCell_same _ _ _ _ _ _ h.box]; rfl
  · exact h.image.set (h.image.ne_box h.box (by decide)) _
  · exact hrow.set (own_ne hrow.own h.box (by decide)) _
  · exact h.calls.set (own_ne h.calls.own h.box (by decide)) _
  · exact h.outp.set (own_ne h.outp.own h.box (by decide)) _
theorem DmAt.newCalls (h : DmAt w P b M vi vs vc vo) (l : List Int) (v : Value) (hrow : Row w P 3 1 v l.length (intCells l)) (hsep : ∀ k, vs.ownBlock = some k → v.ownBlock ≠ some k) :
    DmAt (w.setCell ⟨b, 9, none⟩ v) P b { M with calls := l } vi vs v vo ∧ Kept P w (w.setCell ⟨b, 9, none⟩ v) := by
  refine ⟨⟨?_, h.out, ?_, ?_, ?_, ?_, ?_, hsep, h.sepo⟩, (Kept.refl P w).setCell h.out _⟩
  · intro k hk; have := h.bound k hk; simpa [World.setCell] using this
  · rw [heap_setCell_same _ _ _ _ _ _ h.box]; rfl
  · exact h.image.set (h.image.ne_box h.box (by decide)) _
  · exact h.stack.set (own_ne h.stack.own h.box (by decide)) _
  · exact hrow.set (own_ne hrow.own h.box (by decide)) _
  · exact h.outp.set (own_ne h.outp.own h.box (by decide)) _

theorem none_or_ne {a r : Option Nat} (h : ∀ k, r = some k → a ≠ some k) : a = none ∨ a ≠ r := by
  cases a with
  | none => exact .inl rfl
  | some k => exact .inr fun e => h k e.symm rfl

/-- Behind an append onto the stack, the calls, the output; and the store of the new slice. -/
theorem DmAt.pushStack (h : DmAt w P b M vi vs vc vo) {w1 : World} {v : Value} (hg : w.grownBy w1 vs.ownBlock) (l : List Int) (hrow : Row w1 (fun k => P k ∨ vc.ownBlock = some k) 3 1 v l.length (intCells l)) :
    DmAt (w1.setCell ⟨b, 8, none⟩ v) P b { M with stack := l } vi v vc vo ∧ Kept P w (w1.setCell ⟨b, 8, none⟩ v) ∧ w1.cell? ⟨b, 8, none⟩ = some vs ∧ w1.frozen? ⟨b, 8, none⟩ = false ∧ b < w1.heap.size := by
  have hb := grown_block hg h.box (own_ne h.stack.own h.box (by decide))
  have hk : Kept P w w1 := (Kept.refl P w).grown hg h.stack.out
  have hcal := h.calls.kept hg (none_or_ne h.sep)
  have hout := h.outp.kept hg (own_ne_own h.outp.own h.stack.own (by decide))
  have himg := h.image.grown hg (by
    obtain ⟨g, cs, fr, h1, h2⟩ := h.image.own
    rw [h1]; exact own_ne h.stack.own h2 (by decide))
  have hbd : ∀ k, P k → k < w1.heap.size := fun k hk => Nat.lt_of_lt_of_le (h.bound k hk) hg.size
  refine ⟨⟨?_, h.out, ?_, ?_, ?_, ?_, ?_, fun k hk hk2 => hrow.out k hk (.inr hk2), h.sepo⟩, hk.setCell h.out _, cell_of_block hb 8 _ rfl, frozen_of_row _ _ _ _ _ hb, lt_of_block hb⟩
  · intro k hk; have := hbd k hk; simpa [World.setCell] using this
  · rw [heap_setCell_same _ _ _ _ _ _ hb]; rfl
  · exact himg.set (himg.ne_box hb (by decide)) _
  · exact Row.set ⟨hrow.own, fun k hk hp => hrow.out k hk (.inl hp)⟩ (own_ne hrow.own hb (by decide)) _
  · exact hcal.set (own_ne hcal.own hb (by decide)) _
  · exact hout.set (own_ne hout.own hb (by decide)) _
theorem DmAt.pushCalls (h : DmAt w P b M vi vs vc vo) {w1 : World} {v : Value} (hg : w.grownBy w1 vc.ownBlock) (l : List Int) (hrow : Row w1 (fun k => P k ∨ vs.ownBlock = some k) 3 1 v l.length (intCells l)) :
    DmAt (w1.setCell ⟨b, 9, none⟩ v) P b { M with calls := l } vi vs v vo ∧ Kept P w (w1.setCell ⟨b, 9, none⟩ v) ∧ w1.cell? ⟨b, 9, none⟩ = some vc ∧ w1.frozen? ⟨b, 9, none⟩ = false ∧ b < w1.heap.size := by
  have hb := grown_block hg h.box (own_ne h.calls.own h.box (by decide))
  have hk : Kept P w w1 := (Kept.refl P w).grown hg h.calls.out
  have hsta := h.stack.kept hg (none_or_ne fun k hk hk2 => h.sep k hk2 hk)
  have hout := h.outp.kept hg (own_ne_own h.outp.own h.calls.own (by decide))
  have himg := h.image.grown hg (by
    obtain ⟨g, cs, fr, h1, h2⟩ := h.image.own
    rw [h1]; exact own_ne h.calls.own h2 (by decide))
  have hbd : ∀ k, P k → k < w1.heap.size := fun k hk => Nat.lt_of_lt_of_le (h.bound k hk) hg.size
  refine ⟨⟨?_, h.out, ?_, ?_, ?_, ?_, ?_, fun k hk hk2 => hrow.out k hk2 (.inr hk), h.sepo⟩, hk.setCell h.out _, cell_of_block hb 9 _ rfl, frozen_of_row _ _ _ _ _ hb, lt_of_block hb⟩
  · intro k hk; have := hbd k hk; simpa [World.setCell] using this
  · rw [heap_setCell_same _ _ _ _ _ _ hb]; rfl
  · exact himg.set (himg.ne_box hb (by decide)) _
  · exact hsta.set (own_ne hsta.own hb (by decide)) _
  · exact Row.set ⟨hrow.own, fun k hk hp => hrow.out k hk (.inl hp)⟩ (own_ne hrow.own hb (by decide)) _
  · exact hout.set (own_ne hout.own hb (by decide)) _
theorem DmAt.pushOut (h : DmAt w P b M vi vs vc vo) {w1 : World} {v : Value} (hg : w.grownBy w1 vo.ownBlock) (l : List UInt8) (hrow : Row w1 (fun k => P k ∨ vi.ownBlock = some k) 5 1 v l.length (byteCells l)) :
    DmAt (w1.setCell ⟨b, 10, none⟩ v) P b { M with out := l } vi vs vc v ∧ Kept P w (w1.setCell ⟨b, 10, none⟩ v) ∧ w1.cell? ⟨b, 10, none⟩ = some vo ∧ w1.frozen? ⟨b, 10, none⟩ = false ∧ b < w1.heap.size := by
  have hb := grown_block hg h.box (own_ne h.outp.own h.box (by decide))
  have hk : Kept P w w1 := (Kept.refl P w).grown hg h.outp.out
  have hsta := h.stack.kept hg (own_ne_own h.stack.own h.outp.own (by decide))
  have hcal := h.calls.kept hg (own_ne_own h.calls.own h.outp.own (by decide))
  have himg := h.image.grown hg (by
    obtain ⟨g, cs, fr, h1, h2⟩ := h.image.own
    rw [h1]; intro e; exact h.sepo g e h1)
  have hbd : ∀ k, P k → k < w1.heap.size := fun k hk => Nat.lt_of_lt_of_le (h.bound k hk) hg.size
  refine ⟨⟨?_, h.out, ?_, ?_, ?_, ?_, ?_, h.sep, fun k hk hk2 => hrow.out k hk (.inr hk2)⟩, hk.setCell h.out _, cell_of_block hb 10 _ rfl, frozen_of_row _ _ _ _ _ hb, lt_of_block hb⟩
  · intro k hk; have := hbd k hk; simpa [World.setCell] using this
  · rw [heap_setCell_same _ _ _ _ _ _ hb]; rfl
  · exact himg.set (himg.ne_box hb (by decide)) _
  · exact hsta.set (own_ne hsta.own hb (by decide)) _
  · exact hcal.set (own_ne hcal.own hb (by decide)) _
  · exact Row.set ⟨hrow.own, fun k hk hp => hrow.out k hk (.inl hp)⟩ (own_ne hrow.own hb (by decide)) _
/-- A byte of the image written. -/
theorem DmAt.poke (h : DmAt w P b M vi vs vc vo) (k : Nat) (hk : k < M.image.length) (x : UInt8) : ∃ g cap, vi = .slice (some ⟨g, 0, none⟩) M.image.length cap ∧ g < w.heap.size ∧ w.cell? ⟨g, k, none⟩ = some (.int .u8 ((M.image.getD k 0).toNat : Int)) ∧ w.frozen? ⟨g, k, none⟩ = false ∧
    DmAt (w.setCell ⟨g, k, none⟩ (.int .u8 (x.toNat : Int))) P b { M with image := M.image.set k x } vi vs vc vo ∧ Kept P w (w.setCell ⟨g, k, none⟩ (.int .u8 (x.toNat : Int))) := by
  obtain ⟨g, cap, cs, fr, hi⟩ := h.image
  have hvi : vi.ownBlock = some g := by rw [hi.val]; rfl
  have hfr : w.frozen? ⟨g, k, none⟩ = false := by
    unfold World.frozen?
    rw [hi.at']
    have := hi.mark
    simp
    omega
  have hsz : k < cs.size := by
    have := hi.cells k hk
    rcases Nat.lt_or_ge k cs.size with h1 | h1
    · exact h1
    · rw [Array.getElem?_eq_none h1] at this; cases this
  have hnb : g ≠ b := fun e => ne_of_type h.box (e ▸ hi.at') (by decide) rfl
  have hset : (w.setCell ⟨g, k, none⟩ (.int .u8 (x.toNat : Int))).heap[g]? = some (.cells (cs.setIfInBounds k (.int .u8 (x.toNat : Int))) 5 fr) := by simp [World.setCell, Array.getElem?_modify, hi.at']
  refine ⟨g, cap, hi.val, lt_of_block hi.at', ?_, hfr, ⟨?_, h.out, ?_, ⟨g, cap, _, fr, ?_, hi.out, hset, ?_, ?_⟩, ?_, ?_, ?_, h.sep, h.sepo⟩, (Kept.refl P w).setCell hi.out _⟩
  · rw [cell_of_block hi.at' k _ (hi.cells k hk)]; simp [List.getD, hk]
  · intro j hj; have := h.bound j hj; simpa [World.setCell] using this
  · rw [show (w.setCell ⟨g, k, none⟩ (.int .u8 (x.toNat : Int))).heap[b]? = w.heap[b]? from Below.heap_setCell _ _ _ _ (fun e => hnb e.symm)]; exact h.box
  · rw [hi.val]; simp
  · intro j hj
    rw [Array.getElem?_setIfInBounds]
    simp only [List.length_set] at hj
    by_cases e : k = j
    · subst e; simp [hsz]
    · rw [if_neg e]; rw [hi.cells j hj]; simp [e]
  · simpa using hi.mark
  · exact h.stack.set (own_ne h.stack.own hi.at' (by decide)) _
  · exact h.calls.set (own_ne h.calls.own hi.at' (by decide)) _
  · exact h.outp.set (fun e => h.sepo g e hvi) _
end
end Go.Proofs.YtnanjomnldfidabGreatDoor
