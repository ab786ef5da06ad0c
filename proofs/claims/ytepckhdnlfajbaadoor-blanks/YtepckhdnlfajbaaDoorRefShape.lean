/-
  Package graderref: Shape.swap, Shape.place.
-/
import Derived.Test.YtepckhdnlfajbaaDoorRefSplit
set_option linter.unusedSimpArgs false
set_option linter.unusedVariables false
set_option linter.unusedSectionVars false
namespace Go.Proofs.YtepckhdnlfajbaaDoor
open Go.RowKit

/-- A shape in memory. -/
def ShapeIs (w : World) (b : Nat) (O : List UInt8) (I : Bool) : Prop := ∃ o : ByteArray, o.toList = O ∧ w.heap[b]? = some (.cells #[.string o, .bool I] 48 (0, 0))

theorem toList_append (a b : ByteArray) : (a ++ b).toList = a.toList ++ b.toList := by
  rw [ByteArray.toList_eq, ByteArray.toList_eq, ByteArray.toList_eq]; simp
theorem toList_extract (s : ByteArray) (a z : Nat) : (s.extract a z).toList = (s.toList.take z).drop a := by
  rw [ByteArray.toList_eq, ByteArray.toList_eq]
  rw [show (s.extract a z).data = s.data.extract a z from by simp]
  rw [Array.toList_extract, List.extract_eq_take_drop, List.take_drop]
  by_cases h : a ≤ z
  · rw [show a + (z - a) = z by omega]
  · rw [List.drop_of_length_le (by simp; omega), List.drop_of_length_le (by simp; omega)]
theorem shape_set {w : World} {P : Nat → Prop} {b : Nat} {o o' : ByteArray} {I : Bool} (h : w.heap[b]? = some (.cells #[.string o, .bool I] 48 (0, 0))) (hb : ¬ P b) {O : List UInt8} (ho : o'.toList = O) :
    ShapeIs (w.setCell ⟨b, 0, none⟩ (.string o')) b O I ∧ Kept P w (w.setCell ⟨b, 0, none⟩ (.string o')) :=
  ⟨⟨o', ho, by rw [heap_setCell_same _ _ _ _ _ _ h]; rfl⟩, (Kept.refl P w).setCell hb _⟩
theorem shape_in {w : World} {P : Nat → Prop} {b : Nat} {o : ByteArray} {I : Bool} (h : w.heap[b]? = some (.cells #[.string o, .bool I] 48 (0, 0))) (hb : ¬ P b) (J : Bool) {O : List UInt8} (ho : o.toList = O) :
    ShapeIs (w.setCell ⟨b, 1, none⟩ (.bool J)) b O J ∧ Kept P w (w.setCell ⟨b, 1, none⟩ (.bool J)) :=
  ⟨⟨o, ho, by rw [heap_setCell_same _ _ _ _ _ _ h]; rfl⟩, (Kept.refl P w).setCell hb _⟩

set_option maxRecDepth 100000 in
set_option maxHeartbeats 400000 in
theorem swap_yes (w : World) (P : Nat → Prop) (b : Nat) (l : List UInt8) (a : UInt8) (I : Bool) (t : ByteArray) (hS : ShapeIs w b (l ++ [a]) I) (hb : ¬ P b) (hl : l.length ≤ 100000) (ht : t.size ≤ 100) :
    Calls Tryd.prog 47 #[.pointer (some ⟨b, 0, none⟩), .int .u8 (a.toNat : Int), .string t] w fun e w' =>
      e = .returned (.bool true) ∧ ShapeIs w' b (l ++ t.toList) I ∧ Kept P w w' := by
  obtain ⟨o, ho, hbox⟩ := hS
  have hlt := lt_of_block hbox
  have c0 : w.cell? ⟨b, 0, none⟩ = some (.string o) := cell_of_block hbox 0 _ rfl
  have f0 : w.frozen? ⟨b, 0, none⟩ = false := frozen_of_row _ _ _ _ _ hbox
  have hsz : o.size = l.length + 1 := by rw [← toList_len, ho]; simp
  have hlast : ∀ h : l.length < o.size, o[l.length] = a := by
    intro h
    rw [ByteArray.toList_eq] at ho
    have h2 : l.length < o.data.toList.length := by rw [len_data]; exact h
    have : o.data.toList[l.length] = a := by simp [ho]
    exact this
  obtain ⟨r1, r2⟩ := shape_set (P := P) (o' := o.extract 0 l.length ++ t) (O := l ++ t.toList) hbox hb (by rw [toList_append, toList_extract, ho]; simp)
  have HO := hide ho
  have HX := hide hbox
  clear ho hbox
  go_enter Tryd.func47, Tryd.ntmps47
  go_wp2
  go_ret
  exact ⟨rfl, r1, r2⟩

set_option maxRecDepth 100000 in
set_option maxHeartbeats 400000 in
theorem swap_nil (w : World) (P : Nat → Prop) (b : Nat) (a : UInt8) (I : Bool) (t : ByteArray) (hS : ShapeIs w b [] I) :
    Calls Tryd.prog 47 #[.pointer (some ⟨b, 0, none⟩), .int .u8 (a.toNat : Int), .string t] w fun e w' =>
      e = .returned (.bool false) ∧ w' = w := by
  obtain ⟨o, ho, hbox⟩ := hS
  have hlt := lt_of_block hbox
  have c0 : w.cell? ⟨b, 0, none⟩ = some (.string o) := cell_of_block hbox 0 _ rfl
  have hsz : o.size = 0 := by rw [← toList_len, ho]; simp
  have HO := hide ho
  have HX := hide hbox
  clear ho hbox
  go_enter Tryd.func47, Tryd.ntmps47
  go_wp2
  go_ret
  exact ⟨rfl, rfl⟩

set_option maxRecDepth 100000 in
set_option maxHeartbeats 400000 in
theorem swap_no (w : World) (P : Nat → Prop) (b : Nat) (l : List UInt8) (a c : UInt8) (hac : c ≠ a) (I : Bool) (t : ByteArray) (hS : ShapeIs w b (l ++ [c]) I) (hl : l.length ≤ 100000) :
    Calls Tryd.prog 47 #[.pointer (some ⟨b, 0, none⟩), .int .u8 (a.toNat : Int), .string t] w fun e w' =>
      e = .returned (.bool false) ∧ w' = w := by
  obtain ⟨o, ho, hbox⟩ := hS
  have hlt := lt_of_block hbox
  have c0 : w.cell? ⟨b, 0, none⟩ = some (.string o) := cell_of_block hbox 0 _ rfl
  have hsz : o.size = l.length + 1 := by rw [← toList_len, ho]; simp
  have hlast : ∀ h : l.length < o.size, o[l.length] = c := by
    intro h
    rw [ByteArray.toList_eq] at ho
    have h2 : l.length < o.data.toList.length := by rw [len_data]; exact h
    have : o.data.toList[l.length] = c := by simp [ho]
    exact this
  have hne : ((c.toNat : Int) != (a.toNat : Int)) = true := by
    rw [bne_iff_ne]
    intro h
    exact hac (UInt8.toNat_inj.1 (by omega))
  have HO := hide ho
  have HX := hide hbox
  clear ho hbox hac
  go_enter Tryd.func47, Tryd.ntmps47
  go_wp2
  go_ret
  exact ⟨rfl, rfl⟩

/-- What swap leaves. -/
def SwapPost (P : Nat → Prop) (b : Nat) (O : List UInt8) (r : Option (List UInt8)) (I : Bool) (w : World) (e : Ending) (w' : World) : Prop :=
  e = .returned (.bool r.isSome) ∧ ShapeIs w' b (r.getD O) I ∧ Kept P w w'
theorem swap_any (w : World) (P : Nat → Prop) (b : Nat) (O : List UInt8) (a : UInt8) (I : Bool) (t : ByteArray) (hS : ShapeIs w b O I) (hb : ¬ P b) (hl : O.length ≤ 100000) (ht : t.size ≤ 100) :
    Calls Tryd.prog 47 #[.pointer (some ⟨b, 0, none⟩), .int .u8 (a.toNat : Int), .string t] w (SwapPost P b O (swapM O a t.toList) I w) := by
  rcases List.eq_nil_or_concat O with h | ⟨l, c, h⟩
  · subst h
    refine (swap_nil w P b a I t hS).mono ?_
    rintro e w' ⟨rfl, rfl⟩
    exact ⟨rfl, hS, Kept.refl _ _⟩
  · have h : O = l ++ [c] := by simpa using h
    subst h
    by_cases hac : c = a
    · subst hac
      refine (swap_yes w P b l c I t hS hb (by simp at hl; omega) ht).mono ?_
      rintro e w' ⟨rfl, h1, h2⟩
      have : swapM (l ++ [c]) c t.toList = some (l ++ t.toList) := by unfold swapM; rw [if_pos (by simp)]; simp
      rw [this]
      exact ⟨rfl, h1, h2⟩
    · refine (swap_no w P b l a c hac I t hS (by simp at hl; omega)).mono ?_
      rintro e w' ⟨rfl, rfl⟩
      have : swapM (l ++ [c]) a t.toList = none := by unfold swapM; rw [if_neg (by simpa using hac)]
      rw [this]
      exact ⟨rfl, hS, Kept.refl _ _⟩
end Go.Proofs.YtepckhdnlfajbaaDoor
