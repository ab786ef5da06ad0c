/-
  Package graderref: Shape.place.
-/
import Derived.Test.YtepckhdnlfajbaaDoorRefShape
set_option linter.unusedSimpArgs false
set_option linter.unusedVariables false
set_option linter.unusedSectionVars false
namespace Go.Proofs.YtepckhdnlfajbaaDoor
open Go.RowKit

/-- What place leaves. -/
def PlacePost (P : Nat → Prop) (b : Nat) (r : Bool × List UInt8 × Bool) (w : World) (e : Ending) (w' : World) : Prop :=
  e = .returned (.bool r.1) ∧ ShapeIs w' b r.2.1 r.2.2 ∧ Kept P w w'

section
variable {w : World} {P : Nat → Prop} {b : Nat} {O : List UInt8} {I : Bool}

set_option maxRecDepth 100000 in
set_option maxHeartbeats 800000 in
theorem place_up (hS : ShapeIs w b O I) (hb : ¬ P b) (hl : O.length ≤ 90000) (t : ByteArray) (c : UInt8) (ht : (t = ⟨#[105, 102]⟩ ∧ c = 105) ∨ (t = ⟨#[98, 101, 103, 105, 110]⟩ ∧ c = 98)) :
    Calls Tryd.prog 27 #[.pointer (some ⟨b, 0, none⟩), .string t] w (PlacePost P b (true, O ++ [c], I) w) := by
  obtain ⟨o, ho, hbox⟩ := hS
  have hlt := lt_of_block hbox
  have c0 : w.cell? ⟨b, 0, none⟩ = some (.string o) := cell_of_block hbox 0 _ rfl
  have f0 : w.frozen? ⟨b, 0, none⟩ = false := frozen_of_row _ _ _ _ _ hbox
  have hsz : o.size ≤ 90000 := by rw [← toList_len, ho]; exact hl
  obtain ⟨r1, r2⟩ := shape_set (P := P) (o' := o ++ ⟨#[c]⟩) (O := O ++ [c]) hbox hb (by rw [toList_append, ho, toList_mk [c]])
  have HO := hide ho
  have HX := hide hbox
  have post : Hid (∀ e, e = Ending.returned (.bool true) → PlacePost P b (true, O ++ [c], I) w e (w.setCell ⟨b, 0, none⟩ (.string (o ++ ⟨#[c]⟩)))) := fun e he => ⟨he, r1, r2⟩
  clear ho hbox r1 r2
  rcases ht with ⟨rfl, rfl⟩ | ⟨rfl, rfl⟩
  all_goals
    go_enter Tryd.func27, Tryd.ntmps27
    go_wp2
    go_ret
    exact post.out _ rfl

set_option maxRecDepth 100000 in
set_option maxHeartbeats 800000 in
theorem place_swap (hS : ShapeIs w b O I) (hb : ¬ P b) (hl : O.length ≤ 90000) (t : ByteArray) (a : UInt8) (u : ByteArray)
    (ht : (t = ⟨#[101, 108, 115, 101]⟩ ∧ a = 105 ∧ u = ⟨#[101]⟩) ∨ (t = ⟨#[117, 110, 116, 105, 108]⟩ ∧ a = 98 ∧ u = ⟨#[]⟩) ∨ (t = ⟨#[119, 104, 105, 108, 101]⟩ ∧ a = 98 ∧ u = ⟨#[119]⟩) ∨ (t = ⟨#[114, 101, 112, 101, 97, 116]⟩ ∧ a = 119 ∧ u = ⟨#[]⟩)) :
    Calls Tryd.prog 27 #[.pointer (some ⟨b, 0, none⟩), .string t] w (PlacePost P b (swapR O I (swapM O a u.toList)) w) := by
  have hu : u.size ≤ 100 := by rcases ht with ⟨_, _, rfl⟩ | ⟨_, _, rfl⟩ | ⟨_, _, rfl⟩ | ⟨_, _, rfl⟩ <;> decide
  have hc := hide (swap_any w P b O a I u hS hb (by omega) hu)
  clear hS hu
  obtain ⟨r, hr⟩ : ∃ r, r = swapM O a u.toList := ⟨_, rfl⟩
  rw [← hr] at hc ⊢
  clear hr
  rcases ht with ⟨rfl, rfl, rfl⟩ | ⟨rfl, rfl, rfl⟩ | ⟨rfl, rfl, rfl⟩ | ⟨rfl, rfl, rfl⟩
  all_goals
    go_enter Tryd.func27, Tryd.ntmps27
    go_wp2_with fail
    refine (unhide hc).mono ?_
    rintro e w' ⟨rfl, h1, h2⟩
    have post : Hid (PlacePost P b (swapR O I r) w (.returned (.bool r.isSome)) w') := ⟨rfl, h1, h2⟩
    clear h1 h2
    go_wp2
    go_ret
    exact post.out

set_option maxRecDepth 100000 in
set_option maxHeartbeats 800000 in
theorem place_then (hS : ShapeIs w b O I) (hb : ¬ P b) (hl : O.length ≤ 90000) :
    Calls Tryd.prog 27 #[.pointer (some ⟨b, 0, none⟩), .string ⟨#[116, 104, 101, 110]⟩] w (PlacePost P b (if (swapM O 105 []).isSome = true then swapR O I (swapM O 105 []) else swapR O I (swapM O 101 [])) w) := by
  have hc := hide (swap_any w P b O 105 I ⟨#[]⟩ hS hb (by omega) (by decide))
  rw [toList_mk []] at hc
  by_cases hs : (swapM O 105 []).isSome = true
  · rw [if_pos hs]
    obtain ⟨r, hr⟩ : ∃ r, r = swapM O 105 [] := ⟨_, rfl⟩
    rw [← hr] at hc hs ⊢
    clear hr hS
    go_enter Tryd.func27, Tryd.ntmps27
    go_wp2_with fail
    refine (unhide hc).mono ?_
    rintro e w' ⟨rfl, h1, h2⟩
    have post : Hid (PlacePost P b (swapR O I r) w (.returned (.bool true)) w') := ⟨by rw [← hs]; rfl, h1, h2⟩
    clear h1 h2
    go_wp2
    go_ret
    exact post.out
  · rw [if_neg hs]
    have hs' : (swapM O 105 []).isSome = false := by simpa using hs
    have hn : Hid ((swapM O 105 []).getD O = O) := by
      unfold Hid
      cases h : swapM O 105 [] with
      | none => rfl
      | some x => rw [h] at hs; exact absurd rfl hs
    clear hs
    obtain ⟨r, hr⟩ : ∃ r, r = swapM O 105 [] := ⟨_, rfl⟩
    rw [← hr] at hc hs' hn
    clear hr hS
    go_enter Tryd.func27, Tryd.ntmps27
    go_wp2_with fail
    refine (unhide hc).mono ?_
    rintro e w' ⟨rfl, h1, h2⟩
    rw [hn.out] at h1
    have hc2 := hide (swap_any w' P b O 101 I ⟨#[]⟩ h1 hb (by omega) (by decide))
    rw [toList_mk []] at hc2
    clear h1 hc hn
    go_wp2_with fail
    refine (unhide hc2).mono ?_
    rintro e w2 ⟨rfl, h3, h4⟩
    have post : Hid (PlacePost P b (swapR O I (swapM O 101 [])) w (.returned (.bool (swapM O 101 []).isSome)) w2) := ⟨rfl, h3, h2.trans h4⟩
    clear h3 h4 h2
    go_wp2
    go_ret
    exact post.out

set_option maxRecDepth 100000 in
set_option maxHeartbeats 800000 in
theorem place_in (hS : ShapeIs w b O I) (t : ByteArray) (ht : t = ⟨#[101, 120, 105, 116]⟩ ∨ t = ⟨#[114, 101, 99, 117, 114, 115, 101]⟩) :
    Calls Tryd.prog 27 #[.pointer (some ⟨b, 0, none⟩), .string t] w (PlacePost P b (I, O, I) w) := by
  have post : Hid (PlacePost P b (I, O, I) w (.returned (.bool I)) w) := ⟨rfl, hS, Kept.refl _ _⟩
  obtain ⟨o, ho, hbox⟩ := hS
  have hlt := lt_of_block hbox
  have c1 : w.cell? ⟨b, 1, none⟩ = some (.bool I) := cell_of_block hbox 1 _ rfl
  clear ho hbox
  rcases ht with rfl | rfl
  all_goals
    go_enter Tryd.func27, Tryd.ntmps27
    go_wp2
    go_ret
    exact post.out

set_option maxRecDepth 100000 in
set_option maxHeartbeats 800000 in
theorem place_end (hS : ShapeIs w b O I) (hb : ¬ P b) :
    Calls Tryd.prog 27 #[.pointer (some ⟨b, 0, none⟩), .string ⟨#[59]⟩] w (PlacePost P b (I && O.isEmpty, O, false) w) := by
  obtain ⟨o, ho, hbox⟩ := hS
  have hlt := lt_of_block hbox
  have c0 : w.cell? ⟨b, 0, none⟩ = some (.string o) := cell_of_block hbox 0 _ rfl
  have c1 : w.cell? ⟨b, 1, none⟩ = some (.bool I) := cell_of_block hbox 1 _ rfl
  have f1 : w.frozen? ⟨b, 1, none⟩ = false := frozen_of_row _ _ _ _ _ hbox
  obtain ⟨r1, r2⟩ := shape_in (P := P) hbox hb false ho
  have post : Hid (∀ v, v = (I && O.isEmpty) → PlacePost P b (I && O.isEmpty, O, false) w (.returned (.bool v)) (w.setCell ⟨b, 1, none⟩ (.bool false))) := fun v hv => ⟨by rw [hv], r1, r2⟩
  have he : Hid (o.toList.isEmpty = O.isEmpty) := by rw [ho]; rfl
  clear ho hbox r1 r2
  cases I
  · go_enter Tryd.func27, Tryd.ntmps27
    go_wp2
    go_ret
    exact post.out _ rfl
  · cases hem : o.toList.isEmpty
    all_goals
      rw [hem] at he
      go_enter Tryd.func27, Tryd.ntmps27
      go_wp2
      go_ret
      exact post.out _ (by rw [← he.out]; rfl)

set_option maxRecDepth 100000 in
set_option maxHeartbeats 800000 in
theorem place_colon (hS : ShapeIs w b O I) (hb : ¬ P b) :
    Calls Tryd.prog 27 #[.pointer (some ⟨b, 0, none⟩), .string ⟨#[58]⟩] w (PlacePost P b (!I && O.isEmpty, O, true) w) := by
  obtain ⟨o, ho, hbox⟩ := hS
  have hlt := lt_of_block hbox
  have c0 : w.cell? ⟨b, 0, none⟩ = some (.string o) := cell_of_block hbox 0 _ rfl
  have c1 : w.cell? ⟨b, 1, none⟩ = some (.bool I) := cell_of_block hbox 1 _ rfl
  have f1 : w.frozen? ⟨b, 1, none⟩ = false := frozen_of_row _ _ _ _ _ hbox
  obtain ⟨r1, r2⟩ := shape_in (P := P) hbox hb true ho
  have post : Hid (∀ v, v = (!I && O.isEmpty) → PlacePost P b (!I && O.isEmpty, O, true) w (.returned (.bool v)) (w.setCell ⟨b, 1, none⟩ (.bool true))) := fun v hv => ⟨by rw [hv], r1, r2⟩
  have he : Hid (o.toList.isEmpty = O.isEmpty) := by rw [ho]; rfl
  clear ho hbox r1 r2
  cases I
  · cases hem : o.toList.isEmpty
    all_goals
      rw [hem] at he
      go_enter Tryd.func27, Tryd.ntmps27
      go_wp2
      go_ret
      exact post.out _ (by rw [← he.out]; rfl)
  · go_enter Tryd.func27, Tryd.ntmps27
    go_wp2
    go_ret
    exact post.out _ rfl

theorem place_any (hS : ShapeIs w b O I) (hb : ¬ P b) (hl : O.length ≤ 90000) (t : ByteArray) (ht : t.toList ∈ formsL) :
    Calls Tryd.prog 27 #[.pointer (some ⟨b, 0, none⟩), .string t] w (PlacePost P b (placeM O I t.toList) w) := by
  simp only [formsL, List.mem_cons, List.not_mem_nil, or_false] at ht
  rcases ht with h | h | h | h | h | h | h | h | h | h | h <;> (rw [h]; have e := eq_mk h; subst e; clear h)
  · exact place_up hS hb hl _ 105 (.inl ⟨rfl, rfl⟩)
  · exact (place_swap hS hb hl _ 105 ⟨#[101]⟩ (.inl ⟨rfl, rfl, rfl⟩)).mono fun e w' h => by rw [toList_mk [101]] at h; exact h
  · exact place_then hS hb hl
  · exact place_up hS hb hl _ 98 (.inr ⟨rfl, rfl⟩)
  · exact (place_swap hS hb hl _ 98 ⟨#[]⟩ (.inr (.inl ⟨rfl, rfl, rfl⟩))).mono fun e w' h => by rw [toList_mk []] at h; exact h
  · exact (place_swap hS hb hl _ 98 ⟨#[119]⟩ (.inr (.inr (.inl ⟨rfl, rfl, rfl⟩)))).mono fun e w' h => by rw [toList_mk [119]] at h; exact h
  · exact (place_swap hS hb hl _ 119 ⟨#[]⟩ (.inr (.inr (.inr ⟨rfl, rfl, rfl⟩)))).mono fun e w' h => by rw [toList_mk []] at h; exact h
  · exact place_in hS _ (.inl rfl)
  · exact place_in hS _ (.inr rfl)
  · exact place_colon hS hb
  · exact place_end hS hb
end
end Go.Proofs.YtepckhdnlfajbaaDoor
