/-
  The reader of package grader: take.
-/
import Derived.Test.YtepckhdnlfajbaaDoorRdInside
set_option linter.unusedSimpArgs false
set_option linter.unusedVariables false
set_option linter.unusedSectionVars false
namespace Go.Proofs.YtepckhdnlfajbaaDoor
open Go.RowKit

/-- What take leaves. -/
def TakePost (P : Nat → Prop) (b : Nat) (r : Int × Rd) (w : World) (e : Ending) (w' : World) : Prop :=
  e = .returned (.int .i64 r.1) ∧ (r.1 = 0 → RdIs w' P b r.2) ∧ Kept P w w'
theorem takePost_int {P : Nat → Prop} {b : Nat} {r : Int × Rd} {w : World} (e : Ending) (w' : World) (h : TakePost P b r w e w') : ∃ n, e = .returned (.int .i64 n) := ⟨_, h.1⟩

theorem isDigits_is (t : ByteArray) (w : World) (hs : t.size ≤ maxLen) (v : Bool) (h : digs t.toList = v) :
    Calls Tryd.prog 40 #[.string t] w fun e w' => e = .returned (.bool v) ∧ w' = w := by
  refine (isDigits_any t w hs).mono ?_
  rintro e w' ⟨h1, h2⟩
  rw [← ByteArray.toList_eq, h] at h1
  exact ⟨h1, h2⟩

section
variable {w : World} {P : Nat → Prop} {b : Nat} {R : Rd} {Q : Ending → World → Prop}

set_option maxRecDepth 100000 in
set_option maxHeartbeats 800000 in
theorem take_due (hR : RdIs w P b R) (t : ByteArray) (hd : R.due = true) (hQ : ∀ e w', Q e w' → ∃ n, e = .returned (.int .i64 n))
    (hc : Calls Tryd.prog 39 #[.pointer (some ⟨b, 0, none⟩), .string t] w Q) : Calls Tryd.prog 24 #[.pointer (some ⟨b, 0, none⟩), .string t] w Q := by
  obtain ⟨a0, k0, a1, k1, a2, k2, c0, c1, c2, c3, c4, c5, c6, hlt⟩ := hR.view
  clear c0 c1 c2 c3 c4 c5
  have HC := hide hc
  have HQ := hide hQ
  clear hc hQ hR
  go_enter Tryd.func24, Tryd.ntmps24
  go_wp2_with fail
  refine (unhide HC).mono ?_
  rintro e w' hq
  obtain ⟨n, rfl⟩ := HQ.out e w' hq
  have HH := hide hq
  clear hq
  go_wp2
  exact HH.out

set_option maxRecDepth 100000 in
set_option maxHeartbeats 800000 in
theorem take_number (hR : RdIs w P b R) (t : ByteArray) (hs : t.size ≤ maxLen) (hd : R.due = false) (hg : digs t.toList = true) (hQ : ∀ e w', Q e w' → ∃ n, e = .returned (.int .i64 n))
    (hc : Calls Tryd.prog 41 #[.pointer (some ⟨b, 0, none⟩), .string t] w Q) : Calls Tryd.prog 24 #[.pointer (some ⟨b, 0, none⟩), .string t] w Q := by
  obtain ⟨a0, k0, a1, k1, a2, k2, c0, c1, c2, c3, c4, c5, c6, hlt⟩ := hR.view
  clear c0 c1 c2 c3 c4 c5
  have HC := hide hc
  have HQ := hide hQ
  have HG := hide hg
  clear hc hQ hR hg
  go_enter Tryd.func24, Tryd.ntmps24
  go_wp2_with fail
  refine (isDigits_is t _ hs true HG.out).mono ?_
  rintro e w1 ⟨rfl, rfl⟩
  go_wp2_with fail
  refine (unhide HC).mono ?_
  rintro e w' hq
  obtain ⟨n, rfl⟩ := HQ.out e w' hq
  have HH := hide hq
  clear hq
  go_wp2
  exact HH.out

set_option maxRecDepth 100000 in
set_option maxHeartbeats 800000 in
theorem take_branch (hR : RdIs w P b R) (t : ByteArray) (ht : t = ⟨#[105, 102]⟩ ∨ t = ⟨#[101, 108, 115, 101]⟩ ∨ t = ⟨#[116, 104, 101, 110]⟩) (hd : R.due = false) (hQ : ∀ e w', Q e w' → ∃ n, e = .returned (.int .i64 n))
    (hc : Calls Tryd.prog 42 #[.pointer (some ⟨b, 0, none⟩), .string t] w Q) : Calls Tryd.prog 24 #[.pointer (some ⟨b, 0, none⟩), .string t] w Q := by
  obtain ⟨a0, k0, a1, k1, a2, k2, c0, c1, c2, c3, c4, c5, c6, hlt⟩ := hR.view
  clear c0 c1 c2 c3 c4 c5
  have HC := hide hc
  have HQ := hide hQ
  clear hc hQ hR
  rcases ht with rfl | rfl | rfl
  all_goals
    go_enter Tryd.func24, Tryd.ntmps24
    go_wp2_with fail
    refine (isDigits_is _ _ (by decide) false (by rw [ByteArray.toList_eq]; decide)).mono ?_
    rintro e w1 ⟨rfl, rfl⟩
    go_wp2_with fail
    refine (unhide HC).mono ?_
    rintro e w' hq
    obtain ⟨n, rfl⟩ := HQ.out e w' hq
    have HH := hide hq
    clear hq
    go_wp2
    exact HH.out

set_option maxRecDepth 100000 in
set_option maxHeartbeats 800000 in
theorem take_loop (hR : RdIs w P b R) (t : ByteArray) (ht : t = ⟨#[98, 101, 103, 105, 110]⟩ ∨ t = ⟨#[117, 110, 116, 105, 108]⟩ ∨ t = ⟨#[119, 104, 105, 108, 101]⟩ ∨ t = ⟨#[114, 101, 112, 101, 97, 116]⟩) (hd : R.due = false) (hQ : ∀ e w', Q e w' → ∃ n, e = .returned (.int .i64 n))
    (hc : Calls Tryd.prog 43 #[.pointer (some ⟨b, 0, none⟩), .string t] w Q) : Calls Tryd.prog 24 #[.pointer (some ⟨b, 0, none⟩), .string t] w Q := by
  obtain ⟨a0, k0, a1, k1, a2, k2, c0, c1, c2, c3, c4, c5, c6, hlt⟩ := hR.view
  clear c0 c1 c2 c3 c4 c5
  have HC := hide hc
  have HQ := hide hQ
  clear hc hQ hR
  rcases ht with rfl | rfl | rfl | rfl
  all_goals
    go_enter Tryd.func24, Tryd.ntmps24
    go_wp2_with fail
    refine (isDigits_is _ _ (by decide) false (by rw [ByteArray.toList_eq]; decide)).mono ?_
    rintro e w1 ⟨rfl, rfl⟩
    go_wp2_with fail
    refine (unhide HC).mono ?_
    rintro e w' hq
    obtain ⟨n, rfl⟩ := HQ.out e w' hq
    have HH := hide hq
    clear hq
    go_wp2
    exact HH.out

set_option maxRecDepth 100000 in
set_option maxHeartbeats 800000 in
theorem take_colon (hR : RdIs w P b R) (hd : R.due = false) (hQ : ∀ e w', Q e w' → ∃ n, e = .returned (.int .i64 n))
    (hc : Calls Tryd.prog 44 #[.pointer (some ⟨b, 0, none⟩)] w Q) : Calls Tryd.prog 24 #[.pointer (some ⟨b, 0, none⟩), .string ⟨#[58]⟩] w Q := by
  obtain ⟨a0, k0, a1, k1, a2, k2, c0, c1, c2, c3, c4, c5, c6, hlt⟩ := hR.view
  clear c0 c1 c2 c3 c4 c5
  have HC := hide hc
  have HQ := hide hQ
  clear hc hQ hR
  go_enter Tryd.func24, Tryd.ntmps24
  go_wp2_with fail
  refine (isDigits_is _ _ (by decide) false (by rw [ByteArray.toList_eq]; decide)).mono ?_
  rintro e w1 ⟨rfl, rfl⟩
  go_wp2_with fail
  refine (unhide HC).mono ?_
  rintro e w' hq
  obtain ⟨n, rfl⟩ := HQ.out e w' hq
  have HH := hide hq
  clear hq
  go_wp2
  exact HH.out

set_option maxRecDepth 100000 in
set_option maxHeartbeats 800000 in
theorem take_inside (hR : RdIs w P b R) (t : ByteArray) (ht : t = ⟨#[59]⟩ ∨ t = ⟨#[101, 120, 105, 116]⟩ ∨ t = ⟨#[114, 101, 99, 117, 114, 115, 101]⟩) (hd : R.due = false) (hQ : ∀ e w', Q e w' → ∃ n, e = .returned (.int .i64 n))
    (hc : Calls Tryd.prog 45 #[.pointer (some ⟨b, 0, none⟩), .string t] w Q) : Calls Tryd.prog 24 #[.pointer (some ⟨b, 0, none⟩), .string t] w Q := by
  obtain ⟨a0, k0, a1, k1, a2, k2, c0, c1, c2, c3, c4, c5, c6, hlt⟩ := hR.view
  clear c0 c1 c2 c3 c4 c5
  have HC := hide hc
  have HQ := hide hQ
  clear hc hQ hR
  rcases ht with rfl | rfl | rfl
  all_goals
    go_enter Tryd.func24, Tryd.ntmps24
    go_wp2_with fail
    refine (isDigits_is _ _ (by decide) false (by rw [ByteArray.toList_eq]; decide)).mono ?_
    rintro e w1 ⟨rfl, rfl⟩
    go_wp2_with fail
    refine (unhide HC).mono ?_
    rintro e w' hq
    obtain ⟨n, rfl⟩ := HQ.out e w' hq
    have HH := hide hq
    clear hq
    go_wp2
    exact HH.out

set_option maxRecDepth 100000 in
set_option maxHeartbeats 800000 in
theorem take_other (hR : RdIs w P b R) (t : ByteArray) (hs : t.size ≤ maxLen) (ht : t.toList ∉ formsL) (hg : digs t.toList = false) (hd : R.due = false) (hQ : ∀ e w', Q e w' → ∃ n, e = .returned (.int .i64 n))
    (hc : Calls Tryd.prog 46 #[.pointer (some ⟨b, 0, none⟩), .string t] w Q) : Calls Tryd.prog 24 #[.pointer (some ⟨b, 0, none⟩), .string t] w Q := by
  obtain ⟨a0, k0, a1, k1, a2, k2, c0, c1, c2, c3, c4, c5, c6, hlt⟩ := hR.view
  clear c0 c1 c2 c3 c4 c5
  obtain ⟨h1, h2, h3, h4, h5, h6, h7, h8, h9, h10, h11⟩ := not_forms ht
  have HC := hide hc
  have HQ := hide hQ
  have HG := hide hg
  clear hc hQ hR ht hg
  go_enter Tryd.func24, Tryd.ntmps24
  go_wp2_with fail
  refine (isDigits_is t _ hs false HG.out).mono ?_
  rintro e w1 ⟨rfl, rfl⟩
  go_wp2_with fail
  refine (unhide HC).mono ?_
  rintro e w' hq
  obtain ⟨n, rfl⟩ := HQ.out e w' hq
  have HH := hide hq
  clear hq
  go_wp2
  exact HH.out
end
end Go.Proofs.YtepckhdnlfajbaaDoor
