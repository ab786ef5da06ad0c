/-
  Package graderref: wrong, Check.
-/
import Derived.Test.YtepckhdnlfajbaaDoorRefMean
set_option linter.unusedSimpArgs false
set_option linter.unusedVariables false
set_option linter.unusedSectionVars false
namespace Go.Proofs.YtepckhdnlfajbaaDoor
open Go.RowKit

/-- What wrong leaves. -/
def WrongPost (P : Nat → Prop) (b : Nat) (r : Int × List UInt8 × Bool) (w : World) (e : Ending) (w' : World) : Prop :=
  e = .returned (.int .i64 r.1) ∧ ShapeIs w' b r.2.1 r.2.2 ∧ Kept P w w'

section
variable {w : World} {P : Nat → Prop} {b : Nat} {O : List UInt8} {I : Bool}

set_option maxRecDepth 100000 in
set_option maxHeartbeats 800000 in
theorem wrong_form (hS : ShapeIs w b O I) (hb : ¬ P b) (hl : O.length ≤ 90000) (v : Value) (T : Words) (hT : ToksIs w v T) (hTl : T.length ≤ 100000) (p : Nat) (hp : p < T.length) (hF : WordsAt w 0 formsL) (hf : isForm (wAt T p) = true) :
    Calls Tryd.prog 19 #[v, .int .i64 p, .pointer (some ⟨b, 0, none⟩)] w (WrongPost P b (wrongM T p O I) w) := by
  obtain ⟨f, cp, rfl, hflt, e0, _⟩ := hT.cells hp
  obtain ⟨u, hu⟩ : ∃ u, u = (T.getD p (ByteArray.empty, 0)).1 := ⟨_, rfl⟩
  rw [← hu] at e0
  have HU : wAt T p = u.toList := by rw [hu]; rfl
  have hw : wrongM T p O I = (if (placeM O I u.toList).1 = true then 0 else 3, (placeM O I u.toList).2) := by unfold wrongM; rw [if_pos hf, HU]
  rw [hw]
  rw [HU] at hf
  clear hu HU hw hT
  have hc := hide (place_any (P := P) hS hb hl u ((isForm_iff _).1 hf))
  obtain ⟨r, hr⟩ : ∃ r, r = placeM O I u.toList := ⟨_, rfl⟩
  rw [← hr] at hc ⊢
  have HF := hide hF
  clear hr hS hF
  cases hr1 : r.1
  · have post : Hid (∀ w', ShapeIs w' b r.2.1 r.2.2 → Kept P w w' → WrongPost P b (if false = true then 0 else 3, r.2) w (.returned (.int .i64 3)) w') := fun w' h1 h2 => ⟨rfl, h1, h2⟩
    generalize WrongPost P b (if false = true then 0 else 3, r.2) w = QQ at post ⊢
    go_enter Tryd.func19, Tryd.ntmps19
    go_wp2_with (first | (go_at_call 26; refine (refForm_any u _ HF.out).mono ?_; rintro e w1 ⟨rfl, rfl⟩) | (go_at_call 27; refine (unhide hc).mono ?_; rintro e w2 ⟨rfl, h1, h2⟩))
    exact post.out _ h1 h2
  · have post : Hid (∀ w', ShapeIs w' b r.2.1 r.2.2 → Kept P w w' → WrongPost P b (if true = true then 0 else 3, r.2) w (.returned (.int .i64 0)) w') := fun w' h1 h2 => ⟨rfl, h1, h2⟩
    generalize WrongPost P b (if true = true then 0 else 3, r.2) w = QQ at post ⊢
    go_enter Tryd.func19, Tryd.ntmps19
    go_wp2_with (first | (go_at_call 26; refine (refForm_any u _ HF.out).mono ?_; rintro e w1 ⟨rfl, rfl⟩) | (go_at_call 27; refine (unhide hc).mono ?_; rintro e w2 ⟨rfl, h1, h2⟩))
    exact post.out _ h1 h2

set_option maxRecDepth 100000 in
set_option maxHeartbeats 800000 in
theorem wrong_other (hS : ShapeIs w b O I) (v : Value) (T : Words) (hT : ToksIs w v T) (hTl : T.length ≤ 100000) (p : Nat) (hp : p < T.length) (hsz : ((T.getD p (ByteArray.empty, 0)).1).size ≤ maxLen) (hF : WordsAt w 0 formsL) (hL : WordsAt w 1 listedL) (hf : isForm (wAt T p) = false) :
    Calls Tryd.prog 19 #[v, .int .i64 p, .pointer (some ⟨b, 0, none⟩)] w (WrongPost P b (wrongM T p O I) w) := by
  have hmean := hide (fun s => meaning_any w v T hT p (by omega) hTl s)
  obtain ⟨f, cp, rfl, hflt, e0, _⟩ := hT.cells hp
  obtain ⟨u, hu⟩ : ∃ u, u = (T.getD p (ByteArray.empty, 0)).1 := ⟨_, rfl⟩
  rw [← hu] at e0 hsz
  have HU : wAt T p = u.toList := by rw [hu]; rfl
  have hw : wrongM T p O I = (if refVal u.toList < 0 ∧ listRef u.toList < 0 ∧ meaningM T p u.toList < 0 then 2 else 0, O, I) := by unfold wrongM; rw [if_neg (by rw [hf]; decide), HU]
  rw [hw]
  rw [HU] at hf
  have hmu := hide ((unhide hmean) u)
  clear hu HU hw hT hmean
  have HF := hide hF
  have HL := hide hL
  have hQ : ∀ n : Int, Hid (∀ e, e = Ending.returned (.int .i64 n) → WrongPost P b (n, O, I) w e w) := fun n e he => ⟨he, hS, Kept.refl _ _⟩
  clear hF hL hS
  obtain ⟨m, hm⟩ : ∃ m, m = meaningM T p u.toList := ⟨_, rfl⟩
  obtain ⟨x, hx⟩ : ∃ x, x = refVal u.toList := ⟨_, rfl⟩
  obtain ⟨y, hy⟩ : ∃ y, y = listRef u.toList := ⟨_, rfl⟩
  have hcx := hide (fun w => refValue_any u w hsz)
  have hcy := hide (fun w h => refListed_any u w h)
  rw [← hm] at hmu
  rw [← hx] at hcx
  rw [← hy] at hcy
  rw [← hm, ← hx, ← hy]
  clear hm hx hy
  by_cases h1 : x < 0
  · by_cases h2 : y < 0
    · by_cases h3 : m < 0
      · rw [if_pos ⟨h1, h2, h3⟩]
        have post := hQ 2
        generalize WrongPost P b (2, O, I) w = QQ at post ⊢
        go_enter Tryd.func19, Tryd.ntmps19
        go_wp2_with (first | (go_at_call 26; refine (refForm_any u _ HF.out).mono ?_; rintro e w1 ⟨rfl, rfl⟩) | (go_at_call 28; refine ((unhide hcx) _).mono ?_; rintro e w1 ⟨rfl, rfl⟩) | (go_at_call 29; refine ((unhide hcy) _ HL.out).mono ?_; rintro e w1 ⟨rfl, rfl⟩) | (go_at_call 30; refine (unhide hmu).mono ?_; rintro e w1 ⟨rfl, rfl⟩))
        exact post.out _ rfl
      · rw [if_neg (fun h => h3 h.2.2)]
        have post := hQ 0
        generalize WrongPost P b (0, O, I) w = QQ at post ⊢
        go_enter Tryd.func19, Tryd.ntmps19
        go_wp2_with (first | (go_at_call 26; refine (refForm_any u _ HF.out).mono ?_; rintro e w1 ⟨rfl, rfl⟩) | (go_at_call 28; refine ((unhide hcx) _).mono ?_; rintro e w1 ⟨rfl, rfl⟩) | (go_at_call 29; refine ((unhide hcy) _ HL.out).mono ?_; rintro e w1 ⟨rfl, rfl⟩) | (go_at_call 30; refine (unhide hmu).mono ?_; rintro e w1 ⟨rfl, rfl⟩))
        exact post.out _ rfl
    · rw [if_neg (fun h => h2 h.2.1)]
      have post := hQ 0
      generalize WrongPost P b (0, O, I) w = QQ at post ⊢
      go_enter Tryd.func19, Tryd.ntmps19
      go_wp2_with (first | (go_at_call 26; refine (refForm_any u _ HF.out).mono ?_; rintro e w1 ⟨rfl, rfl⟩) | (go_at_call 28; refine ((unhide hcx) _).mono ?_; rintro e w1 ⟨rfl, rfl⟩) | (go_at_call 29; refine ((unhide hcy) _ HL.out).mono ?_; rintro e w1 ⟨rfl, rfl⟩) | (go_at_call 30; refine (unhide hmu).mono ?_; rintro e w1 ⟨rfl, rfl⟩))
      exact post.out _ rfl
  · rw [if_neg (fun h => h1 h.1)]
    have post := hQ 0
    generalize WrongPost P b (0, O, I) w = QQ at post ⊢
    go_enter Tryd.func19, Tryd.ntmps19
    go_wp2_with (first | (go_at_call 26; refine (refForm_any u _ HF.out).mono ?_; rintro e w1 ⟨rfl, rfl⟩) | (go_at_call 28; refine ((unhide hcx) _).mono ?_; rintro e w1 ⟨rfl, rfl⟩) | (go_at_call 29; refine ((unhide hcy) _ HL.out).mono ?_; rintro e w1 ⟨rfl, rfl⟩) | (go_at_call 30; refine (unhide hmu).mono ?_; rintro e w1 ⟨rfl, rfl⟩))
    exact post.out _ rfl

theorem wrong_any (hS : ShapeIs w b O I) (hb : ¬ P b) (hl : O.length ≤ 90000) (v : Value) (T : Words) (hT : ToksIs w v T) (hTl : T.length ≤ 100000) (p : Nat) (hp : p < T.length) (hsz : ((T.getD p (ByteArray.empty, 0)).1).size ≤ maxLen) (hF : WordsAt w 0 formsL) (hL : WordsAt w 1 listedL) :
    Calls Tryd.prog 19 #[v, .int .i64 p, .pointer (some ⟨b, 0, none⟩)] w (WrongPost P b (wrongM T p O I) w) := by
  cases hf : isForm (wAt T p)
  · exact wrong_other hS v T hT hTl p hp hsz hF hL hf
  · exact wrong_form hS hb hl v T hT hTl p hp hF hf
end
end Go.Proofs.YtepckhdnlfajbaaDoor
