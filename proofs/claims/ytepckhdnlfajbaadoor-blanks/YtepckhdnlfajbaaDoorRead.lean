/-
  The reader of package grader: take, readProgram, Check.
-/
import Derived.Test.YtepckhdnlfajbaaDoorRdTake
import Derived.Test.YtepckhdnlfajbaaDoorToks
set_option linter.unusedSimpArgs false
set_option linter.unusedVariables false
set_option linter.unusedSectionVars false
namespace Go.Proofs.YtepckhdnlfajbaaDoor
open Go.RowKit

section
variable {w : World} {P : Nat → Prop} {b : Nat} {R : Rd}

theorem post_err {Q : Nat → Prop} {e : Ending} {w' : World} {k : Int} (hk : k ≠ 0) (h : e = .returned (.int .i64 k) ∧ Kept Q w w') : TakePost Q b (k, R) w e w' := ⟨h.1, fun h0 => absurd h0 hk, h.2⟩
theorem post_ok {Q : Nat → Prop} {e : Ending} {w' : World} {R' : Rd} (h : e = .returned (.int .i64 0) ∧ RdIs w' Q b R' ∧ Kept Q w w') : TakePost Q b (0, R') w e w' := ⟨h.1, fun _ => h.2.1, h.2.2⟩

theorem word_any (hR : RdIs w P b R) (hk : R.Le 80000) (t : ByteArray) (hs : t.size ≤ maxLen) (hT : WordsAt w 2 listedL) (hd : R.due = false) (hg : digs t.toList = false) :
    Calls Tryd.prog 24 #[.pointer (some ⟨b, 0, none⟩), .string t] w (TakePost P b (R.word t.toList) w) := by
  obtain ⟨k1, k2, k3, k4, k5⟩ := hk
  have s1 : R.steps.length ≤ 90000 := by omega
  have s2 : R.forms.length ≤ 90000 := by omega
  have s3 : R.defs.length ≤ 90000 := by omega
  unfold Rd.word
  by_cases e1 : t.toList = [105, 102]
  · rw [if_pos e1]
    obtain rfl := eq_mk e1
    exact take_branch hR _ (.inl rfl) hd takePost_int ((takeBranch_if w P b R hR s1 s2).mono fun e w' h => post_ok h)
  rw [if_neg e1]
  by_cases e2 : t.toList = [101, 108, 115, 101]
  · rw [if_pos e2]
    obtain rfl := eq_mk e2
    refine take_branch hR _ (.inr (.inl rfl)) hd takePost_int ?_
    by_cases ht : R.top.1 = 1
    · rw [if_pos ht]; exact (takeBranch_else w P b R hR s1 s2 ht).mono fun e w' h => post_ok h
    · rw [if_neg ht]; exact (takeBranch_else_no w P b R hR s2 ht).mono fun e w' h => post_err (by decide) h
  rw [if_neg e2]
  by_cases e3 : t.toList = [116, 104, 101, 110]
  · rw [if_pos e3]
    obtain rfl := eq_mk e3
    refine take_branch hR _ (.inr (.inr rfl)) hd takePost_int ?_
    by_cases ht : R.top.1 = 1 ∨ R.top.1 = 2
    · rw [if_pos ht]; exact (takeBranch_then w P b R hR s1 s2 ht).mono fun e w' h => post_ok h
    · rw [if_neg ht]; exact (takeBranch_then_no w P b R hR s2 (fun h => ht (.inl h)) (fun h => ht (.inr h))).mono fun e w' h => post_err (by decide) h
  rw [if_neg e3]
  by_cases e4 : t.toList = [98, 101, 103, 105, 110]
  · rw [if_pos e4]
    obtain rfl := eq_mk e4
    exact take_loop hR _ (.inl rfl) hd takePost_int ((takeLoop_begin w P b R hR s1 s2).mono fun e w' h => post_ok h)
  rw [if_neg e4]
  by_cases e5 : t.toList = [114, 101, 112, 101, 97, 116]
  · rw [if_pos e5]
    obtain rfl := eq_mk e5
    refine take_loop hR _ (.inr (.inr (.inr rfl))) hd takePost_int ?_
    by_cases ht : R.top.1 = 4
    · rw [if_pos ht]; exact (takeLoop_repeat w P b R hR s1 s2 ht).mono fun e w' h => post_ok h
    · rw [if_neg ht]; exact (takeLoop_repeat_no w P b R hR s2 ht).mono fun e w' h => post_err (by decide) h
  rw [if_neg e5]
  by_cases e6 : t.toList = [117, 110, 116, 105, 108]
  · rw [if_pos e6]
    obtain rfl := eq_mk e6
    refine take_loop hR _ (.inr (.inl rfl)) hd takePost_int ?_
    by_cases ht : R.top.1 = 3
    · rw [if_pos ht]; exact (takeLoop_until w P b R hR s1 s2 ht).mono fun e w' h => post_ok h
    · rw [if_neg ht]; exact (takeLoop_no w P b R hR s2 ht _ (.inl rfl)).mono fun e w' h => post_err (by decide) h
  rw [if_neg e6]
  by_cases e7 : t.toList = [119, 104, 105, 108, 101]
  · rw [if_pos e7]
    obtain rfl := eq_mk e7
    refine take_loop hR _ (.inr (.inr (.inl rfl))) hd takePost_int ?_
    by_cases ht : R.top.1 = 3
    · rw [if_pos ht]; exact (takeLoop_while w P b R hR s1 s2 ht).mono fun e w' h => post_ok h
    · rw [if_neg ht]; exact (takeLoop_no w P b R hR s2 ht _ (.inr rfl)).mono fun e w' h => post_err (by decide) h
  rw [if_neg e7]
  by_cases e8 : t.toList = [58]
  · rw [if_pos e8]
    obtain rfl := eq_mk e8
    refine take_colon hR hd takePost_int ?_
    by_cases ht : R.inside = true ∨ R.forms ≠ []
    · rw [if_pos ht]; exact (openDef_no w P b R hR s2 ht).mono fun e w' h => post_err (by decide) h
    · rw [if_neg ht]
      have hi : R.inside = false := by cases hi : R.inside; rfl; exact absurd (.inl hi) ht
      have hf : R.forms = [] := by by_cases hf : R.forms = []; exact hf; exact absurd (.inr hf) ht
      exact (openDef_yes w P b R hR s1 hi hf).mono fun e w' h => post_ok h
  rw [if_neg e8]
  by_cases e9 : t.toList = [101, 120, 105, 116]
  · rw [if_pos e9]
    obtain rfl := eq_mk e9
    refine take_inside hR _ (.inr (.inl rfl)) hd takePost_int ?_
    by_cases ht : R.inside = true
    · rw [if_pos ht]; exact (takeInside_exit w P b R hR s1 ht).mono fun e w' h => post_ok h
    · rw [if_neg ht]; exact (takeInside_no w P b R hR _ (by simpa using ht)).mono fun e w' h => post_err (by decide) h
  rw [if_neg e9]
  by_cases e10 : t.toList = [114, 101, 99, 117, 114, 115, 101]
  · rw [if_pos e10]
    obtain rfl := eq_mk e10
    refine take_inside hR _ (.inr (.inr rfl)) hd takePost_int ?_
    by_cases ht : R.inside = true
    · rw [if_pos ht]; exact (takeInside_recurse w P b R hR s1 ht).mono fun e w' h => post_ok h
    · rw [if_neg ht]; exact (takeInside_no w P b R hR _ (by simpa using ht)).mono fun e w' h => post_err (by decide) h
  rw [if_neg e10]
  by_cases e11 : t.toList = [59]
  · rw [if_pos e11]
    obtain rfl := eq_mk e11
    refine take_inside hR _ (.inl rfl) hd takePost_int ?_
    by_cases ht : R.inside = false
    · rw [if_pos ht]; exact (takeInside_no w P b R hR _ ht).mono fun e w' h => post_err (by decide) h
    · rw [if_neg ht]
      have hi : R.inside = true := by simpa using ht
      by_cases hf : R.forms ≠ []
      · rw [if_pos hf]; exact (takeInside_end_no w P b R hR s2 hi hf).mono fun e w' h => post_err (by decide) h
      · rw [if_neg hf]; exact (takeInside_end w P b R hR s1 s3 hi (by simpa using hf) k4 (by omega)).mono fun e w' h => post_ok h
  rw [if_neg e11]
  refine take_other hR t hs ?_ hg hd takePost_int ?_
  · simp only [formsL, List.mem_cons, List.not_mem_nil, or_false]
    simp only [e1, e2, e3, e4, e5, e6, e7, e8, e9, e10, e11, or_false, not_false_eq_true]
  · refine (takeMeaning_any w P b R hR s1 s3 t hT).mono ?_
    rintro e w' ⟨m1, m2, m3⟩
    cases hl : lastDef R.defs t.toList with
    | some n => exact post_ok (m1 n hl)
    | none =>
      by_cases ho : listOk t.toList = true
      · simp only [ho, if_true]; exact post_ok (m2 hl ho)
      · simp only [ho, if_false]; exact post_err (by decide) (m3 hl (by simpa using ho))

theorem take_any (hR : RdIs w P b R) (hk : R.Le 80000) (t : ByteArray) (hs : t.size ≤ maxLen) (hT : WordsAt w 2 listedL) :
    Calls Tryd.prog 24 #[.pointer (some ⟨b, 0, none⟩), .string t] w (TakePost P b (R.take t) w) := by
  unfold Rd.take
  by_cases hd : R.due = true
  · rw [if_pos hd]
    refine take_due hR t hd takePost_int ?_
    by_cases hn : nameOk t.toList = true
    · rw [if_pos hn]; exact (takeName_yes w P b R hR t hs hn).mono fun e w' h => post_ok h
    · rw [if_neg hn]; exact (takeName_no w P b R hR t hs (by simpa using hn)).mono fun e w' h => post_err (by decide) h
  rw [if_neg hd]
  have hd' : R.due = false := by simpa using hd
  by_cases hg : digs t.toList = true
  · rw [if_pos hg]
    refine take_number hR t hs hd' hg takePost_int ?_
    refine (takeNumber_any w P b R hR (by have := hk.steps; omega) t hs hg).mono ?_
    rintro e w' ⟨n1, n2⟩
    cases hv : numVal t.toList with
    | some n => exact post_ok (n2 n hv)
    | none => exact post_err (by decide) (n1 hv)
  · rw [if_neg hg]
    exact word_any hR hk t hs hT hd' (by simpa using hg)
end
end Go.Proofs.YtepckhdnlfajbaaDoor
