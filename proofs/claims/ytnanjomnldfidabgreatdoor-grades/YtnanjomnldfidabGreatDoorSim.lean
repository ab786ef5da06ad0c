/-
  The reader of package grader beside graderref's Check: plain mathematics.
-/
import Derived.Test.YtnanjomnldfidabGreatDoorRefPure
set_option linter.unusedSimpArgs false
set_option linter.unusedVariables false
set_option linter.unusedSectionVars false
namespace Go.Proofs.YtnanjomnldfidabGreatDoor

theorem numOf_foldl (l : List UInt8) (h : digs l = true) : ∀ n : Int, 0 ≤ n → 0 ≤ l.foldl (fun n c => n * 10 + ((c.toNat : Int) - 48)) n := by
  induction l with
  | nil => intro n hn; exact hn
  | cons c l ih =>
    intro n hn
    unfold digs at h ih
    rw [List.all_cons, Bool.and_eq_true] at h
    have hc := h.1
    simp [UInt8.le_iff_toNat_le] at hc
    exact ih h.2 _ (by show 0 ≤ n * 10 + ((c.toNat : Int) - 48); omega)
theorem numOf_nonneg {l : List UInt8} (h : digs l = true) : 0 ≤ numOf l := numOf_foldl l h 0 (by omega)

/-- Does word i lay a step? (A name behind a colon, then and begin lay none.) -/
def emits (T : Words) (i : Nat) : Nat :=
  if 0 < i ∧ wAt T (i - 1) = [58] then 0 else if wAt T i = [116, 104, 101, 110] ∨ wAt T i = [98, 101, 103, 105, 110] then 0 else 1
/-- How many steps the words ahead of word p lay. -/
def stepOf (T : Words) : Nat → Nat
  | 0 => 0
  | p + 1 => stepOf T p + emits T p

/-- The definitions that have ended ahead of word p, by the places of their colons. -/
def dl (T : Words) (p : Nat) : List Nat := (List.range p).filter fun q => wAt T q == [58] && decide (endsM T q < p)
def defOf (T : Words) (q : Nat) : ByteArray × Int := ((T.getD (q + 1) (ByteArray.empty, 0)).1, (stepOf T (q + 2) : Int))
/-- The sign of a form. -/
def kb (k : Int) : UInt8 := if k = 1 then 105 else if k = 2 then 101 else if k = 3 then 98 else 119

theorem ends_is (T : Words) : ∀ n q p, p - q = n → q ≤ p → p < T.length → endsM T q = p → wAt T p = [59]
  | 0, q, p, hn, hq, hp, h => by
    have : q = p := by omega
    subst this
    cases hb : (wAt T q == [59])
    · have h2 := endsM_no T q hp hb
      have h3 := (endsM_le T (q + 1) (by omega)).1
      omega
    · exact eq_of_beq hb
  | n + 1, q, p, hn, hq, hp, h => by
    cases hb : (wAt T q == [59])
    · have h2 := endsM_no T q (by omega) hb
      exact ends_is T n (q + 1) p (by omega) (by omega) hp (by omega)
    · have h2 := endsM_yes T q (by omega) hb
      omega
theorem ends_le_of (T : Words) : ∀ n q p, p - q = n → q ≤ p → p < T.length → wAt T p = [59] → endsM T q ≤ p
  | 0, q, p, hn, hq, hp, h => by
    have : q = p := by omega
    subst this
    rw [endsM_yes T q hp (by simp [h])]
    exact Nat.le_refl _
  | n + 1, q, p, hn, hq, hp, h => by
    cases hb : (wAt T q == [59])
    · rw [endsM_no T q (by omega) hb]
      exact ends_le_of T n (q + 1) p (by omega) (by omega) hp h
    · rw [endsM_yes T q (by omega) hb]
      exact hq
theorem ends_gt (T : Words) (q p : Nat) (hq : q ≤ p) (hp : p < T.length) (hw : wAt T p ≠ [59]) : endsM T q < p + 1 ↔ endsM T q < p := by
  constructor
  · intro h
    by_cases he : endsM T q = p
    · exact absurd (ends_is T _ q p rfl hq hp he) hw
    · omega
  · omega

theorem dl_plain (T : Words) (p : Nat) (hp : p < T.length) (h1 : wAt T p ≠ [58]) (h2 : wAt T p ≠ [59]) : dl T (p + 1) = dl T p := by
  unfold dl
  rw [List.range_succ, List.filter_append]
  have e1 : List.filter (fun q => wAt T q == [58] && decide (endsM T q < p + 1)) [p] = [] := by simp [h1]
  rw [e1, List.append_nil]
  apply List.filter_congr
  intro q hq
  have hq' : q < p := List.mem_range.1 hq
  have : decide (endsM T q < p + 1) = decide (endsM T q < p) := by rw [decide_eq_decide]; exact ends_gt T q p (by omega) hp h2
  rw [this]
theorem dl_colon (T : Words) (p : Nat) (hp : p + 1 < T.length) (h1 : wAt T p = [58]) (h2 : wAt T (p + 1) ≠ [58]) (h3 : wAt T (p + 1) ≠ [59]) : dl T (p + 2) = dl T p := by
  have h4 : wAt T p ≠ [59] := by rw [h1]; decide
  rw [dl_plain T (p + 1) hp h2 h3]
  unfold dl
  rw [List.range_succ, List.filter_append]
  have hge : ¬ endsM T p < p + 1 := by
    rw [ends_gt T p p (Nat.le_refl _) (by omega) h4]
    have := (endsM_le T p (by omega)).1
    omega
  have e1 : List.filter (fun q => wAt T q == [58] && decide (endsM T q < p + 1)) [p] = [] := by simp [hge]
  rw [e1, List.append_nil]
  apply List.filter_congr
  intro q hq
  have hq' : q < p := List.mem_range.1 hq
  have : decide (endsM T q < p + 1) = decide (endsM T q < p) := by rw [decide_eq_decide]; exact ends_gt T q p (by omega) (by omega) h4
  rw [this]
theorem filter_range_add (c c' : Nat → Bool) (q0 : Nat) : ∀ n, q0 < n → (∀ q, q < n → c q = true → q < q0) → (∀ q, q < n → c' q = (c q || q == q0)) → (List.range n).filter c' = (List.range n).filter c ++ [q0]
  | 0, h, _, _ => by omega
  | n + 1, h, hc, hc' => by
    rw [List.range_succ, List.filter_append, List.filter_append]
    by_cases hn : n = q0
    · subst hn
      have e1 : (List.range n).filter c' = (List.range n).filter c := by
        apply List.filter_congr
        intro q hq
        have hq' := List.mem_range.1 hq
        rw [hc' q (by omega)]
        have : (q == n) = false := by rw [beq_eq_false_iff_ne]; omega
        rw [this, Bool.or_false]
      have e2 : c n = false := by
        cases hcn : c n
        · rfl
        · have := hc n (by omega) hcn; omega
      rw [e1]
      have e3 : c' n = true := by rw [hc' n (by omega)]; simp
      simp [e2, e3]
    · have ih := filter_range_add c c' q0 n (by omega) (fun q hq => hc q (by omega)) (fun q hq => hc' q (by omega))
      rw [ih]
      have e2 : c n = false := by
        cases hcn : c n
        · rfl
        · have := hc n (by omega) hcn; omega
      have e3 : c' n = false := by rw [hc' n (by omega), e2]; simp; exact hn
      simp [e2, e3]
theorem dl_end (T : Words) (p q0 : Nat) (hp : p < T.length) (h1 : wAt T p = [59]) (hq : q0 < p) (hc : wAt T q0 = [58]) (ho : p ≤ endsM T q0) (hoth : ∀ q, q < p → wAt T q = [58] → q ≠ q0 → q < q0 ∧ endsM T q < q0) : dl T (p + 1) = dl T p ++ [q0] := by
  unfold dl
  rw [List.range_succ, List.filter_append]
  have e1 : List.filter (fun q => wAt T q == [58] && decide (endsM T q < p + 1)) [p] = [] := by simp [h1]
  rw [e1, List.append_nil]
  apply filter_range_add _ _ q0 p hq
  · intro q hq' hcq
    simp at hcq
    by_cases e : q = q0
    · subst e; omega
    · exact (hoth q hq' hcq.1 e).1
  · intro q hq'
    by_cases e : q = q0
    · subst e
      have := ends_le_of T _ q p rfl (by omega) hp h1
      have h5 : endsM T q < p + 1 := by omega
      simp [hc, h5]
    · have : (q == q0) = false := by simpa using e
      rw [this, Bool.or_false]
      cases hb : (wAt T q == [58])
      · rfl
      · have := hoth q hq' (eq_of_beq hb) e
        have h5 : endsM T q < p + 1 := by omega
        have h6 : endsM T q < p := by omega
        simp [h5, h6]

/-- meaning, by the list of the definitions. -/
theorem meanTo_dl (T : Words) (p : Nat) (s : List UInt8) : ∀ k, meanTo T p s k = match ((List.range k).filter fun q => wAt T q == [58] && decide (endsM T q < p)).reverse.find? (fun q => wAt T (q + 1) == s) with | some q => (q : Int) + 2 | none => -1
  | 0 => rfl
  | k + 1 => by
    unfold meanTo
    rw [List.range_succ, List.filter_append, meanTo_dl T p s k]
    cases h1 : (wAt T k == [58]) <;> cases h3 : decide (endsM T k < p) <;> cases h2 : (wAt T (k + 1) == s) <;> simp [h1, h2, h3, List.filter_cons]
theorem meaningM_dl (T : Words) (p : Nat) (s : List UInt8) (h : ∀ q, q < p → wAt T q = [58] → q + 1 < p) : meaningM T p s = match (dl T p).reverse.find? (fun q => wAt T (q + 1) == s) with | some q => (q : Int) + 2 | none => -1 := by
  unfold meaningM
  rw [meanTo_dl]
  have : (List.range (p - 1)).filter (fun q => wAt T q == [58] && decide (endsM T q < p)) = dl T p := by
    unfold dl
    cases p with
    | zero => rfl
    | succ p =>
      rw [List.range_succ, List.filter_append]
      have e : List.filter (fun q => wAt T q == [58] && decide (endsM T q < p + 1)) [p] = [] := by
        have : (wAt T p == [58]) = false := by
          rw [beq_eq_false_iff_ne]
          intro hc
          have := h p (by omega) hc
          omega
        simp [this]
      rw [e]
      simp
  rw [this]
theorem lastDef_dl (T : Words) (l : List Nat) (s : List UInt8) : lastDef (l.map (defOf T)) s = (l.reverse.find? (fun q => wAt T (q + 1) == s)).map fun q => (stepOf T (q + 2) : Int) := by
  unfold lastDef
  rw [← List.map_reverse, List.find?_map]
  have : ((fun p : ByteArray × Int => p.1.toList == s) ∘ defOf T) = fun q => wAt T (q + 1) == s := rfl
  rw [this, Option.map_map]
  rfl
end Go.Proofs.YtnanjomnldfidabGreatDoor
