/-
  Verify as two loops would do it. Plain mathematics.
-/
import Derived.Test.YtnanjomnldfidabCodePure2
set_option linter.unusedSimpArgs false
set_option linter.unusedVariables false
set_option linter.unusedSectionVars false
namespace Go.Proofs.Ytnanjomnldfidab

theorem szI_le (op : Int) : szI op ≤ 3 := by
  unfold szI; repeat' split
  all_goals omega
theorem walk_on {l : List UInt8} {n p : Nat} (h : wholeC l (p : Int)) : walkC l (n + 1) p = (p :: (walkC l n (p + sizeC (atC l (p : Int)))).1, (walkC l n (p + sizeC (atC l (p : Int)))).2) := by
  conv => lhs; unfold walkC
  rw [if_pos h]
theorem walk_stop {l : List UInt8} {p : Nat} (h : ¬ wholeC l (p : Int)) : ∀ n, walkC l n p = ([], p)
  | 0 => rfl
  | n + 1 => by conv => lhs; unfold walkC
                rw [if_neg h]
theorem walk_sorted (l : List UInt8) : ∀ n p, (walkC l n p).1.Pairwise (· < ·) ∧ ∀ q ∈ (walkC l n p).1, p ≤ q ∧ wholeC l (q : Int)
  | 0, p => ⟨List.Pairwise.nil, fun q h => by cases h⟩
  | n + 1, p => by
    by_cases h : wholeC l (p : Int)
    · rw [walk_on h]
      obtain ⟨a, b⟩ := walk_sorted l n (p + sizeC (atC l (p : Int)))
      have hs := h.2.2.1
      refine ⟨List.pairwise_cons.2 ⟨fun q hq => by have := (b q hq).1; omega, a⟩, fun q hq => ?_⟩
      rcases List.mem_cons.1 hq with e | e
      · subst e; exact ⟨Nat.le_refl _, h⟩
      · have := b q e; exact ⟨by omega, this.2⟩
    · rw [walk_stop h]; exact ⟨List.Pairwise.nil, fun q h => by cases h⟩
theorem starts_whole {l : List UInt8} {q : Nat} (h : q ∈ startsC l) : wholeC l (q : Int) ∧ q < l.length := by
  have := ((walk_sorted l l.length 0).2 q h).2
  exact ⟨this, by have := this.2.1; omega⟩
theorem starts_sorted (l : List UInt8) : (startsC l).Pairwise (· < ·) := (walk_sorted l l.length 0).1

/-- The state of the first loop at p. -/
structure Walk (l : List UInt8) (p : Nat) (A : List Nat) : Prop where
  le : p ≤ l.length
  ex : ∃ n, l.length ≤ p + n ∧ startsC l = A ++ (walkC l n p).1 ∧ stopC l = (walkC l n p).2
theorem Walk.zero (l : List UInt8) : Walk l 0 [] := ⟨Nat.zero_le _, l.length, by omega, rfl, rfl⟩
theorem Walk.step {l : List UInt8} {p : Nat} {A : List Nat} (h : Walk l p A) (hw : wholeC l (p : Int)) : Walk l (p + sizeC (atC l (p : Int))) (A ++ [p]) := by
  obtain ⟨n, h1, h2, h3⟩ := h.ex
  have a := hw.2.1
  have b := hw.2.2.1
  have c := hw.2.2.2
  obtain ⟨m, rfl⟩ : ∃ m, n = m + 1 := ⟨n - 1, by omega⟩
  rw [walk_on hw] at h2 h3
  exact ⟨by omega, m, by omega, by rw [h2]; simp, h3⟩
theorem Walk.stop {l : List UInt8} {p : Nat} {A : List Nat} (h : Walk l p A) (hw : ¬ wholeC l (p : Int)) : startsC l = A ∧ stopC l = p := by
  obtain ⟨n, h1, h2, h3⟩ := h.ex
  rw [walk_stop hw] at h2 h3
  exact ⟨by rw [h2]; simp, h3⟩
theorem Walk.fin {l : List UInt8} {p : Nat} {A : List Nat} (h : Walk l p A) (hp : ¬ p < l.length) : startsC l = A ∧ stopC l = l.length ∧ p = l.length := by
  have hpe : p = l.length := by have := h.le; omega
  have := h.stop (fun hw => by have := hw.2.1; omega)
  exact ⟨this.1, by rw [this.2, hpe], hpe⟩
theorem Walk.mem {l : List UInt8} {p : Nat} {A : List Nat} (h : Walk l p A) : ∀ q ∈ A, q ∈ startsC l := by
  obtain ⟨n, h1, h2, h3⟩ := h.ex
  intro q hq; rw [h2]; exact List.mem_append_left _ hq

/-- What the second loop looks for at i. -/
def hitC (l : List UInt8) (i : Nat) : Bool := decide (i ∈ startsC l) && badC l i
theorem find_first {L : List Nat} (hs : L.Pairwise (· < ·)) (f : Nat → Bool) {i : Nat} (hi : i ∈ L) (hf : f i = true) (hb : ∀ j, j < i → j ∈ L → f j = false) : L.find? f = some i := by
  induction L with
  | nil => cases hi
  | cons a L ih =>
    rw [List.pairwise_cons] at hs
    rcases List.mem_cons.1 hi with e | e
    · subst e; rw [List.find?_cons, hf]
    · have := hs.1 i e
      rw [List.find?_cons, hb a this List.mem_cons_self]
      exact ih hs.2 e fun j h1 h2 => hb j h1 (List.mem_cons_of_mem _ h2)
theorem verify_stop {l : List UInt8} (h : l.length ≤ 1024) (h2 : stopC l < l.length) : verifyC l = (5, (stopC l : Int)) := by
  unfold verifyC; rw [if_neg (by omega), if_pos h2]
theorem verify_hit {l : List UInt8} (h : l.length ≤ 1024) (h2 : stopC l = l.length) {i : Nat} (hi : hitC l i = true) (hb : ∀ j, j < i → hitC l j = false) : verifyC l = (5, (i : Int)) := by
  unfold verifyC
  unfold hitC at hi hb
  rw [Bool.and_eq_true, decide_eq_true_eq] at hi
  rw [if_neg (by omega), if_neg (by omega), find_first (starts_sorted l) (badC l) hi.1 hi.2 (fun j h1 h2 => by have := hb j h1; rw [decide_eq_true h2, Bool.true_and] at this; exact this)]
theorem verify_none {l : List UInt8} (h : l.length ≤ 1024) (h2 : stopC l = l.length) (hb : ∀ j, j < l.length → hitC l j = false) : verifyC l = if endsC (atC l ((startsC l).getLastD 0 : Nat)) = true ∧ l ≠ [] then ((0 : Int), (0 : Int)) else ((5 : Int), (((startsC l).getLastD 0 : Nat) : Int)) := by
  unfold verifyC
  have : (startsC l).find? (badC l) = none := by
    rw [List.find?_eq_none]
    intro q hq
    have h3 := hb q (starts_whole hq).2
    unfold hitC at h3
    rw [decide_eq_true hq, Bool.true_and] at h3
    rw [h3]; decide
  rw [if_neg (by omega), if_neg (by omega), this]
theorem verify_long {l : List UInt8} (h : 1024 < l.length) : verifyC l = (1, 0) := by unfold verifyC; rw [if_pos h]
theorem last_mem {l : List UInt8} (h2 : stopC l = l.length) (hne : l ≠ []) : (startsC l).getLastD 0 ∈ startsC l := by
  have hlen : 0 < l.length := List.length_pos_iff.2 hne
  obtain ⟨a, _, _⟩ := walk_facts l l.length 0 (by omega) (by unfold stopC at h2; omega) (by omega)
  have h0 : startsC l ≠ [] := fun e => by have := a hlen; unfold startsC at e; rw [e] at this; cases this
  rw [List.getLastD_eq_getLast?, List.getLast?_eq_some_getLast h0]
  exact List.getLast_mem h0

/-- The last start ahead of p. -/
def lastB (l : List UInt8) (p : Nat) : Nat := ((startsC l).filter fun q => decide (q < p)).getLastD 0
theorem filter_next {L : List Nat} (hs : L.Pairwise (· < ·)) (p : Nat) : L.filter (fun q => decide (q < p + 1)) = if p ∈ L then L.filter (fun q => decide (q < p)) ++ [p] else L.filter fun q => decide (q < p) := by
  induction L with
  | nil => simp
  | cons a L ih =>
    rw [List.pairwise_cons] at hs
    have ih := ih hs.2
    by_cases c : a = p
    · subst c
      have hn : a ∉ L := fun h => by have := hs.1 a h; omega
      rw [if_pos List.mem_cons_self]
      rw [if_neg hn] at ih
      have he : L.filter (fun q => decide (q < a)) = [] := by
        rw [List.filter_eq_nil_iff]; intro q hq; have := hs.1 q hq; simp; omega
      rw [List.filter_cons, if_pos (by simp), ih, List.filter_cons, if_neg (by simp), he]; rfl
    · by_cases c2 : a < p
      · have d1 : decide (a < p + 1) = true := by simp; omega
        have d2 : decide (a < p) = true := by simpa using c2
        rw [List.filter_cons, if_pos d1, ih, List.filter_cons, if_pos d2]
        by_cases c3 : p ∈ L
        · rw [if_pos c3, if_pos (List.mem_cons_of_mem a c3)]; rfl
        · have c4 : ¬ p ∈ a :: L := fun h => (List.mem_cons.1 h).elim (fun e => c e.symm) c3
          rw [if_neg c3, if_neg c4]
      · have hn : p ∉ L := fun h => by have := hs.1 p h; omega
        have c4 : ¬ p ∈ a :: L := fun h => (List.mem_cons.1 h).elim (fun e => c e.symm) hn
        have d1 : ¬ decide (a < p + 1) = true := by simp; omega
        have d2 : ¬ decide (a < p) = true := by simpa using c2
        rw [List.filter_cons, if_neg d1, ih, if_neg hn, if_neg c4, List.filter_cons, if_neg d2]
theorem lastB_zero (l : List UInt8) : lastB l 0 = 0 := by
  unfold lastB
  rw [show (startsC l).filter (fun q => decide (q < 0)) = [] from by rw [List.filter_eq_nil_iff]; intro q _; simp]
  rfl
theorem lastB_yes {l : List UInt8} {p : Nat} (h : p ∈ startsC l) : lastB l (p + 1) = p := by
  unfold lastB; rw [filter_next (starts_sorted l), if_pos h, List.getLastD_concat]
theorem lastB_no {l : List UInt8} {p : Nat} (h : p ∉ startsC l) : lastB l (p + 1) = lastB l p := by
  unfold lastB; rw [filter_next (starts_sorted l), if_neg h]
theorem lastB_end (l : List UInt8) : lastB l l.length = (startsC l).getLastD 0 := by
  unfold lastB
  rw [List.filter_eq_self.2 (fun q hq => by simpa using (starts_whole hq).2)]
theorem lastB_lt {l : List UInt8} : ∀ p, lastB l p ≤ p
  | 0 => by rw [lastB_zero]; exact Nat.le_refl _
  | p + 1 => by
    by_cases h : p ∈ startsC l
    · rw [lastB_yes h]; omega
    · rw [lastB_no h]; have := lastB_lt (l := l) p; omega

/-- What instructionAt answers of an instruction that is whole; and of none. -/
theorem insA_whole {l : List UInt8} {p : Int} (h : wholeC l p) : insA l p = (((atC l p).toNat : Int), if sizeC (atC l p) = 3 then operC l p else 0, (sizeC (atC l p) : Int)) := by
  unfold insA
  rw [if_pos ⟨h.1, h.2.1⟩, if_neg (by have := h.2.2.2; omega)]
  by_cases c : sizeC (atC l p) = 3
  · rw [if_pos c, if_pos c, c]; rfl
  · rw [if_neg c, if_neg c]
theorem insA_none {l : List UInt8} {p : Int} (h : ¬ wholeC l p) : (insA l p).2.2 = 0 := by
  unfold insA
  by_cases c : 0 ≤ p ∧ p < (l.length : Int)
  · rw [if_pos c]
    by_cases c2 : (l.length : Int) - p < sizeC (atC l p)
    · rw [if_pos c2]
    · rw [if_neg c2]
      have h0 : sizeC (atC l p) = 0 := by
        rcases Nat.eq_zero_or_pos (sizeC (atC l p)) with q | q
        · exact q
        · exact absurd ⟨c.1, c.2, q, by omega⟩ h
      rw [h0]; rfl
  · rw [if_neg c]
theorem sizeC_three {c : UInt8} : sizeC c = 3 ↔ (1 ≤ c.toNat ∧ c.toNat ≤ 4) := by
  unfold sizeC
  by_cases q : 1 ≤ c.toNat ∧ c.toNat ≤ 4
  · rw [if_pos q]; exact ⟨fun _ => q, fun _ => rfl⟩
  · rw [if_neg q]
    refine ⟨fun h => ?_, fun h => absurd h q⟩
    by_cases q2 : c.toNat = 0 ∨ c.toNat = 5 ∨ (16 ≤ c.toNat ∧ c.toNat < 35)
    · rw [if_pos q2] at h; cases h
    · rw [if_neg q2] at h; cases h
theorem insA_bd (l : List UInt8) (p : Int) : 0 ≤ (insA l p).2.1 ∧ (insA l p).2.1 < 65536 := by
  have := operC_bd l p
  unfold insA
  repeat' split
  all_goals first | exact this | exact ⟨Int.le_refl 0, (by decide : (0 : Int) < 65536)⟩
/-- What the program's second loop sees at i. -/
theorem hit_dev (l : List UInt8) (i : Nat) : hitC l i = (decide (i ∈ startsC l) && (leadI (insA l (i : Int)).1 && (decide ((l.length : Int) ≤ (insA l (i : Int)).2.1) || !decide ((insA l (i : Int)).2.1.toNat ∈ startsC l)))) := by
  unfold hitC
  by_cases h : i ∈ startsC l
  · have hw := starts_whole h
    rw [decide_eq_true h, Bool.true_and, Bool.true_and, insA_whole hw.1]
    unfold badC leadI
    obtain ⟨c, hc⟩ : ∃ c, c = atC l (i : Int) := ⟨_, rfl⟩
    rw [← hc]
    by_cases q : 2 ≤ c.toNat ∧ c.toNat ≤ 4
    · have h3 : sizeC c = 3 := sizeC_three.2 (by omega)
      have hl : ((((c.toNat : Int) == 2 || (c.toNat : Int) == 3 || (c.toNat : Int) == 4)) : Bool) = true := by simp; omega
      show _ = (((c.toNat : Int) == 2 || (c.toNat : Int) == 3 || (c.toNat : Int) == 4) && _)
      rw [hl, if_pos h3, decide_eq_true q.1, decide_eq_true q.2, Bool.true_and, Bool.true_and, Bool.true_and]
      by_cases q2 : (operC l (i : Int)).toNat ∈ startsC l
      · have := (starts_whole q2).2
        have b := operC_bd l (i : Int)
        have hcn : (startsC l).contains (operC l (i : Int)).toNat = true := by simpa using q2
        have hlt : ¬ (l.length : Int) ≤ operC l (i : Int) := by omega
        show (!(startsC l).contains (operC l (i : Int)).toNat) = (decide ((l.length : Int) ≤ operC l (i : Int)) || !decide ((operC l (i : Int)).toNat ∈ startsC l))
        rw [hcn, decide_eq_true q2, decide_eq_false hlt]; rfl
      · have hcn : (startsC l).contains (operC l (i : Int)).toNat = false := by simpa using q2
        rw [hcn, decide_eq_false q2]; simp
    · have hl : ((((c.toNat : Int) == 2 || (c.toNat : Int) == 3 || (c.toNat : Int) == 4)) : Bool) = false := by
        rw [Bool.eq_false_iff]; intro hh; simp at hh; omega
      show _ = (((c.toNat : Int) == 2 || (c.toNat : Int) == 3 || (c.toNat : Int) == 4) && _)
      rw [hl, Bool.false_and]
      by_cases q2 : 2 ≤ c.toNat
      · rw [decide_eq_false (fun h4 => q ⟨q2, h4⟩)]; simp
      · rw [decide_eq_false q2]; simp
  · rw [decide_eq_false h]; rfl
/-- What endsARun answers. -/
def endsR (l : List UInt8) (p : Int) : Bool := decide (0 < (insA l p).2.2) && ((insA l p).1 == 0 || (insA l p).1 == 2 || (insA l p).1 == 5)
theorem ends_dev {l : List UInt8} (h2 : stopC l = l.length) : (endsR l ((startsC l).getLastD 0 : Nat) = true) ↔ (endsC (atC l ((startsC l).getLastD 0 : Nat)) = true ∧ l ≠ []) := by
  by_cases hne : l = []
  · subst hne
    constructor
    · intro h; revert h; decide
    · rintro ⟨_, h⟩; exact absurd rfl h
  · have hm := last_mem h2 hne
    have hw := (starts_whole hm).1
    unfold endsR endsC
    rw [insA_whole hw]
    have := hw.2.2.1
    obtain ⟨c, hc⟩ : ∃ c, c = atC l (((startsC l).getLastD 0 : Nat) : Int) := ⟨_, rfl⟩
    rw [← hc] at this ⊢
    show (decide (0 < (sizeC c : Int)) && ((c.toNat : Int) == 0 || (c.toNat : Int) == 2 || (c.toNat : Int) == 5)) = true ↔ _
    rw [decide_eq_true (by omega), Bool.true_and]
    simp only [Bool.or_eq_true, beq_iff_eq, ne_eq, hne, not_false_eq_true, and_true]
    omega
end Go.Proofs.Ytnanjomnldfidab
