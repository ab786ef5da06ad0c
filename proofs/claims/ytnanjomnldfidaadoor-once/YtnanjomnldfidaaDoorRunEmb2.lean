/-
  A plain program's run within another one's. Plain mathematics.
-/
import Derived.Test.YtnanjomnldfidaaDoorRunEmb
import Derived.Test.YtnanjomnldfidaaDoorRuns
set_option linter.unusedSimpArgs false
set_option linter.unusedVariables false
set_option linter.unusedSectionVars false
namespace Go.Proofs.YtnanjomnldfidaaDoor

section
variable {du df : Int} {C : List Int} {S S2 : List (Int × Int)} {k : Nat}

theorem stepAt_nat (S : List (Int × Int)) (p : Nat) {x : Int × Int} (h : S[p]? = some x) : stepAt S (p : Int) = x := by
  unfold stepAt; rw [Int.toNat_natCast, List.getD_eq_getElem?_getD, h]; rfl
theorem next_lift (hd : du ≤ df) (hS2 : ∀ (i : Nat) x, S[i]? = some x → S2[k + i]? = some (shA k x)) (hP : Plain S) (p : Nat) (hp : p < S.length) (M : Ma) (h6 : (nextS S (p : Int) M).2.1 ≠ 6) :
    (nextS S2 ((k + p : Nat) : Int) (liftM du df C M)).2.1 = (nextS S (p : Int) M).2.1 ∧ (nextS S2 ((k + p : Nat) : Int) (liftM du df C M)).2.2 = liftM du df C (nextS S (p : Int) M).2.2 ∧
      ((nextS S (p : Int) M).2.1 = 0 → ∃ q : Nat, q ≤ S.length ∧ (nextS S (p : Int) M).1 = (q : Int) ∧ (nextS S2 ((k + p : Nat) : Int) (liftM du df C M)).1 = ((k + q : Nat) : Int)) := by
  obtain ⟨x, hx⟩ : ∃ x, S[p]? = some x := ⟨_, List.getElem?_eq_getElem hp⟩
  have h1 := stepAt_nat S p hx
  have h2 := stepAt_nat S2 (k + p) (hS2 p x hx)
  have hop := hP.ops p x hx
  have hn1 : ¬ x.1 = -1 := by unfold opPlain at hop; omega
  have e1 : ∀ N, nextS S (p : Int) N = stepM x.1 x.2 ((p : Int) + 1) N := by intro N; unfold nextS; rw [h1, if_neg hn1]
  have e2 : ∀ N, nextS S2 ((k + p : Nat) : Int) N = stepM x.1 (shA k x).2 (((k + p : Nat) : Int) + 1) N := by
    intro N; unfold nextS; rw [h2, if_neg (show ¬ (shA k x).1 = -1 from hn1)]; rfl
  rw [e1] at h6
  rw [e1, e2]
  have ho : x.1 = 1 ∨ x.1 = 2 ∨ x.1 = 3 ∨ 16 ≤ x.1 := by unfold opPlain at hop; omega
  have ha : x.1 = 1 → (shA k x).2 = x.2 := by intro h; unfold shA; rw [if_neg (by omega)]
  obtain ⟨a, b, c⟩ := step_lift (C := C) hd x.1 x.2 (shA k x).2 ((p : Int) + 1) (((k + p : Nat) : Int) + 1) M ho ha h6
  refine ⟨a, b, fun h0 => ?_⟩
  rcases c h0 with ⟨c1, c2, c3⟩ | ⟨c1, c2⟩
  · have hb : 0 ≤ x.2 ∧ x.2 ≤ S.length := by unfold opPlain at hop; omega
    obtain ⟨q, hq⟩ := Int.eq_ofNat_of_zero_le hb.1
    refine ⟨q, by omega, by rw [c1, hq], ?_⟩
    rw [c2]
    unfold shA
    rw [if_pos c3, hq]
    show (q : Int) + (k : Int) = ((k + q : Nat) : Int)
    omega
  · exact ⟨p + 1, by omega, by rw [c1]; omega, by rw [c2]; omega⟩
theorem steps_lift (hd : du ≤ df) (hS2 : ∀ (i : Nat) x, S[i]? = some x → S2[k + i]? = some (shA k x)) (hP : Plain S) (hl : k + S.length ≤ S2.length) : ∀ (j : Nat) (p : Nat) (M : Ma) (p' : Int) (M' : Ma), p ≤ S.length → stepsS S j (p : Int) M = some (p', M') →
    ∃ q : Nat, q ≤ S.length ∧ p' = (q : Int) ∧ stepsS S2 j ((k + p : Nat) : Int) (liftM du df C M) = some (((k + q : Nat) : Int), liftM du df C M')
  | 0, p, M, p', M', hp, h => by
    simp only [stepsS, Option.some.injEq, Prod.mk.injEq] at h
    exact ⟨p, hp, h.1.symm, by rw [← h.2]; rfl⟩
  | j + 1, p, M, p', M', hp, h => by
    unfold stepsS at h
    by_cases hc : (0 ≤ (p : Int) ∧ (p : Int) < S.length) ∧ (nextS S (p : Int) M).2.1 = 0
    · rw [if_pos hc] at h
      obtain ⟨a, b, c⟩ := next_lift (du := du) (df := df) (C := C) (k := k) hd hS2 hP p (by omega) M (by rw [hc.2]; decide)
      obtain ⟨q, q1, q2, q3⟩ := c hc.2
      rw [q2] at h
      obtain ⟨r, r1, r2, r3⟩ := steps_lift hd hS2 hP hl j q _ p' M' q1 h
      refine ⟨r, r1, r2, ?_⟩
      rw [stepsS_one (by omega) (by rw [a]; exact hc.2), q3, b]
      exact r3
    · rw [if_neg hc] at h; cases h

theorem plain_next (hP : Plain S) (p : Nat) (hp : p < S.length) (M : Ma) : ∃ op arg b, nextS S (p : Int) M = stepM op arg b M ∧ opOk op ∧ (op = 1 → 0 ≤ arg ∧ arg < 65536) := by
  obtain ⟨x, hx⟩ : ∃ x, S[p]? = some x := ⟨_, List.getElem?_eq_getElem hp⟩
  have h1 := stepAt_nat S p hx
  have hop := hP.ops p x hx
  refine ⟨x.1, x.2, (p : Int) + 1, by unfold nextS; rw [h1, if_neg (by unfold opPlain at hop; omega)], by unfold opPlain at hop; unfold opOk; omega, ?_⟩
  intro h; unfold opPlain at hop; omega
theorem plain_fine (hP : Plain S) : ∀ (j : Nat) (p : Nat) (M : Ma) (p' : Int) (M' : Ma), stepsS S j (p : Int) M = some (p', M') → p ≤ S.length → Fine M → Fine M' ∧ M'.fuel = M.fuel
  | 0, p, M, p', M', h, _, hf => by
    simp only [stepsS, Option.some.injEq, Prod.mk.injEq] at h
    rw [← h.2]; exact ⟨hf, rfl⟩
  | j + 1, p, M, p', M', h, hp, hf => by
    unfold stepsS at h
    by_cases hc : (0 ≤ (p : Int) ∧ (p : Int) < S.length) ∧ (nextS S (p : Int) M).2.1 = 0
    · rw [if_pos hc] at h
      obtain ⟨op, arg, b, e, ho, ha⟩ := plain_next hP p (by omega) M
      have he := hc.2
      obtain ⟨a, b', c⟩ := next_lift (du := 0) (df := 0) (C := []) (k := 0) (S2 := S.map (shA 0)) (Int.le_refl _) (fun i x hx => by rw [Nat.zero_add, List.getElem?_map, hx]; rfl) hP p (by omega) M (by rw [he]; decide)
      obtain ⟨q, q1, q2, _⟩ := c he
      rw [q2, e] at h
      rw [e] at he
      have hu := step_used op arg b M he ho hf.ok ha
      have hr := step_room op arg b M he
      have hfu := step_fuel op arg b M
      obtain ⟨r1, r2⟩ := plain_fine hP j q _ p' M' h q1 ⟨hu.2, by rw [hu.1, hfu]; omega⟩
      exact ⟨r1, by rw [r2, hfu]⟩
    · rw [if_neg hc] at h; cases h

/-- What a plain program's run comes to, and that it does the same within another one's. -/
theorem plain_run {Inv : Int → Ma → Prop} (hI : StepInv S Inv) (hP : Plain S) (n : Nat) (M : Ma) (h0 : Inv 0 M) (hf : Fine M) (hn : measN S.length M.used 0 ≤ n) :
    Fine (runS S n 0 M).2 ∧ (runS S n 0 M).2.fuel = M.fuel ∧ ((runS S n 0 M).1 = 6 → (runS S n 0 M).2.used = M.fuel) ∧
    ((runS S n 0 M).1 ≠ 6 → ∀ (du df : Int) (C : List Int) (k : Nat) (S2 : List (Int × Int)), du ≤ df → (∀ (i : Nat) x, S[i]? = some x → S2[k + i]? = some (shA k x)) → k + S.length ≤ S2.length →
      ∃ j, ((runS S n 0 M).1 = 0 ∧ stepsS S2 j (k : Int) (liftM du df C M) = some (((k + S.length : Nat) : Int), liftM du df C (runS S n 0 M).2)) ∨
        ((runS S n 0 M).1 ≠ 0 ∧ ∃ q, q < S.length ∧ stepsS S2 j (k : Int) (liftM du df C M) = some (((k + q : Nat) : Int), liftM du df C (runS S n 0 M).2) ∧ (nextS S2 ((k + q : Nat) : Int) (liftM du df C (runS S n 0 M).2)).2.1 = (runS S n 0 M).1)) := by
  obtain ⟨j, p', M', a, b, c⟩ := runS_ends hI n 0 M h0 hn
  have a' : stepsS S j ((0 : Nat) : Int) M = some (p', M') := a
  obtain ⟨f1, f2⟩ := plain_fine hP j 0 M p' M' a' (Nat.zero_le _) hf
  have hr2 : (runS S n 0 M).2 = M' := by rcases c with ⟨_, c⟩ | ⟨_, _, c⟩ <;> rw [c]
  rw [hr2]
  refine ⟨f1, f2, ?_, ?_⟩
  · intro h6
    rcases c with ⟨_, c⟩ | ⟨x, y, c⟩
    · rw [c] at h6; cases h6
    · rw [c] at h6
      obtain ⟨q, hq⟩ := Int.eq_ofNat_of_zero_le x.1
      rw [hq] at h6
      obtain ⟨op, arg, b2, e, _⟩ := plain_next hP q (by omega) M'
      rw [e] at h6
      have := step_six op arg b2 M' h6
      have := f1.used
      omega
  · intro h6 du df C k S2 hd hS2 hl
    obtain ⟨q, q1, q2, q3⟩ := steps_lift (du := du) (df := df) (C := C) hd hS2 hP hl j 0 M p' M' (Nat.zero_le _) a'
    subst q2
    refine ⟨j, ?_⟩
    rcases c with ⟨x, c⟩ | ⟨x, y, c⟩
    · left
      rw [c]
      have : q = S.length := by omega
      subst this
      exact ⟨rfl, q3⟩
    · right
      rw [c] at h6 ⊢
      obtain ⟨a1, _, _⟩ := next_lift (du := du) (df := df) (C := C) (k := k) hd hS2 hP q (by omega) M' h6
      exact ⟨y, q, by omega, q3, a1⟩
end

/-- Run's answer by the run of steps. -/
def runD (s : ByteArray) (b : BoxV) : Int × Ma := runS (readM s).2.2.steps (measN (readM s).2.2.steps.length 0 0) 0 (Ma.start b.inp b.image.toList b.kernel b.secret b.rights b.fuel)
theorem runCells_dev (s : ByteArray) (b : BoxV) (h1 : (readM s).1 = 0) (hi : b.image.size ≤ 256) (hfu : b.fuel ≤ 10000) (hin : b.inp.size ≤ maxLen) : runCells s b = resCells (runD s b).2 (runD s b).1 := by
  unfold runCells
  rw [if_neg (by simp [h1]), if_neg (by omega)]
  obtain ⟨L, hl⟩ := laid_of_read s h1
  have hinv := start_inv (toksFrom s 0) b hi hin
  have hal := runs_alike L (runFuel (toksFrom s 0)) 0 _ hinv (Nat.le_refl _) (measN (readM s).2.2.steps.length 0 0) (Nat.le_refl _)
  have hal' : runD s b = _ := hal
  rw [hal']
  rfl
end Go.Proofs.YtnanjomnldfidaaDoor
