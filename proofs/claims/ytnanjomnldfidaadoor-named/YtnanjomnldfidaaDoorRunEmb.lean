/-
  A run of steps; a plain program's run within another one's. Plain mathematics.
-/
import Derived.Test.YtnanjomnldfidaaDoorRunSim
import Derived.Test.YtnanjomnldfidaaDoorMaKeep
import Derived.Test.YtnanjomnldfidaaDoorEmbWord
set_option linter.unusedSimpArgs false
set_option linter.unusedVariables false
set_option linter.unusedSectionVars false
namespace Go.Proofs.YtnanjomnldfidaaDoor

/-- j steps without an error. -/
def stepsS (S : List (Int × Int)) : Nat → Int → Ma → Option (Int × Ma)
  | 0, p, M => some (p, M)
  | j + 1, p, M => if (0 ≤ p ∧ p < S.length) ∧ (nextS S p M).2.1 = 0 then stepsS S j (nextS S p M).1 (nextS S p M).2.2 else none
theorem stepsS_one {S : List (Int × Int)} {p : Int} {M : Ma} (hp : 0 ≤ p ∧ p < S.length) (he : (nextS S p M).2.1 = 0) (j : Nat) : stepsS S (j + 1) p M = stepsS S j (nextS S p M).1 (nextS S p M).2.2 := by
  conv => lhs; unfold stepsS
  rw [if_pos ⟨hp, he⟩]
theorem runS_steps {S : List (Int × Int)} : ∀ (j : Nat) {p : Int} {M : Ma} {p' : Int} {M' : Ma} (m : Nat), stepsS S j p M = some (p', M') → runS S (j + m) p M = runS S m p' M'
  | 0, p, M, p', M', m, h => by
    simp only [stepsS, Option.some.injEq, Prod.mk.injEq] at h
    rw [h.1, h.2, Nat.zero_add]
  | j + 1, p, M, p', M', m, h => by
    unfold stepsS at h
    by_cases hc : (0 ≤ p ∧ p < S.length) ∧ (nextS S p M).2.1 = 0
    · rw [if_pos hc] at h
      rw [show j + 1 + m = j + m + 1 by omega, runS_on S (j + m) p M hc.1 hc.2]
      exact runS_steps j m h
    · rw [if_neg hc] at h; cases h
theorem stepsS_trans {S : List (Int × Int)} : ∀ (i j : Nat) {p : Int} {M : Ma} {q : Int} {M1 : Ma}, stepsS S i p M = some (q, M1) → stepsS S (i + j) p M = stepsS S j q M1
  | 0, j, p, M, q, M1, h => by
    simp only [stepsS, Option.some.injEq, Prod.mk.injEq] at h
    rw [h.1, h.2, Nat.zero_add]
  | i + 1, j, p, M, q, M1, h => by
    unfold stepsS at h
    by_cases hc : (0 ≤ p ∧ p < S.length) ∧ (nextS S p M).2.1 = 0
    · rw [if_pos hc] at h
      rw [show i + 1 + j = i + j + 1 by omega, stepsS_one hc.1 hc.2]
      exact stepsS_trans i j h
    · rw [if_neg hc] at h; cases h

theorem nextS_same (S : List (Int × Int)) (p : Int) (M : Ma) (he : (nextS S p M).2.1 ≠ 0) : (nextS S p M).2.2 = M := by
  unfold nextS at he ⊢
  by_cases h : (stepAt S p).1 = -1
  · rw [if_pos h] at he; exact absurd rfl he
  · rw [if_neg h] at he ⊢; exact stepM_same _ _ _ _ he

/-- Where a run ends. -/
theorem runS_ends {S : List (Int × Int)} {Inv : Int → Ma → Prop} (hI : StepInv S Inv) : ∀ (n : Nat) (p : Int) (M : Ma), Inv p M → measN S.length M.used p.toNat ≤ n →
    ∃ j p' M', stepsS S j p M = some (p', M') ∧ Inv p' M' ∧ ((¬ (0 ≤ p' ∧ p' < S.length) ∧ runS S n p M = (0, M')) ∨ ((0 ≤ p' ∧ p' < S.length) ∧ (nextS S p' M').2.1 ≠ 0 ∧ runS S n p M = ((nextS S p' M').2.1, M'))) := by
  intro n
  induction n with
  | zero =>
    intro p M h hn
    exfalso
    unfold measN at hn
    have := (hI.ok _ _ h).used'
    have : 1 ≤ (10001 - M.used).toNat * (S.length + 2) := Nat.mul_pos (by omega) (by omega)
    omega
  | succ n ih =>
    intro p M h hn
    by_cases hp : 0 ≤ p ∧ p < S.length
    · by_cases he : (nextS S p M).2.1 = 0
      · have h2 := hI.next p M h hp he
        have hok := hI.ok _ _ h
        have hok2 := hI.ok _ _ h2
        have hlt := measN_lt S.length M.used (nextS S p M).2.2.used p.toNat (nextS S p M).1.toNat hok2.used hok2.used' hok.used' (by omega) ((hI.used p M h hp he).imp id fun g => ⟨g.1, by omega⟩)
        obtain ⟨j, p', M', a, b, c⟩ := ih _ _ h2 (by omega)
        refine ⟨j + 1, p', M', by rw [stepsS_one hp he]; exact a, b, ?_⟩
        rw [runS_on S n p M hp he]
        exact c
      · refine ⟨0, p, M, rfl, h, .inr ⟨hp, he, ?_⟩⟩
        rw [runS_err S n p M hp he]
        exact Prod.ext rfl (nextS_same S p M he)
    · exact ⟨0, p, M, rfl, h, .inl ⟨hp, runS_end S (n + 1) p M hp⟩⟩
theorem runS_stable {S : List (Int × Int)} {Inv : Int → Ma → Prop} (hI : StepInv S Inv) : ∀ (n : Nat) (p : Int) (M : Ma) (m : Nat), Inv p M → measN S.length M.used p.toNat ≤ n → measN S.length M.used p.toNat ≤ m → runS S n p M = runS S m p M := by
  intro n p M m h hn hm
  obtain ⟨j, p', M', a, b, c⟩ := runS_ends hI n p M h hn
  obtain ⟨j2, p2, M2, a2, b2, c2⟩ := runS_ends hI m p M h hm
  have r1 := runS_steps j (m := 1) a
  have r2 := runS_steps j2 (m := 1) a2
  have hstop : ∀ {q : Int} {N : Ma}, (¬ (0 ≤ q ∧ q < S.length)) ∨ ((0 ≤ q ∧ q < S.length) ∧ (nextS S q N).2.1 ≠ 0) → ∀ i q' N', stepsS S i q N = some (q', N') → q' = q ∧ N' = N := by
    intro q N hs i q' N' hi
    cases i with
    | zero => simp only [stepsS, Option.some.injEq, Prod.mk.injEq] at hi; exact ⟨hi.1.symm, hi.2.symm⟩
    | succ i =>
      unfold stepsS at hi
      rw [if_neg (by rintro ⟨x1, x2⟩; rcases hs with hs | hs; exact hs x1; exact hs.2 x2)] at hi
      cases hi
  have hs1 : (¬ (0 ≤ p' ∧ p' < S.length)) ∨ ((0 ≤ p' ∧ p' < S.length) ∧ (nextS S p' M').2.1 ≠ 0) := c.imp (fun x => x.1) (fun x => ⟨x.1, x.2.1⟩)
  have hs2 : (¬ (0 ≤ p2 ∧ p2 < S.length)) ∨ ((0 ≤ p2 ∧ p2 < S.length) ∧ (nextS S p2 M2).2.1 ≠ 0) := c2.imp (fun x => x.1) (fun x => ⟨x.1, x.2.1⟩)
  have heq : p2 = p' ∧ M2 = M' := by
    rcases Nat.le_total j j2 with hle | hle
    · have := stepsS_trans j (j2 - j) a
      rw [show j + (j2 - j) = j2 by omega, a2] at this
      exact hstop hs1 _ _ _ this.symm
    · have := stepsS_trans j2 (j - j2) a2
      rw [show j2 + (j - j2) = j by omega, a] at this
      have := hstop hs2 _ _ _ this.symm
      exact ⟨this.1.symm, this.2.symm⟩
  obtain ⟨rfl, rfl⟩ := heq
  rcases c with ⟨x, c⟩ | ⟨x, y, c⟩
  · rcases c2 with ⟨x2, c2⟩ | ⟨x2, y2, c2⟩
    · rw [c, c2]
    · exact absurd x2 x
  · rcases c2 with ⟨x2, c2⟩ | ⟨x2, y2, c2⟩
    · exact absurd x x2
    · rw [c, c2]

section
variable {du df : Int} {C : List Int}
/-- A plain step. -/
theorem step_lift (hd : du ≤ df) (op arg arg' b b' : Int) (M : Ma) (ho : op = 1 ∨ op = 2 ∨ op = 3 ∨ 16 ≤ op) (ha : op = 1 → arg' = arg) (h6 : (stepM op arg b M).2.1 ≠ 6) :
    (stepM op arg' b' (liftM du df C M)).2.1 = (stepM op arg b M).2.1 ∧ (stepM op arg' b' (liftM du df C M)).2.2 = liftM du df C (stepM op arg b M).2.2 ∧
      ((stepM op arg b M).2.1 = 0 → ((stepM op arg b M).1 = arg ∧ (stepM op arg' b' (liftM du df C M)).1 = arg' ∧ (op = 2 ∨ op = 3)) ∨ ((stepM op arg b M).1 = b ∧ (stepM op arg' b' (liftM du df C M)).1 = b')) := by
  have htick : ∀ N : Ma, (liftM du df C N).tick = liftM du df C N.tick := by
    intro N
    show ({ N with used := N.used + du + 1, fuel := N.fuel + df, calls := C } : Ma) = { N with used := N.used + 1 + du, fuel := N.fuel + df, calls := C }
    congr 1; omega
  by_cases c1 : op = 1
  · subst c1
    have ea := ha rfl
    subst ea
    have e : ∀ (x : Int) (N : Ma), stepM 1 arg' x N = (x, N.number arg') := fun _ _ => rfl
    rw [e] at h6 ⊢
    rw [e]
    have hr : M.room 0 1 ≠ 6 := by
      intro h
      apply h6
      show (M.number arg').1 = 6
      unfold Ma.number; rw [if_pos (by rw [h]; decide)]; exact h
    have e2 := lift_room (C := C) hd M 0 1 hr
    have hnum : (liftM du df C M).number arg' = ((M.number arg').1, liftM du df C (M.number arg').2) := by
      unfold Ma.number
      rw [e2]
      by_cases q : M.room 0 1 ≠ 0
      · rw [if_pos q, if_pos q]
      · rw [if_neg q, if_neg q]
        show ((0 : Int), ((liftM du df C M).push arg').tick) = (0, liftM du df C (M.push arg').tick)
        rw [← htick]; rfl
    rw [hnum]
    exact ⟨rfl, rfl, fun _ => .inr ⟨rfl, rfl⟩⟩
  by_cases c2 : op = 2
  · subst c2
    have e : ∀ (y x : Int) (N : Ma), stepM 2 y x N = (y, N.pass) := fun _ _ _ => rfl
    rw [e] at h6 ⊢
    rw [e]
    have hr : M.room 0 0 ≠ 6 := by
      intro h
      apply h6
      show M.pass.1 = 6
      unfold Ma.pass; rw [if_pos (by rw [h]; decide)]; exact h
    have e2 := lift_room (C := C) hd M 0 0 hr
    have hnum : (liftM du df C M).pass = (M.pass.1, liftM du df C M.pass.2) := by
      unfold Ma.pass
      rw [e2]
      by_cases q : M.room 0 0 ≠ 0
      · rw [if_pos q, if_pos q]
      · rw [if_neg q, if_neg q, htick]
    rw [hnum]
    exact ⟨rfl, rfl, fun _ => .inl ⟨rfl, rfl, .inl rfl⟩⟩
  by_cases c3 : op = 3
  · subst c3
    have e : ∀ (y x : Int) (N : Ma), stepM 3 y x N = (if N.takeN.1 = 0 then y else x, N.takeN.2) := fun _ _ _ => rfl
    rw [e] at h6 ⊢
    rw [e]
    have hr : M.room 1 0 ≠ 6 := by
      intro h
      apply h6
      show M.takeN.2.1 = 6
      unfold Ma.takeN; rw [if_pos (by rw [h]; decide)]; exact h
    have e2 := lift_room (C := C) hd M 1 0 hr
    have hnum : (liftM du df C M).takeN = (M.takeN.1, M.takeN.2.1, liftM du df C M.takeN.2.2) := by
      unfold Ma.takeN
      rw [e2]
      by_cases q : M.room 1 0 ≠ 0
      · rw [if_pos q, if_pos q]
      · rw [if_neg q, if_neg q, htick]; rfl
    rw [hnum]
    refine ⟨rfl, rfl, fun _ => ?_⟩
    by_cases c : M.takeN.1 = 0
    · exact .inl ⟨if_pos c, if_pos c, .inr rfl⟩
    · exact .inr ⟨if_neg c, if_neg c⟩
  have h16 : 16 ≤ op := by omega
  have e : ∀ (y x : Int) (N : Ma), stepM op y x N = (x, N.doN (op - 16)) := by
    intro y x N; unfold stepM; rw [if_neg c1, if_neg c2, if_neg c3, if_neg (by omega), if_neg (by omega)]
  rw [e] at h6 ⊢
  rw [e]
  have hr : M.room (takesN (op - 16)) (givesN (op - 16)) ≠ 6 := by
    intro h
    apply h6
    show (M.doN (op - 16)).1 = 6
    unfold Ma.doN; rw [if_pos (by rw [h]; decide)]; exact h
  have e2 := lift_room (C := C) hd M _ _ hr
  have hnum : (liftM du df C M).doN (op - 16) = ((M.doN (op - 16)).1, liftM du df C (M.doN (op - 16)).2) := by
    unfold Ma.doN
    have e3 : (liftM du df C M).fault (op - 16) = M.fault (op - 16) := rfl
    rw [e2, e3]
    by_cases q : M.room (takesN (op - 16)) (givesN (op - 16)) ≠ 0
    · rw [if_pos q, if_pos q]
    · rw [if_neg q, if_neg q]
      by_cases q2 : M.fault (op - 16) ≠ 0
      · rw [if_pos q2, if_pos q2]
      · rw [if_neg q2, if_neg q2, lift_act]
  rw [hnum]
  exact ⟨rfl, rfl, fun _ => .inr ⟨rfl, rfl⟩⟩
end
end Go.Proofs.YtnanjomnldfidaaDoor
