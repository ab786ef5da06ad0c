/-
  What fits asks of a text; programs put together. Plain mathematics.
-/
import Derived.Test.YtnanjomnldfidaaDoorRunEmb2
set_option linter.unusedSimpArgs false
set_option linter.unusedVariables false
set_option linter.unusedSectionVars false
namespace Go.Proofs.YtnanjomnldfidaaDoor

theorem tok_bytes (s : ByteArray) : ∀ f k, ∀ x ∈ toksFuel f s k, ∀ c ∈ x.1.toList, c ∈ s.toList
  | 0, k, x, hx => by simp [toksFuel] at hx
  | f + 1, k, x, hx => by
    unfold toksFuel at hx
    split at hx
    · rcases List.mem_cons.1 hx with h | h
      · subst h
        intro c hc
        rw [toList_extract] at hc
        exact List.mem_of_mem_take (List.mem_of_mem_drop hc)
      · exact tok_bytes s f _ x h
    · simp at hx
/-- A plain program: it is read well, it has no colon. -/
structure Fit (s : ByteArray) : Prop where
  size : s.size ≤ 368
  colon : ∀ c ∈ s.toList, c ≠ 58
  ok : (readM s).1 = 0
theorem Fit.words {s : ByteArray} (h : Fit s) : ∀ x ∈ toksFrom s 0, x.1.toList ≠ [] ∧ x.1.toList ≠ [58] := by
  intro x hx
  refine ⟨toksFuel_ne s _ 0 (Nat.zero_le _) x hx, fun e => ?_⟩
  exact h.colon 58 (tok_bytes s _ 0 x hx 58 (by rw [e]; simp)) rfl
theorem Fit.read {s : ByteArray} (h : Fit s) : (Rd.fresh.read (toksFrom s 0)).1 = 0 ∧ (Rd.fresh.read (toksFrom s 0)).2.2.fin = 0 ∧ (readM s).2.2 = (Rd.fresh.read (toksFrom s 0)).2.2 := by
  have hs := h.size
  have ho := readM_out s (by omega)
  have hk := h.ok
  rw [ho] at hk ⊢
  have h1 : (Rd.fresh.read (toksFrom s 0)).1 = 0 := by
    by_cases h1 : (Rd.fresh.read (toksFrom s 0)).1 ≠ 0
    · rw [outM_err h1] at hk; exact hk
    · simpa using h1
  have h2 : (Rd.fresh.read (toksFrom s 0)).2.2.fin = 0 := by
    by_cases h2 : (Rd.fresh.read (toksFrom s 0)).2.2.fin ≠ 0
    · rw [outM_fin h1 h2] at hk; exact absurd hk h2
    · simpa using h2
  exact ⟨h1, h2, by rw [outM_ok h1 h2]⟩
/-- Its steps. -/
def stepsOf (s : ByteArray) : List (Int × Int) := (readM s).2.2.steps
theorem Fit.within {s : ByteArray} (h : Fit s) (G0 : Rd) (hd : G0.due = false) (hdf : G0.defs = []) (d : Nat) :
    Plain (stepsOf s) ∧ (G0.read (shiftT d (toksFrom s 0))).1 = 0 ∧ (G0.read (shiftT d (toksFrom s 0))).2.2 = { G0 with steps := G0.steps ++ (stepsOf s).map (shA G0.steps.length) } := by
  obtain ⟨r1, r2, r3⟩ := h.read
  obtain ⟨a, b, c⟩ := read_within (toksFrom s 0) h.words r1 r2 G0 hd hdf
  unfold stepsOf
  rw [r3]
  refine ⟨a, ?_, ?_⟩
  · rw [read_shift]; exact b
  · rw [read_shift]; exact c
theorem read_seq (R : Rd) (T U : Words) (h : (R.read T).1 = 0) : R.read (T ++ U) = (R.read T).2.2.read U := by rw [read_append, if_pos h]

/-- The run of a plain program. -/
theorem Fit.laid {s : ByteArray} (h : Fit s) : Laid (toksFrom s 0) (stepsOf s) := (laid_of_read s h.ok).1
def startB (b : BoxV) : Ma := Ma.start b.inp b.image.toList b.kernel b.secret b.rights b.fuel
/-- What fits asks of a Box. -/
structure FitB (b : BoxV) : Prop where
  inp : b.inp.size ≤ maxLen
  image : b.image.size ≤ 256
  fuel : 0 ≤ b.fuel
  fuel' : b.fuel ≤ 9992
theorem FitB.fine {b : BoxV} (h : FitB b) : Fine (startB b) := by
  have hi := h.image
  have hin := h.inp
  refine ⟨Ma.start_ok _ _ _ _ _ _ (by rw [toList_len]; exact hi) (by unfold maxLen at hin; omega), ?_⟩
  have h1 := h.fuel
  have h2 := h.fuel'
  show (0 : Int) ≤ clampN b.fuel 10000
  exact (clampN_bd _ _ (by omega)).1
theorem clamp_in (n : Int) (h0 : 0 ≤ n) (h1 : n ≤ 10000) : clampN n 10000 = n := by unfold clampN; rw [if_neg (by omega), if_neg (by omega)]
theorem start_more (b : BoxV) (n : Int) (h0 : 0 ≤ b.fuel) (hn : 0 ≤ n) (h1 : b.fuel + n ≤ 10000) : startB { b with fuel := b.fuel + n } = liftM 0 n [] (startB b) := by
  unfold startB Ma.start liftM
  simp only [clamp_in b.fuel h0 (by omega), clamp_in (b.fuel + n) (by omega) h1, Int.add_zero]
theorem Fit.dev {s : ByteArray} (h : Fit s) {b : BoxV} (hb : FitB b) : DevInv (toksFrom s 0) 0 (startB b) := ⟨0, _, start_inv (toksFrom s 0) b hb.image hb.inp, rfl, rfl⟩

/-- Where a run that has come so far ends. -/
theorem runS_finish {S : List (Int × Int)} {Inv : Int → Ma → Prop} (hI : StepInv S Inv) {M : Ma} (h0 : Inv 0 M) (hu : M.used = 0) {j : Nat} {p : Int} {M' : Ma} (hs : stepsS S j 0 M = some (p, M')) :
    (¬ (0 ≤ p ∧ p < S.length) → runS S (measN S.length 0 0) 0 M = (0, M')) ∧ ((0 ≤ p ∧ p < S.length) → (nextS S p M').2.1 ≠ 0 → runS S (measN S.length 0 0) 0 M = ((nextS S p M').2.1, M')) := by
  have hst := runS_stable hI (measN S.length 0 0) 0 M (j + (measN S.length 0 0 + 1)) h0 (by rw [hu]; exact Nat.le_refl _) (by rw [hu]; show measN S.length 0 0 ≤ _; omega)
  have hr := runS_steps j (measN S.length 0 0 + 1) hs
  rw [hst, hr]
  refine ⟨fun hp => runS_end S _ p M' hp, fun hp he => ?_⟩
  rw [runS_err S _ p M' hp he]
  exact Prod.ext rfl (nextS_same S p M' he)

/-- Single words of the reader. -/
theorem take_one (R : Rd) (hd : R.due = false) (l : List UInt8) (hl : digs l = false) : R.take ⟨l.toArray⟩ = R.word l := by
  unfold Rd.take
  rw [if_neg (by rw [hd]; decide), toList_mk l, if_neg (by rw [hl]; decide)]
theorem take_num (R : Rd) (hd : R.due = false) (l : List UInt8) (hl : digs l = true) {n : Int} (hn : numVal l = some n) : R.take ⟨l.toArray⟩ = (0, R.add 1 n) := by
  unfold Rd.take
  rw [if_neg (by rw [hd]; decide), toList_mk l, if_pos hl, hn]
theorem take_name (R : Rd) (hd : R.due = true) (l : List UInt8) (hl : nameOk l = true) : R.take ⟨l.toArray⟩ = (0, R.named ⟨l.toArray⟩) := by
  unfold Rd.take
  rw [if_pos hd, toList_mk l, if_pos hl]
theorem read_one (R : Rd) (t : ByteArray) (a : Nat) (T : Words) {R' : Rd} (h : R.take t = (0, R')) : R.read ((t, a) :: T) = R'.read T := by
  rw [Rd.read_yes R t a T (by rw [h]), h]
end Go.Proofs.YtnanjomnldfidaaDoor
