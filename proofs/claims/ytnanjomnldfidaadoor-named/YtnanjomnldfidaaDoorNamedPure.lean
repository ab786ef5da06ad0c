/-
  The law Named in plain mathematics.
-/
import Derived.Test.YtnanjomnldfidaaDoorFitPure
set_option linter.unusedSimpArgs false
set_option linter.unusedVariables false
set_option linter.unusedSectionVars false
namespace Go.Proofs.YtnanjomnldfidaaDoor

def textN (s : ByteArray) : ByteArray := (⟨#[58, 32, 119, 32]⟩ ++ s) ++ ⟨#[32, 59, 32, 119]⟩
theorem textN_size (s : ByteArray) : (textN s).size = s.size + 8 := by
  unfold textN
  rw [ByteArray.size_append, ByteArray.size_append]
  show 4 + s.size + 4 = _
  omega
theorem toks_a : toksFrom ⟨#[58, 32, 119, 32]⟩ 0 = [(⟨#[58]⟩, 0), (⟨#[119]⟩, 2)] := by
  rw [toks_lex, toList_mk [58, 32, 119, 32]]; rfl
theorem toks_b : toksFrom ⟨#[32, 59, 32, 119]⟩ 0 = [(⟨#[59]⟩, 1), (⟨#[119]⟩, 3)] := by
  rw [toks_lex, toList_mk [32, 59, 32, 119]]; rfl
theorem toks_named (s : ByteArray) : ∃ d e, toksFrom (textN s) 0 = ([(⟨#[58]⟩, 0), (⟨#[119]⟩, 2)] ++ shiftT d (toksFrom s 0)) ++ shiftT e [(⟨#[59]⟩, 1), (⟨#[119]⟩, 3)] := by
  refine ⟨(⟨#[58, 32, 119, 32]⟩ : ByteArray).size, (⟨#[58, 32, 119, 32]⟩ ++ s : ByteArray).size, ?_⟩
  unfold textN
  rw [toks_two_blank _ _ ⟨32, [59, 32, 119], toList_mk _, by decide⟩, toks_two_after ⟨#[58, 32, 119, 32]⟩ s ⟨[58, 32, 119], 32, toList_mk [58, 32, 119, 32], by decide⟩, toks_a, toks_b]

/-- The steps of the text. -/
def stepsN (S : List (Int × Int)) : List (Int × Int) := (((-1 : Int), (S.length : Int) + 2) :: S.map (shA 1)) ++ [(5, 0), (4, 1)]
theorem stepsN_len (S : List (Int × Int)) : (stepsN S).length = S.length + 3 := by unfold stepsN; simp
theorem stepsN_at (S : List (Int × Int)) : (stepsN S)[0]? = some (-1, (S.length : Int) + 2) ∧ (∀ (i : Nat) x, S[i]? = some x → (stepsN S)[1 + i]? = some (shA 1 x)) ∧ (stepsN S)[1 + S.length]? = some (5, 0) ∧ (stepsN S)[2 + S.length]? = some (4, 1) := by
  unfold stepsN
  refine ⟨rfl, fun i x hx => ?_, ?_, ?_⟩
  · have hi : i < S.length := by
      rcases Nat.lt_or_ge i S.length with h | h
      · exact h
      · rw [List.getElem?_eq_none h] at hx; cases hx
    rw [List.getElem?_append_left (by simp; omega), Nat.add_comm, List.getElem?_cons_succ, List.getElem?_map, hx]; rfl
  · rw [List.getElem?_append_right (by simp; omega)]
    have : 1 + S.length - (((-1 : Int), (S.length : Int) + 2) :: S.map (shA 1)).length = 0 := by simp; omega
    rw [this]; rfl
  · rw [List.getElem?_append_right (by simp; omega)]
    have : 2 + S.length - (((-1 : Int), (S.length : Int) + 2) :: S.map (shA 1)).length = 1 := by simp; omega
    rw [this]; rfl

theorem named_read {s : ByteArray} (h : Fit s) : (readM (textN s)).1 = 0 ∧ stepsOf (textN s) = stepsN (stepsOf s) ∧ Plain (stepsOf s) := by
  obtain ⟨d, e, ht⟩ := toks_named s
  obtain ⟨G0, hG0⟩ : ∃ G0 : Rd, G0 = (({ Rd.fresh with due := true } : Rd).add (-1) 0).named ⟨#[119]⟩ := ⟨_, rfl⟩
  have r1 : Rd.fresh.read [(⟨#[58]⟩, 0), (⟨#[119]⟩, 2)] = (0, 0, G0) := by
    rw [read_one Rd.fresh ⟨#[58]⟩ 0 _ (R' := ({ Rd.fresh with due := true } : Rd).add (-1) 0) (take_one Rd.fresh rfl [58] (by decide)),
      read_one _ ⟨#[119]⟩ 2 _ (R' := G0) (by rw [hG0]; exact take_name _ rfl [119] (by decide)), Rd.read_nil]
  have hdue : G0.due = false := by rw [hG0]; rfl
  have hdefs : G0.defs = [] := by rw [hG0]; rfl
  have hst : G0.steps = [(-1, 0)] := by rw [hG0]; rfl
  obtain ⟨p1, p2, p3⟩ := h.within G0 hdue hdefs d
  generalize stepsOf s = S at p1 p3 ⊢
  rw [hst] at p3
  obtain ⟨G1, hG1⟩ : ∃ G1 : Rd, G1 = { G0 with steps := [((-1 : Int), (0 : Int))] ++ S.map (shA 1) } := ⟨_, rfl⟩
  have p3' : (G0.read (shiftT d (toksFrom s 0))).2.2 = G1 := by rw [hG1]; exact p3
  have r2 : G1.read (shiftT e [(⟨#[59]⟩, 1), (⟨#[119]⟩, 3)]) = (0, 0, G1.ended.add 4 1) := by
    show G1.read [(⟨#[59]⟩, 1 + e), (⟨#[119]⟩, 3 + e)] = _
    rw [read_one G1 ⟨#[59]⟩ _ _ (R' := G1.ended) (by rw [take_one G1 (by rw [hG1]; exact hdue) [59] (by decide), hG1, hG0]; rfl),
      read_one G1.ended ⟨#[119]⟩ _ _ (R' := G1.ended.add 4 1) ?_, Rd.read_nil]
    rw [take_one G1.ended (by rw [hG1]; exact hdue) [119] (by decide)]
    have hdl : lastDef G1.ended.defs [119] = some 1 := by
      have : G1.ended.defs = [(⟨#[119]⟩, 1)] := by rw [hG1, hG0]; rfl
      rw [this]
      exact lastDef_yes [] (⟨#[119]⟩, 1) [119] (by rw [show (⟨#[119]⟩ : ByteArray).toList = [119] from toList_mk [119]]; rfl)
    show (match lastDef G1.ended.defs [119] with | some n => ((0 : Int), G1.ended.add 4 n) | none => if listOk [119] = true then (0, G1.ended.add (listOp [119]) 0) else (2, G1.ended)) = _
    rw [hdl]
  have hall : Rd.fresh.read (toksFrom (textN s) 0) = (0, 0, G1.ended.add 4 1) := by
    rw [ht, read_seq _ _ _ (by rw [read_seq _ _ _ (by rw [r1]), r1]; exact p2), read_seq _ _ _ (by rw [r1]), r1, p3', r2]
  have hfin : (G1.ended.add 4 1).fin = 0 := by rw [hG1, hG0]; rfl
  have hsz := textN_size s
  have hs := h.size
  have hrm : readM (textN s) = (0, 0, G1.ended.add 4 1) := by rw [readM_out (textN s) (by omega), hall]; exact outM_ok rfl hfin
  refine ⟨by rw [hrm], ?_, p1⟩
  unfold stepsOf
  rw [hrm]
  show aimI (G1.steps ++ [(5, 0)]) (G1.first - 1) ++ [(4, 1)] = stepsN S
  have h1 : G1.steps = ((-1 : Int), (0 : Int)) :: S.map (shA 1) := by rw [hG1]; rfl
  have h2 : G1.first = 1 := by rw [hG1, hG0]; rfl
  rw [h1, h2]
  unfold aimI aimAt
  rw [if_pos (by simp; omega)]
  show (((-1 : Int), (((((-1 : Int), (0 : Int)) :: S.map (shA 1)) ++ [((5 : Int), (0 : Int))]).length : Int)) :: (S.map (shA 1) ++ [(5, 0)])) ++ [(4, 1)] = stepsN S
  unfold stepsN
  have h3 : (((((((-1 : Int), (0 : Int)) :: S.map (shA 1)) ++ [((5 : Int), (0 : Int))]).length : Nat)) : Int) = (S.length : Int) + 2 := by simp; omega
  rw [h3]
  simp

/-- What grown asks: the same but for so many steps more. -/
structure Grown (r q : Int × Ma) (n : Int) : Prop where
  err : q.1 = r.1
  out : q.2.out = r.2.out
  image : q.2.image = r.2.image
  mark : q.2.mark = r.2.mark
  used : q.2.used = r.2.used + n
theorem fuel_is {b : BoxV} (hb : FitB b) : (startB b).fuel = b.fuel := clamp_in b.fuel hb.fuel (by have := hb.fuel'; omega)

theorem named_pure {s : ByteArray} (h : Fit s) {b : BoxV} (hb : FitB b) :
    ((runD s b).1 = 6 → (runD s b).2.used = b.fuel) ∧ ((runD s b).1 ≠ 6 → Grown (runD s b) (runD (textN s) { b with fuel := b.fuel + 2 }) (if (runD s b).1 = 0 then 2 else 1)) := by
  obtain ⟨n1, n2, hP⟩ := named_read h
  obtain ⟨f1, f2, f3, f4⟩ := plain_run (stepInv_dev h.laid) hP (measN (stepsOf s).length 0 0) (startB b) (h.dev hb) hb.fine (Nat.le_refl _)
  have hfu := fuel_is hb
  have hr : runD s b = runS (stepsOf s) (measN (stepsOf s).length 0 0) 0 (startB b) := rfl
  rw [← hr] at f1 f2 f3 f4
  generalize runD s b = r at f1 f2 f3 f4 ⊢
  refine ⟨fun h6 => by rw [f3 h6, hfu], fun h6 => ?_⟩
  have hbf := hb.fuel
  have hbf' := hb.fuel'
  have hb2 : FitB b → ({ b with fuel := b.fuel + 2 } : BoxV).image.size ≤ 256 ∧ ({ b with fuel := b.fuel + 2 } : BoxV).inp.size ≤ maxLen := fun _ => ⟨hb.image, hb.inp⟩
  obtain ⟨L, _⟩ := laid_of_read (textN s) n1
  have L' : Laid (toksFrom (textN s) 0) (stepsN (stepsOf s)) := by rw [← n2]; exact L
  have hinv : DevInv (toksFrom (textN s) 0) 0 (startB { b with fuel := b.fuel + 2 }) := ⟨0, _, start_inv (toksFrom (textN s) 0) { b with fuel := b.fuel + 2 } hb.image hb.inp, rfl, rfl⟩
  have hq : runD (textN s) { b with fuel := b.fuel + 2 } = runS (stepsN (stepsOf s)) (measN (stepsN (stepsOf s)).length 0 0) 0 (startB { b with fuel := b.fuel + 2 }) := by rw [← n2]; rfl
  rw [hq]
  have hst := start_more b 2 hbf (by omega) (by omega)
  generalize stepsOf s = S at *
  obtain ⟨s0, s1, s2, s3⟩ := stepsN_at S
  have hlen := stepsN_len S
  have hM0 : (startB b).stack = [] := rfl
  have hC0 : (startB b).calls = [] := rfl
  have hU0 : (startB b).used = 0 := rfl
  -- the first two steps
  have m0 : nextS (stepsN S) 0 (startB { b with fuel := b.fuel + 2 }) = ((S.length : Int) + 2, 0, startB { b with fuel := b.fuel + 2 }) := by
    have := stepAt_nat (stepsN S) 0 s0
    unfold nextS; rw [show ((0 : Nat) : Int) = 0 from rfl] at this; rw [this, if_pos rfl]
  have m1 : nextS (stepsN S) ((S.length : Int) + 2) (startB { b with fuel := b.fuel + 2 }) = (1, 0, liftM 1 2 [(S.length : Int) + 3] (startB b)) := by
    have h2 := stepAt_nat (stepsN S) (2 + S.length) s3
    unfold nextS
    rw [show ((2 + S.length : Nat) : Int) = (S.length : Int) + 2 by omega] at h2
    rw [h2, if_neg (by decide)]
    show ((1 : Int), (startB { b with fuel := b.fuel + 2 }).call ((S.length : Int) + 2 + 1)) = _
    rw [hst]
    have hroom : (liftM 0 2 [] (startB b)).room 0 0 = 0 := by
      rw [room_eq, if_neg (by show ¬ (startB b).fuel + 2 ≤ (startB b).used + 0; rw [hfu, hU0]; omega), if_neg (by show ¬ (((startB b).stack.length : Nat) : Int) < 0; omega), if_neg (by show ¬ 16 < (((startB b).stack.length : Nat) : Int) - 0 + 0; rw [hM0]; simp)]
    unfold Ma.call
    rw [if_neg (by simp [hroom]), if_neg (by show ¬ 12 ≤ ([] : List Int).length; simp)]
    show ((1 : Int), (0 : Int), ({ (liftM 0 2 [] (startB b)).tick with calls := [] ++ [(S.length : Int) + 2 + 1] } : Ma)) = _
    unfold liftM Ma.tick
    simp only [List.nil_append]
    rw [show (S.length : Int) + 2 + 1 = (S.length : Int) + 3 by omega]
    simp only [Int.add_zero]
  have hs2 : stepsS (stepsN S) 2 0 (startB { b with fuel := b.fuel + 2 }) = some (1, liftM 1 2 [(S.length : Int) + 3] (startB b)) := by
    rw [stepsS_one (by omega) (by rw [m0]), m0]
    show stepsS (stepsN S) 1 ((S.length : Int) + 2) (startB { b with fuel := b.fuel + 2 }) = _
    rw [stepsS_one (by omega) (by rw [m1]), m1]
    rfl
  obtain ⟨j, hj⟩ := f4 h6 1 2 [(S.length : Int) + 3] 1 (stepsN S) (by decide) s1 (by omega)
  rcases hj with ⟨e0, hj⟩ | ⟨e0, q, hq1, hj, hq2⟩
  · -- it ends well: the return
    have hj : stepsS (stepsN S) j 1 (liftM 1 2 [(S.length : Int) + 3] (startB b)) = some (((1 + S.length : Nat) : Int), liftM 1 2 [(S.length : Int) + 3] r.2) := hj
    have m3 : nextS (stepsN S) ((1 + S.length : Nat) : Int) (liftM 1 2 [(S.length : Int) + 3] r.2) = ((S.length : Int) + 3, 0, liftM 2 2 [] r.2) := by
      have h2 := stepAt_nat (stepsN S) (1 + S.length) s2
      unfold nextS
      rw [h2, if_neg (by decide)]
      show (liftM 1 2 [(S.length : Int) + 3] r.2).ret = _
      have hroom : (liftM 1 2 [(S.length : Int) + 3] r.2).room 0 0 = 0 := by
        have hu := f1.used
        have hk := f1.ok.stack
        rw [room_eq, if_neg (by show ¬ r.2.fuel + 2 ≤ r.2.used + 1; omega), if_neg (by show ¬ ((r.2.stack.length : Nat) : Int) < 0; omega), if_neg (by show ¬ 16 < ((r.2.stack.length : Nat) : Int) - 0 + 0; omega)]
      unfold Ma.ret
      rw [if_neg (by simp [hroom]), if_neg (by show ¬ [(S.length : Int) + 3] = []; simp)]
      show ((S.length : Int) + 3, (0 : Int), ({ (liftM 1 2 [(S.length : Int) + 3] r.2).tick with calls := [] } : Ma)) = _
      unfold liftM Ma.tick
      simp only [Int.add_assoc]
      rfl
    have hfin : stepsS (stepsN S) (2 + (j + 1)) 0 (startB { b with fuel := b.fuel + 2 }) = some ((S.length : Int) + 3, liftM 2 2 [] r.2) := by
      rw [stepsS_trans 2 (j + 1) hs2, stepsS_trans j 1 hj, stepsS_one (by omega) (by rw [m3]), m3]
      rfl
    rw [(runS_finish (stepInv_dev L') hinv rfl hfin).1 (by omega), if_pos e0]
    exact ⟨e0.symm, rfl, rfl, rfl, rfl⟩
  · have hj : stepsS (stepsN S) j 1 (liftM 1 2 [(S.length : Int) + 3] (startB b)) = some (((1 + q : Nat) : Int), liftM 1 2 [(S.length : Int) + 3] r.2) := hj
    have hfin : stepsS (stepsN S) (2 + j) 0 (startB { b with fuel := b.fuel + 2 }) = some (((1 + q : Nat) : Int), liftM 1 2 [(S.length : Int) + 3] r.2) := by
      rw [stepsS_trans 2 j hs2, hj]
    rw [(runS_finish (stepInv_dev L') hinv rfl hfin).2 (by omega) (by rw [hq2]; exact e0), hq2, if_neg e0]
    exact ⟨rfl, rfl, rfl, rfl, rfl⟩
end Go.Proofs.YtnanjomnldfidaaDoor
