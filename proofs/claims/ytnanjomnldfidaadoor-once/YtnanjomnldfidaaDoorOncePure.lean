/-
  The law Once in plain mathematics.
-/
import Derived.Test.YtnanjomnldfidaaDoorBranchPure
set_option linter.unusedSimpArgs false
set_option linter.unusedVariables false
set_option linter.unusedSectionVars false
namespace Go.Proofs.YtnanjomnldfidaaDoor

def textU (s : ByteArray) : ByteArray := (⟨#[98, 101, 103, 105, 110, 32]⟩ ++ s) ++ ⟨#[32, 49, 32, 117, 110, 116, 105, 108]⟩
def textW (s : ByteArray) : ByteArray := (⟨#[98, 101, 103, 105, 110, 32, 48, 32, 119, 104, 105, 108, 101, 32]⟩ ++ s) ++ ⟨#[32, 114, 101, 112, 101, 97, 116]⟩
theorem textU_size (s : ByteArray) : (textU s).size = s.size + 14 := by
  unfold textU
  rw [ByteArray.size_append, ByteArray.size_append]
  show 6 + s.size + 8 = _
  omega
theorem textW_size (s : ByteArray) : (textW s).size = s.size + 21 := by
  unfold textW
  rw [ByteArray.size_append, ByteArray.size_append]
  show 14 + s.size + 7 = _
  omega
theorem toks_u1 : toksFrom ⟨#[98, 101, 103, 105, 110, 32]⟩ 0 = [(⟨#[98, 101, 103, 105, 110]⟩, 0)] := by
  rw [toks_lex, toList_mk [98, 101, 103, 105, 110, 32]]; rfl
theorem toks_u2 : toksFrom ⟨#[32, 49, 32, 117, 110, 116, 105, 108]⟩ 0 = [(⟨#[49]⟩, 1), (⟨#[117, 110, 116, 105, 108]⟩, 3)] := by
  rw [toks_lex, toList_mk [32, 49, 32, 117, 110, 116, 105, 108]]; rfl
theorem toks_w1 : toksFrom ⟨#[98, 101, 103, 105, 110, 32, 48, 32, 119, 104, 105, 108, 101, 32]⟩ 0 = [(⟨#[98, 101, 103, 105, 110]⟩, 0), (⟨#[48]⟩, 6), (⟨#[119, 104, 105, 108, 101]⟩, 8)] := by
  rw [toks_lex, toList_mk [98, 101, 103, 105, 110, 32, 48, 32, 119, 104, 105, 108, 101, 32]]; rfl
theorem toks_w2 : toksFrom ⟨#[32, 114, 101, 112, 101, 97, 116]⟩ 0 = [(⟨#[114, 101, 112, 101, 97, 116]⟩, 1)] := by
  rw [toks_lex, toList_mk [32, 114, 101, 112, 101, 97, 116]]; rfl
theorem toks_until (s : ByteArray) : ∃ d e, toksFrom (textU s) 0 = ([(⟨#[98, 101, 103, 105, 110]⟩, 0)] ++ shiftT d (toksFrom s 0)) ++ shiftT e [(⟨#[49]⟩, 1), (⟨#[117, 110, 116, 105, 108]⟩, 3)] := by
  refine ⟨(⟨#[98, 101, 103, 105, 110, 32]⟩ : ByteArray).size, (⟨#[98, 101, 103, 105, 110, 32]⟩ ++ s : ByteArray).size, ?_⟩
  unfold textU
  rw [toks_two_blank _ _ ⟨32, [49, 32, 117, 110, 116, 105, 108], toList_mk _, by decide⟩, toks_two_after ⟨#[98, 101, 103, 105, 110, 32]⟩ s ⟨[98, 101, 103, 105, 110], 32, toList_mk [98, 101, 103, 105, 110, 32], by decide⟩, toks_u1, toks_u2]
theorem toks_while (s : ByteArray) : ∃ d e, toksFrom (textW s) 0 = ([(⟨#[98, 101, 103, 105, 110]⟩, 0), (⟨#[48]⟩, 6), (⟨#[119, 104, 105, 108, 101]⟩, 8)] ++ shiftT d (toksFrom s 0)) ++ shiftT e [(⟨#[114, 101, 112, 101, 97, 116]⟩, 1)] := by
  refine ⟨(⟨#[98, 101, 103, 105, 110, 32, 48, 32, 119, 104, 105, 108, 101, 32]⟩ : ByteArray).size, (⟨#[98, 101, 103, 105, 110, 32, 48, 32, 119, 104, 105, 108, 101, 32]⟩ ++ s : ByteArray).size, ?_⟩
  unfold textW
  rw [toks_two_blank _ _ ⟨32, [114, 101, 112, 101, 97, 116], toList_mk _, by decide⟩, toks_two_after ⟨#[98, 101, 103, 105, 110, 32, 48, 32, 119, 104, 105, 108, 101, 32]⟩ s ⟨[98, 101, 103, 105, 110, 32, 48, 32, 119, 104, 105, 108, 101], 32, toList_mk [98, 101, 103, 105, 110, 32, 48, 32, 119, 104, 105, 108, 101, 32], by decide⟩, toks_w1, toks_w2]

/-- The steps of the two texts. -/
def stepsU (A : List (Int × Int)) : List (Int × Int) := A.map (shA 0) ++ [((1 : Int), (1 : Int)), (3, 0)]
def stepsW (A : List (Int × Int)) : List (Int × Int) := [((1 : Int), (0 : Int)), (3, (A.length : Int) + 3)] ++ (A.map (shA 2) ++ [((2 : Int), (0 : Int))])
theorem stepsU_len (A : List (Int × Int)) : (stepsU A).length = A.length + 2 := by unfold stepsU; simp
theorem stepsW_len (A : List (Int × Int)) : (stepsW A).length = A.length + 3 := by unfold stepsW; simp
theorem stepsU_at (A : List (Int × Int)) : (∀ (i : Nat) x, A[i]? = some x → (stepsU A)[0 + i]? = some (shA 0 x)) ∧ (stepsU A)[0 + A.length]? = some (1, 1) ∧ (stepsU A)[1 + A.length]? = some (3, 0) := by
  unfold stepsU
  refine ⟨fun i x hx => ?_, ?_, ?_⟩
  · have hi : i < A.length := by
      rcases Nat.lt_or_ge i A.length with h | h
      · exact h
      · rw [List.getElem?_eq_none h] at hx; cases hx
    rw [Nat.zero_add, List.getElem?_append_left (by simp; omega), List.getElem?_map, hx]; rfl
  · rw [Nat.zero_add, List.getElem?_append_right (by simp)]
    have : A.length - (A.map (shA 0)).length = 0 := by simp
    rw [this]; rfl
  · rw [List.getElem?_append_right (by simp)]
    have : 1 + A.length - (A.map (shA 0)).length = 1 := by simp
    rw [this]; rfl

theorem until_read {s : ByteArray} (h : Fit s) : (readM (textU s)).1 = 0 ∧ stepsOf (textU s) = stepsU (stepsOf s) ∧ Plain (stepsOf s) := by
  obtain ⟨d, e, ht⟩ := toks_until s
  obtain ⟨G0, hG0⟩ : ∃ G0 : Rd, G0 = Rd.fresh.push 3 0 0 := ⟨_, rfl⟩
  have r1 : Rd.fresh.read [(⟨#[98, 101, 103, 105, 110]⟩, 0)] = (0, 0, G0) := by
    rw [read_one Rd.fresh ⟨#[98, 101, 103, 105, 110]⟩ 0 _ (R' := G0) (by rw [hG0]; exact take_one Rd.fresh rfl [98, 101, 103, 105, 110] (by decide)), Rd.read_nil]
  have hdue : G0.due = false := by rw [hG0]; rfl
  have hdefs : G0.defs = [] := by rw [hG0]; rfl
  have hst : G0.steps = [] := by rw [hG0]; rfl
  have hfo : G0.forms = [(3, 0, 0)] := by rw [hG0]; rfl
  obtain ⟨p1, p2, p3⟩ := h.within G0 hdue hdefs d
  generalize stepsOf s = A at p1 p3 ⊢
  rw [hst] at p3
  obtain ⟨G1, hG1⟩ : ∃ G1 : Rd, G1 = { G0 with steps := A.map (shA 0) } := ⟨_, rfl⟩
  have p3' : (G0.read (shiftT d (toksFrom s 0))).2.2 = G1 := by rw [hG1]; exact p3
  obtain ⟨G2, hG2⟩ : ∃ G2 : Rd, G2 = { G0 with steps := stepsU A, forms := [] } := ⟨_, rfl⟩
  have r2 : G1.read (shiftT e [(⟨#[49]⟩, 1), (⟨#[117, 110, 116, 105, 108]⟩, 3)]) = (0, 0, G2) := by
    show G1.read [(⟨#[49]⟩, 1 + e), (⟨#[117, 110, 116, 105, 108]⟩, 3 + e)] = _
    rw [read_one G1 ⟨#[49]⟩ _ _ (R' := G1.add 1 1) (take_num G1 (by rw [hG1]; exact hdue) [49] (by decide) (by decide)),
      read_one (G1.add 1 1) ⟨#[117, 110, 116, 105, 108]⟩ _ _ (R' := G2) ?_, Rd.read_nil]
    rw [take_one (G1.add 1 1) (by rw [hG1]; exact hdue) [117, 110, 116, 105, 108] (by decide)]
    have ht1 : (G1.add 1 1).top = (3, 0, 0) := by rw [hG1]; show topOf G0.forms = _; rw [hfo]; rfl
    show (if (G1.add 1 1).top.1 = 3 then ((0 : Int), (G1.add 1 1).pop.add 3 (G1.add 1 1).top.2.1) else (3, (G1.add 1 1))) = _
    rw [ht1, if_pos rfl]
    refine Prod.ext rfl ?_
    show ((G1.add 1 1).pop.add 3 0) = G2
    rw [hG2, hG1]
    show ({ steps := (A.map (shA 0) ++ [((1 : Int), (1 : Int))]) ++ [((3 : Int), (0 : Int))], forms := G0.forms.dropLast, defs := G0.defs, name := G0.name, first := G0.first, inside := G0.inside, due := G0.due } : Rd) = _
    rw [hfo, List.append_assoc]
    rfl
  have hall : Rd.fresh.read (toksFrom (textU s) 0) = (0, 0, G2) := by
    rw [ht, read_seq _ _ _ (by rw [read_seq _ _ _ (by rw [r1]), r1]; exact p2), read_seq _ _ _ (by rw [r1]), r1, p3', r2]
  have hfin : G2.fin = 0 := by rw [hG2, hG0]; rfl
  have hsz := textU_size s
  have hs := h.size
  have hrm : readM (textU s) = (0, 0, G2) := by rw [readM_out (textU s) (by omega), hall]; exact outM_ok rfl hfin
  refine ⟨by rw [hrm], ?_, p1⟩
  unfold stepsOf
  rw [hrm, hG2]

theorem while_read {s : ByteArray} (h : Fit s) : (readM (textW s)).1 = 0 ∧ stepsOf (textW s) = stepsW (stepsOf s) := by
  obtain ⟨d, e, ht⟩ := toks_while s
  obtain ⟨G0, hG0⟩ : ∃ G0 : Rd, G0 = { Rd.fresh with steps := [((1 : Int), (0 : Int)), (3, 0)], forms := [(4, 0, 1)] } := ⟨_, rfl⟩
  have r1 : Rd.fresh.read [(⟨#[98, 101, 103, 105, 110]⟩, 0), (⟨#[48]⟩, 6), (⟨#[119, 104, 105, 108, 101]⟩, 8)] = (0, 0, G0) := by
    rw [read_one Rd.fresh ⟨#[98, 101, 103, 105, 110]⟩ 0 _ (R' := Rd.fresh.push 3 0 0) (take_one Rd.fresh rfl [98, 101, 103, 105, 110] (by decide)),
      read_one (Rd.fresh.push 3 0 0) ⟨#[48]⟩ 6 _ (R' := (Rd.fresh.push 3 0 0).add 1 0) (take_num (Rd.fresh.push 3 0 0) rfl [48] (by decide) (by decide)),
      read_one ((Rd.fresh.push 3 0 0).add 1 0) ⟨#[119, 104, 105, 108, 101]⟩ 8 _ (R' := G0) (by rw [hG0]; exact take_one ((Rd.fresh.push 3 0 0).add 1 0) rfl [119, 104, 105, 108, 101] (by decide)), Rd.read_nil]
  have hdue : G0.due = false := by rw [hG0]; rfl
  have hdefs : G0.defs = [] := by rw [hG0]; rfl
  have hst : G0.steps = [(1, 0), (3, 0)] := by rw [hG0]
  have hfo : G0.forms = [(4, 0, 1)] := by rw [hG0]
  obtain ⟨p1, p2, p3⟩ := h.within G0 hdue hdefs d
  generalize stepsOf s = A at p1 p3 ⊢
  rw [hst] at p3
  obtain ⟨G1, hG1⟩ : ∃ G1 : Rd, G1 = { G0 with steps := [((1 : Int), (0 : Int)), (3, 0)] ++ A.map (shA 2) } := ⟨_, rfl⟩
  have p3' : (G0.read (shiftT d (toksFrom s 0))).2.2 = G1 := by rw [hG1]; exact p3
  obtain ⟨G2, hG2⟩ : ∃ G2 : Rd, G2 = { G0 with steps := stepsW A, forms := [] } := ⟨_, rfl⟩
  have r2 : G1.read (shiftT e [(⟨#[114, 101, 112, 101, 97, 116]⟩, 1)]) = (0, 0, G2) := by
    show G1.read [(⟨#[114, 101, 112, 101, 97, 116]⟩, 1 + e)] = _
    rw [read_one G1 ⟨#[114, 101, 112, 101, 97, 116]⟩ _ _ (R' := G2) ?_, Rd.read_nil]
    rw [take_one G1 (by rw [hG1]; exact hdue) [114, 101, 112, 101, 97, 116] (by decide)]
    have ht1 : G1.top = (4, 0, 1) := by rw [hG1]; show topOf G0.forms = _; rw [hfo]; rfl
    show (if G1.top.1 = 4 then ((0 : Int), (G1.pop.add 2 G1.top.2.1).aim G1.top.2.2) else (3, G1)) = _
    rw [ht1, if_pos rfl]
    refine Prod.ext rfl ?_
    have ha : aimI (([((1 : Int), (0 : Int)), (3, (0 : Int))] ++ A.map (shA 2)) ++ [((2 : Int), (0 : Int))]) 1 = stepsW A := by
      have := aimI_mid [((1 : Int), (0 : Int))] (A.map (shA 2) ++ [((2 : Int), (0 : Int))]) 3 0
      have hlen : (([((1 : Int), (0 : Int))].length : Nat) : Int) + 1 + ((A.map (shA 2) ++ [((2 : Int), (0 : Int))]).length : Nat) = (A.length : Int) + 3 := by simp; omega
      rw [hlen] at this
      exact this
    show (G1.pop.add 2 0).aim 1 = G2
    rw [hG2, ← ha, hG1]
    show ({ steps := aimI (([((1 : Int), (0 : Int)), (3, (0 : Int))] ++ A.map (shA 2)) ++ [((2 : Int), (0 : Int))]) 1, forms := G0.forms.dropLast, defs := G0.defs, name := G0.name, first := G0.first, inside := G0.inside, due := G0.due } : Rd) = _
    rw [hfo]
    rfl
  have hall : Rd.fresh.read (toksFrom (textW s) 0) = (0, 0, G2) := by
    rw [ht, read_seq _ _ _ (by rw [read_seq _ _ _ (by rw [r1]), r1]; exact p2), read_seq _ _ _ (by rw [r1]), r1, p3', r2]
  have hfin : G2.fin = 0 := by rw [hG2, hG0]; rfl
  have hsz := textW_size s
  have hs := h.size
  have hrm : readM (textW s) = (0, 0, G2) := by rw [readM_out (textW s) (by omega), hall]; exact outM_ok rfl hfin
  refine ⟨by rw [hrm], ?_⟩
  unfold stepsOf
  rw [hrm, hG2]

/-- A loop that is left ahead of its first round. -/
theorem while_pure {s : ByteArray} (h : Fit s) {b : BoxV} (hb : FitB b) : (runD (textW s) { b with fuel := b.fuel + 4 }).1 = 0 ∧ (runD (textW s) { b with fuel := b.fuel + 4 }).2.used = 2 ∧ (runD (textW s) { b with fuel := b.fuel + 4 }).2.out = [] := by
  obtain ⟨n1, n2⟩ := while_read h
  have hbf := hb.fuel
  have hbf' := hb.fuel'
  have hfu := fuel_is hb
  obtain ⟨L, _⟩ := laid_of_read (textW s) n1
  have L' : Laid (toksFrom (textW s) 0) (stepsW (stepsOf s)) := by rw [← n2]; exact L
  have hinv : DevInv (toksFrom (textW s) 0) 0 (startB { b with fuel := b.fuel + 4 }) := ⟨0, _, start_inv (toksFrom (textW s) 0) { b with fuel := b.fuel + 4 } hb.image hb.inp, rfl, rfl⟩
  have hq : runD (textW s) { b with fuel := b.fuel + 4 } = runS (stepsW (stepsOf s)) (measN (stepsW (stepsOf s)).length 0 0) 0 (startB { b with fuel := b.fuel + 4 }) := by rw [← n2]; rfl
  rw [hq]
  generalize stepsOf s = A at *
  have hlen := stepsW_len A
  have hst := start_more b 4 hbf (by omega) (by omega)
  have hM0 : (startB b).stack = [] := rfl
  have hU0 : (startB b).used = 0 := rfl
  have hO0 : (startB b).out = [] := rfl
  have m0 : nextS (stepsW A) 0 (liftM 0 4 [] (startB b)) = (1, 0, ((liftM 0 4 [] (startB b)).push 0).tick) := by
    have := stepAt_nat (stepsW A) 0 (show (stepsW A)[0]? = some (1, 0) from rfl)
    unfold nextS; rw [show ((0 : Nat) : Int) = 0 from rfl] at this; rw [this, if_neg (show ¬ (1 : Int) = -1 by decide)]
    show ((0 : Int) + 1, (liftM 0 4 [] (startB b)).number 0) = _
    rw [number_free (by show (startB b).used + 0 < (startB b).fuel + 4; omega) (by show (startB b).stack.length < 16; rw [hM0]; decide)]
    rfl
  have m1 : nextS (stepsW A) 1 (((liftM 0 4 [] (startB b)).push 0).tick) = ((A.length : Int) + 3, 0, liftM 2 4 [] (startB b)) := by
    have := stepAt_nat (stepsW A) 1 (show (stepsW A)[1]? = some (3, (A.length : Int) + 3) from rfl)
    unfold nextS; rw [show ((1 : Nat) : Int) = 1 from rfl] at this; rw [this, if_neg (show ¬ (3 : Int) = -1 by decide)]
    show (if ((((liftM 0 4 [] (startB b)).push 0).tick).takeN).1 = 0 then (A.length : Int) + 3 else 1 + 1, ((((liftM 0 4 [] (startB b)).push 0).tick).takeN).2) = _
    rw [taken (by show (startB b).used + 0 + 1 < (startB b).fuel + 4; omega) (by show (startB b).stack.length < 16; rw [hM0]; decide), lift_tick2]
    rfl
  have hfin : stepsS (stepsW A) 2 0 (startB { b with fuel := b.fuel + 4 }) = some ((A.length : Int) + 3, liftM 2 4 [] (startB b)) := by
    rw [hst, stepsS_one (by omega) (by rw [m0]), m0]
    show stepsS (stepsW A) 1 1 (((liftM 0 4 [] (startB b)).push 0).tick) = _
    rw [stepsS_one (by omega) (by rw [m1]), m1]
    rfl
  rw [(runS_finish (stepInv_dev L') hinv rfl hfin).1 (by omega)]
  exact ⟨rfl, by show (startB b).used + 2 = 2; omega, hO0⟩

/-- A loop that is left behind its first round. -/
theorem until_pure {s : ByteArray} (h : Fit s) {b : BoxV} (hb : FitB b) :
    (runD s b).2.used ≤ b.fuel ∧ ((runD s b).1 = 0 → (runD (textU s) { b with fuel := b.fuel + 4 }).1 = 8 ∨ Grown (runD s b) (runD (textU s) { b with fuel := b.fuel + 4 }) 2) := by
  obtain ⟨n1, n2, hP⟩ := until_read h
  obtain ⟨f1, f2, f3, f4⟩ := plain_run (stepInv_dev h.laid) hP (measN (stepsOf s).length 0 0) (startB b) (h.dev hb) hb.fine (Nat.le_refl _)
  have hfu := fuel_is hb
  have hr : runD s b = runS (stepsOf s) (measN (stepsOf s).length 0 0) 0 (startB b) := rfl
  rw [← hr] at f1 f2 f3 f4
  generalize runD s b = r at f1 f2 f3 f4 ⊢
  have hu := f1.used
  refine ⟨by omega, fun h0 => ?_⟩
  have hbf := hb.fuel
  have hbf' := hb.fuel'
  obtain ⟨L, _⟩ := laid_of_read (textU s) n1
  have L' : Laid (toksFrom (textU s) 0) (stepsU (stepsOf s)) := by rw [← n2]; exact L
  have hinv : DevInv (toksFrom (textU s) 0) 0 (startB { b with fuel := b.fuel + 4 }) := ⟨0, _, start_inv (toksFrom (textU s) 0) { b with fuel := b.fuel + 4 } hb.image hb.inp, rfl, rfl⟩
  have hq : runD (textU s) { b with fuel := b.fuel + 4 } = runS (stepsU (stepsOf s)) (measN (stepsU (stepsOf s)).length 0 0) 0 (startB { b with fuel := b.fuel + 4 }) := by rw [← n2]; rfl
  rw [hq]
  have hst := start_more b 4 hbf (by omega) (by omega)
  generalize stepsOf s = A at *
  obtain ⟨s1, s2, s3⟩ := stepsU_at A
  have hlen := stepsU_len A
  obtain ⟨j, hj⟩ := f4 (by rw [h0]; decide) 0 4 [] 0 (stepsU A) (by decide) s1 (by omega)
  rcases hj with ⟨e0, hj⟩ | ⟨e0, _⟩
  · have hj : stepsS (stepsU A) j 0 (startB { b with fuel := b.fuel + 4 }) = some (((0 + A.length : Nat) : Int), liftM 0 4 [] r.2) := by rw [hst]; exact hj
    have n1 : nextS (stepsU A) ((0 + A.length : Nat) : Int) (liftM 0 4 [] r.2) = (((0 + A.length : Nat) : Int) + 1, (liftM 0 4 [] r.2).number 1) := by
      have h2 := stepAt_nat (stepsU A) (0 + A.length) s2
      unfold nextS
      rw [h2, if_neg (by decide)]
      rfl
    have hk := f1.ok.stack
    by_cases h16 : r.2.stack.length = 16
    · left
      rw [number_full (M := liftM 0 4 [] r.2) (by show r.2.used + 0 < r.2.fuel + 4; omega) h16] at n1
      rw [(runS_finish (stepInv_dev L') hinv rfl hj).2 (by omega) (by rw [n1]; show ¬ (8 : Int) = 0; decide), n1]
    · right
      rw [number_free (by show r.2.used + 0 < r.2.fuel + 4; omega) (by show r.2.stack.length < 16; omega)] at n1
      have m1 : nextS (stepsU A) (((0 + A.length : Nat) : Int) + 1) (((liftM 0 4 [] r.2).push 1).tick) = ((A.length : Int) + 2, 0, liftM 2 4 [] r.2) := by
        have h2 := stepAt_nat (stepsU A) (1 + A.length) s3
        rw [show ((1 + A.length : Nat) : Int) = ((0 + A.length : Nat) : Int) + 1 by omega] at h2
        unfold nextS
        rw [h2, if_neg (by decide)]
        show (if ((((liftM 0 4 [] r.2).push 1).tick).takeN).1 = 0 then (0 : Int) else ((0 + A.length : Nat) : Int) + 1 + 1, ((((liftM 0 4 [] r.2).push 1).tick).takeN).2) = _
        rw [taken (by show r.2.used + 0 + 1 < r.2.fuel + 4; omega) (by show r.2.stack.length < 16; omega), lift_tick2, if_neg (show ¬ (1 : Int) = 0 by decide)]
        refine Prod.ext ?_ rfl
        show ((0 + A.length : Nat) : Int) + 1 + 1 = (A.length : Int) + 2
        omega
      have hfin : stepsS (stepsU A) (j + 2) 0 (startB { b with fuel := b.fuel + 4 }) = some ((A.length : Int) + 2, liftM 2 4 [] r.2) := by
        rw [stepsS_trans j 2 hj, stepsS_one (by omega) (by rw [n1]), n1]
        show stepsS (stepsU A) 1 (((0 + A.length : Nat) : Int) + 1) (((liftM 0 4 [] r.2).push 1).tick) = _
        rw [stepsS_one (by omega) (by rw [m1]), m1]
        rfl
      rw [(runS_finish (stepInv_dev L') hinv rfl hfin).1 (by omega)]
      exact ⟨h0.symm, rfl, rfl, rfl, rfl⟩
  · exact absurd h0 e0
end Go.Proofs.YtnanjomnldfidaaDoor
