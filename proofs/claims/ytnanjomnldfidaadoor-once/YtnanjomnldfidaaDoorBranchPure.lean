/-
  The law Branches in plain mathematics.
-/
import Derived.Test.YtnanjomnldfidaaDoorNamedPure
set_option linter.unusedSimpArgs false
set_option linter.unusedVariables false
set_option linter.unusedSectionVars false
namespace Go.Proofs.YtnanjomnldfidaaDoor

theorem modify_mid {α : Type} (X : List α) (a : α) (Y : List α) (f : α → α) : (X ++ a :: Y).modify X.length f = X ++ f a :: Y := by
  induction X with
  | nil => rfl
  | cons x X ih => simpa using ih
theorem aimI_mid (X Y : List (Int × Int)) (p q : Int) : aimI (X ++ (p, q) :: Y) (X.length : Int) = X ++ (p, (X.length : Int) + 1 + Y.length) :: Y := by
  unfold aimI aimAt
  rw [if_pos (by simp; omega), Int.toNat_natCast, modify_mid]
  have : ((X ++ (p, q) :: Y).length : Int) = (X.length : Int) + 1 + Y.length := by simp; omega
  rw [this]

/-- The first word of the text, the text. -/
def headB (v : UInt8) : ByteArray := ⟨#[v, 32, 105, 102, 32]⟩
def textB (v : UInt8) (s o : ByteArray) : ByteArray := (((headB v ++ s) ++ ⟨#[32, 101, 108, 115, 101, 32]⟩) ++ o) ++ ⟨#[32, 116, 104, 101, 110]⟩
theorem textB_size (v : UInt8) (s o : ByteArray) : (textB v s o).size = s.size + o.size + 16 := by
  unfold textB
  rw [ByteArray.size_append, ByteArray.size_append, ByteArray.size_append, ByteArray.size_append]
  show 5 + s.size + 6 + o.size + 5 = _
  omega
theorem toks_e : toksFrom ⟨#[32, 101, 108, 115, 101, 32]⟩ 0 = [(⟨#[101, 108, 115, 101]⟩, 1)] := by
  rw [toks_lex, toList_mk [32, 101, 108, 115, 101, 32]]; rfl
theorem toks_t : toksFrom ⟨#[32, 116, 104, 101, 110]⟩ 0 = [(⟨#[116, 104, 101, 110]⟩, 1)] := by
  rw [toks_lex, toList_mk [32, 116, 104, 101, 110]]; rfl
theorem toks_branch (v : UInt8) (s o : ByteArray) (hv : toksFrom (headB v) 0 = [(⟨#[v]⟩, 0), (⟨#[105, 102]⟩, 2)]) : ∃ d e f g, toksFrom (textB v s o) 0 = ((([(⟨#[v]⟩, 0), (⟨#[105, 102]⟩, 2)] ++ shiftT d (toksFrom s 0)) ++ shiftT e [(⟨#[101, 108, 115, 101]⟩, 1)]) ++ shiftT f (toksFrom o 0)) ++ shiftT g [(⟨#[116, 104, 101, 110]⟩, 1)] := by
  refine ⟨(headB v).size, (headB v ++ s).size, ((headB v ++ s) ++ ⟨#[32, 101, 108, 115, 101, 32]⟩ : ByteArray).size, (((headB v ++ s) ++ ⟨#[32, 101, 108, 115, 101, 32]⟩) ++ o : ByteArray).size, ?_⟩
  unfold textB
  rw [toks_two_blank _ _ ⟨32, [116, 104, 101, 110], toList_mk _, by decide⟩,
    toks_two_after _ o ⟨(headB v ++ s).toList ++ [32, 101, 108, 115, 101], 32, by rw [toList_append, toList_mk [32, 101, 108, 115, 101, 32]]; simp, by decide⟩,
    toks_two_blank _ _ ⟨32, [101, 108, 115, 101, 32], toList_mk _, by decide⟩,
    toks_two_after (headB v) s ⟨[v, 32, 105, 102], 32, toList_mk [v, 32, 105, 102, 32], by decide⟩, hv, toks_e, toks_t]

/-- The steps of the text. -/
def stepsB (n : Int) (A B : List (Int × Int)) : List (Int × Int) := ([((1 : Int), n), (3, (A.length : Int) + 3)] ++ A.map (shA 2)) ++ (2, (A.length : Int) + 3 + B.length) :: B.map (shA (A.length + 3))
theorem stepsB_len (n : Int) (A B : List (Int × Int)) : (stepsB n A B).length = A.length + 3 + B.length := by unfold stepsB; simp; omega
theorem stepsB_at (n : Int) (A B : List (Int × Int)) : (stepsB n A B)[0]? = some (1, n) ∧ (stepsB n A B)[1]? = some (3, (A.length : Int) + 3) ∧ (∀ (i : Nat) x, A[i]? = some x → (stepsB n A B)[2 + i]? = some (shA 2 x)) ∧ (stepsB n A B)[2 + A.length]? = some (2, (A.length : Int) + 3 + B.length) ∧
    (∀ (i : Nat) x, B[i]? = some x → (stepsB n A B)[(A.length + 3) + i]? = some (shA (A.length + 3) x)) := by
  unfold stepsB
  refine ⟨rfl, rfl, fun i x hx => ?_, ?_, fun i x hx => ?_⟩
  · have hi : i < A.length := by
      rcases Nat.lt_or_ge i A.length with h | h
      · exact h
      · rw [List.getElem?_eq_none h] at hx; cases hx
    rw [List.getElem?_append_left (by simp; omega), List.getElem?_append_right (by simp)]
    have : 2 + i - [((1 : Int), n), (3, (A.length : Int) + 3)].length = i := by simp
    rw [this, List.getElem?_map, hx]; rfl
  · rw [List.getElem?_append_right (by simp; omega)]
    have : 2 + A.length - ([((1 : Int), n), (3, (A.length : Int) + 3)] ++ A.map (shA 2)).length = 0 := by simp; omega
    rw [this]; rfl
  · rw [List.getElem?_append_right (by simp; omega)]
    have : (A.length + 3) + i - ([((1 : Int), n), (3, (A.length : Int) + 3)] ++ A.map (shA 2)).length = i + 1 := by simp; omega
    rw [this, List.getElem?_cons_succ, List.getElem?_map, hx]; rfl

theorem branch_read {s o : ByteArray} (h : Fit s) (ho : Fit o) (hso : s.size + o.size ≤ 368) (v : UInt8) (n : Int) (hv : toksFrom (headB v) 0 = [(⟨#[v]⟩, 0), (⟨#[105, 102]⟩, 2)]) (hd : digs [v] = true) (hn : numVal [v] = some n) :
    (readM (textB v s o)).1 = 0 ∧ stepsOf (textB v s o) = stepsB n (stepsOf s) (stepsOf o) ∧ Plain (stepsOf s) ∧ Plain (stepsOf o) := by
  obtain ⟨d, e, f, g, ht⟩ := toks_branch v s o hv
  obtain ⟨G0, hG0⟩ : ∃ G0 : Rd, G0 = ((Rd.fresh.add 1 n).push 1 0 1).add 3 0 := ⟨_, rfl⟩
  have r1 : Rd.fresh.read [(⟨#[v]⟩, 0), (⟨#[105, 102]⟩, 2)] = (0, 0, G0) := by
    rw [read_one Rd.fresh ⟨#[v]⟩ 0 _ (R' := Rd.fresh.add 1 n) (take_num Rd.fresh rfl [v] hd hn),
      read_one _ ⟨#[105, 102]⟩ 2 _ (R' := G0) (by rw [hG0]; exact take_one _ rfl [105, 102] (by decide)), Rd.read_nil]
  have hdue : G0.due = false := by rw [hG0]; rfl
  have hdefs : G0.defs = [] := by rw [hG0]; rfl
  have hst : G0.steps = [(1, n), (3, 0)] := by rw [hG0]; rfl
  have hfo : G0.forms = [(1, 0, 1)] := by rw [hG0]; rfl
  have hins : G0.inside = false := by rw [hG0]; rfl
  obtain ⟨p1, p2, p3⟩ := h.within G0 hdue hdefs d
  generalize stepsOf s = A at p1 p3 ⊢
  rw [hst] at p3
  obtain ⟨G1, hG1⟩ : ∃ G1 : Rd, G1 = { G0 with steps := [((1 : Int), n), (3, (0 : Int))] ++ A.map (shA 2) } := ⟨_, rfl⟩
  have p3' : (G0.read (shiftT d (toksFrom s 0))).2.2 = G1 := by rw [hG1]; exact p3
  -- else
  have hl1 : G1.len = (A.length : Int) + 2 := by rw [hG1]; show (([((1 : Int), n), (3, (0 : Int))] ++ A.map (shA 2)).length : Int) = _; simp; omega
  have ht1 : G1.top = (1, 0, 1) := by rw [hG1]; show topOf G0.forms = _; rw [hfo]; rfl
  obtain ⟨G2, hG2⟩ : ∃ G2 : Rd, G2 = { G0 with steps := ([((1 : Int), n), (3, (A.length : Int) + 3)] ++ A.map (shA 2)) ++ [((2 : Int), (0 : Int))], forms := [(2, 0, (A.length : Int) + 2)] } := ⟨_, rfl⟩
  have r2 : G1.read (shiftT e [(⟨#[101, 108, 115, 101]⟩, 1)]) = (0, 0, G2) := by
    show G1.read [(⟨#[101, 108, 115, 101]⟩, 1 + e)] = _
    rw [read_one G1 ⟨#[101, 108, 115, 101]⟩ _ _ (R' := G2) ?_, Rd.read_nil]
    rw [take_one G1 (by rw [hG1]; exact hdue) [101, 108, 115, 101] (by decide)]
    show (if G1.top.1 = 1 then ((0 : Int), ((G1.pop.push 2 0 G1.len).add 2 0).aim G1.top.2.2) else (3, G1)) = _
    rw [ht1, hl1, if_pos rfl]
    refine Prod.ext rfl ?_
    have ha : aimI (([((1 : Int), n), (3, (0 : Int))] ++ A.map (shA 2)) ++ [((2 : Int), (0 : Int))]) 1 = ([((1 : Int), n), (3, (A.length : Int) + 3)] ++ A.map (shA 2)) ++ [((2 : Int), (0 : Int))] := by
      have := aimI_mid [((1 : Int), n)] (A.map (shA 2) ++ [((2 : Int), (0 : Int))]) 3 0
      have hlen : (([((1 : Int), n)].length : Nat) : Int) + 1 + ((A.map (shA 2) ++ [((2 : Int), (0 : Int))]).length : Nat) = (A.length : Int) + 3 := by simp; omega
      rw [hlen] at this
      exact this
    show ((G1.pop.push 2 0 ((A.length : Int) + 2)).add 2 0).aim 1 = G2
    rw [hG2, ← ha, hG1]
    show ({ steps := aimI (([((1 : Int), n), (3, (0 : Int))] ++ A.map (shA 2)) ++ [((2 : Int), (0 : Int))]) 1, forms := G0.forms.dropLast ++ [(2, 0, (A.length : Int) + 2)], defs := G0.defs, name := G0.name, first := G0.first, inside := G0.inside, due := G0.due } : Rd) = _
    rw [hfo]
    rfl
  -- the other program
  obtain ⟨q1, q2, q3⟩ := ho.within G2 (by rw [hG2]; exact hdue) (by rw [hG2]; exact hdefs) f
  generalize stepsOf o = B at q1 q3 ⊢
  have hs2 : G2.steps = ([((1 : Int), n), (3, (A.length : Int) + 3)] ++ A.map (shA 2)) ++ [((2 : Int), (0 : Int))] := by rw [hG2]
  have hl2 : G2.steps.length = A.length + 3 := by rw [hs2]; simp
  rw [hl2, hs2] at q3
  obtain ⟨G3, hG3⟩ : ∃ G3 : Rd, G3 = { G2 with steps := ([((1 : Int), n), (3, (A.length : Int) + 3)] ++ A.map (shA 2)) ++ [((2 : Int), (0 : Int))] ++ B.map (shA (A.length + 3)) } := ⟨_, rfl⟩
  have q3' : (G2.read (shiftT f (toksFrom o 0))).2.2 = G3 := by rw [hG3]; exact q3
  have ht3 : G3.top = (2, 0, (A.length : Int) + 2) := by rw [hG3, hG2]; rfl
  obtain ⟨G4, hG4⟩ : ∃ G4 : Rd, G4 = { G0 with steps := stepsB n A B, forms := [] } := ⟨_, rfl⟩
  have r3 : G3.read (shiftT g [(⟨#[116, 104, 101, 110]⟩, 1)]) = (0, 0, G4) := by
    show G3.read [(⟨#[116, 104, 101, 110]⟩, 1 + g)] = _
    rw [read_one G3 ⟨#[116, 104, 101, 110]⟩ _ _ (R' := G4) ?_, Rd.read_nil]
    rw [take_one G3 (by rw [hG3, hG2]; exact hdue) [116, 104, 101, 110] (by decide)]
    show (if G3.top.1 = 1 ∨ G3.top.1 = 2 then ((0 : Int), G3.pop.aim G3.top.2.2) else (3, G3)) = _
    rw [ht3, if_pos (.inr rfl)]
    refine Prod.ext rfl ?_
    have ha : aimI (([((1 : Int), n), (3, (A.length : Int) + 3)] ++ A.map (shA 2)) ++ [((2 : Int), (0 : Int))] ++ B.map (shA (A.length + 3))) ((A.length : Int) + 2) = stepsB n A B := by
      have := aimI_mid ([((1 : Int), n), (3, (A.length : Int) + 3)] ++ A.map (shA 2)) (B.map (shA (A.length + 3))) 2 0
      have hlen : ((([((1 : Int), n), (3, (A.length : Int) + 3)] ++ A.map (shA 2)).length : Nat) : Int) = (A.length : Int) + 2 := by simp; omega
      rw [hlen] at this
      rw [List.append_assoc _ [((2 : Int), (0 : Int))]]
      show aimI (([((1 : Int), n), (3, (A.length : Int) + 3)] ++ A.map (shA 2)) ++ (2, 0) :: B.map (shA (A.length + 3))) _ = _
      rw [this]
      unfold stepsB
      have : (A.length : Int) + 2 + 1 + (B.map (shA (A.length + 3))).length = (A.length : Int) + 3 + B.length := by rw [List.length_map]; omega
      rw [this]
    show G3.pop.aim ((A.length : Int) + 2) = G4
    rw [hG4, ← ha, hG3, hG2]
    rfl
  have hall : Rd.fresh.read (toksFrom (textB v s o) 0) = (0, 0, G4) := by
    have e1 : Rd.fresh.read ([(⟨#[v]⟩, 0), (⟨#[105, 102]⟩, 2)] ++ shiftT d (toksFrom s 0)) = G0.read (shiftT d (toksFrom s 0)) := by rw [read_seq _ _ _ (by rw [r1]), r1]
    have e2 : Rd.fresh.read (([(⟨#[v]⟩, 0), (⟨#[105, 102]⟩, 2)] ++ shiftT d (toksFrom s 0)) ++ shiftT e [(⟨#[101, 108, 115, 101]⟩, 1)]) = (0, 0, G2) := by rw [read_seq _ _ _ (by rw [e1]; exact p2), e1, p3', r2]
    have e3 : Rd.fresh.read ((([(⟨#[v]⟩, 0), (⟨#[105, 102]⟩, 2)] ++ shiftT d (toksFrom s 0)) ++ shiftT e [(⟨#[101, 108, 115, 101]⟩, 1)]) ++ shiftT f (toksFrom o 0)) = G2.read (shiftT f (toksFrom o 0)) := by rw [read_seq _ _ _ (by rw [e2]), e2]
    rw [ht, read_seq _ _ _ (by rw [e3]; exact q2), e3, q3', r3]
  have hfin : G4.fin = 0 := by rw [hG4, hG0]; rfl
  have hsz := textB_size v s o
  have hrm : readM (textB v s o) = (0, 0, G4) := by rw [readM_out (textB v s o) (by omega), hall]; exact outM_ok rfl hfin
  refine ⟨by rw [hrm], ?_, p1, q1⟩
  unfold stepsOf
  rw [hrm, hG4]

theorem head_one : toksFrom (headB 49) 0 = [(⟨#[49]⟩, 0), (⟨#[105, 102]⟩, 2)] := by unfold headB; rw [toks_lex, toList_mk [49, 32, 105, 102, 32]]; rfl
theorem head_zero : toksFrom (headB 48) 0 = [(⟨#[48]⟩, 0), (⟨#[105, 102]⟩, 2)] := by unfold headB; rw [toks_lex, toList_mk [48, 32, 105, 102, 32]]; rfl

/-- A number, then a word that takes it. -/
theorem number_free {M : Ma} (hf : M.used < M.fuel) (hs : M.stack.length < 16) (n : Int) : M.number n = (0, (M.push n).tick) := by
  have hroom : M.room 0 1 = 0 := by rw [room_eq, if_neg (by omega), if_neg (by omega), if_neg (by omega)]
  unfold Ma.number; rw [if_neg (by simp [hroom])]
theorem number_full {M : Ma} (hf : M.used < M.fuel) (hs : M.stack.length = 16) (n : Int) : M.number n = (8, M) := by
  have hroom : M.room 0 1 = 8 := by rw [room_eq, if_neg (by omega), if_neg (by omega), if_pos (by omega)]
  unfold Ma.number; rw [if_pos (by rw [hroom]; decide), hroom]
theorem taken {M : Ma} (hf : M.used + 1 < M.fuel) (hs : M.stack.length < 16) (n : Int) : ((M.push n).tick).takeN = (n, 0, M.tick.tick) := by
  have hroom : ((M.push n).tick).room 1 0 = 0 := by
    have hl : ((M.push n).tick).stack.length = M.stack.length + 1 := by show (M.stack ++ [n]).length = _; simp
    rw [room_eq, if_neg (by show ¬ M.fuel ≤ M.used + 1; omega), if_neg (by rw [hl]; omega), if_neg (by rw [hl]; omega)]
  unfold Ma.takeN
  rw [if_neg (by simp [hroom])]
  unfold Ma.top Ma.tick Ma.push Ma.pop
  simp
theorem lift_tick2 (df : Int) (M : Ma) : (liftM 0 df [] M).tick.tick = liftM 2 df [] M := by
  unfold liftM Ma.tick
  simp only [Int.add_zero, Int.add_assoc]
  rfl

/-- The first two steps. -/
theorem branch_start {b : BoxV} (hb : FitB b) (n : Int) (A B : List (Int × Int)) : stepsS (stepsB n A B) 2 0 (startB { b with fuel := b.fuel + 3 }) = some (if n = 0 then (A.length : Int) + 3 else 2, liftM 2 3 [] (startB b)) := by
  have hbf := hb.fuel
  have hbf' := hb.fuel'
  have hfu := fuel_is hb
  have hst := start_more b 3 hbf (by omega) (by omega)
  have hlen := stepsB_len n A B
  obtain ⟨s0, s1, _⟩ := stepsB_at n A B
  rw [hst]
  have hM0 : (startB b).stack = [] := rfl
  have hU0 : (startB b).used = 0 := rfl
  generalize startB b = M at *
  have m0 : nextS (stepsB n A B) 0 (liftM 0 3 [] M) = (1, 0, ((liftM 0 3 [] M).push n).tick) := by
    have := stepAt_nat (stepsB n A B) 0 s0
    unfold nextS; rw [show ((0 : Nat) : Int) = 0 from rfl] at this; rw [this, if_neg (show ¬ (1 : Int) = -1 by decide)]
    show ((0 : Int) + 1, (liftM 0 3 [] M).number n) = _
    rw [number_free (by show M.used + 0 < M.fuel + 3; omega) (by show M.stack.length < 16; rw [hM0]; decide)]
    rfl
  have m1 : nextS (stepsB n A B) 1 (((liftM 0 3 [] M).push n).tick) = (if n = 0 then (A.length : Int) + 3 else 2, 0, liftM 2 3 [] M) := by
    have := stepAt_nat (stepsB n A B) 1 s1
    unfold nextS; rw [show ((1 : Nat) : Int) = 1 from rfl] at this; rw [this, if_neg (show ¬ (3 : Int) = -1 by decide)]
    show (if ((((liftM 0 3 [] M).push n).tick).takeN).1 = 0 then (A.length : Int) + 3 else 1 + 1, ((((liftM 0 3 [] M).push n).tick).takeN).2) = _
    rw [taken (by show M.used + 0 + 1 < M.fuel + 3; omega) (by show M.stack.length < 16; rw [hM0]; decide), lift_tick2]
    rfl
  rw [stepsS_one (by omega) (by rw [m0]), m0]
  show stepsS (stepsB n A B) 1 1 (((liftM 0 3 [] M).push n).tick) = _
  rw [stepsS_one (by omega) (by rw [m1]), m1]
  rfl

theorem branch_pure {s o : ByteArray} (h : Fit s) (ho : Fit o) (hso : s.size + o.size ≤ 368) {b : BoxV} (hb : FitB b) :
    ((runD s b).1 = 6 → (runD s b).2.used = b.fuel) ∧ ((runD s b).1 ≠ 6 → Grown (runD s b) (runD (textB 49 s o) { b with fuel := b.fuel + 3 }) (if (runD s b).1 = 0 then 3 else 2) ∧ Grown (runD s b) (runD (textB 48 o s) { b with fuel := b.fuel + 3 }) 2) := by
  obtain ⟨n1, n2, hP, _⟩ := branch_read h ho hso 49 1 head_one (by decide) (by decide)
  obtain ⟨k1, k2, _, _⟩ := branch_read ho h (by omega) 48 0 head_zero (by decide) (by decide)
  obtain ⟨f1, f2, f3, f4⟩ := plain_run (stepInv_dev h.laid) hP (measN (stepsOf s).length 0 0) (startB b) (h.dev hb) hb.fine (Nat.le_refl _)
  have hfu := fuel_is hb
  have hr : runD s b = runS (stepsOf s) (measN (stepsOf s).length 0 0) 0 (startB b) := rfl
  rw [← hr] at f1 f2 f3 f4
  generalize runD s b = r at f1 f2 f3 f4 ⊢
  refine ⟨fun h6 => by rw [f3 h6, hfu], fun h6 => ?_⟩
  have hst1 := branch_start hb 1 (stepsOf s) (stepsOf o)
  have hst2 := branch_start hb 0 (stepsOf o) (stepsOf s)
  constructor
  · obtain ⟨L, _⟩ := laid_of_read (textB 49 s o) n1
    have L' : Laid (toksFrom (textB 49 s o) 0) (stepsB 1 (stepsOf s) (stepsOf o)) := by rw [← n2]; exact L
    have hinv : DevInv (toksFrom (textB 49 s o) 0) 0 (startB { b with fuel := b.fuel + 3 }) := ⟨0, _, start_inv (toksFrom (textB 49 s o) 0) { b with fuel := b.fuel + 3 } hb.image hb.inp, rfl, rfl⟩
    have hq : runD (textB 49 s o) { b with fuel := b.fuel + 3 } = runS (stepsB 1 (stepsOf s) (stepsOf o)) (measN (stepsB 1 (stepsOf s) (stepsOf o)).length 0 0) 0 (startB { b with fuel := b.fuel + 3 }) := by rw [← n2]; rfl
    rw [hq]
    generalize stepsOf s = A at *
    generalize stepsOf o = B at *
    obtain ⟨_, _, s2, s3, _⟩ := stepsB_at 1 A B
    have hlen := stepsB_len 1 A B
    have hst1 : stepsS (stepsB 1 A B) 2 0 (startB { b with fuel := b.fuel + 3 }) = some (2, liftM 2 3 [] (startB b)) := hst1
    obtain ⟨j, hj⟩ := f4 h6 2 3 [] 2 (stepsB 1 A B) (by decide) s2 (by omega)
    rcases hj with ⟨e0, hj⟩ | ⟨e0, q, hq1, hj, hq2⟩
    · have hj : stepsS (stepsB 1 A B) j 2 (liftM 2 3 [] (startB b)) = some (((2 + A.length : Nat) : Int), liftM 2 3 [] r.2) := hj
      have m3 : nextS (stepsB 1 A B) ((2 + A.length : Nat) : Int) (liftM 2 3 [] r.2) = ((A.length : Int) + 3 + B.length, 0, liftM 3 3 [] r.2) := by
        have h2 := stepAt_nat (stepsB 1 A B) (2 + A.length) s3
        unfold nextS
        rw [h2, if_neg (show ¬ (2 : Int) = -1 by decide)]
        show ((A.length : Int) + 3 + B.length, (liftM 2 3 [] r.2).pass) = _
        have hroom : (liftM 2 3 [] r.2).room 0 0 = 0 := by
          have hu := f1.used
          have hk := f1.ok.stack
          rw [room_eq, if_neg (by show ¬ r.2.fuel + 3 ≤ r.2.used + 2; omega), if_neg (by show ¬ ((r.2.stack.length : Nat) : Int) < 0; omega), if_neg (by show ¬ 16 < ((r.2.stack.length : Nat) : Int) - 0 + 0; omega)]
        unfold Ma.pass
        rw [if_neg (by simp [hroom])]
        unfold liftM Ma.tick
        simp only [Int.add_assoc]
        rfl
      have hfin : stepsS (stepsB 1 A B) (2 + (j + 1)) 0 (startB { b with fuel := b.fuel + 3 }) = some ((A.length : Int) + 3 + B.length, liftM 3 3 [] r.2) := by
        rw [stepsS_trans 2 (j + 1) hst1, stepsS_trans j 1 hj, stepsS_one (by omega) (by rw [m3]), m3]
        rfl
      rw [(runS_finish (stepInv_dev L') hinv rfl hfin).1 (by omega), if_pos e0]
      exact ⟨e0.symm, rfl, rfl, rfl, rfl⟩
    · have hj : stepsS (stepsB 1 A B) j 2 (liftM 2 3 [] (startB b)) = some (((2 + q : Nat) : Int), liftM 2 3 [] r.2) := hj
      have hfin : stepsS (stepsB 1 A B) (2 + j) 0 (startB { b with fuel := b.fuel + 3 }) = some (((2 + q : Nat) : Int), liftM 2 3 [] r.2) := by
        rw [stepsS_trans 2 j hst1, hj]
      rw [(runS_finish (stepInv_dev L') hinv rfl hfin).2 (by omega) (by rw [hq2]; exact e0), hq2, if_neg e0]
      exact ⟨rfl, rfl, rfl, rfl, rfl⟩
  · obtain ⟨L, _⟩ := laid_of_read (textB 48 o s) k1
    have L' : Laid (toksFrom (textB 48 o s) 0) (stepsB 0 (stepsOf o) (stepsOf s)) := by rw [← k2]; exact L
    have hinv : DevInv (toksFrom (textB 48 o s) 0) 0 (startB { b with fuel := b.fuel + 3 }) := ⟨0, _, start_inv (toksFrom (textB 48 o s) 0) { b with fuel := b.fuel + 3 } hb.image hb.inp, rfl, rfl⟩
    have hq : runD (textB 48 o s) { b with fuel := b.fuel + 3 } = runS (stepsB 0 (stepsOf o) (stepsOf s)) (measN (stepsB 0 (stepsOf o) (stepsOf s)).length 0 0) 0 (startB { b with fuel := b.fuel + 3 }) := by rw [← k2]; rfl
    rw [hq]
    generalize stepsOf s = A at *
    generalize stepsOf o = B at *
    obtain ⟨_, _, _, _, s4⟩ := stepsB_at 0 B A
    have hlen := stepsB_len 0 B A
    have hst2 : stepsS (stepsB 0 B A) 2 0 (startB { b with fuel := b.fuel + 3 }) = some (((B.length + 3 : Nat) : Int), liftM 2 3 [] (startB b)) := hst2
    obtain ⟨j, hj⟩ := f4 h6 2 3 [] (B.length + 3) (stepsB 0 B A) (by decide) s4 (by omega)
    rcases hj with ⟨e0, hj⟩ | ⟨e0, q, hq1, hj, hq2⟩
    · have hfin : stepsS (stepsB 0 B A) (2 + j) 0 (startB { b with fuel := b.fuel + 3 }) = some (((B.length + 3 + A.length : Nat) : Int), liftM 2 3 [] r.2) := by
        rw [stepsS_trans 2 j hst2, hj]
      rw [(runS_finish (stepInv_dev L') hinv rfl hfin).1 (by omega)]
      exact ⟨e0.symm, rfl, rfl, rfl, rfl⟩
    · have hfin : stepsS (stepsB 0 B A) (2 + j) 0 (startB { b with fuel := b.fuel + 3 }) = some (((B.length + 3 + q : Nat) : Int), liftM 2 3 [] r.2) := by
        rw [stepsS_trans 2 j hst2, hj]
      rw [(runS_finish (stepInv_dev L') hinv rfl hfin).2 (by omega) (by rw [hq2]; exact e0), hq2]
      exact ⟨rfl, rfl, rfl, rfl, rfl⟩
end Go.Proofs.YtnanjomnldfidaaDoor
