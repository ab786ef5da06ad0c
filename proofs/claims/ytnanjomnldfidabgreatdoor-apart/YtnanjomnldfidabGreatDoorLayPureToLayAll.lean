/-
  What the steps of a text are: the targets of their jumps by graderref's ahead, back, ends, meaning, outer. Plain mathematics.
  What the steps of a text are: one word, and all words. Plain mathematics.
  What the steps of a text are: one word. Plain mathematics.
  What the steps of a text are: all words. Plain mathematics.
-/
import Derived.Test.YtnanjomnldfidabGreatDoorSimStep
import Derived.Test.YtnanjomnldfidabGreatDoorRunPure
set_option linter.unusedSimpArgs false
set_option linter.unusedVariables false
set_option linter.unusedSectionVars false
namespace Go.Proofs.YtnanjomnldfidabGreatDoor

/-- The step of word q. -/
def opAt (T : Words) (q : Nat) : Int :=
  if wAt T q = [58] then -1
  else if wAt T q = wIf ∨ wAt T q = wWhile ∨ wAt T q = wUntil then 3
  else if wAt T q = wElse then 2
  else if wAt T q = wRepeat then 2
  else if wAt T q = wExit ∨ wAt T q = [59] then 5
  else if wAt T q = wRec then 4
  else if 0 ≤ meaningM T q (wAt T q) then 4
  else if 0 ≤ listRef (wAt T q) then 16 + listRef (wAt T q)
  else 1
def argAt (T : Words) (q : Nat) : Int :=
  if wAt T q = [58] then (stepOf T (endsM T q + 1) : Nat)
  else if wAt T q = wIf ∨ wAt T q = wWhile ∨ wAt T q = wUntil then (stepOf T (goesN T q) : Nat)
  else if wAt T q = wElse then (stepOf T (aheadM T (q + 1) wIf wThen false + 1) : Nat)
  else if wAt T q = wRepeat then (stepOf T (backM T q + 1) : Nat)
  else if wAt T q = wExit ∨ wAt T q = [59] then 0
  else if wAt T q = wRec then (stepOf T (outerM T q) : Nat)
  else if 0 ≤ meaningM T q (wAt T q) then (stepOf T (meaningM T q (wAt T q)).toNat : Nat)
  else if 0 ≤ listRef (wAt T q) then 0
  else refVal (wAt T q)

theorem stepOf_mono (T : Words) : ∀ n p, stepOf T p ≤ stepOf T (p + n)
  | 0, p => Nat.le_refl _
  | n + 1, p => by
    have := stepOf_mono T n p
    show stepOf T p ≤ stepOf T (p + n) + emits T (p + n)
    omega
theorem stepOf_le (T : Words) {p q : Nat} (h : p ≤ q) : stepOf T p ≤ stepOf T q := by
  have := stepOf_mono T (q - p) p
  rwa [show p + (q - p) = q by omega] at this
theorem stepOf_lt (T : Words) {p q : Nat} (h : p < q) (he : emits T p = 1) : stepOf T p < stepOf T q := by
  have := stepOf_le T (show p + 1 ≤ q from h)
  have e : stepOf T (p + 1) = stepOf T p + emits T p := rfl
  omega
theorem stepOf_inj (T : Words) {p q : Nat} (hp : emits T p = 1) (hq : emits T q = 1) (h : stepOf T p = stepOf T q) : p = q := by
  rcases Nat.lt_trichotomy p q with h1 | h1 | h1
  · have := stepOf_lt T h1 hp; omega
  · exact h1
  · have := stepOf_lt T h1 hq; omega

/-- A place at which a word of the run may stand: no name behind a colon. -/
def Good (T : Words) (p : Nat) : Prop := ¬ (0 < p ∧ wAt T (p - 1) = [58])
theorem wAt_end (T : Words) {p : Nat} (h : T.length ≤ p) : wAt T p = [] := by
  unfold wAt
  have : T.getD p (ByteArray.empty, 0) = (ByteArray.empty, 0) := by simp [List.getD, h]
  rw [this]
  show ByteArray.empty.toList = []
  rw [ByteArray.toList_eq]; rfl
theorem good_succ {T : Words} {p : Nat} (h : wAt T p ≠ [58]) : Good T (p + 1) := fun ⟨_, h2⟩ => h h2

theorem ahead_word (T : Words) (up down : List UInt8) (els : Bool) (hd : down ≠ [58]) : ∀ n p d, T.length - p = n → wAt T (p + aheadL up down els (T.drop p) d) ≠ [58]
  | 0, p, d, hn => by
    rw [aheadL_end T p _ _ _ _ (by omega), wAt_end T (by omega)]; decide
  | n + 1, p, d, hn => by
    cases hh : hitN d (wAt T p) down els with
    | true =>
      rw [aheadL_hit T p _ _ _ _ (by omega) hh]
      unfold hitN at hh
      simp at hh
      intro hc
      rw [Nat.add_zero] at hc
      rw [hc] at hh
      rcases hh.2 with h1 | ⟨_, h1⟩
      · exact hd h1.symm
      · unfold wElse at h1; revert h1; decide
    | false =>
      rw [aheadL_on T p _ _ _ _ (by omega) hh]
      have := ahead_word T up down els hd n (p + 1) (depN d (wAt T p) up down) (by omega)
      rwa [show p + (aheadL up down els (T.drop (p + 1)) (depN d (wAt T p) up down) + 1) = p + 1 + aheadL up down els (T.drop (p + 1)) (depN d (wAt T p) up down) by omega]
theorem ends_word (T : Words) (p : Nat) (hp : p ≤ T.length) : wAt T (endsM T p) ≠ [58] := by
  obtain ⟨h1, h2⟩ := endsM_le T p hp
  by_cases h : endsM T p < T.length
  · rw [ends_is T _ p (endsM T p) rfl h1 h rfl]; decide
  · rw [wAt_end T (by omega)]; decide

/-- How many open forms are if's (or else's), how many are loops. -/
def nIf (l : List (Int × Int × Int)) : Nat := l.countP fun f => f.1 == 1 || f.1 == 2
def nLo (l : List (Int × Int × Int)) : Nat := l.countP fun f => f.1 == 3 || f.1 == 4
/-- ahead from k on has come to word p, at depth d, without an end. -/
def Reach (T : Words) (up down : List UInt8) (els : Bool) (k p : Nat) (d : Int) : Prop := k ≤ p ∧ aheadL up down els (T.drop k) 0 = (p - k) + aheadL up down els (T.drop p) d
def Back (T : Words) (g p : Nat) (d : Int) : Prop := ∀ e, d ≤ e → backL T p e = backL T (g + 1) (e - d)

/-- An open form: q the word whose step waits, g its begin; i, l: the if's and the loops that are open within it. -/
structure FormAt (T : Words) (p : Nat) (f : Int × Int × Int) (q g : Nat) (i l : Int) : Prop where
  kind : f.1 = 1 ∨ f.1 = 2 ∨ f.1 = 3 ∨ f.1 = 4
  hole : f.1 ≠ 3 → q < p ∧ emits T q = 1 ∧ f.2.2 = (stepOf T q : Nat)
  one : f.1 = 1 → wAt T q = wIf ∧ Reach T wIf wThen true (q + 1) p i
  two : f.1 = 2 → wAt T q = wElse ∧ Reach T wIf wThen false (q + 1) p i
  loop : f.1 = 3 ∨ f.1 = 4 → g < p ∧ wAt T g = wBegin ∧ emits T g = 0 ∧ f.2.1 = (stepOf T g : Nat) ∧ Back T g p l
  four : f.1 = 4 → wAt T q = wWhile ∧ Reach T wBegin wRepeat false (q + 1) p l

theorem Reach.step {T : Words} {up down : List UInt8} {els : Bool} {k p : Nat} {d : Int} (h : Reach T up down els k p d) (hp : p < T.length) (hh : hitN d (wAt T p) down els = false) : Reach T up down els k (p + 1) (depN d (wAt T p) up down) := by
  refine ⟨by have := h.1; omega, ?_⟩
  rw [h.2, aheadL_on T p _ _ _ _ hp hh]
  have := h.1
  omega
theorem Reach.here {T : Words} {up down : List UInt8} {els : Bool} {p : Nat} : Reach T up down els p p 0 := ⟨Nat.le_refl _, by omega⟩
theorem Reach.hit {T : Words} {up down : List UInt8} {els : Bool} {k p : Nat} (h : Reach T up down els k p 0) (hp : p < T.length) (hh : hitN 0 (wAt T p) down els = true) : aheadM T k up down els = p := by
  unfold aheadM
  rw [h.2, aheadL_hit T p _ _ _ _ hp hh]
  have := h.1
  omega
theorem Back.step {T : Words} {g p : Nat} {d : Int} (h : Back T g p d) (hd : 0 ≤ d) : Back T g (p + 1) (depN d (wAt T p) wBegin wRepeat) := by
  intro e he
  have hb : (wBegin == wBegin) = true := by decide
  unfold depN at he ⊢
  rw [backL]
  by_cases c1 : wAt T p = wBegin
  · have n1 : (wAt T p == wUntil) = false := by rw [c1]; decide
    have n2 : (wAt T p == wRepeat) = false := by rw [c1]; decide
    have n3 : (wAt T p == wBegin) = true := by rw [c1]; decide
    rw [n3, if_pos rfl] at he
    rw [n1, n2, n3, if_neg (by decide), if_pos rfl, if_pos rfl]
    have n4 : (e == 0) = false := by rw [beq_eq_false_iff_ne]; omega
    rw [n4, if_neg (by decide), h (e - 1) (by omega)]
    congr 1
    omega
  · have n3 : (wAt T p == wBegin) = false := by simpa using c1
    rw [n3, if_neg (by decide), hb, Bool.true_and] at he
    rw [n3]
    by_cases c2 : wAt T p = wUntil
    · have n1 : (wAt T p == wUntil) = true := by simpa using c2
      rw [n1, Bool.or_true, if_pos rfl] at he
      rw [n1, hb, Bool.true_and, Bool.or_true, Bool.true_or, if_pos rfl, if_neg (by decide), if_pos rfl, h (e + 1) (by omega)]
      congr 1
      omega
    · have n1 : (wAt T p == wUntil) = false := by simpa using c2
      rw [n1, Bool.or_false] at he
      by_cases c4 : wAt T p = wRepeat
      · have n2 : (wAt T p == wRepeat) = true := by simpa using c4
        rw [n2, if_pos rfl] at he
        rw [n1, n2, hb, Bool.true_and, Bool.false_or, Bool.or_false, if_pos rfl, if_neg (by decide), if_pos rfl, h (e + 1) (by omega)]
        congr 1
        omega
      · have n2 : (wAt T p == wRepeat) = false := by simpa using c4
        rw [n2, if_neg (by decide)] at he
        rw [n1, n2, hb, Bool.true_and, Bool.or_false, if_neg (by decide), if_neg (by decide), if_neg (by decide), if_neg (by decide), h e he]
theorem Back.here {T : Words} {g : Nat} : Back T g (g + 1) 0 := fun e _ => by rw [Int.sub_zero]
theorem Back.top {T : Words} {g p : Nat} (h : Back T g p 0) (hb : wAt T g = wBegin) : backM T p = g := by
  unfold backM
  rw [h 0 (by omega)]
  show backL T (g + 1) 0 = g
  rw [backL]
  have n1 : (wAt T g == wUntil) = false := by rw [hb]; decide
  have n2 : (wAt T g == wRepeat) = false := by rw [hb]; decide
  have n3 : (wAt T g == wBegin) = true := by rw [hb]; decide
  rw [n1, n2, n3, if_neg (by decide), if_pos rfl]
  rfl

theorem FormAt.step {T : Words} {p : Nat} {f : Int × Int × Int} {q g : Nat} {i l : Int} (h : FormAt T p f q g i l) (hp : p < T.length) (hl : 0 ≤ l) (h1 : wAt T p = wThen ∨ wAt T p = wElse → i ≠ 0) (h2 : wAt T p = wRepeat → l ≠ 0) :
    FormAt T (p + 1) f q g (depN i (wAt T p) wIf wThen) (depN l (wAt T p) wBegin wRepeat) := by
  have hi : ∀ els, hitN i (wAt T p) wThen els = false := by
    intro els
    unfold hitN
    by_cases hz : i = 0
    · have n1 : (wAt T p == wThen) = false := by rw [beq_eq_false_iff_ne]; exact fun e => h1 (.inl e) hz
      have n2 : (wAt T p == wElse) = false := by rw [beq_eq_false_iff_ne]; exact fun e => h1 (.inr e) hz
      rw [n1, n2]; simp
    · have : (i == 0) = false := by simpa using hz
      rw [this]; rfl
  have hr : hitN l (wAt T p) wRepeat false = false := by
    unfold hitN
    by_cases hz : l = 0
    · have n1 : (wAt T p == wRepeat) = false := by rw [beq_eq_false_iff_ne]; exact fun e => h2 e hz
      rw [n1]; simp
    · have : (l == 0) = false := by simpa using hz
      rw [this]; rfl
  exact ⟨h.kind, fun hk => by obtain ⟨a, b, c⟩ := h.hole hk; exact ⟨by omega, b, c⟩, fun hk => ⟨(h.one hk).1, (h.one hk).2.step hp (hi _)⟩, fun hk => ⟨(h.two hk).1, (h.two hk).2.step hp (hi _)⟩,
    fun hk => by obtain ⟨a, b, c, d, e⟩ := h.loop hk; exact ⟨by omega, b, c, d, e.step hl⟩, fun hk => ⟨(h.four hk).1, (h.four hk).2.step hp hr⟩⟩

/-- All open forms; tail: forms within them. -/
def FormsT (T : Words) (p : Nat) : List (Int × Int × Int) → List (Int × Int × Int) → Prop
  | [], _ => True
  | f :: a, tail => (∃ q g, FormAt T p f q g (nIf (a ++ tail) : Nat) (nLo (a ++ tail) : Nat)) ∧ FormsT T p a tail
theorem formsT_snoc {T : Words} {p : Nat} {t : Int × Int × Int} {tail : List (Int × Int × Int)} : ∀ {l : List (Int × Int × Int)}, FormsT T p (l ++ [t]) tail ↔ FormsT T p l (t :: tail) ∧ ∃ q g, FormAt T p t q g (nIf tail : Nat) (nLo tail : Nat)
  | [] => by simp [FormsT]
  | f :: a => by
    have ih := formsT_snoc (T := T) (p := p) (t := t) (tail := tail) (l := a)
    simp only [List.cons_append, FormsT, ih, List.append_assoc, List.nil_append]
    constructor
    · rintro ⟨h1, h2, h3⟩; exact ⟨⟨h1, h2⟩, h3⟩
    · rintro ⟨⟨h1, h2⟩, h3⟩; exact ⟨h1, h2, h3⟩
theorem nIf_append (a b : List (Int × Int × Int)) : nIf (a ++ b) = nIf a + nIf b := List.countP_append
theorem nLo_append (a b : List (Int × Int × Int)) : nLo (a ++ b) = nLo a + nLo b := List.countP_append
theorem formsT_step {T : Words} {p : Nat} {tail tail' : List (Int × Int × Int)} (hp : p < T.length) (h1 : wAt T p = wThen ∨ wAt T p = wElse → nIf tail ≠ 0) (h2 : wAt T p = wRepeat → nLo tail ≠ 0)
    (e1 : ∀ n : Nat, depN ((n + nIf tail : Nat) : Int) (wAt T p) wIf wThen = ((n + nIf tail' : Nat) : Int)) (e2 : ∀ n : Nat, depN ((n + nLo tail : Nat) : Int) (wAt T p) wBegin wRepeat = ((n + nLo tail' : Nat) : Int)) :
    ∀ {l : List (Int × Int × Int)}, FormsT T p l tail → FormsT T (p + 1) l tail'
  | [], _ => trivial
  | f :: a, ⟨⟨q, g, hf⟩, hr⟩ => by
    refine ⟨⟨q, g, ?_⟩, formsT_step hp h1 h2 e1 e2 hr⟩
    have := hf.step hp (by omega) (fun hw => by rw [nIf_append]; have := h1 hw; omega) (fun hw => by rw [nLo_append]; have := h2 hw; omega)
    rw [nIf_append, nLo_append, e1, e2, ← nIf_append, ← nLo_append] at this
    exact this
end Go.Proofs.YtnanjomnldfidabGreatDoor

set_option linter.unusedSimpArgs false
set_option linter.unusedVariables false
set_option linter.unusedSectionVars false
namespace Go.Proofs.YtnanjomnldfidabGreatDoor

/-- The steps of the words ahead of p lie as they should, but for those that wait (O). -/
def StepsP (T : Words) (p : Nat) (S : List (Int × Int)) (O : Nat → Prop) : Prop := ∀ q, q < p → emits T q = 1 → ∃ a, S[stepOf T q]? = some (opAt T q, a) ∧ (a = argAt T q ∨ O q)
def openAt (T : Words) (R : Rd) (q : Nat) : Prop := (∃ f ∈ R.forms, f.1 ≠ 3 ∧ f.2.2 = (stepOf T q : Nat)) ∨ (R.inside = true ∧ R.first = (stepOf T q : Nat) + 1)
/-- The places to which a word leads are good; a number is one. -/
structure TgtOk (T : Words) (q : Nat) : Prop where
  back : wAt T q = wUntil ∨ wAt T q = wRepeat → Good T (backM T q + 1)
  recu : wAt T q = wRec → Good T (outerM T q)
  name : wAt T q ∉ formsL → 0 ≤ meaningM T q (wAt T q) → Good T (meaningM T q (wAt T q)).toNat
  num : wAt T q ∉ formsL → meaningM T q (wAt T q) < 0 → listRef (wAt T q) < 0 → 0 ≤ refVal (wAt T q) ∧ refVal (wAt T q) < 65536
structure LayOk (T : Words) (p : Nat) (R : Rd) : Prop where
  forms : FormsT T p R.forms []
  steps : StepsP T p R.steps (openAt T R)
  tgt : ∀ q, q < p → emits T q = 1 → TgtOk T q

theorem steps_add {T : Words} {p : Nat} {S : List (Int × Int)} {O O' : Nat → Prop} (h : StepsP T p S O) (hl : S.length = stepOf T p) (he : emits T p = 1) {op arg : Int} (ho : op = opAt T p) (ha : arg = argAt T p ∨ O' p) (hO : ∀ q, q < p → emits T q = 1 → O q → O' q) : StepsP T (p + 1) (S ++ [(op, arg)]) O' := by
  intro q hq hq1
  by_cases e : q = p
  · subst e
    refine ⟨arg, ?_, ha⟩
    rw [← hl, List.getElem?_append_right (Nat.le_refl _), Nat.sub_self, ho]
    rfl
  · obtain ⟨a, h1, h2⟩ := h q (by omega) hq1
    refine ⟨a, ?_, h2.imp id (hO q (by omega) hq1)⟩
    rw [List.getElem?_append_left (by rw [hl]; exact stepOf_lt T (by omega) hq1)]
    exact h1
theorem steps_none {T : Words} {p : Nat} {S : List (Int × Int)} {O O' : Nat → Prop} (h : StepsP T p S O) (he : emits T p = 0) (hO : ∀ q, q < p → emits T q = 1 → O q → O' q) : StepsP T (p + 1) S O' := by
  intro q hq hq1
  by_cases e : q = p
  · subst e; omega
  · obtain ⟨a, h1, h2⟩ := h q (by omega) hq1
    exact ⟨a, h1, h2.imp id (hO q (by omega) hq1)⟩
theorem steps_aim {T : Words} {p : Nat} {S : List (Int × Int)} {O O' : Nat → Prop} {x : Int} (h : StepsP T p S O) (hx : ∀ q, q < p → emits T q = 1 → (stepOf T q : Int) = x → argAt T q = S.length) (hO : ∀ q, q < p → emits T q = 1 → (stepOf T q : Int) ≠ x → O q → O' q) : StepsP T p (aimI S x) O' := by
  intro q hq hq1
  obtain ⟨a, h1, h2⟩ := h q hq hq1
  by_cases e : (stepOf T q : Int) = x
  · have hlt : stepOf T q < S.length := by
      rcases Nat.lt_or_ge (stepOf T q) S.length with h3 | h3
      · exact h3
      · rw [List.getElem?_eq_none h3] at h1; cases h1
    refine ⟨(S.length : Int), ?_, .inl (hx q hq hq1 e).symm⟩
    unfold aimI aimAt
    rw [if_pos (by omega), ← e, Int.toNat_natCast, List.getElem?_modify, h1]
    simp
  · refine ⟨a, ?_, h2.imp id (hO q hq hq1 e)⟩
    unfold aimI aimAt
    by_cases hr : 0 ≤ x ∧ x < (S.length : Int)
    · rw [if_pos hr, List.getElem?_modify, h1]
      have : ¬ x.toNat = stepOf T q := by omega
      simp [this]
    · rw [if_neg hr]; exact h1

theorem top_split {R : Rd} (h : R.top.1 ≠ 0) : R.forms = R.forms.dropLast ++ [R.top] := by
  rcases List.eq_nil_or_concat R.forms with h1 | ⟨l, x, h1⟩
  · unfold Rd.top topOf at h; rw [h1] at h; exact absurd rfl h
  · have h1 : R.forms = l ++ [x] := by simpa using h1
    unfold Rd.top topOf
    rw [h1]; simp

section
variable {T : Words} {p : Nat}
theorem op_if (e : wAt T p = wIf ∨ wAt T p = wWhile ∨ wAt T p = wUntil) : opAt T p = 3 ∧ argAt T p = (stepOf T (goesN T p) : Nat) := by
  have hc : wAt T p ≠ [58] := by rcases e with e | e | e <;> (rw [e]; decide)
  unfold opAt argAt
  rw [if_neg hc, if_neg hc, if_pos e, if_pos e]; exact ⟨rfl, rfl⟩
theorem op_else (e : wAt T p = wElse) : opAt T p = 2 ∧ argAt T p = (stepOf T (aheadM T (p + 1) wIf wThen false + 1) : Nat) := by
  have h1 : ¬ wAt T p = [58] := by rw [e]; decide
  have h2 : ¬ (wAt T p = wIf ∨ wAt T p = wWhile ∨ wAt T p = wUntil) := by rw [e]; decide
  unfold opAt argAt
  rw [if_neg h1, if_neg h1, if_neg h2, if_neg h2, if_pos e, if_pos e]; exact ⟨rfl, rfl⟩
theorem op_repeat (e : wAt T p = wRepeat) : opAt T p = 2 ∧ argAt T p = (stepOf T (backM T p + 1) : Nat) := by
  have h1 : ¬ wAt T p = [58] := by rw [e]; decide
  have h2 : ¬ (wAt T p = wIf ∨ wAt T p = wWhile ∨ wAt T p = wUntil) := by rw [e]; decide
  have h3 : ¬ wAt T p = wElse := by rw [e]; decide
  unfold opAt argAt
  rw [if_neg h1, if_neg h1, if_neg h2, if_neg h2, if_neg h3, if_neg h3, if_pos e, if_pos e]; exact ⟨rfl, rfl⟩
theorem op_ret (e : wAt T p = wExit ∨ wAt T p = [59]) : opAt T p = 5 ∧ argAt T p = 0 := by
  have h1 : ¬ wAt T p = [58] := by rcases e with e | e <;> (rw [e]; decide)
  have h2 : ¬ (wAt T p = wIf ∨ wAt T p = wWhile ∨ wAt T p = wUntil) := by rcases e with e | e <;> (rw [e]; decide)
  have h3 : ¬ wAt T p = wElse := by rcases e with e | e <;> (rw [e]; decide)
  have h4 : ¬ wAt T p = wRepeat := by rcases e with e | e <;> (rw [e]; decide)
  unfold opAt argAt
  rw [if_neg h1, if_neg h1, if_neg h2, if_neg h2, if_neg h3, if_neg h3, if_neg h4, if_neg h4, if_pos e, if_pos e]; exact ⟨rfl, rfl⟩
theorem op_rec (e : wAt T p = wRec) : opAt T p = 4 ∧ argAt T p = (stepOf T (outerM T p) : Nat) := by
  have h1 : ¬ wAt T p = [58] := by rw [e]; decide
  have h2 : ¬ (wAt T p = wIf ∨ wAt T p = wWhile ∨ wAt T p = wUntil) := by rw [e]; decide
  have h3 : ¬ wAt T p = wElse := by rw [e]; decide
  have h4 : ¬ wAt T p = wRepeat := by rw [e]; decide
  have h5 : ¬ (wAt T p = wExit ∨ wAt T p = [59]) := by rw [e]; decide
  unfold opAt argAt
  rw [if_neg h1, if_neg h1, if_neg h2, if_neg h2, if_neg h3, if_neg h3, if_neg h4, if_neg h4, if_neg h5, if_neg h5, if_pos e, if_pos e]; exact ⟨rfl, rfl⟩
theorem op_colon (e : wAt T p = [58]) : opAt T p = -1 ∧ argAt T p = (stepOf T (endsM T p + 1) : Nat) := by
  unfold opAt argAt; rw [if_pos e, if_pos e]; exact ⟨rfl, rfl⟩
theorem op_other (hf : wAt T p ∉ formsL) :
    (opAt T p = if 0 ≤ meaningM T p (wAt T p) then 4 else if 0 ≤ listRef (wAt T p) then 16 + listRef (wAt T p) else 1) ∧
    (argAt T p = if 0 ≤ meaningM T p (wAt T p) then ((stepOf T (meaningM T p (wAt T p)).toNat : Nat) : Int) else if 0 ≤ listRef (wAt T p) then 0 else refVal (wAt T p)) := by
  obtain ⟨g1, g2, g3, g4, g5, g6, g7, g8, g9, g10, g11⟩ := not_forms hf
  simp only [beq_eq_false_iff_ne, ne_eq] at g1 g2 g3 g4 g5 g6 g7 g8 g9 g10 g11
  have h1 : ¬ wAt T p = [58] := g10
  have h2 : ¬ (wAt T p = wIf ∨ wAt T p = wWhile ∨ wAt T p = wUntil) := fun h => h.elim g1 (fun h => h.elim g6 g5)
  have h3 : ¬ wAt T p = wElse := g2
  have h4 : ¬ wAt T p = wRepeat := g7
  have h5 : ¬ (wAt T p = wExit ∨ wAt T p = [59]) := fun h => h.elim g8 g11
  have h6 : ¬ wAt T p = wRec := g9
  unfold opAt argAt
  rw [if_neg h1, if_neg h1, if_neg h2, if_neg h2, if_neg h3, if_neg h3, if_neg h4, if_neg h4, if_neg h5, if_neg h5, if_neg h6, if_neg h6]; exact ⟨rfl, rfl⟩

/-- A word of the forms that leads nowhere new. -/
theorem tgt_plain (hf : wAt T p ∈ formsL) (h1 : wAt T p ≠ wUntil) (h2 : wAt T p ≠ wRepeat) (h3 : wAt T p ≠ wRec) : TgtOk T p :=
  ⟨fun h => (h.elim h1 h2).elim, fun h => (h3 h).elim, fun h => (h hf).elim, fun h => (h hf).elim⟩

theorem outer_is (T : Words) (q0 : Nat) (hc : wAt T q0 = [58]) : ∀ n p, p = q0 + n → (∀ q, q0 < q → q ≤ p → wAt T q ≠ [58]) → outerL T p = q0
  | 0, p, hp, _ => by
    have hp : p = q0 := by omega
    rw [hp]
    cases q0 with
    | zero => rfl
    | succ q =>
      unfold outerL
      rw [if_pos (by simp [hc])]
  | n + 1, p, hp, h => by
    have hpp : p = (q0 + n) + 1 := by omega
    rw [hpp]
    unfold outerL
    rw [if_neg (by have := h (q0 + n + 1) (by omega) (by omega); simpa using this)]
    exact outer_is T q0 hc n (q0 + n) rfl (fun q h1 h2 => h q h1 (by omega))

/-- The tokens' counts do not change at a word that is none of the forms' own. -/
theorem dep_same {w up down : List UInt8} (h1 : w ≠ up) (h2 : w ≠ down) (h3 : w ≠ wUntil) (n : Int) : depN n w up down = n := by
  unfold depN
  have n1 : (w == up) = false := by simpa using h1
  have n2 : (w == down) = false := by simpa using h2
  have n3 : (w == wUntil) = false := by simpa using h3
  rw [n1, n2, n3]; simp
theorem dep_if (w : List UInt8) (n : Int) (h1 : w ≠ wIf) (h2 : w ≠ wThen) : depN n w wIf wThen = n := by
  unfold depN
  have n1 : (w == wIf) = false := by simpa using h1
  have n2 : (w == wThen) = false := by simpa using h2
  have n3 : (wIf == wBegin) = false := by decide
  rw [n1, n2, n3]; simp
theorem formsT_same {tail : List (Int × Int × Int)} {l : List (Int × Int × Int)} (h : FormsT T p l tail) (hp : p < T.length) (h1 : wAt T p ≠ wIf) (h2 : wAt T p ≠ wThen) (h3 : wAt T p ≠ wElse) (h4 : wAt T p ≠ wBegin) (h5 : wAt T p ≠ wUntil) (h6 : wAt T p ≠ wRepeat) : FormsT T (p + 1) l tail :=
  formsT_step hp (fun h => (h.elim h2 h3).elim) (fun h => (h6 h).elim) (fun n => dep_if _ _ h1 h2) (fun n => dep_same h4 h6 h5 _) h

theorem tgt_next {P : Nat → Prop} (h : ∀ q, q < p → emits T q = 1 → P q) (hn : emits T p = 1 → P p) : ∀ q, q < p + 1 → emits T q = 1 → P q := by
  intro q hq he
  by_cases e : q = p
  · subst e; exact hn he
  · exact h q (by omega) he
end
end Go.Proofs.YtnanjomnldfidabGreatDoor

set_option linter.unusedSimpArgs false
set_option linter.unusedVariables false
set_option linter.unusedSectionVars false
namespace Go.Proofs.YtnanjomnldfidabGreatDoor

section
variable {T : Words} {p : Nat} {R : Rd} {O : List UInt8} {I : Bool}

/-- What a word adds that opens or ends no form: a step that is all known. -/
theorem lay_add (h : Sim T p R O I) (L : LayOk T p R) (hp : p < T.length) (he : emits T p = 1) {op arg : Int} (ho : op = opAt T p) (ha : arg = argAt T p) (ht : TgtOk T p) (h1 : wAt T p ≠ wIf) (h2 : wAt T p ≠ wThen) (h3 : wAt T p ≠ wElse) (h4 : wAt T p ≠ wBegin) (h5 : wAt T p ≠ wUntil) (h6 : wAt T p ≠ wRepeat) : LayOk T (p + 1) (R.add op arg) :=
  ⟨formsT_same L.forms hp h1 h2 h3 h4 h5 h6, steps_add L.steps h.len he ho (.inl ha) (fun q hq hq1 hO => hO), tgt_next L.tgt (fun _ => ht)⟩

theorem lay_if (h : Sim T p R O I) (L : LayOk T p R) (hp : p < T.length) (e : wAt T p = wIf) : LayOk T (p + 1) ((R.push 1 0 R.len).add 3 0) := by
  have he : emits T p = 1 := h.emit1 (by rw [e]; decide) (by rw [e]; decide)
  have hlen : R.len = (stepOf T p : Nat) := by unfold Rd.len; rw [h.len]
  refine ⟨?_, ?_, tgt_next L.tgt (fun _ => tgt_plain (by rw [e]; decide) (by rw [e]; decide) (by rw [e]; decide) (by rw [e]; decide))⟩
  · show FormsT T (p + 1) (R.forms ++ [(1, 0, R.len)]) []
    rw [formsT_snoc]
    refine ⟨formsT_step hp (fun hw => by rw [e] at hw; exact absurd hw (by decide)) (fun hw => by rw [e] at hw; exact absurd hw (by decide)) (fun n => ?_) (fun n => ?_) L.forms, p, 0, ?_⟩
    · rw [e]; simp [depN, nIf, wIf, wThen, wElse, wBegin, wUntil, wWhile, wRepeat] <;> omega
    · rw [e]; simp [depN, nLo, wIf, wThen, wElse, wBegin, wUntil, wWhile, wRepeat] <;> omega
    · exact ⟨.inl rfl, fun _ => ⟨by omega, he, hlen⟩, fun _ => ⟨e, Reach.here⟩, fun hk => by simp at hk, fun hk => by simp at hk, fun hk => by simp at hk⟩
  · exact steps_add L.steps h.len he (op_if (.inl e)).1.symm (.inr (.inl ⟨(1, 0, R.len), by simp [Rd.push, Rd.add], by simp, hlen⟩)) (fun q hq hq1 hO => hO.imp (fun ⟨f, hf, hk⟩ => ⟨f, List.mem_append_left _ hf, hk⟩) id)

theorem lay_begin (h : Sim T p R O I) (L : LayOk T p R) (hp : p < T.length) (e : wAt T p = wBegin) : LayOk T (p + 1) (R.push 3 R.len 0) := by
  have he : emits T p = 0 := h.emit0 (.inr e)
  have hlen : R.len = (stepOf T p : Nat) := by unfold Rd.len; rw [h.len]
  refine ⟨?_, ?_, tgt_next L.tgt (fun h1 => by omega)⟩
  · show FormsT T (p + 1) (R.forms ++ [(3, R.len, 0)]) []
    rw [formsT_snoc]
    refine ⟨formsT_step hp (fun hw => by rw [e] at hw; exact absurd hw (by decide)) (fun hw => by rw [e] at hw; exact absurd hw (by decide)) (fun n => ?_) (fun n => ?_) L.forms, 0, p, ?_⟩
    · rw [e]; simp [depN, nIf, wIf, wThen, wElse, wBegin, wUntil, wWhile, wRepeat] <;> omega
    · rw [e]; simp [depN, nLo, wIf, wThen, wElse, wBegin, wUntil, wWhile, wRepeat] <;> omega
    · exact ⟨.inr (.inr (.inl rfl)), fun hk => absurd rfl hk, fun hk => by simp at hk, fun hk => by simp at hk, fun _ => ⟨by omega, e, he, hlen, Back.here⟩, fun hk => by simp at hk⟩
  · exact steps_none L.steps he (fun q hq hq1 hO => hO.imp (fun ⟨f, hf, hk⟩ => ⟨f, List.mem_append_left _ hf, hk⟩) id)

/-- The innermost form, where it is none of 0. -/
theorem lay_top (L : LayOk T p R) (hk : R.top.1 ≠ 0) : FormsT T p R.forms.dropLast [R.top] ∧ ∃ q g, FormAt T p R.top q g 0 0 := by
  have hF := L.forms
  rw [top_split hk, formsT_snoc] at hF
  obtain ⟨h1, q, g, h2⟩ := hF
  exact ⟨h1, q, g, h2⟩
theorem open_rest {q : Nat} {x : Int} (hk : R.top.1 ≠ 0) (hx : R.top.1 ≠ 3 → R.top.2.2 = x) (hne : (stepOf T q : Int) ≠ x) (hO : openAt T R q) : (∃ f ∈ R.forms.dropLast, f.1 ≠ 3 ∧ f.2.2 = (stepOf T q : Nat)) ∨ (R.inside = true ∧ R.first = (stepOf T q : Nat) + 1) := by
  refine hO.imp ?_ id
  rintro ⟨f, hf, h3, h4⟩
  rw [top_split hk] at hf
  rcases List.mem_append.1 hf with hf | hf
  · exact ⟨f, hf, h3, h4⟩
  · simp at hf
    subst hf
    have := hx h3
    omega

theorem lay_then (h : Sim T p R O I) (L : LayOk T p R) (hp : p < T.length) (e : wAt T p = wThen) (ht : R.top.1 = 1 ∨ R.top.1 = 2) : LayOk T (p + 1) (R.pop.aim R.top.2.2) := by
  have he : emits T p = 0 := h.emit0 (.inl e)
  have hk : R.top.1 ≠ 0 := by omega
  obtain ⟨hF, q, g, hf⟩ := lay_top L hk
  obtain ⟨hq, hq1, hqx⟩ := hf.hole (by omega)
  have hstep : stepOf T (p + 1) = stepOf T p := by show stepOf T p + emits T p = _; omega
  refine ⟨?_, ?_, tgt_next L.tgt (fun h1 => by omega)⟩
  · refine formsT_step (tail := [R.top]) (tail' := []) hp (fun _ => ?_) (fun hw => by rw [e] at hw; exact absurd hw (by decide)) (fun n => ?_) (fun n => ?_) hF
    · rcases ht with ht | ht <;> simp [nIf, ht]
    · rw [e]; rcases ht with ht | ht <;> simp [depN, nIf, ht, wIf, wThen, wElse, wBegin, wUntil, wWhile, wRepeat] <;> omega
    · rw [e]; rcases ht with ht | ht <;> simp [depN, nLo, ht, wIf, wThen, wElse, wBegin, wUntil, wWhile, wRepeat] <;> omega
  · refine steps_aim (steps_none L.steps he (fun q hq hq1 hO => hO)) ?_ ?_
    · intro q' hq' hq1' hx
      have : q' = q := stepOf_inj T hq1' hq1 (by omega)
      subst this
      have hl : ((R.steps.length : Nat) : Int) = (stepOf T (p + 1) : Nat) := by rw [h.len, hstep]
      show argAt T q' = (R.steps.length : Int)
      rw [hl]
      rcases ht with ht | ht
      · obtain ⟨w1, w2⟩ := hf.one ht
        rw [(op_if (.inl w1)).2]
        unfold goesN
        rw [if_pos w1, w2.hit hp (by rw [e]; decide)]
      · obtain ⟨w1, w2⟩ := hf.two ht
        rw [(op_else w1).2, w2.hit hp (by rw [e]; decide)]
    · intro q' hq' hq1' hne hO
      exact open_rest hk (fun _ => rfl) hne hO

theorem lay_else (h : Sim T p R O I) (L : LayOk T p R) (hp : p < T.length) (e : wAt T p = wElse) (ht : R.top.1 = 1) : LayOk T (p + 1) (((R.pop.push 2 0 R.len).add 2 0).aim R.top.2.2) := by
  have he : emits T p = 1 := h.emit1 (by rw [e]; decide) (by rw [e]; decide)
  have hlen : R.len = (stepOf T p : Nat) := by unfold Rd.len; rw [h.len]
  have hk : R.top.1 ≠ 0 := by omega
  obtain ⟨hF, q, g, hf⟩ := lay_top L hk
  obtain ⟨hq, hq1, hqx⟩ := hf.hole (by omega)
  have hstep : stepOf T (p + 1) = stepOf T p + 1 := by show stepOf T p + emits T p = _; omega
  refine ⟨?_, ?_, tgt_next L.tgt (fun _ => tgt_plain (by rw [e]; decide) (by rw [e]; decide) (by rw [e]; decide) (by rw [e]; decide))⟩
  · show FormsT T (p + 1) (R.forms.dropLast ++ [(2, 0, R.len)]) []
    rw [formsT_snoc]
    refine ⟨formsT_step (tail := [R.top]) hp (fun _ => by simp [nIf, ht]) (fun hw => by rw [e] at hw; exact absurd hw (by decide)) (fun n => ?_) (fun n => ?_) hF, p, 0, ?_⟩
    · rw [e]; simp [depN, nIf, ht, wIf, wThen, wElse, wBegin, wUntil, wWhile, wRepeat] <;> omega
    · rw [e]; simp [depN, nLo, ht, wIf, wThen, wElse, wBegin, wUntil, wWhile, wRepeat] <;> omega
    · exact ⟨.inr (.inl rfl), fun _ => ⟨by omega, he, hlen⟩, fun hk => by simp at hk, fun _ => ⟨e, Reach.here⟩, fun hk => by simp at hk, fun hk => by simp at hk⟩
  · have hadd : StepsP T (p + 1) (R.steps ++ [(2, 0)]) (fun q' => openAt T R q' ∨ q' = p) := steps_add L.steps h.len he (op_else e).1.symm (.inr (.inr rfl)) (fun q hq hq1 hO => .inl hO)
    refine steps_aim hadd ?_ ?_
    · intro q' hq' hq1' hx
      have : q' = q := stepOf_inj T hq1' hq1 (by omega)
      subst this
      have hl : (((R.steps ++ [((2 : Int), (0 : Int))]).length : Nat) : Int) = (stepOf T (p + 1) : Nat) := by simp [h.len, hstep]
      show argAt T q' = (((R.steps ++ [((2 : Int), (0 : Int))]).length : Nat) : Int)
      rw [hl]
      obtain ⟨w1, w2⟩ := hf.one ht
      rw [(op_if (.inl w1)).2]
      unfold goesN
      rw [if_pos w1, w2.hit hp (by rw [e]; decide)]
    · intro q' hq' hq1' hne hO
      rcases hO with hO | rfl
      · exact (open_rest hk (fun _ => rfl) hne hO).imp (fun ⟨f, hf, hk⟩ => ⟨f, List.mem_append_left _ hf, hk⟩) id
      · exact .inl ⟨(2, 0, R.len), by simp [Rd.push, Rd.add, Rd.aim], by simp, hlen⟩

theorem lay_until (h : Sim T p R O I) (L : LayOk T p R) (hp : p < T.length) (e : wAt T p = wUntil) (ht : R.top.1 = 3) : LayOk T (p + 1) (R.pop.add 3 R.top.2.1) := by
  have he : emits T p = 1 := h.emit1 (by rw [e]; decide) (by rw [e]; decide)
  have hk : R.top.1 ≠ 0 := by omega
  obtain ⟨hF, q, g, hf⟩ := lay_top L hk
  obtain ⟨g1, g2, g3, g4, g5⟩ := hf.loop (.inl ht)
  have hb := g5.top g2
  have hsg : stepOf T (g + 1) = stepOf T g := by show stepOf T g + emits T g = _; omega
  refine ⟨?_, ?_, tgt_next L.tgt (fun _ => ⟨fun _ => by rw [hb]; exact good_succ (by rw [g2]; decide), fun h => by rw [e] at h; exact absurd h (by decide), fun h => absurd (by rw [e]; decide) h, fun h => absurd (by rw [e]; decide) h⟩)⟩
  · refine formsT_step (tail := [R.top]) (tail' := []) hp (fun hw => by rw [e] at hw; exact absurd hw (by decide)) (fun hw => by rw [e] at hw; exact absurd hw (by decide)) (fun n => ?_) (fun n => ?_) hF
    · rw [e]; simp [depN, nIf, ht, wIf, wThen, wElse, wBegin, wUntil, wWhile, wRepeat] <;> omega
    · rw [e]; simp [depN, nLo, ht, wIf, wThen, wElse, wBegin, wUntil, wWhile, wRepeat] <;> omega
  · refine steps_add L.steps h.len he (op_if (.inr (.inr e))).1.symm (.inl ?_) (fun q' hq hq1 hO => ?_)
    · rw [(op_if (.inr (.inr e))).2]
      unfold goesN
      rw [if_neg (by rw [e]; decide), if_neg (by rw [e]; decide), hb, hsg, g4]
    · refine hO.imp ?_ id
      rintro ⟨f, hf, h3, h4⟩
      rw [top_split hk] at hf
      rcases List.mem_append.1 hf with hf | hf
      · exact ⟨f, hf, h3, h4⟩
      · simp at hf; subst hf; exact absurd ht h3

theorem lay_while (h : Sim T p R O I) (L : LayOk T p R) (hp : p < T.length) (e : wAt T p = wWhile) (ht : R.top.1 = 3) : LayOk T (p + 1) ((R.pop.push 4 R.top.2.1 R.len).add 3 R.top.2.1) := by
  have he : emits T p = 1 := h.emit1 (by rw [e]; decide) (by rw [e]; decide)
  have hlen : R.len = (stepOf T p : Nat) := by unfold Rd.len; rw [h.len]
  have hk : R.top.1 ≠ 0 := by omega
  obtain ⟨hF, q, g, hf⟩ := lay_top L hk
  obtain ⟨g1, g2, g3, g4, g5⟩ := hf.loop (.inl ht)
  have hst := g5.step (by omega)
  have hdep : depN 0 (wAt T p) wBegin wRepeat = 0 := by rw [e]; decide
  rw [hdep] at hst
  refine ⟨?_, ?_, tgt_next L.tgt (fun _ => tgt_plain (by rw [e]; decide) (by rw [e]; decide) (by rw [e]; decide) (by rw [e]; decide))⟩
  · show FormsT T (p + 1) (R.forms.dropLast ++ [(4, R.top.2.1, R.len)]) []
    rw [formsT_snoc]
    refine ⟨formsT_step (tail := [R.top]) hp (fun hw => by rw [e] at hw; exact absurd hw (by decide)) (fun hw => by rw [e] at hw; exact absurd hw (by decide)) (fun n => ?_) (fun n => ?_) hF, p, g, ?_⟩
    · rw [e]; simp [depN, nIf, ht, wIf, wThen, wElse, wBegin, wUntil, wWhile, wRepeat] <;> omega
    · rw [e]; simp [depN, nLo, ht, wIf, wThen, wElse, wBegin, wUntil, wWhile, wRepeat] <;> omega
    · exact ⟨.inr (.inr (.inr rfl)), fun _ => ⟨by omega, he, hlen⟩, fun hk => by simp at hk, fun hk => by simp at hk, fun _ => ⟨by omega, g2, g3, g4, hst⟩, fun _ => ⟨e, Reach.here⟩⟩
  · refine steps_add L.steps h.len he (op_if (.inr (.inl e))).1.symm (.inr (.inl ⟨(4, R.top.2.1, R.len), by simp [Rd.push, Rd.add], by simp, hlen⟩)) (fun q' hq hq1 hO => ?_)
    refine hO.imp ?_ id
    rintro ⟨f, hf, h3, h4⟩
    rw [top_split hk] at hf
    rcases List.mem_append.1 hf with hf | hf
    · exact ⟨f, List.mem_append_left _ hf, h3, h4⟩
    · simp at hf; subst hf; exact absurd ht h3

theorem lay_repeat (h : Sim T p R O I) (L : LayOk T p R) (hp : p < T.length) (e : wAt T p = wRepeat) (ht : R.top.1 = 4) : LayOk T (p + 1) ((R.pop.add 2 R.top.2.1).aim R.top.2.2) := by
  have he : emits T p = 1 := h.emit1 (by rw [e]; decide) (by rw [e]; decide)
  have hk : R.top.1 ≠ 0 := by omega
  obtain ⟨hF, q, g, hf⟩ := lay_top L hk
  obtain ⟨hq, hq1, hqx⟩ := hf.hole (by omega)
  obtain ⟨g1, g2, g3, g4, g5⟩ := hf.loop (.inr ht)
  have hb := g5.top g2
  have hsg : stepOf T (g + 1) = stepOf T g := by show stepOf T g + emits T g = _; omega
  have hstep : stepOf T (p + 1) = stepOf T p + 1 := by show stepOf T p + emits T p = _; omega
  refine ⟨?_, ?_, tgt_next L.tgt (fun _ => ⟨fun _ => by rw [hb]; exact good_succ (by rw [g2]; decide), fun h => by rw [e] at h; exact absurd h (by decide), fun h => absurd (by rw [e]; decide) h, fun h => absurd (by rw [e]; decide) h⟩)⟩
  · refine formsT_step (tail := [R.top]) (tail' := []) hp (fun hw => by rw [e] at hw; exact absurd hw (by decide)) (fun _ => by simp [nLo, ht]) (fun n => ?_) (fun n => ?_) hF
    · rw [e]; simp [depN, nIf, ht, wIf, wThen, wElse, wBegin, wUntil, wWhile, wRepeat] <;> omega
    · rw [e]; simp [depN, nLo, ht, wIf, wThen, wElse, wBegin, wUntil, wWhile, wRepeat] <;> omega
  · have hadd : StepsP T (p + 1) (R.steps ++ [(2, R.top.2.1)]) (openAt T R) := by
      refine steps_add L.steps h.len he (op_repeat e).1.symm (.inl ?_) (fun q hq hq1 hO => hO)
      rw [(op_repeat e).2, hb, hsg, g4]
    refine steps_aim hadd ?_ ?_
    · intro q' hq' hq1' hx
      have : q' = q := stepOf_inj T hq1' hq1 (by omega)
      subst this
      have hl : (((R.steps ++ [((2 : Int), R.top.2.1)]).length : Nat) : Int) = (stepOf T (p + 1) : Nat) := by simp [h.len, hstep]
      show argAt T q' = (((R.steps ++ [((2 : Int), R.top.2.1)]).length : Nat) : Int)
      rw [hl]
      obtain ⟨w1, w2⟩ := hf.four ht
      rw [(op_if (.inr (.inl w1))).2]
      unfold goesN
      rw [if_neg (by rw [w1]; decide), if_pos w1, w2.hit hp (by rw [e]; decide)]
    · intro q' hq' hq1' hne hO
      exact open_rest hk (fun _ => rfl) hne hO

theorem lay_semi (h : Sim T p R O I) (L : LayOk T p R) (hp : p < T.length) (e : wAt T p = [59]) (hi : R.inside = true) (hfm : R.forms = []) : LayOk T (p + 1) R.ended := by
  have he : emits T p = 1 := h.emit1 (by rw [e]; decide) (by rw [e]; decide)
  obtain ⟨q0, a1, a2, a3, a4, a5, a6⟩ := h.opn (by rw [← h.ins]; exact hi)
  have hem0 : emits T q0 = 1 := by
    unfold emits
    have hcol := h.col
    have : ¬ (0 < q0 ∧ wAt T (q0 - 1) = [58]) := by
      rintro ⟨h1, h2⟩
      have := (h.col (q0 - 1) (by omega) h2).2
      rw [show q0 - 1 + 1 = q0 by omega, a2] at this
      revert this; decide
    rw [if_neg this, if_neg (by rw [a2]; decide)]
  have hem1 : emits T (q0 + 1) = 0 := by unfold emits; rw [if_pos ⟨by omega, by rw [show q0 + 1 - 1 = q0 by omega]; exact a2⟩]
  have hs2 : stepOf T (q0 + 2) = stepOf T q0 + 1 := by
    show stepOf T q0 + emits T q0 + emits T (q0 + 1) = _; omega
  have hstep : stepOf T (p + 1) = stepOf T p + 1 := by show stepOf T p + emits T p = _; omega
  have hend : endsM T q0 = p := by have := ends_le_of T _ q0 p rfl (by omega) hp e; omega
  refine ⟨?_, ?_, tgt_next L.tgt (fun _ => tgt_plain (by rw [e]; decide) (by rw [e]; decide) (by rw [e]; decide) (by rw [e]; decide))⟩
  · show FormsT T (p + 1) R.forms []
    rw [hfm]; trivial
  · have hadd : StepsP T (p + 1) (R.steps ++ [(5, 0)]) (openAt T R) := steps_add L.steps h.len he (op_ret (.inr e)).1.symm (.inl (op_ret (.inr e)).2.symm) (fun q hq hq1 hO => hO)
    show StepsP T (p + 1) (aimI (R.steps ++ [(5, 0)]) (R.first - 1)) _
    refine steps_aim hadd ?_ ?_
    · intro q' hq' hq1' hx
      have : q' = q0 := stepOf_inj T hq1' hem0 (by omega)
      subst this
      have hl : (((R.steps ++ [((5 : Int), (0 : Int))]).length : Nat) : Int) = (stepOf T (p + 1) : Nat) := by simp [h.len, hstep]
      rw [hl, (op_colon a2).2, hend]
    · intro q' hq' hq1' hne hO
      rcases hO with ⟨f, hf, _⟩ | ⟨_, h2⟩
      · rw [hfm] at hf; cases hf
      · exact absurd (show (stepOf T q' : Int) = R.first - 1 by omega) hne
end
end Go.Proofs.YtnanjomnldfidabGreatDoor

set_option linter.unusedSimpArgs false
set_option linter.unusedVariables false
set_option linter.unusedSectionVars false
namespace Go.Proofs.YtnanjomnldfidabGreatDoor

section
variable {T : Words} {p : Nat} {R : Rd} {O : List UInt8} {I : Bool}

theorem good_of_emits {q : Nat} (h : emits T q = 1) : Good T q := by
  intro hc
  unfold emits at h
  rw [if_pos hc] at h
  cases h

theorem refVal_digs (s : List UInt8) (hd : digs s = true) (hne : s ≠ []) {n : Int} (hv : numVal s = some n) : refVal s = n ∧ 0 ≤ n ∧ n < 65536 := by
  have hrd : refDigs s = true := by unfold refDigs; rw [hd]; cases s; exact absurd rfl hne; rfl
  have h0 := numOf_nonneg hd
  refine ⟨by unfold refVal; rw [if_pos hrd, hv], ?_⟩
  unfold numVal at hv
  by_cases h1 : 5 < s.length
  · rw [if_pos h1] at hv; cases hv
  · rw [if_neg h1] at hv
    by_cases h2 : 65535 < numOf s
    · rw [if_pos h2] at hv; cases hv
    · rw [if_neg h2] at hv
      simp only [Option.some.injEq] at hv
      omega

theorem lay_word (h : Sim T p R O I) (L : LayOk T p R) (hp : p < T.length) (hc : wAt T p ≠ [58]) (hne : wAt T p ≠ []) (he : (R.take (T.getD p (ByteArray.empty, 0)).1).1 = 0) : LayOk T (p + 1) (R.take (T.getD p (ByteArray.empty, 0)).1).2 := by
  have hw : (T.getD p (ByteArray.empty, 0)).1.toList = wAt T p := rfl
  have htake : R.take (T.getD p (ByteArray.empty, 0)).1 = if digs (wAt T p) = true then (match numVal (wAt T p) with | some n => (0, R.add 1 n) | none => (2, R)) else R.word (wAt T p) := by
    unfold Rd.take
    rw [if_neg (by rw [h.due]; decide), hw]
    rfl
  rw [htake] at he ⊢
  cases hf : isForm (wAt T p) with
  | true =>
    rw [if_neg (by rw [forms_digs hf]; decide)] at he ⊢
    have hm := (isForm_iff _).1 hf
    simp only [formsL, List.mem_cons, List.not_mem_nil, or_false] at hm
    rcases hm with e | e | e | e | e | e | e | e | e | e | e
    · have hr : R.word (wAt T p) = (0, (R.push 1 0 R.len).add 3 0) := by rw [e]; rfl
      rw [hr]
      exact lay_if h L hp e
    · have hr : R.word (wAt T p) = if R.top.1 = 1 then (0, ((R.pop.push 2 0 R.len).add 2 0).aim R.top.2.2) else (3, R) := by rw [e]; rfl
      rw [hr] at he ⊢
      by_cases ht : R.top.1 = 1
      · rw [if_pos ht]; exact lay_else h L hp e ht
      · rw [if_neg ht] at he; cases he
    · have hr : R.word (wAt T p) = if R.top.1 = 1 ∨ R.top.1 = 2 then (0, R.pop.aim R.top.2.2) else (3, R) := by rw [e]; rfl
      rw [hr] at he ⊢
      by_cases ht : R.top.1 = 1 ∨ R.top.1 = 2
      · rw [if_pos ht]; exact lay_then h L hp e ht
      · rw [if_neg ht] at he; cases he
    · have hr : R.word (wAt T p) = (0, R.push 3 R.len 0) := by rw [e]; rfl
      rw [hr]
      exact lay_begin h L hp e
    · have hr : R.word (wAt T p) = if R.top.1 = 3 then (0, R.pop.add 3 R.top.2.1) else (3, R) := by rw [e]; rfl
      rw [hr] at he ⊢
      by_cases ht : R.top.1 = 3
      · rw [if_pos ht]; exact lay_until h L hp e ht
      · rw [if_neg ht] at he; cases he
    · have hr : R.word (wAt T p) = if R.top.1 = 3 then (0, (R.pop.push 4 R.top.2.1 R.len).add 3 R.top.2.1) else (3, R) := by rw [e]; rfl
      rw [hr] at he ⊢
      by_cases ht : R.top.1 = 3
      · rw [if_pos ht]; exact lay_while h L hp e ht
      · rw [if_neg ht] at he; cases he
    · have hr : R.word (wAt T p) = if R.top.1 = 4 then (0, (R.pop.add 2 R.top.2.1).aim R.top.2.2) else (3, R) := by rw [e]; rfl
      rw [hr] at he ⊢
      by_cases ht : R.top.1 = 4
      · rw [if_pos ht]; exact lay_repeat h L hp e ht
      · rw [if_neg ht] at he; cases he
    · -- exit
      have hr : R.word (wAt T p) = if R.inside = true then (0, R.add 5 0) else (3, R) := by rw [e]; rfl
      rw [hr] at he ⊢
      by_cases ht : R.inside = true
      · rw [if_pos ht]
        exact lay_add h L hp (h.emit1 (by rw [e]; decide) (by rw [e]; decide)) (op_ret (.inl e)).1.symm (op_ret (.inl e)).2.symm (tgt_plain (by rw [e]; decide) (by rw [e]; decide) (by rw [e]; decide) (by rw [e]; decide)) (by rw [e]; decide) (by rw [e]; decide) (by rw [e]; decide) (by rw [e]; decide) (by rw [e]; decide) (by rw [e]; decide)
      · rw [if_neg ht] at he; cases he
    · -- recurse
      have hr : R.word (wAt T p) = if R.inside = true then (0, R.add 4 R.first) else (3, R) := by rw [e]; rfl
      rw [hr] at he ⊢
      by_cases ht : R.inside = true
      · rw [if_pos ht]
        obtain ⟨q0, a1, a2, a3, a4, a5, a6⟩ := h.opn (by rw [← h.ins]; exact ht)
        have hout : outerM T p = q0 + 2 := by
          unfold outerM
          rw [outer_is T q0 a2 (p - q0) p (by omega) ?_]
          intro q h1 h2 h3
          by_cases hqp : q = p
          · subst hqp; rw [e] at h3; revert h3; decide
          · have := a6 q (by omega) h3 (by omega); omega
        have hname := (h.col q0 (by omega) a2).2
        have hnc : wAt T (q0 + 1) ≠ [58] := fun hx => by rw [hx] at hname; revert hname; decide
        refine lay_add h L hp (h.emit1 (by rw [e]; decide) (by rw [e]; decide)) (op_rec e).1.symm (by rw [(op_rec e).2, hout, a5]) ⟨fun hx => by rw [e] at hx; exact absurd hx (by decide), fun _ => by rw [hout]; exact good_succ hnc, fun hx => absurd (by rw [e]; decide) hx, fun hx => absurd (by rw [e]; decide) hx⟩ (by rw [e]; decide) (by rw [e]; decide) (by rw [e]; decide) (by rw [e]; decide) (by rw [e]; decide) (by rw [e]; decide)
      · rw [if_neg ht] at he; cases he
    · exact absurd e hc
    · -- ;
      have hr : R.word (wAt T p) = if R.inside = false then (3, R) else if R.forms ≠ [] then (3, R) else (0, R.ended) := by rw [e]; rfl
      rw [hr] at he ⊢
      by_cases ht : R.inside = false
      · rw [if_pos ht] at he; cases he
      · rw [if_neg ht] at he ⊢
        by_cases hfm : R.forms ≠ []
        · rw [if_pos hfm] at he; cases he
        · rw [if_neg hfm]
          exact lay_semi h L hp e (by simpa using ht) (by simpa using hfm)
  | false =>
    have hnf : wAt T p ∉ formsL := fun hm => by rw [(isForm_iff _).2 hm] at hf; cases hf
    obtain ⟨g1, g2, g3, g4, g5, g6, g7, g8, g9, g10, g11⟩ := not_forms hnf
    simp only [beq_eq_false_iff_ne, ne_eq] at g1 g2 g3 g4 g5 g6 g7 g8 g9 g10 g11
    have he1 : emits T p = 1 := h.emit1 g3 g4
    have hmean := h.mean (wAt T p)
    have hback : ¬ (wAt T p = wUntil ∨ wAt T p = wRepeat) := fun hx => hx.elim g5 g7
    have hcolgood : 0 ≤ meaningM T p (wAt T p) → Good T (meaningM T p (wAt T p)).toNat := by
      rw [meaningM_dl T p (wAt T p) (fun q hq hcq => (h.col q hq hcq).1)]
      cases hfd : (dl T p).reverse.find? (fun q => wAt T (q + 1) == wAt T p) with
      | none => intro hx; simp at hx
      | some q =>
        intro _
        have hmem := List.mem_of_find?_eq_some hfd
        rw [List.mem_reverse] at hmem
        unfold dl at hmem
        obtain ⟨m1, m2⟩ := List.mem_filter.1 hmem
        simp at m1 m2
        have hname := (h.col q m1 m2.1).2
        have hnc : wAt T (q + 1) ≠ [58] := fun hx => by rw [hx] at hname; revert hname; decide
        show Good T ((q : Int) + 2).toNat
        rw [show ((q : Int) + 2).toNat = q + 1 + 1 by omega]
        exact good_succ hnc
    obtain ⟨o1, o2⟩ := op_other hnf
    cases hd : digs (wAt T p) with
    | true =>
      rw [hd, if_pos rfl] at he
      rw [if_pos rfl]
      have hm0 := h.meanDigs _ hd hne
      have hl0 : listRef (wAt T p) < 0 := by
        rw [listRef_neg]
        cases hl : listOk (wAt T p)
        · rfl
        · have := listed_digs hl; rw [hd] at this; cases this
      cases hv : numVal (wAt T p) with
      | none => rw [hv] at he; cases he
      | some n =>
        obtain ⟨v1, v2, v3⟩ := refVal_digs _ hd hne hv
        show LayOk T (p + 1) (R.add 1 n)
        refine lay_add h L hp he1 (by rw [o1, if_neg (by omega), if_neg (by omega)]) (by rw [o2, if_neg (by omega), if_neg (by omega), v1]) ⟨fun hx => (hback hx).elim, fun hx => (g9 hx).elim, fun _ hx => by omega, fun _ _ _ => by rw [v1]; exact ⟨v2, v3⟩⟩ g1 g3 g2 g4 g5 g7
    | false =>
      rw [hd, if_neg (by decide)] at he
      rw [if_neg (by decide)]
      have hrv : refVal (wAt T p) = -1 := by unfold refVal refDigs; rw [hd]; rfl
      have hword : R.word (wAt T p) = match lastDef R.defs (wAt T p) with | some n => (0, R.add 4 n) | none => if listOk (wAt T p) = true then (0, R.add (listOp (wAt T p)) 0) else (2, R) := by
        unfold Rd.word
        rw [if_neg g1, if_neg g2, if_neg g3, if_neg g4, if_neg g7, if_neg g5, if_neg g6, if_neg g10, if_neg g8, if_neg g9, if_neg g11]
        rfl
      rw [hword] at he ⊢
      cases hl : lastDef R.defs (wAt T p) with
      | some n =>
        obtain ⟨m1, m2⟩ := hmean.2 n hl
        show LayOk T (p + 1) (R.add 4 n)
        exact lay_add h L hp he1 (by rw [o1, if_pos m1]) (by rw [o2, if_pos m1, m2]) ⟨fun hx => (hback hx).elim, fun hx => (g9 hx).elim, fun _ => hcolgood, fun _ hx => by omega⟩ g1 g3 g2 g4 g5 g7
      | none =>
        have hm := hmean.1.2 hl
        rw [hl] at he
        cases ho : listOk (wAt T p) with
        | true =>
          have hlr : 0 ≤ listRef (wAt T p) ∧ listOp (wAt T p) = 16 + listRef (wAt T p) := by
            unfold listOk at ho
            simp at ho
            unfold listRef listOp
            rw [if_pos ho, if_pos ho]
            omega
          show LayOk T (p + 1) (if true = true then (0, R.add (listOp (wAt T p)) 0) else ((2 : Int), R)).2
          rw [if_pos rfl]
          exact lay_add h L hp he1 (by rw [o1, if_neg (by omega), if_pos hlr.1, hlr.2]) (by rw [o2, if_neg (by omega), if_pos hlr.1]) ⟨fun hx => (hback hx).elim, fun hx => (g9 hx).elim, fun _ hx => by omega, fun _ _ hx => by omega⟩ g1 g3 g2 g4 g5 g7
        | false =>
          rw [ho] at he
          cases he

theorem lay_colon (h : Sim T p R O I) (L : LayOk T p R) (hp : p + 1 < T.length) (e : wAt T p = [58]) (hi : R.inside = false) (hfm : R.forms = []) (hn : wAt T (p + 1) ≠ [58]) (t : ByteArray) : LayOk T (p + 2) ((({ R with due := true } : Rd).add (-1) 0).named t) := by
  have he : emits T p = 1 := h.emit1 (by rw [e]; decide) (by rw [e]; decide)
  have he1 : emits T (p + 1) = 0 := by unfold emits; rw [if_pos ⟨by omega, e⟩]
  have hadd : StepsP T (p + 1) (R.steps ++ [(-1, 0)]) (fun q' => openAt T R q' ∨ q' = p) := steps_add L.steps h.len he (op_colon e).1.symm (.inr (.inr rfl)) (fun q hq hq1 hO => .inl hO)
  refine ⟨?_, ?_, tgt_next (tgt_next L.tgt (fun _ => tgt_plain (by rw [e]; decide) (by rw [e]; decide) (by rw [e]; decide) (by rw [e]; decide))) (fun hx => by omega)⟩
  · show FormsT T (p + 2) R.forms []
    rw [hfm]; trivial
  · refine steps_none hadd he1 (fun q hq hq1 hO => ?_)
    rcases hO with (⟨f, hf, _⟩ | ⟨hx, _⟩) | rfl
    · rw [hfm] at hf; cases hf
    · rw [hi] at hx; cases hx
    · refine .inr ⟨rfl, ?_⟩
      show (((R.steps ++ [((-1 : Int), (0 : Int))]).length : Nat) : Int) = _
      simp [h.len]
end

theorem Rd.read_err (R : Rd) (t : ByteArray) (a : Nat) (r : List (ByteArray × Nat)) (h : (R.read ((t, a) :: r)).1 = 0) : (R.take t).1 = 0 := by
  by_cases h0 : (R.take t).1 = 0
  · exact h0
  · rw [Rd.read_no R t a r h0] at h; exact absurd h h0

theorem lay_all (T : Words) (hne : ∀ p, p < T.length → wAt T p ≠ []) : ∀ m p R O I, T.length - p = m → p ≤ T.length → Sim T p R O I → LayOk T p R → (R.read (T.drop p)).1 = 0 → (R.read (T.drop p)).2.2.fin = 0 →
    ∃ O' I', Sim T T.length (R.read (T.drop p)).2.2 O' I' ∧ LayOk T T.length (R.read (T.drop p)).2.2 := by
  intro m
  induction m using Nat.strongRecOn with
  | _ m ih =>
  intro p R O I hm hp h L hr hf
  by_cases hlt : p < T.length
  · have hd := drop_at T p hlt
    have hx : T.getD p (ByteArray.empty, 0) = ((T.getD p (ByteArray.empty, 0)).1, (T.getD p (ByteArray.empty, 0)).2) := rfl
    rw [hd, hx] at hr hf ⊢
    have he := Rd.read_err _ _ _ _ hr
    rw [Rd.read_yes _ _ _ _ he] at hr hf ⊢
    by_cases hc : wAt T p = [58]
    · obtain ⟨h1, h2⟩ := h.colon hlt hc
      rw [h1] at he
      obtain ⟨h3, h4⟩ := h2 he
      have htake : R.take (T.getD p (ByteArray.empty, 0)).1 = if R.inside = true ∨ R.forms ≠ [] then (3, R) else (0, ({ R with due := true } : Rd).add (-1) 0) := by
        unfold Rd.take
        rw [if_neg (by rw [h.due]; decide), show (T.getD p (ByteArray.empty, 0)).1.toList = wAt T p from rfl, hc]
        rfl
      have hcond : ¬ (R.inside = true ∨ R.forms ≠ []) := by
        intro hcc
        rw [htake, if_pos hcc] at h1
        rw [← h1] at he
        cases he
      rw [if_neg hcond] at htake
      have hins : R.inside = false := by cases hb : R.inside; rfl; exact absurd (.inl hb) hcond
      have hfms : R.forms = [] := by
        by_cases hb : R.forms = []
        · exact hb
        · exact absurd (.inr hb) hcond
      by_cases hl : p + 1 < T.length
      · have hd2 := drop_at T (p + 1) hl
        have hx2 : T.getD (p + 1) (ByteArray.empty, 0) = ((T.getD (p + 1) (ByteArray.empty, 0)).1, (T.getD (p + 1) (ByteArray.empty, 0)).2) := rfl
        obtain ⟨h5, h6⟩ := h4 _ hl rfl (hne _ hl)
        rw [hd2, hx2] at hr hf ⊢
        have he2 := Rd.read_err _ _ _ _ hr
        rw [Rd.read_yes _ _ _ _ he2] at hr hf ⊢
        have hn : refName (wAt T (p + 1)) = true := by
          rw [he2] at h5
          by_cases hn : refName (wAt T (p + 1)) = true
          · exact hn
          · rw [if_neg hn] at h5; cases h5
        have hnc : wAt T (p + 1) ≠ [58] := fun hx => by rw [hx] at hn; revert hn; decide
        have hnm : ((R.take (T.getD p (ByteArray.empty, 0)).1).2.take (T.getD (p + 1) (ByteArray.empty, 0)).1).2 = (({ R with due := true } : Rd).add (-1) 0).named (T.getD (p + 1) (ByteArray.empty, 0)).1 := by
          rw [htake]
          unfold Rd.take
          rw [if_pos (show (({ R with due := true } : Rd).add (-1) 0).due = true from rfl), show (T.getD (p + 1) (ByteArray.empty, 0)).1.toList = wAt T (p + 1) from rfl]
          rw [name_eq (hne _ hl)] at hn
          rw [if_pos hn]
        have L2 : LayOk T (p + 2) ((R.take (T.getD p (ByteArray.empty, 0)).1).2.take (T.getD (p + 1) (ByteArray.empty, 0)).1).2 := by
          rw [hnm]; exact lay_colon h L hl hc hins hfms hnc _
        exact ih (T.length - (p + 2)) (by omega) (p + 2) _ _ _ rfl (by omega) (h6 hn) L2 hr hf
      · exfalso
        rw [List.drop_of_length_le (by omega), Rd.read_nil] at hf
        generalize (R.take (T.getD p (ByteArray.empty, 0)).1).2 = R2 at h3 hf
        have hf' : R2.fin = 0 := hf
        unfold Rd.fin at hf'
        rw [if_pos h3] at hf'
        cases hf'
    · obtain ⟨h1, h2⟩ := h.word hlt hc (hne p hlt)
      have L2 := lay_word h L hlt hc (hne p hlt) he
      rw [h1] at he
      exact ih (T.length - (p + 1)) (by omega) (p + 1) _ _ _ rfl (by omega) (h2 he) L2 hr hf
  · have hpe : p = T.length := by omega
    subst hpe
    rw [List.drop_of_length_le (Nat.le_refl _), Rd.read_nil]
    exact ⟨O, I, h, L⟩

/-- What the steps of a program are. -/
structure Laid (T : Words) (S : List (Int × Int)) : Prop where
  len : S.length = stepOf T T.length
  steps : ∀ q, q < T.length → emits T q = 1 → S[stepOf T q]? = some (opAt T q, argAt T q)
  tgt : ∀ q, q < T.length → emits T q = 1 → TgtOk T q
  col : ∀ q, q < T.length → wAt T q = [58] → q + 1 < T.length ∧ refName (wAt T (q + 1)) = true

theorem LayOk.fresh (T : Words) : LayOk T 0 Rd.fresh := ⟨trivial, (fun q hq => by omega), (fun q hq => by omega)⟩
theorem laid_of_read (s : ByteArray) (he : (readM s).1 = 0) : Laid (toksFrom s 0) (readM s).2.2.steps ∧ s.size ≤ 400 := by
  by_cases hl : 400 < s.size
  · unfold readM at he; rw [if_pos hl] at he; cases he
  · have h1 : (Rd.fresh.read (toksFrom s 0)).1 = 0 := by
      by_cases h1 : (Rd.fresh.read (toksFrom s 0)).1 ≠ 0
      · unfold readM at he; rw [if_neg hl, if_pos h1] at he; exact absurd he h1
      · simpa using h1
    have h2 : (Rd.fresh.read (toksFrom s 0)).2.2.fin = 0 := by
      by_cases h2 : (Rd.fresh.read (toksFrom s 0)).2.2.fin ≠ 0
      · unfold readM at he; rw [if_neg hl, if_neg (by simp [h1]), if_pos h2] at he; exact absurd he h2
      · simpa using h2
    have hrm : readM s = (0, 0, (Rd.fresh.read (toksFrom s 0)).2.2) := by unfold readM; rw [if_neg hl, if_neg (by simp [h1]), if_neg (by simp [h2])]
    obtain ⟨O, I, hS, hL⟩ := lay_all (toksFrom s 0) (toks_ne s) _ 0 Rd.fresh [] false rfl (Nat.zero_le _) (Sim.fresh _) (LayOk.fresh _) (by rw [List.drop_zero]; exact h1) (by rw [List.drop_zero]; exact h2)
    rw [List.drop_zero] at hS hL
    rw [hrm]
    generalize (Rd.fresh.read (toksFrom s 0)).2.2 = R at h2 hS hL
    have hno : R.inside = false ∧ R.forms = [] := by
      unfold Rd.fin at h2
      rw [if_neg (by rw [hS.due]; decide)] at h2
      by_cases hc : R.inside = true ∨ R.forms ≠ []
      · rw [if_pos hc] at h2; cases h2
      · refine ⟨?_, ?_⟩
        · cases hb : R.inside; rfl; exact absurd (.inl hb) hc
        · by_cases hb : R.forms = []
          · exact hb
          · exact absurd (.inr hb) hc
    refine ⟨⟨hS.len, fun q hq hq1 => ?_, hL.tgt, fun q hq hc => hS.col q hq hc⟩, by omega⟩
    obtain ⟨a, a1, a2⟩ := hL.steps q hq hq1
    rcases a2 with a2 | ⟨f, hf, _⟩ | ⟨hx, _⟩
    · rw [← a2]; exact a1
    · rw [hno.2] at hf; cases hf
    · rw [hno.1] at hx; cases hx
end Go.Proofs.YtnanjomnldfidabGreatDoor
