/-
  The words of a text, by its list of bytes: what a text made of two falls into.
  A plain program within another one: what the reader makes of it. Plain mathematics.
  A plain program within another one: one word, all words. Plain mathematics.
  A run of steps; a plain program's run within another one's. Plain mathematics.
  A plain program's run within another one's. Plain mathematics.
-/
import Derived.Test.YtnanjomnldfidabGreatDoorRefLeafToRefChk
import Derived.Test.YtnanjomnldfidabGreatDoorLayPureToLayAll
import Derived.Test.YtnanjomnldfidabGreatDoorRunSim
import Derived.Test.YtnanjomnldfidabGreatDoorMaKeep
import Derived.Test.YtnanjomnldfidabGreatDoorRuns
set_option linter.unusedSimpArgs false
set_option linter.unusedVariables false
set_option linter.unusedSectionVars false
namespace Go.Proofs.YtnanjomnldfidabGreatDoor

/-- The words of a list of bytes: pos: where we are; cur: the word so far, which began at st. -/
def lexL : List UInt8 → Nat → List UInt8 → Nat → List (List UInt8 × Nat)
  | [], _, cur, st => if cur = [] then [] else [(cur, st)]
  | c :: l, pos, cur, st =>
    if c.toNat ≤ 32 then (if cur = [] then lexL l (pos + 1) [] (pos + 1) else (cur, st) :: lexL l (pos + 1) [] (pos + 1))
    else lexL l (pos + 1) (cur ++ [c]) st
def asTok (x : List UInt8 × Nat) : ByteArray × Nat := (⟨x.1.toArray⟩, x.2)

theorem take_drop_snoc (l : List UInt8) (fr i : Nat) (c : UInt8) (hfi : fr ≤ i) (h : l[i]? = some c) : (l.take (i + 1)).drop fr = (l.take i).drop fr ++ [c] := by
  obtain ⟨hi, hc⟩ := List.getElem?_eq_some_iff.1 h
  rw [List.take_succ_eq_append_getElem hi, List.drop_append_of_le_length (by simp; omega), hc]

theorem lex_eq (s : ByteArray) : ∀ n fr i, s.size - i = n → fr ≤ i → i ≤ s.size → (∀ j (h : j < s.size), fr ≤ j → j < i → 32 < (s[j].toNat : Int)) →
    toksFrom s fr = (lexL (s.toList.drop i) i ((s.toList.take i).drop fr) fr).map asTok
  | 0, fr, i, hn, hfi, hi, hall => by
    have e : i = s.size := by omega
    have hcl : ((s.toList.take i).drop fr).length = i - fr := by rw [List.length_drop, List.length_take, toList_len]; omega
    rw [List.drop_of_length_le (by rw [toList_len]; omega), lexL]
    by_cases hf : fr = i
    · rw [if_pos (List.eq_nil_of_length_eq_zero (by omega)), toks_end s fr (by omega)]
      rfl
    · rw [if_neg (fun h => by rw [h] at hcl; simp at hcl; omega), toks_word s fr i (by omega) hi hall (fun h => by omega), toks_end s i e]
      have : s.extract fr i = ⟨((s.toList.take i).drop fr).toArray⟩ := eq_mk (toList_extract s fr i)
      rw [this]
      rfl
  | n + 1, fr, i, hn, hfi, hi, hall => by
    have hlt : i < s.size := by omega
    have hlt2 : i < s.toList.length := by rw [toList_len]; exact hlt
    have hcl : ((s.toList.take i).drop fr).length = i - fr := by rw [List.length_drop, List.length_take, toList_len]; omega
    have hci : s.toList[i] = s[i] := by
      have : s.toList[i]? = some s[i] := by
        rw [ByteArray.toList_eq]
        have : i < s.data.toList.length := by rw [len_data]; exact hlt
        rw [List.getElem?_eq_getElem this]
        rfl
      rw [List.getElem?_eq_getElem hlt2] at this
      exact Option.some.inj this
    rw [List.drop_eq_getElem_cons hlt2, lexL, hci]
    by_cases hb : s[i].toNat ≤ 32
    · rw [if_pos hb]
      have ih := lex_eq s n (i + 1) (i + 1) (by omega) (Nat.le_refl _) (by omega) (fun j h h1 h2 => by omega)
      have e0 : (s.toList.take (i + 1)).drop (i + 1) = [] := List.drop_of_length_le (by rw [List.length_take]; omega)
      rw [e0] at ih
      by_cases hf : fr = i
      · rw [if_pos (List.eq_nil_of_length_eq_zero (by omega)), ← ih, hf, toks_blank s i hlt (by omega)]
      · rw [if_neg (fun h => by rw [h] at hcl; simp at hcl; omega), List.map_cons, ← ih, toks_word s fr i (by omega) (by omega) hall (fun h => by omega), toks_blank s i hlt (by omega)]
        have : s.extract fr i = ⟨((s.toList.take i).drop fr).toArray⟩ := eq_mk (toList_extract s fr i)
        rw [this]
        rfl
    · rw [if_neg hb]
      have ih := lex_eq s n fr (i + 1) (by omega) (by omega) (by omega) (fun j h h1 h2 => by
        by_cases e : j = i
        · subst e; omega
        · exact hall j h h1 (by omega))
      rw [take_drop_snoc s.toList fr i s[i] hfi (by rw [List.getElem?_eq_getElem hlt2, hci])] at ih
      exact ih
theorem toks_lex (s : ByteArray) : toksFrom s 0 = (lexL s.toList 0 [] 0).map asTok := by
  have := lex_eq s s.size 0 0 (by omega) (Nat.le_refl _) (Nat.zero_le _) (fun j h h1 h2 => by omega)
  simpa using this

/-- Places moved on. -/
def shiftL (d : Nat) (T : List (List UInt8 × Nat)) : List (List UInt8 × Nat) := T.map fun x => (x.1, x.2 + d)
theorem lex_shift (d : Nat) : ∀ (l : List UInt8) (pos : Nat) (cur : List UInt8) (st : Nat), lexL l (pos + d) cur (st + d) = shiftL d (lexL l pos cur st)
  | [], pos, cur, st => by unfold lexL shiftL; split <;> rfl
  | c :: l, pos, cur, st => by
    unfold lexL
    have h1 := lex_shift d l (pos + 1) [] (pos + 1)
    have h2 := lex_shift d l (pos + 1) (cur ++ [c]) st
    rw [show pos + d + 1 = pos + 1 + d by omega]
    split
    · split
      · exact h1
      · rw [h1]; rfl
    · exact h2
/-- A text of two whose first ends in a blank, or whose second begins with one. -/
theorem lex_append_blank (b : List UInt8) (hb : ∃ c b', b = c :: b' ∧ c.toNat ≤ 32) : ∀ (a : List UInt8) (pos : Nat) (cur : List UInt8) (st : Nat), lexL (a ++ b) pos cur st = lexL a pos cur st ++ lexL b (pos + a.length) [] (pos + a.length)
  | [], pos, cur, st => by
    obtain ⟨c, b', rfl, hc⟩ := hb
    simp only [List.nil_append, List.length_nil, Nat.add_zero]
    unfold lexL
    rw [if_pos hc, if_pos hc, if_pos rfl]
    split <;> rfl
  | c :: l, pos, cur, st => by
    rw [List.cons_append]
    have h1 := lex_append_blank b hb l (pos + 1) [] (pos + 1)
    have h2 := lex_append_blank b hb l (pos + 1) (cur ++ [c]) st
    rw [show pos + 1 + l.length = pos + (c :: l).length by simp; omega] at h1 h2
    conv => lhs; unfold lexL
    conv => rhs; arg 1; unfold lexL
    split
    · split
      · exact h1
      · rw [h1]; rfl
    · exact h2
theorem lex_append_after (b : List UInt8) : ∀ (a : List UInt8) (c : UInt8), c.toNat ≤ 32 → ∀ (pos : Nat) (cur : List UInt8) (st : Nat), lexL ((a ++ [c]) ++ b) pos cur st = lexL (a ++ [c]) pos cur st ++ lexL b (pos + a.length + 1) [] (pos + a.length + 1)
  | [], c, hc, pos, cur, st => by
    simp only [List.nil_append, List.cons_append, List.length_nil, Nat.add_zero]
    have e : lexL [] (pos + 1) [] (pos + 1) = [] := by unfold lexL; rfl
    generalize hX : lexL b (pos + 1) [] (pos + 1) = X
    unfold lexL
    rw [if_pos hc, if_pos hc, e, hX]
    split <;> rfl
  | x :: l, c, hc, pos, cur, st => by
    rw [List.cons_append, List.cons_append]
    have h1 := lex_append_after b l c hc (pos + 1) [] (pos + 1)
    have h2 := lex_append_after b l c hc (pos + 1) (cur ++ [x]) st
    rw [show pos + 1 + l.length + 1 = pos + (x :: l).length + 1 by simp; omega] at h1 h2
    conv => lhs; unfold lexL
    conv => rhs; arg 1; unfold lexL
    split
    · split
      · exact h1
      · rw [h1]; rfl
    · exact h2

def shiftT (d : Nat) (T : Words) : Words := T.map fun x => (x.1, x.2 + d)
theorem map_shift (d : Nat) (T : List (List UInt8 × Nat)) : (shiftL d T).map asTok = shiftT d (T.map asTok) := by
  simp [shiftL, shiftT, asTok]
theorem toks_two_blank (a b : ByteArray) (hb : ∃ c b', b.toList = c :: b' ∧ c.toNat ≤ 32) : toksFrom (a ++ b) 0 = toksFrom a 0 ++ shiftT a.size (toksFrom b 0) := by
  rw [toks_lex, toks_lex, toks_lex, toList_append, lex_append_blank _ hb, List.map_append]
  have := lex_shift a.toList.length b.toList 0 [] 0
  rw [this, map_shift, toList_len]
theorem toks_two_after (a b : ByteArray) (ha : ∃ l c, a.toList = l ++ [c] ∧ c.toNat ≤ 32) : toksFrom (a ++ b) 0 = toksFrom a 0 ++ shiftT a.size (toksFrom b 0) := by
  obtain ⟨l, c, hl, hc⟩ := ha
  rw [toks_lex, toks_lex, toks_lex, toList_append, hl, lex_append_after _ l c hc, List.map_append]
  have := lex_shift (l.length + 1) b.toList 0 [] 0
  have hs : a.size = l.length + 1 := by rw [← toList_len, hl]; simp
  rw [show 0 + l.length + 1 = 0 + (l.length + 1) by omega, this, map_shift, hs]

/-- The reader over words whose places have moved; over two lists. -/
theorem read_shift (d : Nat) : ∀ (T : Words) (R : Rd), R.read (shiftT d T) = ((R.read T).1, if (R.read T).1 = 0 then 0 else (R.read T).2.1 + d, (R.read T).2.2)
  | [], R => rfl
  | (t, a) :: r, R => by
    show R.read ((t, a + d) :: shiftT d r) = _
    by_cases h : (R.take t).1 = 0
    · rw [Rd.read_yes R t _ _ h, Rd.read_yes R t _ _ h, read_shift d r]
    · rw [Rd.read_no R t _ _ h, Rd.read_no R t _ _ h]
      simp [h]
theorem read_append : ∀ (T U : Words) (R : Rd), R.read (T ++ U) = if (R.read T).1 = 0 then (R.read T).2.2.read U else R.read T
  | [], U, R => by simp [Rd.read_nil]
  | (t, a) :: r, U, R => by
    rw [List.cons_append]
    by_cases h : (R.take t).1 = 0
    · rw [Rd.read_yes R t _ _ h, Rd.read_yes R t _ _ h, read_append r U]
    · rw [Rd.read_no R t _ _ h, Rd.read_no R t _ _ h]
      simp [h]
/-- readProgram out of what the reader comes to. -/
def outM (n : Nat) (r : Int × Nat × Rd) : Int × Nat × Rd := if r.1 ≠ 0 then r else if r.2.2.fin ≠ 0 then (r.2.2.fin, n, Rd.fresh) else (0, 0, r.2.2)
theorem readM_out (s : ByteArray) (h : s.size ≤ 400) : readM s = outM s.size (Rd.fresh.read (toksFrom s 0)) := by
  unfold readM outM
  rw [if_neg (by omega)]
theorem outM_err {n : Nat} {r : Int × Nat × Rd} (h : r.1 ≠ 0) : outM n r = r := by unfold outM; rw [if_pos h]
theorem outM_fin {n : Nat} {r : Int × Nat × Rd} (h : r.1 = 0) (h2 : r.2.2.fin ≠ 0) : outM n r = (r.2.2.fin, n, Rd.fresh) := by unfold outM; rw [if_neg (by simp [h]), if_pos h2]
theorem outM_ok {n : Nat} {r : Int × Nat × Rd} (h : r.1 = 0) (h2 : r.2.2.fin = 0) : outM n r = (0, 0, r.2.2) := by unfold outM; rw [if_neg (by simp [h]), if_neg (by simp [h2])]
end Go.Proofs.YtnanjomnldfidabGreatDoor

set_option linter.unusedSimpArgs false
set_option linter.unusedVariables false
set_option linter.unusedSectionVars false
namespace Go.Proofs.YtnanjomnldfidabGreatDoor

/-- A step, a form, k steps later. -/
def shA (k : Nat) (x : Int × Int) : Int × Int := (x.1, if x.1 = 2 ∨ x.1 = 3 then x.2 + k else x.2)
def shF (k : Nat) (f : Int × Int × Int) : Int × Int × Int := (f.1, if f.1 = 3 ∨ f.1 = 4 then f.2.1 + k else f.2.1, if f.1 = 3 then f.2.2 else f.2.2 + k)

theorem aimI_get (l : List (Int × Int)) (x : Int) (i : Nat) : (aimI l x)[i]? = if (i : Int) = x then (l[i]?).map (fun p => (p.1, (l.length : Int))) else l[i]? := by
  unfold aimI aimAt
  by_cases hr : 0 ≤ x ∧ x < (l.length : Int)
  · rw [if_pos hr, List.getElem?_modify]
    by_cases he : (i : Int) = x
    · have : x.toNat = i := by omega
      rw [if_pos he, this]; simp
    · have : ¬ x.toNat = i := by omega
      rw [if_neg he]; simp [this]
  · rw [if_neg hr]
    by_cases he : (i : Int) = x
    · have : l.length ≤ i := by omega
      rw [if_pos he, List.getElem?_eq_none this]; rfl
    · rw [if_neg he]

/-- The steps of the one, k steps later, within the steps of the other; O: those that still wait. -/
structure StR (k : Nat) (A : List (Int × Int)) (O : Nat → Prop) (S S2 : List (Int × Int)) : Prop where
  len : S2.length = k + S.length
  pre : ∀ i, i < k → S2[i]? = A[i]?
  rel : ∀ (i : Nat) x, S[i]? = some x → ∃ y, S2[k + i]? = some y ∧ y.1 = x.1 ∧ (y = shA k x ∨ O i)
theorem StR.mono {k : Nat} {A : List (Int × Int)} {O O' : Nat → Prop} {S S2 : List (Int × Int)} (h : StR k A O S S2) (hO : ∀ i, O i → O' i) : StR k A O' S S2 :=
  ⟨h.len, h.pre, fun i x hx => by obtain ⟨y, a, b, c⟩ := h.rel i x hx; exact ⟨y, a, b, c.imp id (hO i)⟩⟩
theorem StR.add {k : Nat} {A : List (Int × Int)} {O O' : Nat → Prop} {S S2 : List (Int × Int)} (h : StR k A O S S2) {op arg arg' : Int} (hn : (op, arg') = shA k (op, arg) ∨ O' S.length) (hO : ∀ i, O i → O' i) : StR k A O' (S ++ [(op, arg)]) (S2 ++ [(op, arg')]) := by
  refine ⟨by simp [h.len]; omega, fun i hi => ?_, fun i x hx => ?_⟩
  · rw [List.getElem?_append_left (by rw [h.len]; omega)]; exact h.pre i hi
  · by_cases hi : i < S.length
    · rw [List.getElem?_append_left hi] at hx
      obtain ⟨y, a, b, c⟩ := h.rel i x hx
      exact ⟨y, by rw [List.getElem?_append_left (by rw [h.len]; omega)]; exact a, b, c.imp id (hO i)⟩
    · have hi2 : i = S.length := by
        rcases Nat.lt_or_ge i (S.length + 1) with h1 | h1
        · omega
        · rw [List.getElem?_eq_none (by simp; omega)] at hx; cases hx
      subst hi2
      rw [List.getElem?_append_right (Nat.le_refl _), Nat.sub_self] at hx
      simp at hx
      subst hx
      refine ⟨(op, arg'), ?_, rfl, hn⟩
      rw [List.getElem?_append_right (by rw [h.len]; omega), h.len, Nat.sub_self]
      rfl
theorem StR.aim {k : Nat} {A : List (Int × Int)} {O O' : Nat → Prop} {S S2 : List (Int × Int)} (h : StR k A O S S2) {q : Nat} {x0 : Int × Int} (hx0 : S[q]? = some x0) (hop : x0.1 = 2 ∨ x0.1 = 3) (hO : ∀ i, i ≠ q → O i → O' i) : StR k A O' (aimI S (q : Int)) (aimI S2 ((q : Int) + k)) := by
  refine ⟨by rw [aimI_length, aimI_length]; exact h.len, fun i hi => ?_, fun i x hx => ?_⟩
  · rw [aimI_get, if_neg (by omega)]; exact h.pre i hi
  · rw [aimI_get] at hx
    by_cases he : i = q
    · subst he
      rw [if_pos rfl, hx0] at hx
      simp at hx
      obtain ⟨y, a, b, c⟩ := h.rel i x0 hx0
      refine ⟨(y.1, (S2.length : Int)), ?_, by rw [← hx]; exact b, .inl ?_⟩
      · rw [aimI_get, if_pos (by omega), a]; rfl
      · rw [← hx]
        unfold shA
        simp only [hop, if_true, b, h.len]
        congr 1
        omega
    · rw [if_neg (by omega)] at hx
      obtain ⟨y, a, b, c⟩ := h.rel i x hx
      exact ⟨y, by rw [aimI_get, if_neg (by omega)]; exact a, b, c.imp id (hO i he)⟩

/-- What the reader of a plain program holds. -/
def openH (F : Rd) (i : Nat) : Prop := ∃ f ∈ F.forms, (f.1 = 1 ∨ f.1 = 2) ∧ f.2.2 = (i : Int)
structure FormBd (S : List (Int × Int)) (f : Int × Int × Int) : Prop where
  kind : f.1 = 1 ∨ f.1 = 2 ∨ f.1 = 3 ∨ f.1 = 4
  hole : f.1 ≠ 3 → ∃ q : Nat, f.2.2 = (q : Int) ∧ ∃ x, S[q]? = some x ∧ (x.1 = 2 ∨ x.1 = 3)
  begin' : f.1 = 3 ∨ f.1 = 4 → 0 ≤ f.2.1 ∧ f.2.1 ≤ S.length
def opPlain (n : Nat) (x : Int × Int) : Prop := (x.1 = 1 ∧ 0 ≤ x.2 ∧ x.2 < 65536) ∨ ((x.1 = 2 ∨ x.1 = 3) ∧ 0 ≤ x.2 ∧ x.2 ≤ n) ∨ (16 ≤ x.1 ∧ x.1 ≤ 34)
structure Emb (G0 F G : Rd) : Prop where
  fdue : F.due = false
  gdue : G.due = false
  fins : F.inside = false
  fdefs : F.defs = []
  gdefs : G.defs = []
  ins : G.inside = G0.inside
  name : G.name = G0.name
  first : G.first = G0.first
  forms : G.forms = G0.forms ++ F.forms.map (shF G0.steps.length)
  bd : ∀ f ∈ F.forms, FormBd F.steps f
  steps : StR G0.steps.length G0.steps (openH F) F.steps G.steps
  plain : ∀ (i : Nat) x, F.steps[i]? = some x → opPlain F.steps.length x
theorem Emb.start (G0 : Rd) (hd : G0.due = false) (hdf : G0.defs = []) : Emb G0 Rd.fresh G0 :=
  ⟨rfl, hd, rfl, rfl, hdf, rfl, rfl, rfl, by simp [Rd.fresh], (fun f hf => by simp [Rd.fresh] at hf), ⟨by simp [Rd.fresh], (fun _ _ => rfl), (fun i x hx => by simp [Rd.fresh] at hx)⟩, (fun i x hx => by simp [Rd.fresh] at hx)⟩

section
variable {G0 F G : Rd}
theorem FormBd.mono {S S' : List (Int × Int)} {f : Int × Int × Int} (h : FormBd S f) (hl : S.length ≤ S'.length) (hs : ∀ (q : Nat) (x : Int × Int), S[q]? = some x → ∃ x', S'[q]? = some x' ∧ x'.1 = x.1) : FormBd S' f :=
  ⟨h.kind, fun hk => by obtain ⟨q, a, x, b, c⟩ := h.hole hk; obtain ⟨x', d, e⟩ := hs q x b; exact ⟨q, a, x', d, by rw [e]; exact c⟩, fun hk => by have := h.begin' hk; omega⟩
theorem keep_add (S : List (Int × Int)) (z : Int × Int) : S.length ≤ (S ++ [z]).length ∧ ∀ (q : Nat) (x : Int × Int), S[q]? = some x → ∃ x', (S ++ [z])[q]? = some x' ∧ x'.1 = x.1 :=
  ⟨by simp, fun q x hx => ⟨x, by
    have hq : q < S.length := by
      rcases Nat.lt_or_ge q S.length with h | h
      · exact h
      · rw [List.getElem?_eq_none h] at hx; cases hx
    rw [List.getElem?_append_left hq]; exact hx, rfl⟩⟩
theorem keep_aim (S : List (Int × Int)) (y : Int) : S.length ≤ (aimI S y).length ∧ ∀ (q : Nat) (x : Int × Int), S[q]? = some x → ∃ x', (aimI S y)[q]? = some x' ∧ x'.1 = x.1 :=
  ⟨by rw [aimI_length]; exact Nat.le_refl _, fun q x hx => by
    rw [aimI_get]
    by_cases he : (q : Int) = y
    · rw [if_pos he, hx]; exact ⟨_, rfl, rfl⟩
    · rw [if_neg he]; exact ⟨x, hx, rfl⟩⟩
theorem plain_add {S : List (Int × Int)} {z : Int × Int} (h : ∀ (i : Nat) x, S[i]? = some x → opPlain S.length x) (hz : opPlain (S.length + 1) z) : ∀ (i : Nat) x, (S ++ [z])[i]? = some x → opPlain (S ++ [z]).length x := by
  intro i x hx
  have hlen : (S ++ [z]).length = S.length + 1 := by simp
  rw [hlen]
  by_cases hi : i < S.length
  · rw [List.getElem?_append_left hi] at hx
    rcases h i x hx with a | a | a
    · exact .inl a
    · exact .inr (.inl ⟨a.1, a.2.1, by have := a.2.2; omega⟩)
    · exact .inr (.inr a)
  · have : i = S.length := by
      rcases Nat.lt_or_ge i (S.length + 1) with h1 | h1
      · omega
      · rw [List.getElem?_eq_none (by simp; omega)] at hx; cases hx
    subst this
    rw [List.getElem?_append_right (Nat.le_refl _), Nat.sub_self] at hx
    simp at hx
    subst hx
    exact hz
theorem plain_aim {S : List (Int × Int)} {q : Nat} {x0 : Int × Int} (h : ∀ (i : Nat) x, S[i]? = some x → opPlain S.length x) (hx0 : S[q]? = some x0) (hop : x0.1 = 2 ∨ x0.1 = 3) : ∀ (i : Nat) x, (aimI S (q : Int))[i]? = some x → opPlain (aimI S (q : Int)).length x := by
  intro i x hx
  rw [aimI_length]
  rw [aimI_get] at hx
  by_cases he : (i : Int) = (q : Int)
  · have : i = q := by omega
    subst this
    rw [if_pos rfl, hx0] at hx
    simp at hx
    subst hx
    exact .inr (.inl ⟨hop, by show (0 : Int) ≤ (S.length : Int); omega, by show (S.length : Int) ≤ (S.length : Int); omega⟩)
  · rw [if_neg he] at hx
    exact h i x hx

theorem Emb.top (h : Emb G0 F G) (hk : F.top.1 ≠ 0) : G.top = shF G0.steps.length F.top ∧ G.forms.dropLast = G0.forms ++ F.forms.dropLast.map (shF G0.steps.length) ∧ FormBd F.steps F.top := by
  have hs := top_split hk
  have hm : F.top ∈ F.forms := by rw [hs]; simp
  refine ⟨?_, ?_, h.bd _ hm⟩
  · unfold Rd.top topOf
    rw [h.forms, hs]
    simp [Rd.top, topOf]
  · rw [h.forms, hs, List.map_append, ← List.append_assoc]
    simp
theorem len_add (h : Emb G0 F G) : G.len = F.len + G0.steps.length := by
  unfold Rd.len; rw [h.steps.len]; omega

/-- A step that is all known. -/
theorem Emb.add (h : Emb G0 F G) {op arg : Int} (hp : opPlain (F.steps.length + 1) (op, arg)) {arg' : Int} (hn : (op, arg') = shA G0.steps.length (op, arg)) : Emb G0 (F.add op arg) (G.add op arg') :=
  ⟨h.fdue, h.gdue, h.fins, h.fdefs, h.gdefs, h.ins, h.name, h.first, h.forms, fun f hf => (h.bd f hf).mono (keep_add _ _).1 (keep_add _ _).2, h.steps.add (.inl hn) (fun i hi => hi), plain_add h.plain hp⟩
end
end Go.Proofs.YtnanjomnldfidabGreatDoor

set_option linter.unusedSimpArgs false
set_option linter.unusedVariables false
set_option linter.unusedSectionVars false
namespace Go.Proofs.YtnanjomnldfidabGreatDoor

section
variable {G0 F G : Rd}

theorem openH_rest {x : Nat} {F : Rd} (hk : F.top.1 ≠ 0) (hx : F.top.1 = 1 ∨ F.top.1 = 2 → F.top.2.2 = (x : Int)) {i : Nat} (hne : i ≠ x) (h : openH F i) : ∃ f ∈ F.forms.dropLast, (f.1 = 1 ∨ f.1 = 2) ∧ f.2.2 = (i : Int) := by
  obtain ⟨f, hf, a, b⟩ := h
  rw [top_split hk] at hf
  rcases List.mem_append.1 hf with hf | hf
  · exact ⟨f, hf, a, b⟩
  · simp at hf; subst hf; have := hx a; omega
theorem bd_pop {S : List (Int × Int)} (h : ∀ f ∈ F.forms, FormBd S f) : ∀ f ∈ F.forms.dropLast, FormBd S f := fun f hf => h f ((List.dropLast_sublist _).subset hf)
theorem bd_push {l : List (Int × Int × Int)} {S : List (Int × Int)} {x : Int × Int × Int} (h : ∀ f ∈ l, FormBd S f) (hx : FormBd S x) : ∀ f ∈ l ++ [x], FormBd S f := by
  intro f hf
  rcases List.mem_append.1 hf with hf | hf
  · exact h f hf
  · simp at hf; subst hf; exact hx
theorem last_get (S : List (Int × Int)) (z : Int × Int) : (S ++ [z])[S.length]? = some z := by
  rw [List.getElem?_append_right (Nat.le_refl _), Nat.sub_self]; rfl

theorem emb_if (h : Emb G0 F G) : Emb G0 ((F.push 1 0 F.len).add 3 0) ((G.push 1 0 G.len).add 3 0) := by
  refine ⟨h.fdue, h.gdue, h.fins, h.fdefs, h.gdefs, h.ins, h.name, h.first, ?_, ?_, ?_, plain_add h.plain (.inr (.inl ⟨.inr rfl, by show (0 : Int) ≤ 0; omega, by show (0 : Int) ≤ _; omega⟩))⟩
  · show G.forms ++ [(1, 0, G.len)] = G0.forms ++ (F.forms ++ [(1, 0, F.len)]).map _
    rw [h.forms, List.map_append, List.append_assoc, len_add h]; rfl
  · refine bd_push (fun f hf => (h.bd f hf).mono (keep_add _ _).1 (keep_add _ _).2) ⟨.inl rfl, fun _ => ⟨F.steps.length, rfl, (3, 0), last_get _ _, .inr rfl⟩, fun hk => by simp at hk⟩
  · exact h.steps.add (.inr ⟨(1, 0, F.len), by simp [Rd.push, Rd.add], .inl rfl, rfl⟩) (fun i ⟨f, hf, hk⟩ => ⟨f, List.mem_append_left _ hf, hk⟩)

theorem emb_begin (h : Emb G0 F G) : Emb G0 (F.push 3 F.len 0) (G.push 3 G.len 0) := by
  refine ⟨h.fdue, h.gdue, h.fins, h.fdefs, h.gdefs, h.ins, h.name, h.first, ?_, ?_, h.steps.mono (fun i ⟨f, hf, hk⟩ => ⟨f, List.mem_append_left _ hf, hk⟩), h.plain⟩
  · show G.forms ++ [(3, G.len, 0)] = G0.forms ++ (F.forms ++ [(3, F.len, 0)]).map _
    rw [h.forms, List.map_append, List.append_assoc, len_add h]; rfl
  · exact bd_push h.bd ⟨.inr (.inr (.inl rfl)), fun hk => absurd rfl hk, fun _ => ⟨by show (0 : Int) ≤ (F.steps.length : Int); omega, by show (F.steps.length : Int) ≤ (F.steps.length : Int); omega⟩⟩

theorem emb_then (h : Emb G0 F G) (ht : F.top.1 = 1 ∨ F.top.1 = 2) : Emb G0 (F.pop.aim F.top.2.2) (G.pop.aim G.top.2.2) := by
  obtain ⟨t1, t2, t3⟩ := h.top (by omega)
  obtain ⟨q, hq, x0, hx0, hop⟩ := t3.hole (by omega)
  have hg : G.top.2.2 = (q : Int) + G0.steps.length := by
    rw [t1]; show (if F.top.1 = 3 then F.top.2.2 else F.top.2.2 + _) = _; rw [if_neg (by omega), hq]
  refine ⟨h.fdue, h.gdue, h.fins, h.fdefs, h.gdefs, h.ins, h.name, h.first, t2, ?_, ?_, ?_⟩
  · intro f hf
    exact (bd_pop h.bd f hf).mono (keep_aim _ _).1 (keep_aim _ _).2
  · show StR _ _ _ (aimI F.steps F.top.2.2) (aimI G.steps G.top.2.2)
    rw [hq, hg]
    exact h.steps.aim hx0 hop (fun i hi hO => openH_rest (by omega) (fun _ => hq) hi hO)
  · show ∀ (i : Nat) x, (aimI F.steps F.top.2.2)[i]? = some x → opPlain (aimI F.steps F.top.2.2).length x
    rw [hq]
    exact plain_aim h.plain hx0 hop

theorem emb_else (h : Emb G0 F G) (ht : F.top.1 = 1) : Emb G0 (((F.pop.push 2 0 F.len).add 2 0).aim F.top.2.2) (((G.pop.push 2 0 G.len).add 2 0).aim G.top.2.2) := by
  obtain ⟨t1, t2, t3⟩ := h.top (by omega)
  obtain ⟨q, hq, x0, hx0, hop⟩ := t3.hole (by omega)
  have hg : G.top.2.2 = (q : Int) + G0.steps.length := by
    rw [t1]; show (if F.top.1 = 3 then F.top.2.2 else F.top.2.2 + _) = _; rw [if_neg (by omega), hq]
  obtain ⟨x1, hx1, hop1⟩ := (keep_add F.steps (2, 0)).2 q x0 hx0
  have hadd : StR G0.steps.length G0.steps (fun i => openH F i ∨ i = F.steps.length) (F.steps ++ [(2, 0)]) (G.steps ++ [(2, 0)]) := h.steps.add (.inr (.inr rfl)) (fun i hi => .inl hi)
  have hpl : ∀ (i : Nat) x, (F.steps ++ [((2 : Int), (0 : Int))])[i]? = some x → opPlain (F.steps ++ [((2 : Int), (0 : Int))]).length x := plain_add h.plain (.inr (.inl ⟨.inl rfl, by show (0 : Int) ≤ 0; omega, by show (0 : Int) ≤ _; omega⟩))
  refine ⟨h.fdue, h.gdue, h.fins, h.fdefs, h.gdefs, h.ins, h.name, h.first, ?_, ?_, ?_, ?_⟩
  · show G.forms.dropLast ++ [(2, 0, G.len)] = G0.forms ++ (F.forms.dropLast ++ [(2, 0, F.len)]).map _
    rw [t2, List.map_append, List.append_assoc, len_add h]; rfl
  · intro f hf
    refine FormBd.mono (S := F.steps ++ [(2, 0)]) ?_ (keep_aim _ _).1 (keep_aim _ _).2
    revert f
    exact bd_push (fun f hf => (bd_pop h.bd f hf).mono (keep_add _ _).1 (keep_add _ _).2) ⟨.inr (.inl rfl), fun _ => ⟨F.steps.length, rfl, (2, 0), last_get _ _, .inl rfl⟩, fun hk => by simp at hk⟩
  · show StR _ _ _ (aimI (F.steps ++ [(2, 0)]) F.top.2.2) (aimI (G.steps ++ [(2, 0)]) G.top.2.2)
    rw [hq, hg]
    refine hadd.aim hx1 (by rw [hop1]; exact hop) (fun i hi hO => ?_)
    rcases hO with hO | hO
    · obtain ⟨f, a, b⟩ := openH_rest (by omega) (fun _ => hq) hi hO
      exact ⟨f, List.mem_append_left _ a, b⟩
    · exact ⟨(2, 0, F.len), by simp [Rd.push, Rd.add, Rd.aim], .inr rfl, by rw [hO]; rfl⟩
  · show ∀ (i : Nat) x, (aimI (F.steps ++ [(2, 0)]) F.top.2.2)[i]? = some x → opPlain (aimI (F.steps ++ [(2, 0)]) F.top.2.2).length x
    rw [hq]
    exact plain_aim hpl hx1 (by rw [hop1]; exact hop)

theorem emb_until (h : Emb G0 F G) (ht : F.top.1 = 3) : Emb G0 (F.pop.add 3 F.top.2.1) (G.pop.add 3 G.top.2.1) := by
  obtain ⟨t1, t2, t3⟩ := h.top (by omega)
  obtain ⟨b1, b2⟩ := t3.begin' (.inl ht)
  have hg : G.top.2.1 = F.top.2.1 + G0.steps.length := by rw [t1]; show (if F.top.1 = 3 ∨ F.top.1 = 4 then F.top.2.1 + _ else F.top.2.1) = _; rw [if_pos (.inl ht)]
  refine ⟨h.fdue, h.gdue, h.fins, h.fdefs, h.gdefs, h.ins, h.name, h.first, t2, fun f hf => (bd_pop h.bd f hf).mono (keep_add _ _).1 (keep_add _ _).2, ?_, plain_add h.plain (.inr (.inl ⟨.inr rfl, b1, by show F.top.2.1 ≤ ((F.steps.length + 1 : Nat) : Int); omega⟩))⟩
  refine h.steps.add (.inl ?_) (fun i hO => ?_)
  · rw [hg]; unfold shA; simp
  · obtain ⟨f, hf, a, b⟩ := hO
    rw [top_split (by omega)] at hf
    rcases List.mem_append.1 hf with hf | hf
    · exact ⟨f, hf, a, b⟩
    · simp at hf; subst hf; omega

theorem emb_while (h : Emb G0 F G) (ht : F.top.1 = 3) : Emb G0 ((F.pop.push 4 F.top.2.1 F.len).add 3 F.top.2.1) ((G.pop.push 4 G.top.2.1 G.len).add 3 G.top.2.1) := by
  obtain ⟨t1, t2, t3⟩ := h.top (by omega)
  obtain ⟨b1, b2⟩ := t3.begin' (.inl ht)
  have hg : G.top.2.1 = F.top.2.1 + G0.steps.length := by rw [t1]; show (if F.top.1 = 3 ∨ F.top.1 = 4 then F.top.2.1 + _ else F.top.2.1) = _; rw [if_pos (.inl ht)]
  refine ⟨h.fdue, h.gdue, h.fins, h.fdefs, h.gdefs, h.ins, h.name, h.first, ?_, ?_, ?_, plain_add h.plain (.inr (.inl ⟨.inr rfl, b1, by show F.top.2.1 ≤ ((F.steps.length + 1 : Nat) : Int); omega⟩))⟩
  · show G.forms.dropLast ++ [(4, G.top.2.1, G.len)] = G0.forms ++ (F.forms.dropLast ++ [(4, F.top.2.1, F.len)]).map _
    rw [t2, List.map_append, List.append_assoc, len_add h, hg]; rfl
  · exact bd_push (fun f hf => (bd_pop h.bd f hf).mono (keep_add _ _).1 (keep_add _ _).2) ⟨.inr (.inr (.inr rfl)), fun _ => ⟨F.steps.length, rfl, _, last_get _ _, .inr rfl⟩, fun _ => ⟨b1, by show F.top.2.1 ≤ ((F.steps ++ [_]).length : Int); simp; omega⟩⟩
  · refine h.steps.add (.inl ?_) (fun i hO => ?_)
    · rw [hg]; unfold shA; simp
    · obtain ⟨f, hf, a, b⟩ := hO
      rw [top_split (by omega)] at hf
      rcases List.mem_append.1 hf with hf | hf
      · exact ⟨f, List.mem_append_left _ hf, a, b⟩
      · simp at hf; subst hf; omega

theorem emb_repeat (h : Emb G0 F G) (ht : F.top.1 = 4) : Emb G0 ((F.pop.add 2 F.top.2.1).aim F.top.2.2) ((G.pop.add 2 G.top.2.1).aim G.top.2.2) := by
  obtain ⟨t1, t2, t3⟩ := h.top (by omega)
  obtain ⟨b1, b2⟩ := t3.begin' (.inr ht)
  obtain ⟨q, hq, x0, hx0, hop⟩ := t3.hole (by omega)
  have hg : G.top.2.1 = F.top.2.1 + G0.steps.length := by rw [t1]; show (if F.top.1 = 3 ∨ F.top.1 = 4 then F.top.2.1 + _ else F.top.2.1) = _; rw [if_pos (.inr ht)]
  have hg2 : G.top.2.2 = (q : Int) + G0.steps.length := by rw [t1]; show (if F.top.1 = 3 then F.top.2.2 else F.top.2.2 + _) = _; rw [if_neg (by omega), hq]
  obtain ⟨x1, hx1, hop1⟩ := (keep_add F.steps (2, F.top.2.1)).2 q x0 hx0
  have hadd : StR G0.steps.length G0.steps (openH F) (F.steps ++ [(2, F.top.2.1)]) (G.steps ++ [(2, G.top.2.1)]) := h.steps.add (.inl (by rw [hg]; unfold shA; simp)) (fun i hi => hi)
  have hpl : ∀ (i : Nat) x, (F.steps ++ [((2 : Int), F.top.2.1)])[i]? = some x → opPlain (F.steps ++ [((2 : Int), F.top.2.1)]).length x := plain_add h.plain (.inr (.inl ⟨.inl rfl, b1, by show F.top.2.1 ≤ ((F.steps.length + 1 : Nat) : Int); omega⟩))
  refine ⟨h.fdue, h.gdue, h.fins, h.fdefs, h.gdefs, h.ins, h.name, h.first, t2, ?_, ?_, ?_⟩
  · intro f hf
    exact FormBd.mono (S := F.steps ++ [(2, F.top.2.1)]) ((bd_pop h.bd f hf).mono (keep_add _ _).1 (keep_add _ _).2) (keep_aim _ _).1 (keep_aim _ _).2
  · show StR _ _ _ (aimI (F.steps ++ [(2, F.top.2.1)]) F.top.2.2) (aimI (G.steps ++ [(2, G.top.2.1)]) G.top.2.2)
    rw [hq, hg2]
    exact hadd.aim hx1 (by rw [hop1]; exact hop) (fun i hi hO => openH_rest (by omega) (fun hx => by omega) hi hO)
  · show ∀ (i : Nat) x, (aimI (F.steps ++ [(2, F.top.2.1)]) F.top.2.2)[i]? = some x → opPlain (aimI (F.steps ++ [(2, F.top.2.1)]) F.top.2.2).length x
    rw [hq]
    exact plain_aim hpl hx1 (by rw [hop1]; exact hop)

/-- One word. -/
theorem emb_take (h : Emb G0 F G) (t : ByteArray) (hne : t.toList ≠ []) (hc : t.toList ≠ [58]) (he : (F.take t).1 = 0) : (G.take t).1 = 0 ∧ Emb G0 (F.take t).2 (G.take t).2 := by
  have hF : F.take t = if digs t.toList = true then (match numVal t.toList with | some n => (0, F.add 1 n) | none => (2, F)) else F.word t.toList := by
    unfold Rd.take; rw [if_neg (by rw [h.fdue]; decide)]; rfl
  have hG : G.take t = if digs t.toList = true then (match numVal t.toList with | some n => (0, G.add 1 n) | none => (2, G)) else G.word t.toList := by
    unfold Rd.take; rw [if_neg (by rw [h.gdue]; decide)]; rfl
  generalize t.toList = l at *
  rw [hF] at he ⊢
  rw [hG]
  have hkt : ∀ c : Int, c ≠ 0 → F.top.1 = c → G.top.1 = c := by
    intro c hc0 hct
    rw [(h.top (by omega)).1]; exact hct
  cases hd : digs l with
  | true =>
    rw [hd, if_pos rfl] at he
    rw [if_pos rfl, if_pos rfl]
    cases hv : numVal l with
    | none => rw [hv] at he; cases he
    | some n =>
      obtain ⟨v1, v2, v3⟩ := refVal_digs l hd hne hv
      exact ⟨rfl, h.add (.inl ⟨rfl, v2, v3⟩) (by unfold shA; simp)⟩
  | false =>
    rw [hd, if_neg (by decide)] at he
    rw [if_neg (by decide), if_neg (by decide)]
    cases hf : isForm l with
    | true =>
      have hm := (isForm_iff _).1 hf
      simp only [formsL, List.mem_cons, List.not_mem_nil, or_false] at hm
      rcases hm with e | e | e | e | e | e | e | e | e | e | e
      · have hr : ∀ R : Rd, R.word l = (0, (R.push 1 0 R.len).add 3 0) := fun R => by rw [e]; rfl
        rw [hr, hr]; exact ⟨rfl, emb_if h⟩
      · have hr : ∀ R : Rd, R.word l = if R.top.1 = 1 then (0, ((R.pop.push 2 0 R.len).add 2 0).aim R.top.2.2) else (3, R) := fun R => by rw [e]; rfl
        rw [hr] at he ⊢
        rw [hr]
        by_cases ht : F.top.1 = 1
        · rw [if_pos ht, if_pos (hkt 1 (by decide) ht)]; exact ⟨rfl, emb_else h ht⟩
        · rw [if_neg ht] at he; cases he
      · have hr : ∀ R : Rd, R.word l = if R.top.1 = 1 ∨ R.top.1 = 2 then (0, R.pop.aim R.top.2.2) else (3, R) := fun R => by rw [e]; rfl
        rw [hr] at he ⊢
        rw [hr]
        by_cases ht : F.top.1 = 1 ∨ F.top.1 = 2
        · rw [if_pos ht, if_pos (ht.imp (hkt 1 (by decide)) (hkt 2 (by decide)))]; exact ⟨rfl, emb_then h ht⟩
        · rw [if_neg ht] at he; cases he
      · have hr : ∀ R : Rd, R.word l = (0, R.push 3 R.len 0) := fun R => by rw [e]; rfl
        rw [hr, hr]; exact ⟨rfl, emb_begin h⟩
      · have hr : ∀ R : Rd, R.word l = if R.top.1 = 3 then (0, R.pop.add 3 R.top.2.1) else (3, R) := fun R => by rw [e]; rfl
        rw [hr] at he ⊢
        rw [hr]
        by_cases ht : F.top.1 = 3
        · rw [if_pos ht, if_pos (hkt 3 (by decide) ht)]; exact ⟨rfl, emb_until h ht⟩
        · rw [if_neg ht] at he; cases he
      · have hr : ∀ R : Rd, R.word l = if R.top.1 = 3 then (0, (R.pop.push 4 R.top.2.1 R.len).add 3 R.top.2.1) else (3, R) := fun R => by rw [e]; rfl
        rw [hr] at he ⊢
        rw [hr]
        by_cases ht : F.top.1 = 3
        · rw [if_pos ht, if_pos (hkt 3 (by decide) ht)]; exact ⟨rfl, emb_while h ht⟩
        · rw [if_neg ht] at he; cases he
      · have hr : ∀ R : Rd, R.word l = if R.top.1 = 4 then (0, (R.pop.add 2 R.top.2.1).aim R.top.2.2) else (3, R) := fun R => by rw [e]; rfl
        rw [hr] at he ⊢
        rw [hr]
        by_cases ht : F.top.1 = 4
        · rw [if_pos ht, if_pos (hkt 4 (by decide) ht)]; exact ⟨rfl, emb_repeat h ht⟩
        · rw [if_neg ht] at he; cases he
      · have hr : F.word l = if F.inside = true then (0, F.add 5 0) else (3, F) := by rw [e]; rfl
        rw [hr, if_neg (by rw [h.fins]; decide)] at he; cases he
      · have hr : F.word l = if F.inside = true then (0, F.add 4 F.first) else (3, F) := by rw [e]; rfl
        rw [hr, if_neg (by rw [h.fins]; decide)] at he; cases he
      · exact absurd e hc
      · have hr : F.word l = if F.inside = false then (3, F) else if F.forms ≠ [] then (3, F) else (0, F.ended) := by rw [e]; rfl
        rw [hr, if_pos h.fins] at he; cases he
    | false =>
      have hnf : l ∉ formsL := fun hm => by rw [(isForm_iff _).2 hm] at hf; cases hf
      obtain ⟨g1, g2, g3, g4, g5, g6, g7, g8, g9, g10, g11⟩ := not_forms hnf
      simp only [beq_eq_false_iff_ne, ne_eq] at g1 g2 g3 g4 g5 g6 g7 g8 g9 g10 g11
      have hword : ∀ R : Rd, R.defs = [] → R.word l = if listOk l = true then (0, R.add (listOp l) 0) else (2, R) := by
        intro R hR
        unfold Rd.word
        rw [if_neg g1, if_neg g2, if_neg g3, if_neg g4, if_neg g7, if_neg g5, if_neg g6, if_neg g10, if_neg g8, if_neg g9, if_neg g11, hR]
        rfl
      rw [hword F h.fdefs] at he ⊢
      rw [hword G h.gdefs]
      cases ho : listOk l with
      | false => rw [ho] at he; cases he
      | true =>
        rw [if_pos rfl, if_pos rfl]
        have hlr : 16 ≤ listOp l ∧ listOp l ≤ 34 := by
          unfold listOk at ho
          simp at ho
          unfold listOp
          rw [if_pos ho]; omega
        exact ⟨rfl, h.add (.inr (.inr hlr)) (by unfold shA; rw [if_neg (by show ¬ (listOp l = 2 ∨ listOp l = 3); omega)])⟩

/-- All words. -/
theorem emb_read : ∀ (T : Words) (F G : Rd), Emb G0 F G → (∀ x ∈ T, x.1.toList ≠ [] ∧ x.1.toList ≠ [58]) → (F.read T).1 = 0 → (G.read T).1 = 0 ∧ Emb G0 (F.read T).2.2 (G.read T).2.2
  | [], F, G, h, _, _ => ⟨rfl, h⟩
  | (t, a) :: r, F, G, h, hT, he => by
    have h0 := Rd.read_err F t a r he
    obtain ⟨g0, e2⟩ := emb_take h t (hT (t, a) List.mem_cons_self).1 (hT (t, a) List.mem_cons_self).2 h0
    rw [Rd.read_yes F t a r h0] at he ⊢
    rw [Rd.read_yes G t a r g0]
    exact emb_read r _ _ e2 (fun x hx => hT x (List.mem_cons_of_mem _ hx)) he
end

/-- A plain program, read within another one. -/
structure Plain (S : List (Int × Int)) : Prop where
  ops : ∀ (i : Nat) x, S[i]? = some x → opPlain S.length x
theorem read_within (T : Words) (hT : ∀ x ∈ T, x.1.toList ≠ [] ∧ x.1.toList ≠ [58]) (he : (Rd.fresh.read T).1 = 0) (hf : (Rd.fresh.read T).2.2.fin = 0) (G0 : Rd) (hd : G0.due = false) (hdf : G0.defs = []) :
    Plain (Rd.fresh.read T).2.2.steps ∧ (G0.read T).1 = 0 ∧ (G0.read T).2.2 = { G0 with steps := G0.steps ++ (Rd.fresh.read T).2.2.steps.map (shA G0.steps.length) } := by
  obtain ⟨h1, h2⟩ := emb_read T Rd.fresh G0 (Emb.start G0 hd hdf) hT he
  generalize (Rd.fresh.read T).2.2 = F at *
  generalize hG : (G0.read T).2.2 = G at *
  have hfm : F.forms = [] := by
    unfold Rd.fin at hf
    rw [if_neg (by rw [h2.fdue]; decide)] at hf
    by_cases hc : F.inside = true ∨ F.forms ≠ []
    · rw [if_pos hc] at hf; cases hf
    · by_cases hb : F.forms = []
      · exact hb
      · exact absurd (.inr hb) hc
  refine ⟨⟨h2.plain⟩, h1, ?_⟩
  have hsteps : G.steps = G0.steps ++ F.steps.map (shA G0.steps.length) := by
    apply List.ext_getElem?
    intro i
    by_cases hi : i < G0.steps.length
    · rw [List.getElem?_append_left hi]; exact h2.steps.pre i hi
    · rw [List.getElem?_append_right (by omega), List.getElem?_map]
      obtain ⟨j, rfl⟩ : ∃ j, i = G0.steps.length + j := ⟨i - G0.steps.length, by omega⟩
      rw [show G0.steps.length + j - G0.steps.length = j by omega]
      cases hx : F.steps[j]? with
      | none =>
        have : F.steps.length ≤ j := by
          rcases Nat.lt_or_ge j F.steps.length with h | h
          · rw [List.getElem?_eq_getElem h] at hx; cases hx
          · exact h
        rw [List.getElem?_eq_none (by rw [h2.steps.len]; omega)]; rfl
      | some x =>
        obtain ⟨y, a, b, c⟩ := h2.steps.rel j x hx
        rw [a]
        rcases c with c | ⟨f, hf', _⟩
        · rw [c]; rfl
        · rw [hfm] at hf'; cases hf'
  have hforms : G.forms = G0.forms := by rw [h2.forms, hfm]; simp
  cases G
  cases G0
  simp only at *
  have e1 := h2.ins
  have e2 := h2.name
  have e3 := h2.first
  have e4 := h2.gdue
  have e5 := h2.gdefs
  simp only at e1 e2 e3 e4 e5 hd hdf
  subst e1 e2 e3 e4 e5 hd hdf hsteps hforms
  rfl
end Go.Proofs.YtnanjomnldfidabGreatDoor

set_option linter.unusedSimpArgs false
set_option linter.unusedVariables false
set_option linter.unusedSectionVars false
namespace Go.Proofs.YtnanjomnldfidabGreatDoor

/-- j steps without an error. -/
def stepsS (S : List (Int × Int)) : Nat → Int → Ma → Option (Int × Ma)
  | 0, p, M => some (p, M)
  | j + 1, p, M => if (0 ≤ p ∧ p < S.length) ∧ (nextS S p M).2.1 = 0 then stepsS S j (nextS S p M).1 (nextS S p M).2.2 else none
theorem stepsS_one {S : List (Int × Int)} {p : Int} {M : Ma} (hp : 0 ≤ p ∧ p < S.length) (he : (nextS S p M).2.1 = 0) (j : Nat) : stepsS S (j + 1) p M = stepsS S j (nextS S p M).1 (nextS S p M).2.2 := by
  conv => lhs; unfold stepsS
  rw [if_pos ⟨hp, he⟩]
theorem runS_steps {S : List (Int × Int)} : ∀ (j : Nat) {p : Int} {M : Ma} {p' : Int} {M' : Ma} (m : Nat), stepsS S j p M = some (p', M') → runS S (j + m) p M = runS S m p' M'
  | 0, p, M, p', M', m, h => by
    simp only [stepsS, Option.some.injEq, Prod.mk.injEq] at h
    rw [h.1, h.2, Nat.zero_add]
  | j + 1, p, M, p', M', m, h => by
    unfold stepsS at h
    by_cases hc : (0 ≤ p ∧ p < S.length) ∧ (nextS S p M).2.1 = 0
    · rw [if_pos hc] at h
      rw [show j + 1 + m = j + m + 1 by omega, runS_on S (j + m) p M hc.1 hc.2]
      exact runS_steps j m h
    · rw [if_neg hc] at h; cases h
theorem stepsS_trans {S : List (Int × Int)} : ∀ (i j : Nat) {p : Int} {M : Ma} {q : Int} {M1 : Ma}, stepsS S i p M = some (q, M1) → stepsS S (i + j) p M = stepsS S j q M1
  | 0, j, p, M, q, M1, h => by
    simp only [stepsS, Option.some.injEq, Prod.mk.injEq] at h
    rw [h.1, h.2, Nat.zero_add]
  | i + 1, j, p, M, q, M1, h => by
    unfold stepsS at h
    by_cases hc : (0 ≤ p ∧ p < S.length) ∧ (nextS S p M).2.1 = 0
    · rw [if_pos hc] at h
      rw [show i + 1 + j = i + j + 1 by omega, stepsS_one hc.1 hc.2]
      exact stepsS_trans i j h
    · rw [if_neg hc] at h; cases h

theorem nextS_same (S : List (Int × Int)) (p : Int) (M : Ma) (he : (nextS S p M).2.1 ≠ 0) : (nextS S p M).2.2 = M := by
  unfold nextS at he ⊢
  by_cases h : (stepAt S p).1 = -1
  · rw [if_pos h] at he; exact absurd rfl he
  · rw [if_neg h] at he ⊢; exact stepM_same _ _ _ _ he

/-- Where a run ends. -/
theorem runS_ends {S : List (Int × Int)} {Inv : Int → Ma → Prop} (hI : StepInv S Inv) : ∀ (n : Nat) (p : Int) (M : Ma), Inv p M → measN S.length M.used p.toNat ≤ n →
    ∃ j p' M', stepsS S j p M = some (p', M') ∧ Inv p' M' ∧ ((¬ (0 ≤ p' ∧ p' < S.length) ∧ runS S n p M = (0, M')) ∨ ((0 ≤ p' ∧ p' < S.length) ∧ (nextS S p' M').2.1 ≠ 0 ∧ runS S n p M = ((nextS S p' M').2.1, M'))) := by
  intro n
  induction n with
  | zero =>
    intro p M h hn
    exfalso
    unfold measN at hn
    have := (hI.ok _ _ h).used'
    have : 1 ≤ (10001 - M.used).toNat * (S.length + 2) := Nat.mul_pos (by omega) (by omega)
    omega
  | succ n ih =>
    intro p M h hn
    by_cases hp : 0 ≤ p ∧ p < S.length
    · by_cases he : (nextS S p M).2.1 = 0
      · have h2 := hI.next p M h hp he
        have hok := hI.ok _ _ h
        have hok2 := hI.ok _ _ h2
        have hlt := measN_lt S.length M.used (nextS S p M).2.2.used p.toNat (nextS S p M).1.toNat hok2.used hok2.used' hok.used' (by omega) ((hI.used p M h hp he).imp id fun g => ⟨g.1, by omega⟩)
        obtain ⟨j, p', M', a, b, c⟩ := ih _ _ h2 (by omega)
        refine ⟨j + 1, p', M', by rw [stepsS_one hp he]; exact a, b, ?_⟩
        rw [runS_on S n p M hp he]
        exact c
      · refine ⟨0, p, M, rfl, h, .inr ⟨hp, he, ?_⟩⟩
        rw [runS_err S n p M hp he]
        exact Prod.ext rfl (nextS_same S p M he)
    · exact ⟨0, p, M, rfl, h, .inl ⟨hp, runS_end S (n + 1) p M hp⟩⟩
theorem runS_stable {S : List (Int × Int)} {Inv : Int → Ma → Prop} (hI : StepInv S Inv) : ∀ (n : Nat) (p : Int) (M : Ma) (m : Nat), Inv p M → measN S.length M.used p.toNat ≤ n → measN S.length M.used p.toNat ≤ m → runS S n p M = runS S m p M := by
  intro n p M m h hn hm
  obtain ⟨j, p', M', a, b, c⟩ := runS_ends hI n p M h hn
  obtain ⟨j2, p2, M2, a2, b2, c2⟩ := runS_ends hI m p M h hm
  have r1 := runS_steps j (m := 1) a
  have r2 := runS_steps j2 (m := 1) a2
  have hstop : ∀ {q : Int} {N : Ma}, (¬ (0 ≤ q ∧ q < S.length)) ∨ ((0 ≤ q ∧ q < S.length) ∧ (nextS S q N).2.1 ≠ 0) → ∀ i q' N', stepsS S i q N = some (q', N') → q' = q ∧ N' = N := by
    intro q N hs i q' N' hi
    cases i with
    | zero => simp only [stepsS, Option.some.injEq, Prod.mk.injEq] at hi; exact ⟨hi.1.symm, hi.2.symm⟩
    | succ i =>
      unfold stepsS at hi
      rw [if_neg (by rintro ⟨x1, x2⟩; rcases hs with hs | hs; exact hs x1; exact hs.2 x2)] at hi
      cases hi
  have hs1 : (¬ (0 ≤ p' ∧ p' < S.length)) ∨ ((0 ≤ p' ∧ p' < S.length) ∧ (nextS S p' M').2.1 ≠ 0) := c.imp (fun x => x.1) (fun x => ⟨x.1, x.2.1⟩)
  have hs2 : (¬ (0 ≤ p2 ∧ p2 < S.length)) ∨ ((0 ≤ p2 ∧ p2 < S.length) ∧ (nextS S p2 M2).2.1 ≠ 0) := c2.imp (fun x => x.1) (fun x => ⟨x.1, x.2.1⟩)
  have heq : p2 = p' ∧ M2 = M' := by
    rcases Nat.le_total j j2 with hle | hle
    · have := stepsS_trans j (j2 - j) a
      rw [show j + (j2 - j) = j2 by omega, a2] at this
      exact hstop hs1 _ _ _ this.symm
    · have := stepsS_trans j2 (j - j2) a2
      rw [show j2 + (j - j2) = j by omega, a] at this
      have := hstop hs2 _ _ _ this.symm
      exact ⟨this.1.symm, this.2.symm⟩
  obtain ⟨rfl, rfl⟩ := heq
  rcases c with ⟨x, c⟩ | ⟨x, y, c⟩
  · rcases c2 with ⟨x2, c2⟩ | ⟨x2, y2, c2⟩
    · rw [c, c2]
    · exact absurd x2 x
  · rcases c2 with ⟨x2, c2⟩ | ⟨x2, y2, c2⟩
    · exact absurd x x2
    · rw [c, c2]

section
variable {du df : Int} {C : List Int}
/-- A plain step. -/
theorem step_lift (hd : du ≤ df) (op arg arg' b b' : Int) (M : Ma) (ho : op = 1 ∨ op = 2 ∨ op = 3 ∨ 16 ≤ op) (ha : op = 1 → arg' = arg) (h6 : (stepM op arg b M).2.1 ≠ 6) :
    (stepM op arg' b' (liftM du df C M)).2.1 = (stepM op arg b M).2.1 ∧ (stepM op arg' b' (liftM du df C M)).2.2 = liftM du df C (stepM op arg b M).2.2 ∧
      ((stepM op arg b M).2.1 = 0 → ((stepM op arg b M).1 = arg ∧ (stepM op arg' b' (liftM du df C M)).1 = arg' ∧ (op = 2 ∨ op = 3)) ∨ ((stepM op arg b M).1 = b ∧ (stepM op arg' b' (liftM du df C M)).1 = b')) := by
  have htick : ∀ N : Ma, (liftM du df C N).tick = liftM du df C N.tick := by
    intro N
    show ({ N with used := N.used + du + 1, fuel := N.fuel + df, calls := C } : Ma) = { N with used := N.used + 1 + du, fuel := N.fuel + df, calls := C }
    congr 1; omega
  by_cases c1 : op = 1
  · subst c1
    have ea := ha rfl
    subst ea
    have e : ∀ (x : Int) (N : Ma), stepM 1 arg' x N = (x, N.number arg') := fun _ _ => rfl
    rw [e] at h6 ⊢
    rw [e]
    have hr : M.room 0 1 ≠ 6 := by
      intro h
      apply h6
      show (M.number arg').1 = 6
      unfold Ma.number; rw [if_pos (by rw [h]; decide)]; exact h
    have e2 := lift_room (C := C) hd M 0 1 hr
    have hnum : (liftM du df C M).number arg' = ((M.number arg').1, liftM du df C (M.number arg').2) := by
      unfold Ma.number
      rw [e2]
      by_cases q : M.room 0 1 ≠ 0
      · rw [if_pos q, if_pos q]
      · rw [if_neg q, if_neg q]
        show ((0 : Int), ((liftM du df C M).push arg').tick) = (0, liftM du df C (M.push arg').tick)
        rw [← htick]; rfl
    rw [hnum]
    exact ⟨rfl, rfl, fun _ => .inr ⟨rfl, rfl⟩⟩
  by_cases c2 : op = 2
  · subst c2
    have e : ∀ (y x : Int) (N : Ma), stepM 2 y x N = (y, N.pass) := fun _ _ _ => rfl
    rw [e] at h6 ⊢
    rw [e]
    have hr : M.room 0 0 ≠ 6 := by
      intro h
      apply h6
      show M.pass.1 = 6
      unfold Ma.pass; rw [if_pos (by rw [h]; decide)]; exact h
    have e2 := lift_room (C := C) hd M 0 0 hr
    have hnum : (liftM du df C M).pass = (M.pass.1, liftM du df C M.pass.2) := by
      unfold Ma.pass
      rw [e2]
      by_cases q : M.room 0 0 ≠ 0
      · rw [if_pos q, if_pos q]
      · rw [if_neg q, if_neg q, htick]
    rw [hnum]
    exact ⟨rfl, rfl, fun _ => .inl ⟨rfl, rfl, .inl rfl⟩⟩
  by_cases c3 : op = 3
  · subst c3
    have e : ∀ (y x : Int) (N : Ma), stepM 3 y x N = (if N.takeN.1 = 0 then y else x, N.takeN.2) := fun _ _ _ => rfl
    rw [e] at h6 ⊢
    rw [e]
    have hr : M.room 1 0 ≠ 6 := by
      intro h
      apply h6
      show M.takeN.2.1 = 6
      unfold Ma.takeN; rw [if_pos (by rw [h]; decide)]; exact h
    have e2 := lift_room (C := C) hd M 1 0 hr
    have hnum : (liftM du df C M).takeN = (M.takeN.1, M.takeN.2.1, liftM du df C M.takeN.2.2) := by
      unfold Ma.takeN
      rw [e2]
      by_cases q : M.room 1 0 ≠ 0
      · rw [if_pos q, if_pos q]
      · rw [if_neg q, if_neg q, htick]; rfl
    rw [hnum]
    refine ⟨rfl, rfl, fun _ => ?_⟩
    by_cases c : M.takeN.1 = 0
    · exact .inl ⟨if_pos c, if_pos c, .inr rfl⟩
    · exact .inr ⟨if_neg c, if_neg c⟩
  have h16 : 16 ≤ op := by omega
  have e : ∀ (y x : Int) (N : Ma), stepM op y x N = (x, N.doN (op - 16)) := by
    intro y x N; unfold stepM; rw [if_neg c1, if_neg c2, if_neg c3, if_neg (by omega), if_neg (by omega)]
  rw [e] at h6 ⊢
  rw [e]
  have hr : M.room (takesN (op - 16)) (givesN (op - 16)) ≠ 6 := by
    intro h
    apply h6
    show (M.doN (op - 16)).1 = 6
    unfold Ma.doN; rw [if_pos (by rw [h]; decide)]; exact h
  have e2 := lift_room (C := C) hd M _ _ hr
  have hnum : (liftM du df C M).doN (op - 16) = ((M.doN (op - 16)).1, liftM du df C (M.doN (op - 16)).2) := by
    unfold Ma.doN
    have e3 : (liftM du df C M).fault (op - 16) = M.fault (op - 16) := rfl
    rw [e2, e3]
    by_cases q : M.room (takesN (op - 16)) (givesN (op - 16)) ≠ 0
    · rw [if_pos q, if_pos q]
    · rw [if_neg q, if_neg q]
      by_cases q2 : M.fault (op - 16) ≠ 0
      · rw [if_pos q2, if_pos q2]
      · rw [if_neg q2, if_neg q2, lift_act]
  rw [hnum]
  exact ⟨rfl, rfl, fun _ => .inr ⟨rfl, rfl⟩⟩
end
end Go.Proofs.YtnanjomnldfidabGreatDoor

set_option linter.unusedSimpArgs false
set_option linter.unusedVariables false
set_option linter.unusedSectionVars false
namespace Go.Proofs.YtnanjomnldfidabGreatDoor

section
variable {du df : Int} {C : List Int} {S S2 : List (Int × Int)} {k : Nat}

theorem stepAt_nat (S : List (Int × Int)) (p : Nat) {x : Int × Int} (h : S[p]? = some x) : stepAt S (p : Int) = x := by
  unfold stepAt; rw [Int.toNat_natCast, List.getD_eq_getElem?_getD, h]; rfl
theorem next_lift (hd : du ≤ df) (hS2 : ∀ (i : Nat) x, S[i]? = some x → S2[k + i]? = some (shA k x)) (hP : Plain S) (p : Nat) (hp : p < S.length) (M : Ma) (h6 : (nextS S (p : Int) M).2.1 ≠ 6) :
    (nextS S2 ((k + p : Nat) : Int) (liftM du df C M)).2.1 = (nextS S (p : Int) M).2.1 ∧ (nextS S2 ((k + p : Nat) : Int) (liftM du df C M)).2.2 = liftM du df C (nextS S (p : Int) M).2.2 ∧
      ((nextS S (p : Int) M).2.1 = 0 → ∃ q : Nat, q ≤ S.length ∧ (nextS S (p : Int) M).1 = (q : Int) ∧ (nextS S2 ((k + p : Nat) : Int) (liftM du df C M)).1 = ((k + q : Nat) : Int)) := by
  obtain ⟨x, hx⟩ : ∃ x, S[p]? = some x := ⟨_, List.getElem?_eq_getElem hp⟩
  have h1 := stepAt_nat S p hx
  have h2 := stepAt_nat S2 (k + p) (hS2 p x hx)
  have hop := hP.ops p x hx
  have hn1 : ¬ x.1 = -1 := by unfold opPlain at hop; omega
  have e1 : ∀ N, nextS S (p : Int) N = stepM x.1 x.2 ((p : Int) + 1) N := by intro N; unfold nextS; rw [h1, if_neg hn1]
  have e2 : ∀ N, nextS S2 ((k + p : Nat) : Int) N = stepM x.1 (shA k x).2 (((k + p : Nat) : Int) + 1) N := by
    intro N; unfold nextS; rw [h2, if_neg (show ¬ (shA k x).1 = -1 from hn1)]; rfl
  rw [e1] at h6
  rw [e1, e2]
  have ho : x.1 = 1 ∨ x.1 = 2 ∨ x.1 = 3 ∨ 16 ≤ x.1 := by unfold opPlain at hop; omega
  have ha : x.1 = 1 → (shA k x).2 = x.2 := by intro h; unfold shA; rw [if_neg (by omega)]
  obtain ⟨a, b, c⟩ := step_lift (C := C) hd x.1 x.2 (shA k x).2 ((p : Int) + 1) (((k + p : Nat) : Int) + 1) M ho ha h6
  refine ⟨a, b, fun h0 => ?_⟩
  rcases c h0 with ⟨c1, c2, c3⟩ | ⟨c1, c2⟩
  · have hb : 0 ≤ x.2 ∧ x.2 ≤ S.length := by unfold opPlain at hop; omega
    obtain ⟨q, hq⟩ := Int.eq_ofNat_of_zero_le hb.1
    refine ⟨q, by omega, by rw [c1, hq], ?_⟩
    rw [c2]
    unfold shA
    rw [if_pos c3, hq]
    show (q : Int) + (k : Int) = ((k + q : Nat) : Int)
    omega
  · exact ⟨p + 1, by omega, by rw [c1]; omega, by rw [c2]; omega⟩
theorem steps_lift (hd : du ≤ df) (hS2 : ∀ (i : Nat) x, S[i]? = some x → S2[k + i]? = some (shA k x)) (hP : Plain S) (hl : k + S.length ≤ S2.length) : ∀ (j : Nat) (p : Nat) (M : Ma) (p' : Int) (M' : Ma), p ≤ S.length → stepsS S j (p : Int) M = some (p', M') →
    ∃ q : Nat, q ≤ S.length ∧ p' = (q : Int) ∧ stepsS S2 j ((k + p : Nat) : Int) (liftM du df C M) = some (((k + q : Nat) : Int), liftM du df C M')
  | 0, p, M, p', M', hp, h => by
    simp only [stepsS, Option.some.injEq, Prod.mk.injEq] at h
    exact ⟨p, hp, h.1.symm, by rw [← h.2]; rfl⟩
  | j + 1, p, M, p', M', hp, h => by
    unfold stepsS at h
    by_cases hc : (0 ≤ (p : Int) ∧ (p : Int) < S.length) ∧ (nextS S (p : Int) M).2.1 = 0
    · rw [if_pos hc] at h
      obtain ⟨a, b, c⟩ := next_lift (du := du) (df := df) (C := C) (k := k) hd hS2 hP p (by omega) M (by rw [hc.2]; decide)
      obtain ⟨q, q1, q2, q3⟩ := c hc.2
      rw [q2] at h
      obtain ⟨r, r1, r2, r3⟩ := steps_lift hd hS2 hP hl j q _ p' M' q1 h
      refine ⟨r, r1, r2, ?_⟩
      rw [stepsS_one (by omega) (by rw [a]; exact hc.2), q3, b]
      exact r3
    · rw [if_neg hc] at h; cases h

theorem plain_next (hP : Plain S) (p : Nat) (hp : p < S.length) (M : Ma) : ∃ op arg b, nextS S (p : Int) M = stepM op arg b M ∧ opOk op ∧ (op = 1 → 0 ≤ arg ∧ arg < 65536) := by
  obtain ⟨x, hx⟩ : ∃ x, S[p]? = some x := ⟨_, List.getElem?_eq_getElem hp⟩
  have h1 := stepAt_nat S p hx
  have hop := hP.ops p x hx
  refine ⟨x.1, x.2, (p : Int) + 1, by unfold nextS; rw [h1, if_neg (by unfold opPlain at hop; omega)], by unfold opPlain at hop; unfold opOk; omega, ?_⟩
  intro h; unfold opPlain at hop; omega
theorem plain_fine (hP : Plain S) : ∀ (j : Nat) (p : Nat) (M : Ma) (p' : Int) (M' : Ma), stepsS S j (p : Int) M = some (p', M') → p ≤ S.length → Fine M → Fine M' ∧ M'.fuel = M.fuel
  | 0, p, M, p', M', h, _, hf => by
    simp only [stepsS, Option.some.injEq, Prod.mk.injEq] at h
    rw [← h.2]; exact ⟨hf, rfl⟩
  | j + 1, p, M, p', M', h, hp, hf => by
    unfold stepsS at h
    by_cases hc : (0 ≤ (p : Int) ∧ (p : Int) < S.length) ∧ (nextS S (p : Int) M).2.1 = 0
    · rw [if_pos hc] at h
      obtain ⟨op, arg, b, e, ho, ha⟩ := plain_next hP p (by omega) M
      have he := hc.2
      obtain ⟨a, b', c⟩ := next_lift (du := 0) (df := 0) (C := []) (k := 0) (S2 := S.map (shA 0)) (Int.le_refl _) (fun i x hx => by rw [Nat.zero_add, List.getElem?_map, hx]; rfl) hP p (by omega) M (by rw [he]; decide)
      obtain ⟨q, q1, q2, _⟩ := c he
      rw [q2, e] at h
      rw [e] at he
      have hu := step_used op arg b M he ho hf.ok ha
      have hr := step_room op arg b M he
      have hfu := step_fuel op arg b M
      obtain ⟨r1, r2⟩ := plain_fine hP j q _ p' M' h q1 ⟨hu.2, by rw [hu.1, hfu]; omega⟩
      exact ⟨r1, by rw [r2, hfu]⟩
    · rw [if_neg hc] at h; cases h

/-- What a plain program's run comes to, and that it does the same within another one's. -/
theorem plain_run {Inv : Int → Ma → Prop} (hI : StepInv S Inv) (hP : Plain S) (n : Nat) (M : Ma) (h0 : Inv 0 M) (hf : Fine M) (hn : measN S.length M.used 0 ≤ n) :
    Fine (runS S n 0 M).2 ∧ (runS S n 0 M).2.fuel = M.fuel ∧ ((runS S n 0 M).1 = 6 → (runS S n 0 M).2.used = M.fuel) ∧
    ((runS S n 0 M).1 ≠ 6 → ∀ (du df : Int) (C : List Int) (k : Nat) (S2 : List (Int × Int)), du ≤ df → (∀ (i : Nat) x, S[i]? = some x → S2[k + i]? = some (shA k x)) → k + S.length ≤ S2.length →
      ∃ j, ((runS S n 0 M).1 = 0 ∧ stepsS S2 j (k : Int) (liftM du df C M) = some (((k + S.length : Nat) : Int), liftM du df C (runS S n 0 M).2)) ∨
        ((runS S n 0 M).1 ≠ 0 ∧ ∃ q, q < S.length ∧ stepsS S2 j (k : Int) (liftM du df C M) = some (((k + q : Nat) : Int), liftM du df C (runS S n 0 M).2) ∧ (nextS S2 ((k + q : Nat) : Int) (liftM du df C (runS S n 0 M).2)).2.1 = (runS S n 0 M).1)) := by
  obtain ⟨j, p', M', a, b, c⟩ := runS_ends hI n 0 M h0 hn
  have a' : stepsS S j ((0 : Nat) : Int) M = some (p', M') := a
  obtain ⟨f1, f2⟩ := plain_fine hP j 0 M p' M' a' (Nat.zero_le _) hf
  have hr2 : (runS S n 0 M).2 = M' := by rcases c with ⟨_, c⟩ | ⟨_, _, c⟩ <;> rw [c]
  rw [hr2]
  refine ⟨f1, f2, ?_, ?_⟩
  · intro h6
    rcases c with ⟨_, c⟩ | ⟨x, y, c⟩
    · rw [c] at h6; cases h6
    · rw [c] at h6
      obtain ⟨q, hq⟩ := Int.eq_ofNat_of_zero_le x.1
      rw [hq] at h6
      obtain ⟨op, arg, b2, e, _⟩ := plain_next hP q (by omega) M'
      rw [e] at h6
      have := step_six op arg b2 M' h6
      have := f1.used
      omega
  · intro h6 du df C k S2 hd hS2 hl
    obtain ⟨q, q1, q2, q3⟩ := steps_lift (du := du) (df := df) (C := C) hd hS2 hP hl j 0 M p' M' (Nat.zero_le _) a'
    subst q2
    refine ⟨j, ?_⟩
    rcases c with ⟨x, c⟩ | ⟨x, y, c⟩
    · left
      rw [c]
      have : q = S.length := by omega
      subst this
      exact ⟨rfl, q3⟩
    · right
      rw [c] at h6 ⊢
      obtain ⟨a1, _, _⟩ := next_lift (du := du) (df := df) (C := C) (k := k) hd hS2 hP q (by omega) M' h6
      exact ⟨y, q, by omega, q3, a1⟩
end

/-- Run's answer by the run of steps. -/
def runD (s : ByteArray) (b : BoxV) : Int × Ma := runS (readM s).2.2.steps (measN (readM s).2.2.steps.length 0 0) 0 (Ma.start b.inp b.image.toList b.kernel b.secret b.rights b.fuel)
theorem runCells_dev (s : ByteArray) (b : BoxV) (h1 : (readM s).1 = 0) (hi : b.image.size ≤ 256) (hfu : b.fuel ≤ 10000) (hin : b.inp.size ≤ maxLen) : runCells s b = resCells (runD s b).2 (runD s b).1 := by
  unfold runCells
  rw [if_neg (by simp [h1]), if_neg (by omega)]
  obtain ⟨L, hl⟩ := laid_of_read s h1
  have hinv := start_inv (toksFrom s 0) b hi hin
  have hal := runs_alike L (runFuel (toksFrom s 0)) 0 _ hinv (Nat.le_refl _) (measN (readM s).2.2.steps.length 0 0) (Nat.le_refl _)
  have hal' : runD s b = _ := hal
  rw [hal']
  rfl
end Go.Proofs.YtnanjomnldfidabGreatDoor
