/-
  The words of a text, by its list of bytes: what a text made of two falls into.
-/
import Derived.Test.YtnanjomnldfidaaDoorRefLeafToRefChk
set_option linter.unusedSimpArgs false
set_option linter.unusedVariables false
set_option linter.unusedSectionVars false
namespace Go.Proofs.YtnanjomnldfidaaDoor

/-- The words of a list of bytes: pos: where we are; cur: the word so far, which began at st. -/
def lexL : List UInt8 → Nat → List UInt8 → Nat → List (List UInt8 × Nat)
  | [], _, cur, st => if cur = [] then [] else [(cur, st)]
  | c :: l, pos, cur, st =>
    if c.toNat ≤ 32 then (if cur = [] then lexL l (pos + 1) [] (pos + 1) else (cur, st) :: lexL l (pos + 1) [] (pos + 1))
    else lexL l (pos + 1) (cur ++ [c]) st
def asTok (x : List UInt8 × Nat) : ByteArray × Nat := (⟨x.1.toArray⟩, x.2)

theorem take_drop_snoc (l : List UInt8) (fr i : Nat) (c : UInt8) (hfi : fr ≤ i) (h : l[i]? = some c) : (l.take (i + 1)).drop fr = (l.take i).drop fr ++ [c] := by
  obtain ⟨hi, hc⟩ := List.getElem?_eq_some_iff.1 h
  rw [List.take_succ_eq_append_getElem hi, List.drop_append_of_le_length (by simp; omega), hc]

theorem lex_eq (s : ByteArray) : ∀ n fr i, s.size - i = n → fr ≤ i → i ≤ s.size → (∀ j (h : j < s.size), fr ≤ j → j < i → 32 < (s[j].toNat : Int)) →
    toksFrom s fr = (lexL (s.toList.drop i) i ((s.toList.take i).drop fr) fr).map asTok
  | 0, fr, i, hn, hfi, hi, hall => by
    have e : i = s.size := by omega
    have hcl : ((s.toList.take i).drop fr).length = i - fr := by rw [List.length_drop, List.length_take, toList_len]; omega
    rw [List.drop_of_length_le (by rw [toList_len]; omega), lexL]
    by_cases hf : fr = i
    · rw [if_pos (List.eq_nil_of_length_eq_zero (by omega)), toks_end s fr (by omega)]
      rfl
    · rw [if_neg (fun h => by rw [h] at hcl; simp at hcl; omega), toks_word s fr i (by omega) hi hall (fun h => by omega), toks_end s i e]
      have : s.extract fr i = ⟨((s.toList.take i).drop fr).toArray⟩ := eq_mk (toList_extract s fr i)
      rw [this]
      rfl
  | n + 1, fr, i, hn, hfi, hi, hall => by
    have hlt : i < s.size := by omega
    have hlt2 : i < s.toList.length := by rw [toList_len]; exact hlt
    have hcl : ((s.toList.take i).drop fr).length = i - fr := by rw [List.length_drop, List.length_take, toList_len]; omega
    have hci : s.toList[i] = s[i] := by
      have : s.toList[i]? = some s[i] := by
        rw [ByteArray.toList_eq]
        have : i < s.data.toList.length := by rw [len_data]; exact hlt
        rw [List.getElem?_eq_getElem this]
        rfl
      rw [List.getElem?_eq_getElem hlt2] at this
      exact Option.some.inj this
    rw [List.drop_eq_getElem_cons hlt2, lexL, hci]
    by_cases hb : s[i].toNat ≤ 32
    · rw [if_pos hb]
      have ih := lex_eq s n (i + 1) (i + 1) (by omega) (Nat.le_refl _) (by omega) (fun j h h1 h2 => by omega)
      have e0 : (s.toList.take (i + 1)).drop (i + 1) = [] := List.drop_of_length_le (by rw [List.length_take]; omega)
      rw [e0] at ih
      by_cases hf : fr = i
      · rw [if_pos (List.eq_nil_of_length_eq_zero (by omega)), ← ih, hf, toks_blank s i hlt (by omega)]
      · rw [if_neg (fun h => by rw [h] at hcl; simp at hcl; omega), List.map_cons, ← ih, toks_word s fr i (by omega) (by omega) hall (fun h => by omega), toks_blank s i hlt (by omega)]
        have : s.extract fr i = ⟨((s.toList.take i).drop fr).toArray⟩ := eq_mk (toList_extract s fr i)
        rw [this]
        rfl
    · rw [if_neg hb]
      have ih := lex_eq s n fr (i + 1) (by omega) (by omega) (by omega) (fun j h h1 h2 => by
        by_cases e : j = i
        · subst e; omega
        · exact hall j h h1 (by omega))
      rw [take_drop_snoc s.toList fr i s[i] hfi (by rw [List.getElem?_eq_getElem hlt2, hci])] at ih
      exact ih
theorem toks_lex (s : ByteArray) : toksFrom s 0 = (lexL s.toList 0 [] 0).map asTok := by
  have := lex_eq s s.size 0 0 (by omega) (Nat.le_refl _) (Nat.zero_le _) (fun j h h1 h2 => by omega)
  simpa using this

/-- Places moved on. -/
def shiftL (d : Nat) (T : List (List UInt8 × Nat)) : List (List UInt8 × Nat) := T.map fun x => (x.1, x.2 + d)
theorem lex_shift (d : Nat) : ∀ (l : List UInt8) (pos : Nat) (cur : List UInt8) (st : Nat), lexL l (pos + d) cur (st + d) = shiftL d (lexL l pos cur st)
  | [], pos, cur, st => by unfold lexL shiftL; split <;> rfl
  | c :: l, pos, cur, st => by
    unfold lexL
    have h1 := lex_shift d l (pos + 1) [] (pos + 1)
    have h2 := lex_shift d l (pos + 1) (cur ++ [c]) st
    rw [show pos + d + 1 = pos + 1 + d by omega]
    split
    · split
      · exact h1
      · rw [h1]; rfl
    · exact h2
/-- A text of two whose first ends in a blank, or whose second begins with one. -/
theorem lex_append_blank (b : List UInt8) (hb : ∃ c b', b = c :: b' ∧ c.toNat ≤ 32) : ∀ (a : List UInt8) (pos : Nat) (cur : List UInt8) (st : Nat), lexL (a ++ b) pos cur st = lexL a pos cur st ++ lexL b (pos + a.length) [] (pos + a.length)
  | [], pos, cur, st => by
    obtain ⟨c, b', rfl, hc⟩ := hb
    simp only [List.nil_append, List.length_nil, Nat.add_zero]
    unfold lexL
    rw [if_pos hc, if_pos hc, if_pos rfl]
    split <;> rfl
  | c :: l, pos, cur, st => by
    rw [List.cons_append]
    have h1 := lex_append_blank b hb l (pos + 1) [] (pos + 1)
    have h2 := lex_append_blank b hb l (pos + 1) (cur ++ [c]) st
    rw [show pos + 1 + l.length = pos + (c :: l).length by simp; omega] at h1 h2
    conv => lhs; unfold lexL
    conv => rhs; arg 1; unfold lexL
    split
    · split
      · exact h1
      · rw [h1]; rfl
    · exact h2
theorem lex_append_after (b : List UInt8) : ∀ (a : List UInt8) (c : UInt8), c.toNat ≤ 32 → ∀ (pos : Nat) (cur : List UInt8) (st : Nat), lexL ((a ++ [c]) ++ b) pos cur st = lexL (a ++ [c]) pos cur st ++ lexL b (pos + a.length + 1) [] (pos + a.length + 1)
  | [], c, hc, pos, cur, st => by
    simp only [List.nil_append, List.cons_append, List.length_nil, Nat.add_zero]
    have e : lexL [] (pos + 1) [] (pos + 1) = [] := by unfold lexL; rfl
    generalize hX : lexL b (pos + 1) [] (pos + 1) = X
    unfold lexL
    rw [if_pos hc, if_pos hc, e, hX]
    split <;> rfl
  | x :: l, c, hc, pos, cur, st => by
    rw [List.cons_append, List.cons_append]
    have h1 := lex_append_after b l c hc (pos + 1) [] (pos + 1)
    have h2 := lex_append_after b l c hc (pos + 1) (cur ++ [x]) st
    rw [show pos + 1 + l.length + 1 = pos + (x :: l).length + 1 by simp; omega] at h1 h2
    conv => lhs; unfold lexL
    conv => rhs; arg 1; unfold lexL
    split
    · split
      · exact h1
      · rw [h1]; rfl
    · exact h2

def shiftT (d : Nat) (T : Words) : Words := T.map fun x => (x.1, x.2 + d)
theorem map_shift (d : Nat) (T : List (List UInt8 × Nat)) : (shiftL d T).map asTok = shiftT d (T.map asTok) := by
  simp [shiftL, shiftT, asTok]
theorem toks_two_blank (a b : ByteArray) (hb : ∃ c b', b.toList = c :: b' ∧ c.toNat ≤ 32) : toksFrom (a ++ b) 0 = toksFrom a 0 ++ shiftT a.size (toksFrom b 0) := by
  rw [toks_lex, toks_lex, toks_lex, toList_append, lex_append_blank _ hb, List.map_append]
  have := lex_shift a.toList.length b.toList 0 [] 0
  rw [this, map_shift, toList_len]
theorem toks_two_after (a b : ByteArray) (ha : ∃ l c, a.toList = l ++ [c] ∧ c.toNat ≤ 32) : toksFrom (a ++ b) 0 = toksFrom a 0 ++ shiftT a.size (toksFrom b 0) := by
  obtain ⟨l, c, hl, hc⟩ := ha
  rw [toks_lex, toks_lex, toks_lex, toList_append, hl, lex_append_after _ l c hc, List.map_append]
  have := lex_shift (l.length + 1) b.toList 0 [] 0
  have hs : a.size = l.length + 1 := by rw [← toList_len, hl]; simp
  rw [show 0 + l.length + 1 = 0 + (l.length + 1) by omega, this, map_shift, hs]

/-- The reader over words whose places have moved; over two lists. -/
theorem read_shift (d : Nat) : ∀ (T : Words) (R : Rd), R.read (shiftT d T) = ((R.read T).1, if (R.read T).1 = 0 then 0 else (R.read T).2.1 + d, (R.read T).2.2)
  | [], R => rfl
  | (t, a) :: r, R => by
    show R.read ((t, a + d) :: shiftT d r) = _
    by_cases h : (R.take t).1 = 0
    · rw [Rd.read_yes R t _ _ h, Rd.read_yes R t _ _ h, read_shift d r]
    · rw [Rd.read_no R t _ _ h, Rd.read_no R t _ _ h]
      simp [h]
theorem read_append : ∀ (T U : Words) (R : Rd), R.read (T ++ U) = if (R.read T).1 = 0 then (R.read T).2.2.read U else R.read T
  | [], U, R => by simp [Rd.read_nil]
  | (t, a) :: r, U, R => by
    rw [List.cons_append]
    by_cases h : (R.take t).1 = 0
    · rw [Rd.read_yes R t _ _ h, Rd.read_yes R t _ _ h, read_append r U]
    · rw [Rd.read_no R t _ _ h, Rd.read_no R t _ _ h]
      simp [h]
/-- readProgram out of what the reader comes to. -/
def outM (n : Nat) (r : Int × Nat × Rd) : Int × Nat × Rd := if r.1 ≠ 0 then r else if r.2.2.fin ≠ 0 then (r.2.2.fin, n, Rd.fresh) else (0, 0, r.2.2)
theorem readM_out (s : ByteArray) (h : s.size ≤ 400) : readM s = outM s.size (Rd.fresh.read (toksFrom s 0)) := by
  unfold readM outM
  rw [if_neg (by omega)]
theorem outM_err {n : Nat} {r : Int × Nat × Rd} (h : r.1 ≠ 0) : outM n r = r := by unfold outM; rw [if_pos h]
theorem outM_fin {n : Nat} {r : Int × Nat × Rd} (h : r.1 = 0) (h2 : r.2.2.fin ≠ 0) : outM n r = (r.2.2.fin, n, Rd.fresh) := by unfold outM; rw [if_neg (by simp [h]), if_pos h2]
theorem outM_ok {n : Nat} {r : Int × Nat × Rd} (h : r.1 = 0) (h2 : r.2.2.fin = 0) : outM n r = (0, 0, r.2.2) := by unfold outM; rw [if_neg (by simp [h]), if_neg (by simp [h2])]
end Go.Proofs.YtnanjomnldfidaaDoor
