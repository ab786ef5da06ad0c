/-
  A plain program within another one: what the reader makes of it. Plain mathematics.
-/
import Derived.Test.YtnanjomnldfidaaDoorLex
import Derived.Test.YtnanjomnldfidaaDoorLayPureToLayAll
set_option linter.unusedSimpArgs false
set_option linter.unusedVariables false
set_option linter.unusedSectionVars false
namespace Go.Proofs.YtnanjomnldfidaaDoor

/-- A step, a form, k steps later. -/
def shA (k : Nat) (x : Int × Int) : Int × Int := (x.1, if x.1 = 2 ∨ x.1 = 3 then x.2 + k else x.2)
def shF (k : Nat) (f : Int × Int × Int) : Int × Int × Int := (f.1, if f.1 = 3 ∨ f.1 = 4 then f.2.1 + k else f.2.1, if f.1 = 3 then f.2.2 else f.2.2 + k)

theorem aimI_get (l : List (Int × Int)) (x : Int) (i : Nat) : (aimI l x)[i]? = if (i : Int) = x then (l[i]?).map (fun p => (p.1, (l.length : Int))) else l[i]? := by
  unfold aimI aimAt
  by_cases hr : 0 ≤ x ∧ x < (l.length : Int)
  · rw [if_pos hr, List.getElem?_modify]
    by_cases he : (i : Int) = x
    · have : x.toNat = i := by omega
      rw [if_pos he, this]; simp
    · have : ¬ x.toNat = i := by omega
      rw [if_neg he]; simp [this]
  · rw [if_neg hr]
    by_cases he : (i : Int) = x
    · have : l.length ≤ i := by omega
      rw [if_pos he, List.getElem?_eq_none this]; rfl
    · rw [if_neg he]

/-- The steps of the one, k steps later, within the steps of the other; O: those that still wait. -/
structure StR (k : Nat) (A : List (Int × Int)) (O : Nat → Prop) (S S2 : List (Int × Int)) : Prop where
  len : S2.length = k + S.length
  pre : ∀ i, i < k → S2[i]? = A[i]?
  rel : ∀ (i : Nat) x, S[i]? = some x → ∃ y, S2[k + i]? = some y ∧ y.1 = x.1 ∧ (y = shA k x ∨ O i)
theorem StR.mono {k : Nat} {A : List (Int × Int)} {O O' : Nat → Prop} {S S2 : List (Int × Int)} (h : StR k A O S S2) (hO : ∀ i, O i → O' i) : StR k A O' S S2 :=
  ⟨h.len, h.pre, fun i x hx => by obtain ⟨y, a, b, c⟩ := h.rel i x hx; exact ⟨y, a, b, c.imp id (hO i)⟩⟩
theorem StR.add {k : Nat} {A : List (Int × Int)} {O O' : Nat → Prop} {S S2 : List (Int × Int)} (h : StR k A O S S2) {op arg arg' : Int} (hn : (op, arg') = shA k (op, arg) ∨ O' S.length) (hO : ∀ i, O i → O' i) : StR k A O' (S ++ [(op, arg)]) (S2 ++ [(op, arg')]) := by
  refine ⟨by simp [h.len]; omega, fun i hi => ?_, fun i x hx => ?_⟩
  · rw [List.getElem?_append_left (by rw [h.len]; omega)]; exact h.pre i hi
  · by_cases hi : i < S.length
    · rw [List.getElem?_append_left hi] at hx
      obtain ⟨y, a, b, c⟩ := h.rel i x hx
      exact ⟨y, by rw [List.getElem?_append_left (by rw [h.len]; omega)]; exact a, b, c.imp id (hO i)⟩
    · have hi2 : i = S.length := by
        rcases Nat.lt_or_ge i (S.length + 1) with h1 | h1
        · omega
        · rw [List.getElem?_eq_none (by simp; omega)] at hx; cases hx
      subst hi2
      rw [List.getElem?_append_right (Nat.le_refl _), Nat.sub_self] at hx
      simp at hx
      subst hx
      refine ⟨(op, arg'), ?_, rfl, hn⟩
      rw [List.getElem?_append_right (by rw [h.len]; omega), h.len, Nat.sub_self]
      rfl
theorem StR.aim {k : Nat} {A : List (Int × Int)} {O O' : Nat → Prop} {S S2 : List (Int × Int)} (h : StR k A O S S2) {q : Nat} {x0 : Int × Int} (hx0 : S[q]? = some x0) (hop : x0.1 = 2 ∨ x0.1 = 3) (hO : ∀ i, i ≠ q → O i → O' i) : StR k A O' (aimI S (q : Int)) (aimI S2 ((q : Int) + k)) := by
  refine ⟨by rw [aimI_length, aimI_length]; exact h.len, fun i hi => ?_, fun i x hx => ?_⟩
  · rw [aimI_get, if_neg (by omega)]; exact h.pre i hi
  · rw [aimI_get] at hx
    by_cases he : i = q
    · subst he
      rw [if_pos rfl, hx0] at hx
      simp at hx
      obtain ⟨y, a, b, c⟩ := h.rel i x0 hx0
      refine ⟨(y.1, (S2.length : Int)), ?_, by rw [← hx]; exact b, .inl ?_⟩
      · rw [aimI_get, if_pos (by omega), a]; rfl
      · rw [← hx]
        unfold shA
        simp only [hop, if_true, b, h.len]
        congr 1
        omega
    · rw [if_neg (by omega)] at hx
      obtain ⟨y, a, b, c⟩ := h.rel i x hx
      exact ⟨y, by rw [aimI_get, if_neg (by omega)]; exact a, b, c.imp id (hO i he)⟩

/-- What the reader of a plain program holds. -/
def openH (F : Rd) (i : Nat) : Prop := ∃ f ∈ F.forms, (f.1 = 1 ∨ f.1 = 2) ∧ f.2.2 = (i : Int)
structure FormBd (S : List (Int × Int)) (f : Int × Int × Int) : Prop where
  kind : f.1 = 1 ∨ f.1 = 2 ∨ f.1 = 3 ∨ f.1 = 4
  hole : f.1 ≠ 3 → ∃ q : Nat, f.2.2 = (q : Int) ∧ ∃ x, S[q]? = some x ∧ (x.1 = 2 ∨ x.1 = 3)
  begin' : f.1 = 3 ∨ f.1 = 4 → 0 ≤ f.2.1 ∧ f.2.1 ≤ S.length
def opPlain (n : Nat) (x : Int × Int) : Prop := (x.1 = 1 ∧ 0 ≤ x.2 ∧ x.2 < 65536) ∨ ((x.1 = 2 ∨ x.1 = 3) ∧ 0 ≤ x.2 ∧ x.2 ≤ n) ∨ (16 ≤ x.1 ∧ x.1 ≤ 34)
structure Emb (G0 F G : Rd) : Prop where
  fdue : F.due = false
  gdue : G.due = false
  fins : F.inside = false
  fdefs : F.defs = []
  gdefs : G.defs = []
  ins : G.inside = G0.inside
  name : G.name = G0.name
  first : G.first = G0.first
  forms : G.forms = G0.forms ++ F.forms.map (shF G0.steps.length)
  bd : ∀ f ∈ F.forms, FormBd F.steps f
  steps : StR G0.steps.length G0.steps (openH F) F.steps G.steps
  plain : ∀ (i : Nat) x, F.steps[i]? = some x → opPlain F.steps.length x
theorem Emb.start (G0 : Rd) (hd : G0.due = false) (hdf : G0.defs = []) : Emb G0 Rd.fresh G0 :=
  ⟨rfl, hd, rfl, rfl, hdf, rfl, rfl, rfl, by simp [Rd.fresh], (fun f hf => by simp [Rd.fresh] at hf), ⟨by simp [Rd.fresh], (fun _ _ => rfl), (fun i x hx => by simp [Rd.fresh] at hx)⟩, (fun i x hx => by simp [Rd.fresh] at hx)⟩

section
variable {G0 F G : Rd}
theorem FormBd.mono {S S' : List (Int × Int)} {f : Int × Int × Int} (h : FormBd S f) (hl : S.length ≤ S'.length) (hs : ∀ (q : Nat) (x : Int × Int), S[q]? = some x → ∃ x', S'[q]? = some x' ∧ x'.1 = x.1) : FormBd S' f :=
  ⟨h.kind, fun hk => by obtain ⟨q, a, x, b, c⟩ := h.hole hk; obtain ⟨x', d, e⟩ := hs q x b; exact ⟨q, a, x', d, by rw [e]; exact c⟩, fun hk => by have := h.begin' hk; omega⟩
theorem keep_add (S : List (Int × Int)) (z : Int × Int) : S.length ≤ (S ++ [z]).length ∧ ∀ (q : Nat) (x : Int × Int), S[q]? = some x → ∃ x', (S ++ [z])[q]? = some x' ∧ x'.1 = x.1 :=
  ⟨by simp, fun q x hx => ⟨x, by
    have hq : q < S.length := by
      rcases Nat.lt_or_ge q S.length with h | h
      · exact h
      · rw [List.getElem?_eq_none h] at hx; cases hx
    rw [List.getElem?_append_left hq]; exact hx, rfl⟩⟩
theorem keep_aim (S : List (Int × Int)) (y : Int) : S.length ≤ (aimI S y).length ∧ ∀ (q : Nat) (x : Int × Int), S[q]? = some x → ∃ x', (aimI S y)[q]? = some x' ∧ x'.1 = x.1 :=
  ⟨by rw [aimI_length]; exact Nat.le_refl _, fun q x hx => by
    rw [aimI_get]
    by_cases he : (q : Int) = y
    · rw [if_pos he, hx]; exact ⟨_, rfl, rfl⟩
    · rw [if_neg he]; exact ⟨x, hx, rfl⟩⟩
theorem plain_add {S : List (Int × Int)} {z : Int × Int} (h : ∀ (i : Nat) x, S[i]? = some x → opPlain S.length x) (hz : opPlain (S.length + 1) z) : ∀ (i : Nat) x, (S ++ [z])[i]? = some x → opPlain (S ++ [z]).length x := by
  intro i x hx
  have hlen : (S ++ [z]).length = S.length + 1 := by simp
  rw [hlen]
  by_cases hi : i < S.length
  · rw [List.getElem?_append_left hi] at hx
    rcases h i x hx with a | a | a
    · exact .inl a
    · exact .inr (.inl ⟨a.1, a.2.1, by have := a.2.2; omega⟩)
    · exact .inr (.inr a)
  · have : i = S.length := by
      rcases Nat.lt_or_ge i (S.length + 1) with h1 | h1
      · omega
      · rw [List.getElem?_eq_none (by simp; omega)] at hx; cases hx
    subst this
    rw [List.getElem?_append_right (Nat.le_refl _), Nat.sub_self] at hx
    simp at hx
    subst hx
    exact hz
theorem plain_aim {S : List (Int × Int)} {q : Nat} {x0 : Int × Int} (h : ∀ (i : Nat) x, S[i]? = some x → opPlain S.length x) (hx0 : S[q]? = some x0) (hop : x0.1 = 2 ∨ x0.1 = 3) : ∀ (i : Nat) x, (aimI S (q : Int))[i]? = some x → opPlain (aimI S (q : Int)).length x := by
  intro i x hx
  rw [aimI_length]
  rw [aimI_get] at hx
  by_cases he : (i : Int) = (q : Int)
  · have : i = q := by omega
    subst this
    rw [if_pos rfl, hx0] at hx
    simp at hx
    subst hx
    exact .inr (.inl ⟨hop, by show (0 : Int) ≤ (S.length : Int); omega, by show (S.length : Int) ≤ (S.length : Int); omega⟩)
  · rw [if_neg he] at hx
    exact h i x hx

theorem Emb.top (h : Emb G0 F G) (hk : F.top.1 ≠ 0) : G.top = shF G0.steps.length F.top ∧ G.forms.dropLast = G0.forms ++ F.forms.dropLast.map (shF G0.steps.length) ∧ FormBd F.steps F.top := by
  have hs := top_split hk
  have hm : F.top ∈ F.forms := by rw [hs]; simp
  refine ⟨?_, ?_, h.bd _ hm⟩
  · unfold Rd.top topOf
    rw [h.forms, hs]
    simp [Rd.top, topOf]
  · rw [h.forms, hs, List.map_append, ← List.append_assoc]
    simp
theorem len_add (h : Emb G0 F G) : G.len = F.len + G0.steps.length := by
  unfold Rd.len; rw [h.steps.len]; omega

/-- A step that is all known. -/
theorem Emb.add (h : Emb G0 F G) {op arg : Int} (hp : opPlain (F.steps.length + 1) (op, arg)) {arg' : Int} (hn : (op, arg') = shA G0.steps.length (op, arg)) : Emb G0 (F.add op arg) (G.add op arg') :=
  ⟨h.fdue, h.gdue, h.fins, h.fdefs, h.gdefs, h.ins, h.name, h.first, h.forms, fun f hf => (h.bd f hf).mono (keep_add _ _).1 (keep_add _ _).2, h.steps.add (.inl hn) (fun i hi => hi), plain_add h.plain hp⟩
end
end Go.Proofs.YtnanjomnldfidaaDoor
