/-
  The reader of package grader beside graderref's Check: one word, and all words.
-/
import Derived.Test.YtnanjomnldfidabGreatDoorSim
import Derived.Laws.Strings
set_option linter.unusedSimpArgs false
set_option linter.unusedVariables false
set_option linter.unusedSectionVars false
namespace Go.Proofs.YtnanjomnldfidabGreatDoor

/-- What binds the two ahead of word p, which is no name behind a colon. -/
structure Sim (T : Words) (p : Nat) (R : Rd) (O : List UInt8) (I : Bool) : Prop where
  due : R.due = false
  ins : R.inside = I
  kinds : ∀ f ∈ R.forms, f.1 = 1 ∨ f.1 = 2 ∨ f.1 = 3 ∨ f.1 = 4
  forms : R.forms.map (fun f => kb f.1) = O
  defs : R.defs = (dl T p).map (defOf T)
  len : R.steps.length = stepOf T p
  col : ∀ q, q < p → wAt T q = [58] → q + 1 < p ∧ refName (wAt T (q + 1)) = true
  opn : I = true → ∃ q0, q0 + 1 < p ∧ wAt T q0 = [58] ∧ p ≤ endsM T q0 ∧ R.name = (T.getD (q0 + 1) (ByteArray.empty, 0)).1 ∧ R.first = stepOf T (q0 + 2) ∧ ∀ q, q < p → wAt T q = [58] → q ≠ q0 → q < q0 ∧ endsM T q < q0
  cls : I = false → ∀ q, q < p → wAt T q = [58] → endsM T q < p

theorem Sim.fresh (T : Words) : Sim T 0 Rd.fresh [] false :=
  ⟨rfl, rfl, by simp [Rd.fresh], rfl, rfl, rfl, (fun q h => by omega), (fun h => by cases h), (fun _ q h => by omega)⟩

theorem kb_inj {k c : Int} (hk : k = 1 ∨ k = 2 ∨ k = 3 ∨ k = 4) (hc : c = 1 ∨ c = 2 ∨ c = 3 ∨ c = 4) : kb k = kb c ↔ k = c := by
  rcases hk with rfl | rfl | rfl | rfl <;> rcases hc with rfl | rfl | rfl | rfl <;> decide

/-- The innermost form on both sides. -/
theorem top_iff {R : Rd} {O : List UInt8} (hk : ∀ f ∈ R.forms, f.1 = 1 ∨ f.1 = 2 ∨ f.1 = 3 ∨ f.1 = 4) (hf : R.forms.map (fun f => kb f.1) = O) {c : Int} (hc : c = 1 ∨ c = 2 ∨ c = 3 ∨ c = 4) : R.top.1 = c ↔ O.getLast? = some (kb c) := by
  subst hf
  unfold Rd.top topOf
  rcases List.eq_nil_or_concat R.forms with h | ⟨l, x, h⟩
  · rw [h]
    simp
    rcases hc with rfl | rfl | rfl | rfl <;> decide
  · have h : R.forms = l ++ [x] := by simpa using h
    have hx := hk x (by rw [h]; simp)
    rw [h]
    simp only [List.getLastD_concat, List.map_append, List.map_cons, List.map_nil, List.getLast?_concat, Option.some.injEq]
    exact (kb_inj hx hc).symm
theorem swapM_some {R : Rd} {O : List UInt8} (hk : ∀ f ∈ R.forms, f.1 = 1 ∨ f.1 = 2 ∨ f.1 = 3 ∨ f.1 = 4) (hf : R.forms.map (fun f => kb f.1) = O) {c : Int} (hc : c = 1 ∨ c = 2 ∨ c = 3 ∨ c = 4) (t : List UInt8) (h : R.top.1 = c) : swapM O (kb c) t = some (O.dropLast ++ t) := by
  unfold swapM
  rw [if_pos ((top_iff hk hf hc).1 h)]
theorem swapM_none {R : Rd} {O : List UInt8} (hk : ∀ f ∈ R.forms, f.1 = 1 ∨ f.1 = 2 ∨ f.1 = 3 ∨ f.1 = 4) (hf : R.forms.map (fun f => kb f.1) = O) {c : Int} (hc : c = 1 ∨ c = 2 ∨ c = 3 ∨ c = 4) (t : List UInt8) (h : R.top.1 ≠ c) : swapM O (kb c) t = none := by
  unfold swapM
  rw [if_neg (fun h' => h ((top_iff hk hf hc).2 h'))]

theorem forms_digs {t : List UInt8} (h : isForm t = true) : digs t = false := by
  have := (isForm_iff t).1 h
  simp only [formsL, List.mem_cons, List.not_mem_nil, or_false] at this
  rcases this with h | h | h | h | h | h | h | h | h | h | h <;> (subst h; decide)
theorem listed_digs {t : List UInt8} (h : listOk t = true) : digs t = false := by
  have := (listOk_iff t).1 h
  simp only [listedL, List.mem_cons, List.not_mem_nil, or_false] at this
  rcases this with h | h | h | h | h | h | h | h | h | h | h | h | h | h | h | h | h | h | h <;> (subst h; decide)
theorem listRef_neg (t : List UInt8) : listRef t < 0 ↔ listOk t = false := by
  unfold listRef listOk
  by_cases h : listIdx t < 19
  · rw [if_pos h]; simp [h]
  · rw [if_neg h]; simp [h]
theorem name_eq {t : List UInt8} (hne : t ≠ []) : refName t = nameOk t := by
  unfold refName nameOk refDigs
  have : t.isEmpty = false := by cases t; exact absurd rfl hne; rfl
  rw [this]
  cases digs t <;> cases isForm t <;> rfl

/-- meaning and the last definition. -/
theorem Sim.mean {T : Words} {p : Nat} {R : Rd} {O : List UInt8} {I : Bool} (h : Sim T p R O I) (s : List UInt8) :
    (meaningM T p s < 0 ↔ lastDef R.defs s = none) ∧ (∀ n, lastDef R.defs s = some n → 0 ≤ meaningM T p s ∧ n = stepOf T (meaningM T p s).toNat) := by
  rw [meaningM_dl T p s (fun q hq hc => (h.col q hq hc).1), h.defs, lastDef_dl]
  cases hf : (dl T p).reverse.find? (fun q => wAt T (q + 1) == s) with
  | none => simp
  | some q =>
    constructor
    · simp; omega
    · intro n hn
      simp at hn
      subst hn
      refine ⟨by simp; omega, ?_⟩
      simp only
      rw [show ((q : Int) + 2).toNat = q + 2 by omega]
/-- A word of digits is no name. -/
theorem Sim.meanDigs {T : Words} {p : Nat} {R : Rd} {O : List UInt8} {I : Bool} (h : Sim T p R O I) (s : List UInt8) (hs : digs s = true) (hne : s ≠ []) : meaningM T p s < 0 := by
  rw [meaningM_dl T p s (fun q hq hc => (h.col q hq hc).1)]
  cases hf : (dl T p).reverse.find? (fun q => wAt T (q + 1) == s) with
  | none => simp
  | some q =>
    have hm := List.mem_of_find?_eq_some hf
    have hp := List.find?_some hf
    rw [List.mem_reverse] at hm
    unfold dl at hm
    obtain ⟨h1, h2⟩ := List.mem_filter.1 hm
    simp at h1 h2 hp
    have := (h.col q h1 h2.1).2
    rw [hp, name_eq hne] at this
    unfold nameOk at this
    rw [hs] at this
    simp at this

/-- Behind a word that is neither : nor ;. -/
theorem Sim.next {T : Words} {p : Nat} {R R' : Rd} {O O' : List UInt8} {I : Bool} (h : Sim T p R O I) (hp : p < T.length) (h1 : wAt T p ≠ [58]) (h2 : wAt T p ≠ [59])
    (hdue : R'.due = false) (hins : R'.inside = R.inside) (hname : R'.name = R.name) (hfirst : R'.first = R.first) (hdefs : R'.defs = R.defs) (hkinds : ∀ f ∈ R'.forms, f.1 = 1 ∨ f.1 = 2 ∨ f.1 = 3 ∨ f.1 = 4) (hforms : R'.forms.map (fun f => kb f.1) = O') (hlen : R'.steps.length = R.steps.length + emits T p) :
    Sim T (p + 1) R' O' I := by
  refine ⟨hdue, hins.trans h.ins, hkinds, hforms, by rw [hdefs, h.defs, dl_plain T p hp h1 h2], by rw [hlen, h.len]; rfl, ?_, ?_, ?_⟩
  · intro q hq hc
    by_cases e : q = p
    · subst e; exact absurd hc h1
    · have := h.col q (by omega) hc
      exact ⟨by omega, this.2⟩
  · intro hI
    obtain ⟨q0, a1, a2, a3, a4, a5, a6⟩ := h.opn hI
    refine ⟨q0, by omega, a2, ?_, by rw [hname]; exact a4, by rw [hfirst]; exact a5, ?_⟩
    · have := ends_gt T q0 p (by omega) hp h2
      omega
    · intro q hq hc hne
      by_cases e : q = p
      · subst e; exact absurd hc h1
      · exact a6 q (by omega) hc hne
  · intro hI q hq hc
    by_cases e : q = p
    · subst e; exact absurd hc h1
    · have := h.cls hI q (by omega) hc
      omega

theorem aim_len (R : Rd) (x : Int) : (R.aim x).steps.length = R.steps.length := aimI_length _ _
/-- The steps that a word lays where no colon stands ahead. -/
theorem Sim.noCol {T : Words} {p : Nat} {R : Rd} {O : List UInt8} {I : Bool} (h : Sim T p R O I) : ¬ (0 < p ∧ wAt T (p - 1) = [58]) := by
  intro ⟨h1, h2⟩
  have := (h.col (p - 1) (by omega) h2).1
  omega
theorem Sim.emit1 {T : Words} {p : Nat} {R : Rd} {O : List UInt8} {I : Bool} (h : Sim T p R O I) (h1 : wAt T p ≠ [116, 104, 101, 110]) (h2 : wAt T p ≠ [98, 101, 103, 105, 110]) : emits T p = 1 := by
  unfold emits
  rw [if_neg h.noCol, if_neg (fun h => h.elim h1 h2)]
theorem Sim.emit0 {T : Words} {p : Nat} {R : Rd} {O : List UInt8} {I : Bool} (h : Sim T p R O I) (h1 : wAt T p = [116, 104, 101, 110] ∨ wAt T p = [98, 101, 103, 105, 110]) : emits T p = 0 := by
  unfold emits
  rw [if_neg h.noCol, if_pos h1]

theorem map_dropLast {α β : Type} (f : α → β) (l : List α) : (l.dropLast).map f = (l.map f).dropLast := by simp
theorem kinds_pop {R : Rd} (h : ∀ f ∈ R.forms, f.1 = 1 ∨ f.1 = 2 ∨ f.1 = 3 ∨ f.1 = 4) : ∀ f ∈ R.forms.dropLast, f.1 = 1 ∨ f.1 = 2 ∨ f.1 = 3 ∨ f.1 = 4 := fun f hf => h f ((List.dropLast_sublist _).subset hf)
theorem kinds_push {l : List (Int × Int × Int)} {x : Int × Int × Int} (h : ∀ f ∈ l, f.1 = 1 ∨ f.1 = 2 ∨ f.1 = 3 ∨ f.1 = 4) (hx : x.1 = 1 ∨ x.1 = 2 ∨ x.1 = 3 ∨ x.1 = 4) : ∀ f ∈ l ++ [x], f.1 = 1 ∨ f.1 = 2 ∨ f.1 = 3 ∨ f.1 = 4 := by
  intro f hf
  rcases List.mem_append.1 hf with hf | hf
  · exact h f hf
  · simp at hf; subst hf; exact hx

/-- One word that is no colon: both sides err alike, or go on bound. -/
theorem Sim.word {T : Words} {p : Nat} {R : Rd} {O : List UInt8} {I : Bool} (h : Sim T p R O I) (hp : p < T.length) (hc : wAt T p ≠ [58]) (hne : wAt T p ≠ []) :
    (R.take (T.getD p (ByteArray.empty, 0)).1).1 = (wrongM T p O I).1 ∧ ((wrongM T p O I).1 = 0 → Sim T (p + 1) (R.take (T.getD p (ByteArray.empty, 0)).1).2 (wrongM T p O I).2.1 (wrongM T p O I).2.2) := by
  have hw : (T.getD p (ByteArray.empty, 0)).1.toList = wAt T p := rfl
  have htake : R.take (T.getD p (ByteArray.empty, 0)).1 = if digs (wAt T p) = true then (match numVal (wAt T p) with | some n => (0, R.add 1 n) | none => (2, R)) else R.word (wAt T p) := by
    unfold Rd.take
    rw [if_neg (by rw [h.due]; decide), hw]
    rfl
  rw [htake]
  cases hf : isForm (wAt T p) with
  | true =>
    rw [if_neg (by rw [forms_digs hf]; decide)]
    have hwr : wrongM T p O I = (if (placeM O I (wAt T p)).1 = true then 0 else 3, (placeM O I (wAt T p)).2) := by unfold wrongM; rw [if_pos hf]
    rw [hwr]
    have hm := (isForm_iff _).1 hf
    simp only [formsL, List.mem_cons, List.not_mem_nil, or_false] at hm
    have sw := fun {c : Int} (hc : c = 1 ∨ c = 2 ∨ c = 3 ∨ c = 4) (t : List UInt8) => swapM_some h.kinds h.forms hc t
    have sn := fun {c : Int} (hc : c = 1 ∨ c = 2 ∨ c = 3 ∨ c = 4) (t : List UInt8) => swapM_none h.kinds h.forms hc t
    have k1 : kb 1 = 105 := by decide
    have k2 : kb 2 = 101 := by decide
    have k3 : kb 3 = 98 := by decide
    have k4 : kb 4 = 119 := by decide
    rcases hm with e | e | e | e | e | e | e | e | e | e | e
    · -- if
      have hr : R.word (wAt T p) = (0, (R.push 1 0 R.len).add 3 0) := by rw [e]; rfl
      have hpl : placeM O I (wAt T p) = (true, O ++ [105], I) := by rw [e]; rfl
      rw [hr, hpl]
      refine ⟨rfl, fun _ => h.next hp hc (by rw [e]; decide) h.due rfl rfl rfl rfl (kinds_push h.kinds (.inl rfl)) ?_ ?_⟩
      · show (R.forms ++ [(1, 0, R.len)]).map _ = _; rw [List.map_append, h.forms]; rfl
      · rw [h.emit1 (by rw [e]; decide) (by rw [e]; decide)]; simp [Rd.add, Rd.push]
    · -- else
      have hr : R.word (wAt T p) = if R.top.1 = 1 then (0, ((R.pop.push 2 0 R.len).add 2 0).aim R.top.2.2) else (3, R) := by rw [e]; rfl
      have hpl : placeM O I (wAt T p) = swapR O I (swapM O (kb 1) [101]) := by rw [e, k1]; rfl
      rw [hr, hpl]
      by_cases ht : R.top.1 = 1
      · rw [if_pos ht, sw (.inl rfl) _ ht]
        refine ⟨rfl, fun _ => h.next hp hc (by rw [e]; decide) h.due rfl rfl rfl rfl (kinds_push (kinds_pop h.kinds) (.inr (.inl rfl))) ?_ ?_⟩
        · show (R.forms.dropLast ++ [(2, 0, R.len)]).map _ = _; rw [List.map_append, map_dropLast, h.forms]; rfl
        · rw [h.emit1 (by rw [e]; decide) (by rw [e]; decide), aim_len]; simp [Rd.add, Rd.push, Rd.pop]
      · rw [if_neg ht, sn (.inl rfl) _ ht]
        exact ⟨rfl, fun h => by cases h⟩
    · -- then
      have hr : R.word (wAt T p) = if R.top.1 = 1 ∨ R.top.1 = 2 then (0, R.pop.aim R.top.2.2) else (3, R) := by rw [e]; rfl
      have hpl : placeM O I (wAt T p) = if (swapM O (kb 1) []).isSome = true then swapR O I (swapM O (kb 1) []) else swapR O I (swapM O (kb 2) []) := by rw [e, k1, k2]; rfl
      rw [hr, hpl]
      have good : Sim T (p + 1) (R.pop.aim R.top.2.2) (O.dropLast ++ []) I := by
        refine h.next hp hc (by rw [e]; decide) h.due rfl rfl rfl rfl (kinds_pop h.kinds) ?_ ?_
        · show (R.forms.dropLast).map _ = _; rw [map_dropLast, h.forms, List.append_nil]
        · rw [h.emit0 (.inl e), aim_len]; rfl
      by_cases ht : R.top.1 = 1
      · rw [if_pos (.inl ht), sw (.inl rfl) _ ht]
        exact ⟨rfl, fun _ => good⟩
      · by_cases ht2 : R.top.1 = 2
        · rw [if_pos (.inr ht2), sn (.inl rfl) _ ht, sw (.inr (.inl rfl)) _ ht2]
          exact ⟨rfl, fun _ => good⟩
        · rw [if_neg (fun h => h.elim ht ht2), sn (.inl rfl) _ ht, sn (.inr (.inl rfl)) _ ht2]
          exact ⟨rfl, fun h => by cases h⟩
    · -- begin
      have hr : R.word (wAt T p) = (0, R.push 3 R.len 0) := by rw [e]; rfl
      have hpl : placeM O I (wAt T p) = (true, O ++ [98], I) := by rw [e]; rfl
      rw [hr, hpl]
      refine ⟨rfl, fun _ => h.next hp hc (by rw [e]; decide) h.due rfl rfl rfl rfl (kinds_push h.kinds (.inr (.inr (.inl rfl)))) ?_ ?_⟩
      · show (R.forms ++ [(3, R.len, 0)]).map _ = _; rw [List.map_append, h.forms]; rfl
      · rw [h.emit0 (.inr e)]; rfl
    · -- until
      have hr : R.word (wAt T p) = if R.top.1 = 3 then (0, R.pop.add 3 R.top.2.1) else (3, R) := by rw [e]; rfl
      have hpl : placeM O I (wAt T p) = swapR O I (swapM O (kb 3) []) := by rw [e, k3]; rfl
      rw [hr, hpl]
      by_cases ht : R.top.1 = 3
      · rw [if_pos ht, sw (.inr (.inr (.inl rfl))) _ ht]
        refine ⟨rfl, fun _ => h.next hp hc (by rw [e]; decide) h.due rfl rfl rfl rfl (kinds_pop h.kinds) ?_ ?_⟩
        · show (R.forms.dropLast).map _ = _; rw [map_dropLast, h.forms]; simp [swapR]
        · rw [h.emit1 (by rw [e]; decide) (by rw [e]; decide)]; simp [Rd.add, Rd.pop]
      · rw [if_neg ht, sn (.inr (.inr (.inl rfl))) _ ht]
        exact ⟨rfl, fun h => by cases h⟩
    · -- while
      have hr : R.word (wAt T p) = if R.top.1 = 3 then (0, (R.pop.push 4 R.top.2.1 R.len).add 3 R.top.2.1) else (3, R) := by rw [e]; rfl
      have hpl : placeM O I (wAt T p) = swapR O I (swapM O (kb 3) [119]) := by rw [e, k3]; rfl
      rw [hr, hpl]
      by_cases ht : R.top.1 = 3
      · rw [if_pos ht, sw (.inr (.inr (.inl rfl))) _ ht]
        refine ⟨rfl, fun _ => h.next hp hc (by rw [e]; decide) h.due rfl rfl rfl rfl (kinds_push (kinds_pop h.kinds) (.inr (.inr (.inr rfl)))) ?_ ?_⟩
        · show (R.forms.dropLast ++ [(4, R.top.2.1, R.len)]).map _ = _; rw [List.map_append, map_dropLast, h.forms]; rfl
        · rw [h.emit1 (by rw [e]; decide) (by rw [e]; decide)]; simp [Rd.add, Rd.push, Rd.pop]
      · rw [if_neg ht, sn (.inr (.inr (.inl rfl))) _ ht]
        exact ⟨rfl, fun h => by cases h⟩
    · -- repeat
      have hr : R.word (wAt T p) = if R.top.1 = 4 then (0, (R.pop.add 2 R.top.2.1).aim R.top.2.2) else (3, R) := by rw [e]; rfl
      have hpl : placeM O I (wAt T p) = swapR O I (swapM O (kb 4) []) := by rw [e, k4]; rfl
      rw [hr, hpl]
      by_cases ht : R.top.1 = 4
      · rw [if_pos ht, sw (.inr (.inr (.inr rfl))) _ ht]
        refine ⟨rfl, fun _ => h.next hp hc (by rw [e]; decide) h.due rfl rfl rfl rfl (kinds_pop h.kinds) ?_ ?_⟩
        · show (R.forms.dropLast).map _ = _; rw [map_dropLast, h.forms]; simp [swapR]
        · rw [h.emit1 (by rw [e]; decide) (by rw [e]; decide), aim_len]; simp [Rd.add, Rd.pop]
      · rw [if_neg ht, sn (.inr (.inr (.inr rfl))) _ ht]
        exact ⟨rfl, fun h => by cases h⟩
    · -- exit
      have hr : R.word (wAt T p) = if R.inside = true then (0, R.add 5 0) else (3, R) := by rw [e]; rfl
      have hpl : placeM O I (wAt T p) = (I, O, I) := by rw [e]; rfl
      rw [hr, hpl, h.ins]
      cases I
      · exact ⟨rfl, fun h => by cases h⟩
      · refine ⟨rfl, fun _ => h.next hp hc (by rw [e]; decide) h.due rfl rfl rfl rfl h.kinds h.forms ?_⟩
        rw [h.emit1 (by rw [e]; decide) (by rw [e]; decide)]; simp [Rd.add]
    · -- recurse
      have hr : R.word (wAt T p) = if R.inside = true then (0, R.add 4 R.first) else (3, R) := by rw [e]; rfl
      have hpl : placeM O I (wAt T p) = (I, O, I) := by rw [e]; rfl
      rw [hr, hpl, h.ins]
      cases I
      · exact ⟨rfl, fun h => by cases h⟩
      · refine ⟨rfl, fun _ => h.next hp hc (by rw [e]; decide) h.due rfl rfl rfl rfl h.kinds h.forms ?_⟩
        rw [h.emit1 (by rw [e]; decide) (by rw [e]; decide)]; simp [Rd.add]
    · exact absurd e hc
    · -- ;
      have hr : R.word (wAt T p) = if R.inside = false then (3, R) else if R.forms ≠ [] then (3, R) else (0, R.ended) := by rw [e]; rfl
      have hpl : placeM O I (wAt T p) = (I && O.isEmpty, O, false) := by rw [e]; rfl
      rw [hr, hpl, h.ins]
      cases I
      · exact ⟨rfl, fun h => by cases h⟩
      · have hO : O.isEmpty = R.forms.isEmpty := by rw [← h.forms]; simp
        by_cases hfm : R.forms = []
        · rw [if_neg (by decide), if_neg (by simp [hfm]), hO, hfm]
          refine ⟨rfl, fun _ => ?_⟩
          obtain ⟨q0, a1, a2, a3, a4, a5, a6⟩ := h.opn rfl
          have hO2 : O = [] := by rw [← h.forms, hfm]; rfl
          refine ⟨h.due, rfl, h.kinds, h.forms, ?_, ?_, ?_, (fun h => by cases h), ?_⟩
          · show R.defs ++ [(R.name, R.first)] = _
            rw [dl_end T p q0 hp e (by omega) a2 a3 a6, List.map_append, ← h.defs, a4, a5]
            rfl
          · show (aimI (R.steps ++ [(5, 0)]) (R.first - 1)).length = _
            rw [aimI_length]
            simp only [List.length_append, List.length_cons, List.length_nil, h.len, stepOf]
            rw [h.emit1 (by rw [e]; decide) (by rw [e]; decide)]
          · intro q hq hcq
            by_cases e2 : q = p
            · subst e2; rw [e] at hcq; exact absurd hcq (by decide)
            · have := h.col q (by omega) hcq
              exact ⟨by omega, this.2⟩
          · intro _ q hq hcq
            by_cases e2 : q = p
            · subst e2; rw [e] at hcq; exact absurd hcq (by decide)
            · by_cases e3 : q = q0
              · subst e3
                have := ends_le_of T _ q p rfl (by omega) hp e
                omega
              · have := a6 q (by omega) hcq e3
                omega
        · rw [if_neg (by decide), if_pos hfm, hO]
          have : R.forms.isEmpty = false := by cases hh : R.forms; exact absurd hh hfm; rfl
          rw [this]
          exact ⟨rfl, fun h => by cases h⟩
  | false =>
    have hnf : wAt T p ∉ formsL := fun hm => by rw [(isForm_iff _).2 hm] at hf; cases hf
    have hns : wAt T p ≠ [59] := fun e => hnf (by rw [e]; decide)
    have hn1 : wAt T p ≠ [116, 104, 101, 110] := fun e => hnf (by rw [e]; decide)
    have hn2 : wAt T p ≠ [98, 101, 103, 105, 110] := fun e => hnf (by rw [e]; decide)
    have hwr : wrongM T p O I = (if refVal (wAt T p) < 0 ∧ listRef (wAt T p) < 0 ∧ meaningM T p (wAt T p) < 0 then 2 else 0, O, I) := by unfold wrongM; rw [if_neg (by rw [hf]; decide)]
    have good : ∀ op arg : Int, Sim T (p + 1) (R.add op arg) O I := fun op arg =>
      h.next hp hc hns h.due rfl rfl rfl rfl h.kinds h.forms (by rw [h.emit1 hn1 hn2]; simp [Rd.add])
    rw [hwr]
    cases hd : digs (wAt T p) with
    | true =>
      rw [if_pos rfl]
      have hrd : refDigs (wAt T p) = true := by
        unfold refDigs; rw [hd]; cases hw : wAt T p; exact absurd hw hne; rfl
      cases hv : numVal (wAt T p) with
      | some n =>
        have hn0 : 0 ≤ n := by
          unfold numVal at hv
          split at hv
          · cases hv
          · split at hv
            · cases hv
            · cases hv
              exact numOf_nonneg hd
        have : refVal (wAt T p) = n := by unfold refVal; rw [if_pos hrd, hv]
        rw [this, if_neg (fun h => by have := h.1; omega)]
        exact ⟨rfl, fun _ => good _ _⟩
      | none =>
        have : refVal (wAt T p) = -1 := by unfold refVal; rw [if_pos hrd, hv]
        have hl : listRef (wAt T p) < 0 := by
          rw [listRef_neg]
          cases hl : listOk (wAt T p)
          · rfl
          · have := listed_digs hl; rw [hd] at this; cases this
        rw [this, if_pos ⟨by decide, hl, h.meanDigs _ hd hne⟩]
        exact ⟨rfl, fun h => by cases h⟩
    | false =>
      rw [if_neg (by decide)]
      have hrv : refVal (wAt T p) = -1 := by unfold refVal refDigs; rw [hd]; rfl
      have hword : R.word (wAt T p) = match lastDef R.defs (wAt T p) with | some n => (0, R.add 4 n) | none => if listOk (wAt T p) = true then (0, R.add (listOp (wAt T p)) 0) else (2, R) := by
        obtain ⟨g1, g2, g3, g4, g5, g6, g7, g8, g9, g10, g11⟩ := not_forms hnf
        simp only [beq_eq_false_iff_ne, ne_eq] at g1 g2 g3 g4 g5 g6 g7 g8 g9 g10 g11
        unfold Rd.word
        rw [if_neg g1, if_neg g2, if_neg g3, if_neg g4, if_neg g7, if_neg g5, if_neg g6, if_neg g10, if_neg g8, if_neg g9, if_neg g11]
        rfl
      rw [hword, hrv]
      have hmean := h.mean (wAt T p)
      cases hl : lastDef R.defs (wAt T p) with
      | some n =>
        have := (hmean.2 n hl).1
        have e0 : (if (-1 : Int) < 0 ∧ listRef (wAt T p) < 0 ∧ meaningM T p (wAt T p) < 0 then (2 : Int) else 0) = 0 := if_neg (fun h => by have := h.2.2; omega)
        rw [e0]
        exact ⟨rfl, fun _ => good _ _⟩
      | none =>
        have hm := hmean.1.2 hl
        cases ho : listOk (wAt T p) with
        | true =>
          rw [if_pos rfl, if_neg (fun h => by have := (listRef_neg _).1 h.2.1; rw [ho] at this; cases this)]
          exact ⟨rfl, fun _ => good _ _⟩
        | false =>
          rw [if_neg (by decide), if_pos ⟨by decide, (listRef_neg _).2 ho, hm⟩]
          exact ⟨rfl, fun h => by cases h⟩

/-- A colon and its name. -/
theorem Sim.colon {T : Words} {p : Nat} {R : Rd} {O : List UInt8} {I : Bool} (h : Sim T p R O I) (hp : p < T.length) (hc : wAt T p = [58]) :
    (R.take (T.getD p (ByteArray.empty, 0)).1).1 = (wrongM T p O I).1 ∧ ((wrongM T p O I).1 = 0 → (R.take (T.getD p (ByteArray.empty, 0)).1).2.due = true ∧
      ∀ t : ByteArray, p + 1 < T.length → t = (T.getD (p + 1) (ByteArray.empty, 0)).1 → wAt T (p + 1) ≠ [] →
        (((R.take (T.getD p (ByteArray.empty, 0)).1).2.take t).1 = if refName (wAt T (p + 1)) = true then 0 else 4) ∧
        (refName (wAt T (p + 1)) = true → Sim T (p + 2) ((R.take (T.getD p (ByteArray.empty, 0)).1).2.take t).2 (wrongM T p O I).2.1 (wrongM T p O I).2.2)) := by
  have hw : (T.getD p (ByteArray.empty, 0)).1.toList = wAt T p := rfl
  have htake : R.take (T.getD p (ByteArray.empty, 0)).1 = if R.inside = true ∨ R.forms ≠ [] then (3, R) else (0, ({ R with due := true } : Rd).add (-1) 0) := by
    unfold Rd.take
    rw [if_neg (by rw [h.due]; decide), hw, hc]
    rfl
  have hwr : wrongM T p O I = (if (!I && O.isEmpty) = true then 0 else 3, O, true) := by
    unfold wrongM
    rw [hc, if_pos (by decide)]
    rfl
  have hO : O.isEmpty = R.forms.isEmpty := by rw [← h.forms]; simp
  obtain ⟨R1, hR1⟩ : ∃ R1, R1 = ({ R with due := true } : Rd).add (-1) 0 := ⟨_, rfl⟩
  rw [← hR1] at htake
  rw [htake, hwr, hO, h.ins]
  cases I with
  | true => exact ⟨rfl, fun h => by cases h⟩
  | false =>
    by_cases hfm : R.forms = []
    · rw [if_neg (by simp [hfm]), hfm]
      refine ⟨rfl, fun _ => ⟨by rw [hR1]; rfl, fun t hp1 ht hne => ?_⟩⟩
      have hO2 : O = [] := by rw [← h.forms, hfm]; rfl
      have ht2 : t.toList = wAt T (p + 1) := by rw [ht]; rfl
      have htk : R1.take t = if nameOk (wAt T (p + 1)) = true then (0, R1.named t) else (4, R1) := by
        unfold Rd.take
        rw [if_pos (by rw [hR1]; rfl), ht2]
      show (R1.take t).1 = _ ∧ (_ → Sim T (p + 2) (R1.take t).2 O true)
      rw [htk, name_eq hne]
      refine ⟨by split <;> rfl, fun hn => ?_⟩
      rw [if_pos hn, hR1]
      have hnm : isForm (wAt T (p + 1)) = false := by unfold nameOk at hn; simp at hn; exact hn.1
      have hnc : wAt T (p + 1) ≠ [58] := fun e => by rw [e] at hnm; revert hnm; decide
      have hns : wAt T (p + 1) ≠ [59] := fun e => by rw [e] at hnm; revert hnm; decide
      have hpne : wAt T p ≠ [59] := by rw [hc]; decide
      have hends : p + 2 ≤ endsM T p := by
        have e1 := endsM_no T p hp (by simp [hpne])
        have e2 := endsM_no T (p + 1) hp1 (by simp [hns])
        have e3 := (endsM_le T (p + 1 + 1) (by omega)).1
        omega
      have em0 : emits T p = 1 := h.emit1 (by rw [hc]; decide) (by rw [hc]; decide)
      have em1 : emits T (p + 1) = 0 := by unfold emits; rw [if_pos ⟨by omega, hc⟩]
      have hlen : (R.steps ++ [((-1 : Int), (0 : Int))]).length = stepOf T (p + 2) := by simp [stepOf, em0, em1, h.len]
      refine ⟨rfl, rfl, h.kinds, by rw [hO2]; show R.forms.map _ = _; rw [hfm]; rfl, ?_, hlen, ?_, ?_, (fun h => by cases h)⟩
      · show R.defs = _
        rw [h.defs, dl_colon T p hp1 hc hnc hns]
      · intro q hq hcq
        by_cases e1 : q = p
        · subst e1; exact ⟨by omega, by rw [name_eq hne]; exact hn⟩
        · by_cases e2 : q = p + 1
          · subst e2; exact absurd hcq hnc
          · have := h.col q (by omega) hcq
            exact ⟨by omega, this.2⟩
      · intro _
        refine ⟨p, by omega, hc, hends, ht, ?_, ?_⟩
        · show (((R.steps ++ [((-1 : Int), (0 : Int))]).length : Nat) : Int) = _
          rw [hlen]
        · intro q hq hcq hneq
          have hq1 : q ≠ p + 1 := fun e => by subst e; exact hnc hcq
          exact ⟨by omega, h.cls rfl q (by omega) hcq⟩
    · rw [if_pos (.inr hfm)]
      have : R.forms.isEmpty = false := by cases hh : R.forms; exact absurd hh hfm; rfl
      rw [this]
      exact ⟨rfl, fun h => by cases h⟩

/-- What readProgram answers of the words that are left. -/
def restM (R : Rd) (n : Nat) (rest : Words) : Int × Nat :=
  if (R.read rest).1 ≠ 0 then ((R.read rest).1, (R.read rest).2.1) else if (R.read rest).2.2.fin ≠ 0 then ((R.read rest).2.2.fin, n) else (0, 0)
theorem restM_yes (R : Rd) (n : Nat) (t : ByteArray) (a : Nat) (r : Words) (h : (R.take t).1 = 0) : restM R n ((t, a) :: r) = restM (R.take t).2 n r := by unfold restM; rw [Rd.read_yes R t a r h]
theorem restM_no (R : Rd) (n : Nat) (t : ByteArray) (a : Nat) (r : Words) (h : (R.take t).1 ≠ 0) : restM R n ((t, a) :: r) = ((R.take t).1, a) := by unfold restM; rw [Rd.read_no R t a r h]; simp [h]

theorem sim_all (T : Words) (n : Nat) (hne : ∀ p, p < T.length → wAt T p ≠ []) : ∀ m p R O I, T.length - p = m → p ≤ T.length → Sim T p R O I → restM R n (T.drop p) = refLoop T n (T.drop p) p O I := by
  intro m
  induction m using Nat.strongRecOn with
  | _ m ih =>
  intro p R O I hm hp h
  by_cases hlt : p < T.length
  · have hd := drop_at T p hlt
    have hx : T.getD p (ByteArray.empty, 0) = ((T.getD p (ByteArray.empty, 0)).1, (T.getD p (ByteArray.empty, 0)).2) := rfl
    by_cases hc : wAt T p = [58]
    · obtain ⟨h1, h2⟩ := h.colon hlt hc
      have hc' : (T.getD p (ByteArray.empty, 0)).1.toList = [58] := hc
      rw [hd, refLoop_cons, hx]
      by_cases h0 : (wrongM T p O I).1 = 0
      · obtain ⟨h3, h4⟩ := h2 h0
        rw [restM_yes _ _ _ _ _ (by rw [h1]; exact h0), if_neg (by simp [h0]), if_pos hc']
        by_cases hl : p + 1 < T.length
        · have hd2 := drop_at T (p + 1) hl
          have hx2 : T.getD (p + 1) (ByteArray.empty, 0) = ((T.getD (p + 1) (ByteArray.empty, 0)).1, (T.getD (p + 1) (ByteArray.empty, 0)).2) := rfl
          obtain ⟨h5, h6⟩ := h4 _ hl rfl (hne _ hl)
          rw [hd2, hx2]
          by_cases hn : refName (wAt T (p + 1)) = true
          · have hn' : refName (T.getD (p + 1) (ByteArray.empty, 0)).1.toList = true := hn
            rw [if_pos hn] at h5
            rw [restM_yes _ _ _ _ _ h5]
            simp only [hn', if_true]
            exact ih (T.length - (p + 2)) (by omega) (p + 2) _ _ _ rfl (by omega) (h6 hn)
          · have hn' : ¬ refName (T.getD (p + 1) (ByteArray.empty, 0)).1.toList = true := hn
            rw [if_neg hn] at h5
            rw [restM_no _ _ _ _ _ (by rw [h5]; decide), h5]
            simp only [hn', if_false]
            rfl
        · rw [List.drop_of_length_le (by omega)]
          unfold restM
          rw [Rd.read_nil]
          generalize (R.take (T.getD p (ByteArray.empty, 0)).1).2 = R2 at h3 ⊢
          simp [Rd.fin, h3]
      · rw [restM_no _ _ _ _ _ (by rw [h1]; exact h0), if_pos h0, h1]
    · obtain ⟨h1, h2⟩ := h.word hlt hc (hne p hlt)
      have hc' : ¬ (T.getD p (ByteArray.empty, 0)).1.toList = [58] := hc
      rw [hd, refLoop_cons, hx]
      by_cases h0 : (wrongM T p O I).1 = 0
      · rw [restM_yes _ _ _ _ _ (by rw [h1]; exact h0), if_neg (by simp [h0]), if_neg hc']
        exact ih (T.length - (p + 1)) (by omega) (p + 1) _ _ _ rfl (by omega) (h2 h0)
      · rw [restM_no _ _ _ _ _ (by rw [h1]; exact h0), if_pos h0, h1]
  · rw [List.drop_of_length_le (by omega), refLoop_nil]
    unfold restM
    rw [Rd.read_nil]
    unfold Rd.fin
    have hO : (O ≠ []) ↔ R.forms ≠ [] := by rw [← h.forms]; simp
    simp only [h.due, h.ins, hO]
    by_cases hi : I = true ∨ R.forms ≠ []
    · simp [hi]
    · simp [hi]

theorem size_toList (t : ByteArray) : t.toList.length = t.size := by rw [ByteArray.toList_eq]; simp
theorem toksFuel_ne (s : ByteArray) : ∀ f k, k ≤ s.size → ∀ x ∈ toksFuel f s k, x.1.toList ≠ []
  | 0, k, hk, x, hx => by simp [toksFuel] at hx
  | f + 1, k, hk, x, hx => by
    unfold toksFuel at hx
    have a2 := blankEnd_le s.data.toList k (by rw [len_data]; exact hk)
    have a3 := wordEnd_le s.data.toList (blankEnd s.data.toList k) a2
    rw [len_data] at a2 a3
    split at hx
    · rcases List.mem_cons.1 hx with h | h
      · subst h
        intro he
        have h1 : (s.extract (blankEnd s.data.toList k) (wordEnd s.data.toList (blankEnd s.data.toList k))).size = 0 := by rw [← size_toList, he]; rfl
        rw [ByteArray.size_extract] at h1
        omega
      · exact toksFuel_ne s f _ a3 x h
    · simp at hx
theorem toks_ne (s : ByteArray) (p : Nat) (hp : p < (toksFrom s 0).length) : wAt (toksFrom s 0) p ≠ [] := by
  have e : (toksFrom s 0).getD p (ByteArray.empty, 0) = (toksFrom s 0)[p] := by simp [List.getD, hp]
  unfold wAt
  rw [e]
  exact toksFuel_ne s _ 0 (Nat.zero_le _) _ (List.getElem_mem hp)

/-- The two Checks answer alike. -/
theorem check_eq (s : ByteArray) : ((readM s).1, (readM s).2.1) = refCheckM s := by
  unfold readM refCheckM
  by_cases hl : 400 < s.size
  · rw [if_pos hl, if_pos hl]
  · rw [if_neg hl, if_neg hl]
    have := sim_all (toksFrom s 0) s.size (toks_ne s) _ 0 Rd.fresh [] false rfl (Nat.zero_le _) (Sim.fresh _)
    rw [List.drop_zero] at this
    rw [← this]
    unfold restM
    by_cases h1 : (Rd.fresh.read (toksFrom s 0)).1 ≠ 0
    · rw [if_pos h1, if_pos h1]
    · rw [if_neg h1, if_neg h1]
      by_cases h2 : (Rd.fresh.read (toksFrom s 0)).2.2.fin ≠ 0
      · rw [if_pos h2, if_pos h2]
      · rw [if_neg h2, if_neg h2]
end Go.Proofs.YtnanjomnldfidabGreatDoor
