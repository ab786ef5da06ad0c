/-
  A plain program within another one: one word, all words. Plain mathematics.
-/
import Derived.Test.YtnanjomnldfidaaDoorEmbPure
set_option linter.unusedSimpArgs false
set_option linter.unusedVariables false
set_option linter.unusedSectionVars false
namespace Go.Proofs.YtnanjomnldfidaaDoor

section
variable {G0 F G : Rd}

theorem openH_rest {x : Nat} {F : Rd} (hk : F.top.1 ≠ 0) (hx : F.top.1 = 1 ∨ F.top.1 = 2 → F.top.2.2 = (x : Int)) {i : Nat} (hne : i ≠ x) (h : openH F i) : ∃ f ∈ F.forms.dropLast, (f.1 = 1 ∨ f.1 = 2) ∧ f.2.2 = (i : Int) := by
  obtain ⟨f, hf, a, b⟩ := h
  rw [top_split hk] at hf
  rcases List.mem_append.1 hf with hf | hf
  · exact ⟨f, hf, a, b⟩
  · simp at hf; subst hf; have := hx a; omega
theorem bd_pop {S : List (Int × Int)} (h : ∀ f ∈ F.forms, FormBd S f) : ∀ f ∈ F.forms.dropLast, FormBd S f := fun f hf => h f ((List.dropLast_sublist _).subset hf)
theorem bd_push {l : List (Int × Int × Int)} {S : List (Int × Int)} {x : Int × Int × Int} (h : ∀ f ∈ l, FormBd S f) (hx : FormBd S x) : ∀ f ∈ l ++ [x], FormBd S f := by
  intro f hf
  rcases List.mem_append.1 hf with hf | hf
  · exact h f hf
  · simp at hf; subst hf; exact hx
theorem last_get (S : List (Int × Int)) (z : Int × Int) : (S ++ [z])[S.length]? = some z := by
  rw [List.getElem?_append_right (Nat.le_refl _), Nat.sub_self]; rfl

theorem emb_if (h : Emb G0 F G) : Emb G0 ((F.push 1 0 F.len).add 3 0) ((G.push 1 0 G.len).add 3 0) := by
  refine ⟨h.fdue, h.gdue, h.fins, h.fdefs, h.gdefs, h.ins, h.name, h.first, ?_, ?_, ?_, plain_add h.plain (.inr (.inl ⟨.inr rfl, by show (0 : Int) ≤ 0; omega, by show (0 : Int) ≤ _; omega⟩))⟩
  · show G.forms ++ [(1, 0, G.len)] = G0.forms ++ (F.forms ++ [(1, 0, F.len)]).map _
    rw [h.forms, List.map_append, List.append_assoc, len_add h]; rfl
  · refine bd_push (fun f hf => (h.bd f hf).mono (keep_add _ _).1 (keep_add _ _).2) ⟨.inl rfl, fun _ => ⟨F.steps.length, rfl, (3, 0), last_get _ _, .inr rfl⟩, fun hk => by simp at hk⟩
  · exact h.steps.add (.inr ⟨(1, 0, F.len), by simp [Rd.push, Rd.add], .inl rfl, rfl⟩) (fun i ⟨f, hf, hk⟩ => ⟨f, List.mem_append_left _ hf, hk⟩)

theorem emb_begin (h : Emb G0 F G) : Emb G0 (F.push 3 F.len 0) (G.push 3 G.len 0) := by
  refine ⟨h.fdue, h.gdue, h.fins, h.fdefs, h.gdefs, h.ins, h.name, h.first, ?_, ?_, h.steps.mono (fun i ⟨f, hf, hk⟩ => ⟨f, List.mem_append_left _ hf, hk⟩), h.plain⟩
  · show G.forms ++ [(3, G.len, 0)] = G0.forms ++ (F.forms ++ [(3, F.len, 0)]).map _
    rw [h.forms, List.map_append, List.append_assoc, len_add h]; rfl
  · exact bd_push h.bd ⟨.inr (.inr (.inl rfl)), fun hk => absurd rfl hk, fun _ => ⟨by show (0 : Int) ≤ (F.steps.length : Int); omega, by show (F.steps.length : Int) ≤ (F.steps.length : Int); omega⟩⟩

theorem emb_then (h : Emb G0 F G) (ht : F.top.1 = 1 ∨ F.top.1 = 2) : Emb G0 (F.pop.aim F.top.2.2) (G.pop.aim G.top.2.2) := by
  obtain ⟨t1, t2, t3⟩ := h.top (by omega)
  obtain ⟨q, hq, x0, hx0, hop⟩ := t3.hole (by omega)
  have hg : G.top.2.2 = (q : Int) + G0.steps.length := by
    rw [t1]; show (if F.top.1 = 3 then F.top.2.2 else F.top.2.2 + _) = _; rw [if_neg (by omega), hq]
  refine ⟨h.fdue, h.gdue, h.fins, h.fdefs, h.gdefs, h.ins, h.name, h.first, t2, ?_, ?_, ?_⟩
  · intro f hf
    exact (bd_pop h.bd f hf).mono (keep_aim _ _).1 (keep_aim _ _).2
  · show StR _ _ _ (aimI F.steps F.top.2.2) (aimI G.steps G.top.2.2)
    rw [hq, hg]
    exact h.steps.aim hx0 hop (fun i hi hO => openH_rest (by omega) (fun _ => hq) hi hO)
  · show ∀ (i : Nat) x, (aimI F.steps F.top.2.2)[i]? = some x → opPlain (aimI F.steps F.top.2.2).length x
    rw [hq]
    exact plain_aim h.plain hx0 hop

theorem emb_else (h : Emb G0 F G) (ht : F.top.1 = 1) : Emb G0 (((F.pop.push 2 0 F.len).add 2 0).aim F.top.2.2) (((G.pop.push 2 0 G.len).add 2 0).aim G.top.2.2) := by
  obtain ⟨t1, t2, t3⟩ := h.top (by omega)
  obtain ⟨q, hq, x0, hx0, hop⟩ := t3.hole (by omega)
  have hg : G.top.2.2 = (q : Int) + G0.steps.length := by
    rw [t1]; show (if F.top.1 = 3 then F.top.2.2 else F.top.2.2 + _) = _; rw [if_neg (by omega), hq]
  obtain ⟨x1, hx1, hop1⟩ := (keep_add F.steps (2, 0)).2 q x0 hx0
  have hadd : StR G0.steps.length G0.steps (fun i => openH F i ∨ i = F.steps.length) (F.steps ++ [(2, 0)]) (G.steps ++ [(2, 0)]) := h.steps.add (.inr (.inr rfl)) (fun i hi => .inl hi)
  have hpl : ∀ (i : Nat) x, (F.steps ++ [((2 : Int), (0 : Int))])[i]? = some x → opPlain (F.steps ++ [((2 : Int), (0 : Int))]).length x := plain_add h.plain (.inr (.inl ⟨.inl rfl, by show (0 : Int) ≤ 0; omega, by show (0 : Int) ≤ _; omega⟩))
  refine ⟨h.fdue, h.gdue, h.fins, h.fdefs, h.gdefs, h.ins, h.name, h.first, ?_, ?_, ?_, ?_⟩
  · show G.forms.dropLast ++ [(2, 0, G.len)] = G0.forms ++ (F.forms.dropLast ++ [(2, 0, F.len)]).map _
    rw [t2, List.map_append, List.append_assoc, len_add h]; rfl
  · intro f hf
    refine FormBd.mono (S := F.steps ++ [(2, 0)]) ?_ (keep_aim _ _).1 (keep_aim _ _).2
    revert f
    exact bd_push (fun f hf => (bd_pop h.bd f hf).mono (keep_add _ _).1 (keep_add _ _).2) ⟨.inr (.inl rfl), fun _ => ⟨F.steps.length, rfl, (2, 0), last_get _ _, .inl rfl⟩, fun hk => by simp at hk⟩
  · show StR _ _ _ (aimI (F.steps ++ [(2, 0)]) F.top.2.2) (aimI (G.steps ++ [(2, 0)]) G.top.2.2)
    rw [hq, hg]
    refine hadd.aim hx1 (by rw [hop1]; exact hop) (fun i hi hO => ?_)
    rcases hO with hO | hO
    · obtain ⟨f, a, b⟩ := openH_rest (by omega) (fun _ => hq) hi hO
      exact ⟨f, List.mem_append_left _ a, b⟩
    · exact ⟨(2, 0, F.len), by simp [Rd.push, Rd.add, Rd.aim], .inr rfl, by rw [hO]; rfl⟩
  · show ∀ (i : Nat) x, (aimI (F.steps ++ [(2, 0)]) F.top.2.2)[i]? = some x → opPlain (aimI (F.steps ++ [(2, 0)]) F.top.2.2).length x
    rw [hq]
    exact plain_aim hpl hx1 (by rw [hop1]; exact hop)

theorem emb_until (h : Emb G0 F G) (ht : F.top.1 = 3) : Emb G0 (F.pop.add 3 F.top.2.1) (G.pop.add 3 G.top.2.1) := by
  obtain ⟨t1, t2, t3⟩ := h.top (by omega)
  obtain ⟨b1, b2⟩ := t3.begin' (.inl ht)
  have hg : G.top.2.1 = F.top.2.1 + G0.steps.length := by rw [t1]; show (if F.top.1 = 3 ∨ F.top.1 = 4 then F.top.2.1 + _ else F.top.2.1) = _; rw [if_pos (.inl ht)]
  refine ⟨h.fdue, h.gdue, h.fins, h.fdefs, h.gdefs, h.ins, h.name, h.first, t2, fun f hf => (bd_pop h.bd f hf).mono (keep_add _ _).1 (keep_add _ _).2, ?_, plain_add h.plain (.inr (.inl ⟨.inr rfl, b1, by show F.top.2.1 ≤ ((F.steps.length + 1 : Nat) : Int); omega⟩))⟩
  refine h.steps.add (.inl ?_) (fun i hO => ?_)
  · rw [hg]; unfold shA; simp
  · obtain ⟨f, hf, a, b⟩ := hO
    rw [top_split (by omega)] at hf
    rcases List.mem_append.1 hf with hf | hf
    · exact ⟨f, hf, a, b⟩
    · simp at hf; subst hf; omega

theorem emb_while (h : Emb G0 F G) (ht : F.top.1 = 3) : Emb G0 ((F.pop.push 4 F.top.2.1 F.len).add 3 F.top.2.1) ((G.pop.push 4 G.top.2.1 G.len).add 3 G.top.2.1) := by
  obtain ⟨t1, t2, t3⟩ := h.top (by omega)
  obtain ⟨b1, b2⟩ := t3.begin' (.inl ht)
  have hg : G.top.2.1 = F.top.2.1 + G0.steps.length := by rw [t1]; show (if F.top.1 = 3 ∨ F.top.1 = 4 then F.top.2.1 + _ else F.top.2.1) = _; rw [if_pos (.inl ht)]
  refine ⟨h.fdue, h.gdue, h.fins, h.fdefs, h.gdefs, h.ins, h.name, h.first, ?_, ?_, ?_, plain_add h.plain (.inr (.inl ⟨.inr rfl, b1, by show F.top.2.1 ≤ ((F.steps.length + 1 : Nat) : Int); omega⟩))⟩
  · show G.forms.dropLast ++ [(4, G.top.2.1, G.len)] = G0.forms ++ (F.forms.dropLast ++ [(4, F.top.2.1, F.len)]).map _
    rw [t2, List.map_append, List.append_assoc, len_add h, hg]; rfl
  · exact bd_push (fun f hf => (bd_pop h.bd f hf).mono (keep_add _ _).1 (keep_add _ _).2) ⟨.inr (.inr (.inr rfl)), fun _ => ⟨F.steps.length, rfl, _, last_get _ _, .inr rfl⟩, fun _ => ⟨b1, by show F.top.2.1 ≤ ((F.steps ++ [_]).length : Int); simp; omega⟩⟩
  · refine h.steps.add (.inl ?_) (fun i hO => ?_)
    · rw [hg]; unfold shA; simp
    · obtain ⟨f, hf, a, b⟩ := hO
      rw [top_split (by omega)] at hf
      rcases List.mem_append.1 hf with hf | hf
      · exact ⟨f, List.mem_append_left _ hf, a, b⟩
      · simp at hf; subst hf; omega

theorem emb_repeat (h : Emb G0 F G) (ht : F.top.1 = 4) : Emb G0 ((F.pop.add 2 F.top.2.1).aim F.top.2.2) ((G.pop.add 2 G.top.2.1).aim G.top.2.2) := by
  obtain ⟨t1, t2, t3⟩ := h.top (by omega)
  obtain ⟨b1, b2⟩ := t3.begin' (.inr ht)
  obtain ⟨q, hq, x0, hx0, hop⟩ := t3.hole (by omega)
  have hg : G.top.2.1 = F.top.2.1 + G0.steps.length := by rw [t1]; show (if F.top.1 = 3 ∨ F.top.1 = 4 then F.top.2.1 + _ else F.top.2.1) = _; rw [if_pos (.inr ht)]
  have hg2 : G.top.2.2 = (q : Int) + G0.steps.length := by rw [t1]; show (if F.top.1 = 3 then F.top.2.2 else F.top.2.2 + _) = _; rw [if_neg (by omega), hq]
  obtain ⟨x1, hx1, hop1⟩ := (keep_add F.steps (2, F.top.2.1)).2 q x0 hx0
  have hadd : StR G0.steps.length G0.steps (openH F) (F.steps ++ [(2, F.top.2.1)]) (G.steps ++ [(2, G.top.2.1)]) := h.steps.add (.inl (by rw [hg]; unfold shA; simp)) (fun i hi => hi)
  have hpl : ∀ (i : Nat) x, (F.steps ++ [((2 : Int), F.top.2.1)])[i]? = some x → opPlain (F.steps ++ [((2 : Int), F.top.2.1)]).length x := plain_add h.plain (.inr (.inl ⟨.inl rfl, b1, by show F.top.2.1 ≤ ((F.steps.length + 1 : Nat) : Int); omega⟩))
  refine ⟨h.fdue, h.gdue, h.fins, h.fdefs, h.gdefs, h.ins, h.name, h.first, t2, ?_, ?_, ?_⟩
  · intro f hf
    exact FormBd.mono (S := F.steps ++ [(2, F.top.2.1)]) ((bd_pop h.bd f hf).mono (keep_add _ _).1 (keep_add _ _).2) (keep_aim _ _).1 (keep_aim _ _).2
  · show StR _ _ _ (aimI (F.steps ++ [(2, F.top.2.1)]) F.top.2.2) (aimI (G.steps ++ [(2, G.top.2.1)]) G.top.2.2)
    rw [hq, hg2]
    exact hadd.aim hx1 (by rw [hop1]; exact hop) (fun i hi hO => openH_rest (by omega) (fun hx => by omega) hi hO)
  · show ∀ (i : Nat) x, (aimI (F.steps ++ [(2, F.top.2.1)]) F.top.2.2)[i]? = some x → opPlain (aimI (F.steps ++ [(2, F.top.2.1)]) F.top.2.2).length x
    rw [hq]
    exact plain_aim hpl hx1 (by rw [hop1]; exact hop)

/-- One word. -/
theorem emb_take (h : Emb G0 F G) (t : ByteArray) (hne : t.toList ≠ []) (hc : t.toList ≠ [58]) (he : (F.take t).1 = 0) : (G.take t).1 = 0 ∧ Emb G0 (F.take t).2 (G.take t).2 := by
  have hF : F.take t = if digs t.toList = true then (match numVal t.toList with | some n => (0, F.add 1 n) | none => (2, F)) else F.word t.toList := by
    unfold Rd.take; rw [if_neg (by rw [h.fdue]; decide)]; rfl
  have hG : G.take t = if digs t.toList = true then (match numVal t.toList with | some n => (0, G.add 1 n) | none => (2, G)) else G.word t.toList := by
    unfold Rd.take; rw [if_neg (by rw [h.gdue]; decide)]; rfl
  generalize t.toList = l at *
  rw [hF] at he ⊢
  rw [hG]
  have hkt : ∀ c : Int, c ≠ 0 → F.top.1 = c → G.top.1 = c := by
    intro c hc0 hct
    rw [(h.top (by omega)).1]; exact hct
  cases hd : digs l with
  | true =>
    rw [hd, if_pos rfl] at he
    rw [if_pos rfl, if_pos rfl]
    cases hv : numVal l with
    | none => rw [hv] at he; cases he
    | some n =>
      obtain ⟨v1, v2, v3⟩ := refVal_digs l hd hne hv
      exact ⟨rfl, h.add (.inl ⟨rfl, v2, v3⟩) (by unfold shA; simp)⟩
  | false =>
    rw [hd, if_neg (by decide)] at he
    rw [if_neg (by decide), if_neg (by decide)]
    cases hf : isForm l with
    | true =>
      have hm := (isForm_iff _).1 hf
      simp only [formsL, List.mem_cons, List.not_mem_nil, or_false] at hm
      rcases hm with e | e | e | e | e | e | e | e | e | e | e
      · have hr : ∀ R : Rd, R.word l = (0, (R.push 1 0 R.len).add 3 0) := fun R => by rw [e]; rfl
        rw [hr, hr]; exact ⟨rfl, emb_if h⟩
      · have hr : ∀ R : Rd, R.word l = if R.top.1 = 1 then (0, ((R.pop.push 2 0 R.len).add 2 0).aim R.top.2.2) else (3, R) := fun R => by rw [e]; rfl
        rw [hr] at he ⊢
        rw [hr]
        by_cases ht : F.top.1 = 1
        · rw [if_pos ht, if_pos (hkt 1 (by decide) ht)]; exact ⟨rfl, emb_else h ht⟩
        · rw [if_neg ht] at he; cases he
      · have hr : ∀ R : Rd, R.word l = if R.top.1 = 1 ∨ R.top.1 = 2 then (0, R.pop.aim R.top.2.2) else (3, R) := fun R => by rw [e]; rfl
        rw [hr] at he ⊢
        rw [hr]
        by_cases ht : F.top.1 = 1 ∨ F.top.1 = 2
        · rw [if_pos ht, if_pos (ht.imp (hkt 1 (by decide)) (hkt 2 (by decide)))]; exact ⟨rfl, emb_then h ht⟩
        · rw [if_neg ht] at he; cases he
      · have hr : ∀ R : Rd, R.word l = (0, R.push 3 R.len 0) := fun R => by rw [e]; rfl
        rw [hr, hr]; exact ⟨rfl, emb_begin h⟩
      · have hr : ∀ R : Rd, R.word l = if R.top.1 = 3 then (0, R.pop.add 3 R.top.2.1) else (3, R) := fun R => by rw [e]; rfl
        rw [hr] at he ⊢
        rw [hr]
        by_cases ht : F.top.1 = 3
        · rw [if_pos ht, if_pos (hkt 3 (by decide) ht)]; exact ⟨rfl, emb_until h ht⟩
        · rw [if_neg ht] at he; cases he
      · have hr : ∀ R : Rd, R.word l = if R.top.1 = 3 then (0, (R.pop.push 4 R.top.2.1 R.len).add 3 R.top.2.1) else (3, R) := fun R => by rw [e]; rfl
        rw [hr] at he ⊢
        rw [hr]
        by_cases ht : F.top.1 = 3
        · rw [if_pos ht, if_pos (hkt 3 (by decide) ht)]; exact ⟨rfl, emb_while h ht⟩
        · rw [if_neg ht] at he; cases he
      · have hr : ∀ R : Rd, R.word l = if R.top.1 = 4 then (0, (R.pop.add 2 R.top.2.1).aim R.top.2.2) else (3, R) := fun R => by rw [e]; rfl
        rw [hr] at he ⊢
        rw [hr]
        by_cases ht : F.top.1 = 4
        · rw [if_pos ht, if_pos (hkt 4 (by decide) ht)]; exact ⟨rfl, emb_repeat h ht⟩
        · rw [if_neg ht] at he; cases he
      · have hr : F.word l = if F.inside = true then (0, F.add 5 0) else (3, F) := by rw [e]; rfl
        rw [hr, if_neg (by rw [h.fins]; decide)] at he; cases he
      · have hr : F.word l = if F.inside = true then (0, F.add 4 F.first) else (3, F) := by rw [e]; rfl
        rw [hr, if_neg (by rw [h.fins]; decide)] at he; cases he
      · exact absurd e hc
      · have hr : F.word l = if F.inside = false then (3, F) else if F.forms ≠ [] then (3, F) else (0, F.ended) := by rw [e]; rfl
        rw [hr, if_pos h.fins] at he; cases he
    | false =>
      have hnf : l ∉ formsL := fun hm => by rw [(isForm_iff _).2 hm] at hf; cases hf
      obtain ⟨g1, g2, g3, g4, g5, g6, g7, g8, g9, g10, g11⟩ := not_forms hnf
      simp only [beq_eq_false_iff_ne, ne_eq] at g1 g2 g3 g4 g5 g6 g7 g8 g9 g10 g11
      have hword : ∀ R : Rd, R.defs = [] → R.word l = if listOk l = true then (0, R.add (listOp l) 0) else (2, R) := by
        intro R hR
        unfold Rd.word
        rw [if_neg g1, if_neg g2, if_neg g3, if_neg g4, if_neg g7, if_neg g5, if_neg g6, if_neg g10, if_neg g8, if_neg g9, if_neg g11, hR]
        rfl
      rw [hword F h.fdefs] at he ⊢
      rw [hword G h.gdefs]
      cases ho : listOk l with
      | false => rw [ho] at he; cases he
      | true =>
        rw [if_pos rfl, if_pos rfl]
        have hlr : 16 ≤ listOp l ∧ listOp l ≤ 34 := by
          unfold listOk at ho
          simp at ho
          unfold listOp
          rw [if_pos ho]; omega
        exact ⟨rfl, h.add (.inr (.inr hlr)) (by unfold shA; rw [if_neg (by show ¬ (listOp l = 2 ∨ listOp l = 3); omega)])⟩

/-- All words. -/
theorem emb_read : ∀ (T : Words) (F G : Rd), Emb G0 F G → (∀ x ∈ T, x.1.toList ≠ [] ∧ x.1.toList ≠ [58]) → (F.read T).1 = 0 → (G.read T).1 = 0 ∧ Emb G0 (F.read T).2.2 (G.read T).2.2
  | [], F, G, h, _, _ => ⟨rfl, h⟩
  | (t, a) :: r, F, G, h, hT, he => by
    have h0 := Rd.read_err F t a r he
    obtain ⟨g0, e2⟩ := emb_take h t (hT (t, a) List.mem_cons_self).1 (hT (t, a) List.mem_cons_self).2 h0
    rw [Rd.read_yes F t a r h0] at he ⊢
    rw [Rd.read_yes G t a r g0]
    exact emb_read r _ _ e2 (fun x hx => hT x (List.mem_cons_of_mem _ hx)) he
end

/-- A plain program, read within another one. -/
structure Plain (S : List (Int × Int)) : Prop where
  ops : ∀ (i : Nat) x, S[i]? = some x → opPlain S.length x
theorem read_within (T : Words) (hT : ∀ x ∈ T, x.1.toList ≠ [] ∧ x.1.toList ≠ [58]) (he : (Rd.fresh.read T).1 = 0) (hf : (Rd.fresh.read T).2.2.fin = 0) (G0 : Rd) (hd : G0.due = false) (hdf : G0.defs = []) :
    Plain (Rd.fresh.read T).2.2.steps ∧ (G0.read T).1 = 0 ∧ (G0.read T).2.2 = { G0 with steps := G0.steps ++ (Rd.fresh.read T).2.2.steps.map (shA G0.steps.length) } := by
  obtain ⟨h1, h2⟩ := emb_read T Rd.fresh G0 (Emb.start G0 hd hdf) hT he
  generalize (Rd.fresh.read T).2.2 = F at *
  generalize hG : (G0.read T).2.2 = G at *
  have hfm : F.forms = [] := by
    unfold Rd.fin at hf
    rw [if_neg (by rw [h2.fdue]; decide)] at hf
    by_cases hc : F.inside = true ∨ F.forms ≠ []
    · rw [if_pos hc] at hf; cases hf
    · by_cases hb : F.forms = []
      · exact hb
      · exact absurd (.inr hb) hc
  refine ⟨⟨h2.plain⟩, h1, ?_⟩
  have hsteps : G.steps = G0.steps ++ F.steps.map (shA G0.steps.length) := by
    apply List.ext_getElem?
    intro i
    by_cases hi : i < G0.steps.length
    · rw [List.getElem?_append_left hi]; exact h2.steps.pre i hi
    · rw [List.getElem?_append_right (by omega), List.getElem?_map]
      obtain ⟨j, rfl⟩ : ∃ j, i = G0.steps.length + j := ⟨i - G0.steps.length, by omega⟩
      rw [show G0.steps.length + j - G0.steps.length = j by omega]
      cases hx : F.steps[j]? with
      | none =>
        have : F.steps.length ≤ j := by
          rcases Nat.lt_or_ge j F.steps.length with h | h
          · rw [List.getElem?_eq_getElem h] at hx; cases hx
          · exact h
        rw [List.getElem?_eq_none (by rw [h2.steps.len]; omega)]; rfl
      | some x =>
        obtain ⟨y, a, b, c⟩ := h2.steps.rel j x hx
        rw [a]
        rcases c with c | ⟨f, hf', _⟩
        · rw [c]; rfl
        · rw [hfm] at hf'; cases hf'
  have hforms : G.forms = G0.forms := by rw [h2.forms, hfm]; simp
  cases G
  cases G0
  simp only at *
  have e1 := h2.ins
  have e2 := h2.name
  have e3 := h2.first
  have e4 := h2.gdue
  have e5 := h2.gdefs
  simp only at e1 e2 e3 e4 e5 hd hdf
  subst e1 e2 e3 e4 e5 hd hdf hsteps hforms
  rfl
end Go.Proofs.YtnanjomnldfidaaDoor
