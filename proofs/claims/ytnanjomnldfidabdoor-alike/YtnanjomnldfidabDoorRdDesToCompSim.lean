/-
  What the reader's steps are like: where definitions lie in them, and to where steps lead. Plain mathematics.
  The code of a program: which steps stand where in it, and what stands there. Plain mathematics.
  A program's code goes as its steps go, and it is whole. Plain mathematics.
-/
import Derived.Test.YtnanjomnldfidabDoorRunSim
import Derived.Test.YtnanjomnldfidabDoorCodePureToVerPure
set_option linter.unusedSimpArgs false
set_option linter.unusedVariables false
set_option linter.unusedSectionVars false
namespace Go.Proofs.YtnanjomnldfidabDoor

def opS (S : List (Int × Int)) (i : Nat) : Int := (S.getD i (0, 0)).1
def argS (S : List (Int × Int)) (i : Nat) : Int := (S.getD i (0, 0)).2

theorem getS_left {S l : List (Int × Int)} {i : Nat} (h : i < S.length) : (S ++ l).getD i (0, 0) = S.getD i (0, 0) := by
  simp [List.getD, List.getElem?_append_left h]
theorem getS_new (S : List (Int × Int)) (x : Int × Int) : (S ++ [x]).getD S.length (0, 0) = x := by
  simp [List.getD]
theorem opS_left {S l : List (Int × Int)} {i : Nat} (h : i < S.length) : opS (S ++ l) i = opS S i := by unfold opS; rw [getS_left h]
theorem argS_left {S l : List (Int × Int)} {i : Nat} (h : i < S.length) : argS (S ++ l) i = argS S i := by unfold argS; rw [getS_left h]
theorem opS_new (S : List (Int × Int)) (op arg : Int) : opS (S ++ [(op, arg)]) S.length = op := by unfold opS; rw [getS_new]
theorem argS_new (S : List (Int × Int)) (op arg : Int) : argS (S ++ [(op, arg)]) S.length = arg := by unfold argS; rw [getS_new]
theorem aim_get (S : List (Int × Int)) (k i : Nat) (hk : k < S.length) : (aimI S (k : Int)).getD i (0, 0) = if i = k then ((S.getD i (0, 0)).1, (S.length : Int)) else S.getD i (0, 0) := by
  unfold aimI aimAt
  rw [if_pos ⟨by omega, by omega⟩, Int.toNat_natCast]
  by_cases h : i = k
  · subst h
    simp [List.getD, List.getElem?_modify, hk]
  · rw [if_neg h]
    have h' : ¬ k = i := fun e => h e.symm
    cases hx : S[i]? <;> simp [List.getD, List.getElem?_modify, h', hx]
theorem aim_opS (S : List (Int × Int)) (k i : Nat) (hk : k < S.length) : opS (aimI S (k : Int)) i = opS S i := by
  unfold opS; rw [aim_get S k i hk]; split <;> rfl
theorem aim_argS (S : List (Int × Int)) (k i : Nat) (hk : k < S.length) : argS (aimI S (k : Int)) i = if i = k then (S.length : Int) else argS S i := by
  unfold argS; rw [aim_get S k i hk]; split <;> rfl

/-- A definition that has ended: its steps are those behind i. -/
def DefAt (S : List (Int × Int)) (i : Nat) : Prop := ∃ e : Nat, argS S i = (e : Int) ∧ i + 2 ≤ e ∧ e ≤ S.length ∧ opS S (e - 1) = 5 ∧ ∀ j, i < j → j < e → opS S j ≠ -1
theorem DefAt.left {S l : List (Int × Int)} {i : Nat} (h : DefAt S i) : DefAt (S ++ l) i := by
  obtain ⟨e, h1, h2, h3, h4, h5⟩ := h
  refine ⟨e, by rw [argS_left (by omega)]; exact h1, h2, by rw [List.length_append]; omega, by rw [opS_left (by omega)]; exact h4, fun j a b => by rw [opS_left (by omega)]; exact h5 j a b⟩
theorem DefAt.aim {S : List (Int × Int)} {i k : Nat} (h : DefAt S i) (hk : k < S.length) (hik : i ≠ k) : DefAt (aimI S (k : Int)) i := by
  obtain ⟨e, h1, h2, h3, h4, h5⟩ := h
  refine ⟨e, by rw [aim_argS S k i hk, if_neg hik]; exact h1, h2, by rw [aimI_length]; exact h3, by rw [aim_opS S k _ hk]; exact h4, fun j a b => by rw [aim_opS S k j hk]; exact h5 j a b⟩

/-- What holds of the reader. -/
structure Rd.Des (R : Rd) : Prop where
  ops : ∀ i, i < R.steps.length → opS R.steps i = -1 ∨ opOk (opS R.steps i)
  args : ∀ i, i < R.steps.length → 0 ≤ argS R.steps i ∧ (opS R.steps i = 1 → argS R.steps i < 65536) ∧ (opS R.steps i ≠ 1 → argS R.steps i ≤ R.steps.length)
  forms : ∀ f ∈ R.forms, (0 ≤ f.2.1 ∧ f.2.1 ≤ R.steps.length) ∧ (f.1 ≠ 3 → ∃ k : Nat, f.2.2 = k ∧ k < R.steps.length ∧ opS R.steps k ≠ -1 ∧ opS R.steps k ≠ 1)
  defs : ∀ d ∈ R.defs, 0 ≤ d.2 ∧ d.2 ≤ R.steps.length
  due : R.due = true → R.inside = false ∧ ∃ n, R.steps.length = n + 1 ∧ opS R.steps n = -1
  ins : R.inside = true → ∃ n : Nat, R.first = (n : Int) + 1 ∧ n < R.steps.length ∧ opS R.steps n = -1 ∧ ∀ j, n < j → j < R.steps.length → opS R.steps j ≠ -1
  pass : ∀ i, i < R.steps.length → opS R.steps i = -1 → DefAt R.steps i ∨ (R.due = true ∧ i + 1 = R.steps.length) ∨ (R.inside = true ∧ R.first = (i : Int) + 1)

theorem Rd.Des.add {R : Rd} (h : R.Des) (hd : R.due = false) {op arg : Int} (ho : opOk op) (h0 : 0 ≤ arg) (h1 : op = 1 → arg < 65536) (h2 : op ≠ 1 → arg ≤ R.steps.length) : (R.add op arg).Des := by
  have hne : op ≠ -1 := fun e => by subst e; unfold opOk at ho; omega
  have hl : (R.add op arg).steps = R.steps ++ [(op, arg)] := rfl
  have hlen : (R.add op arg).steps.length = R.steps.length + 1 := by rw [hl]; simp
  refine ⟨fun i hi => ?_, fun i hi => ?_, fun f hf => ?_, fun d hd' => ?_, fun e => ?_, fun e => ?_, fun i hi hp => ?_⟩
  · by_cases c : i = R.steps.length
    · subst c; rw [hl, opS_new]; exact .inr ho
    · rw [hl, opS_left (by omega)]; exact h.ops i (by omega)
  · rw [hlen]
    by_cases c : i = R.steps.length
    · subst c; rw [hl, opS_new, argS_new]; exact ⟨h0, h1, fun e => by have := h2 e; omega⟩
    · rw [hl, opS_left (by omega), argS_left (by omega)]
      obtain ⟨a1, a2, a3⟩ := h.args i (by omega)
      exact ⟨a1, a2, fun e => by have := a3 e; omega⟩
  · obtain ⟨a1, a2⟩ := h.forms f hf
    refine ⟨by rw [hlen]; omega, fun e => ?_⟩
    obtain ⟨k, k1, k2, k3⟩ := a2 e
    exact ⟨k, k1, by rw [hlen]; omega, by rw [hl, opS_left k2]; exact k3⟩
  · have := h.defs d hd'
    rw [hlen]; omega
  · exact absurd (show R.due = true from e) (by rw [hd]; decide)
  · obtain ⟨n, n1, n2, n3, n4⟩ := h.ins e
    refine ⟨n, n1, by rw [hlen]; omega, by rw [hl, opS_left n2]; exact n3, fun j a b => ?_⟩
    by_cases c : j = R.steps.length
    · subst c; rw [hl, opS_new]; exact hne
    · rw [hl, opS_left (by omega)]; exact n4 j a (by omega)
  · by_cases c : i = R.steps.length
    · subst c; rw [hl, opS_new] at hp; exact absurd hp hne
    · rw [hl, opS_left (by omega)] at hp
      rcases h.pass i (by omega) hp with q | q | q
      · exact .inl q.left
      · rw [hd] at q; exact absurd q.1 (by decide)
      · exact .inr (.inr q)
theorem Rd.Des.push {R : Rd} (h : R.Des) {k g x : Int} (hg : 0 ≤ g ∧ g ≤ R.steps.length) (hx : k ≠ 3 → ∃ j : Nat, x = j ∧ j < R.steps.length ∧ opS R.steps j ≠ -1 ∧ opS R.steps j ≠ 1) : (R.push k g x).Des :=
  ⟨h.ops, h.args, fun f hf => by
    rcases List.mem_append.1 (show f ∈ R.forms ++ [(k, g, x)] from hf) with q | q
    · exact h.forms f q
    · rw [List.mem_singleton] at q; subst q; exact ⟨hg, hx⟩, h.defs, h.due, h.ins, h.pass⟩
theorem Rd.Des.pop {R : Rd} (h : R.Des) : R.pop.Des := ⟨h.ops, h.args, fun f hf => h.forms f (List.dropLast_subset _ hf), h.defs, h.due, h.ins, h.pass⟩
theorem Rd.Des.aim {R : Rd} (h : R.Des) {k : Nat} (hk : k < R.steps.length) (h1 : opS R.steps k ≠ -1) (h2 : opS R.steps k ≠ 1) : (R.aim (k : Int)).Des := by
  have hl : (R.aim (k : Int)).steps = aimI R.steps (k : Int) := rfl
  have hlen : (R.aim (k : Int)).steps.length = R.steps.length := by rw [hl, aimI_length]
  refine ⟨fun i hi => ?_, fun i hi => ?_, fun f hf => ?_, fun d hd' => ?_, fun e => ?_, fun e => ?_, fun i hi hp => ?_⟩
  · rw [hl, aim_opS _ _ _ hk]; exact h.ops i (by omega)
  · rw [hlen, hl, aim_opS _ _ _ hk, aim_argS _ _ _ hk]
    by_cases c : i = k
    · subst c; rw [if_pos rfl]; exact ⟨by omega, fun e => absurd e h2, fun _ => Int.le_refl _⟩
    · rw [if_neg c]; exact h.args i (by omega)
  · obtain ⟨a1, a2⟩ := h.forms f hf
    refine ⟨by rw [hlen]; omega, fun e => ?_⟩
    obtain ⟨j, k1, k2, k3⟩ := a2 e
    exact ⟨j, k1, by rw [hlen]; omega, by rw [hl, aim_opS _ _ _ hk]; exact k3⟩
  · rw [hlen]; exact h.defs d hd'
  · obtain ⟨a, n, n1, n2⟩ := h.due e
    exact ⟨a, n, by rw [hlen]; exact n1, by rw [hl, aim_opS _ _ _ hk]; exact n2⟩
  · obtain ⟨n, n1, n2, n3, n4⟩ := h.ins e
    exact ⟨n, n1, by rw [hlen]; omega, by rw [hl, aim_opS _ _ _ hk]; exact n3, fun j a b => by rw [hl, aim_opS _ _ _ hk]; exact n4 j a (by omega)⟩
  · rw [hl, aim_opS _ _ _ hk] at hp
    rw [hlen]
    have hik : i ≠ k := fun e => by subst e; exact h1 hp
    rcases h.pass i (by omega) hp with q | q | q
    · exact .inl (q.aim hk hik)
    · exact .inr (.inl q)
    · exact .inr (.inr q)
theorem Rd.Des.ended {R : Rd} (h : R.Des) (hd : R.due = false) (hi : R.inside = true) (hf : R.forms = []) : R.ended.Des := by
  obtain ⟨n, n1, n2, n3, n4⟩ := h.ins hi
  have h2 := h.add hd (op := 5) (arg := 0) (by unfold opOk; omega) (Int.le_refl _) (fun e => absurd e (by decide)) (fun _ => by omega)
  have hfx : R.first - 1 = ((n : Nat) : Int) := by omega
  have hlen2 : (R.add 5 0).steps.length = R.steps.length + 1 := by show (R.steps ++ [(5, 0)]).length = _; simp
  have hn : n < (R.add 5 0).steps.length := by omega
  have hl : R.ended.steps = aimI (R.add 5 0).steps ((n : Nat) : Int) := by show aimI (R.add 5 0).steps (R.first - 1) = _; rw [hfx]
  have hlen : R.ended.steps.length = R.steps.length + 1 := by rw [hl, aimI_length, hlen2]
  have hop : ∀ i, opS R.ended.steps i = opS (R.steps ++ [(5, 0)]) i := fun i => by rw [hl, aim_opS _ _ _ hn]; rfl
  have harg : ∀ i, argS R.ended.steps i = if i = n then ((R.steps.length + 1 : Nat) : Int) else argS (R.steps ++ [(5, 0)]) i := fun i => by
    rw [hl, aim_argS _ _ _ hn, hlen2]; rfl
  have hnon : ∀ j, n < j → j < R.steps.length + 1 → opS R.ended.steps j ≠ -1 := by
    intro j a b
    rw [hop]
    by_cases c : j = R.steps.length
    · subst c; rw [opS_new]; decide
    · rw [opS_left (by omega)]; exact n4 j a (by omega)
  refine ⟨fun i hi' => ?_, fun i hi' => ?_, fun f hf' => ?_, fun d hd' => ?_, fun e => ?_, fun e => ?_, fun i hi' hp => ?_⟩
  · rw [hop]; exact h2.ops i (by rw [hlen2]; omega)
  · rw [hlen, hop, harg]
    obtain ⟨a1, a2, a3⟩ := h2.args i (by rw [hlen2]; omega)
    by_cases c : i = n
    · subst c
      rw [if_pos rfl]
      refine ⟨by omega, fun e => ?_, fun _ => by omega⟩
      rw [opS_left n2, n3] at e; cases e
    · rw [if_neg c]
      exact ⟨a1, a2, fun e => by have := a3 e; rw [hlen2] at this; exact this⟩
  · rw [show R.ended.forms = R.forms from rfl, hf] at hf'; cases hf'
  · rw [hlen]
    rcases List.mem_append.1 (show d ∈ R.defs ++ [(R.name, R.first)] from hd') with q | q
    · have := h.defs d q; omega
    · rw [List.mem_singleton] at q; subst q
      show 0 ≤ R.first ∧ R.first ≤ _
      omega
  · exact absurd (show R.due = true from e) (by rw [hd]; decide)
  · exact absurd (show false = true from e) (by decide)
  · rw [hlen] at hi'
    by_cases c : i = n
    · subst c
      refine .inl ⟨R.steps.length + 1, by rw [harg, if_pos rfl], by omega, by rw [hlen]; omega, ?_, fun j a b => hnon j a b⟩
      rw [hop, Nat.add_sub_cancel, opS_new]
    · rcases Nat.lt_or_ge n i with q | q
      · exact absurd hp (hnon i q hi')
      · have hp' : opS R.steps i = -1 := by rw [hop, opS_left (by omega)] at hp; exact hp
        rcases h.pass i (by omega) hp' with q1 | q1 | q1
        · refine .inl ?_
          rw [hl]
          exact DefAt.aim (q1.left (l := [(5, 0)])) hn c
        · rw [hd] at q1; exact absurd q1.1 (by decide)
        · exfalso; have := q1.2; omega

theorem lastDef_mem {l : List (ByteArray × Int)} {t : List UInt8} {n : Int} (h : lastDef l t = some n) : ∃ d ∈ l, d.2 = n := by
  unfold lastDef at h
  rw [Option.map_eq_some_iff] at h
  obtain ⟨d, h1, h2⟩ := h
  exact ⟨d, List.mem_reverse.1 (List.mem_of_find?_eq_some h1), h2⟩
theorem numVal_bd {s : List UInt8} {n : Int} (hd : digs s = true) (hv : numVal s = some n) : 0 ≤ n ∧ n < 65536 := by
  by_cases hne : s = []
  · subst hne
    have : numVal [] = some 0 := by decide
    rw [this] at hv; cases hv; decide
  · exact (refVal_digs s hd hne hv).2

theorem Rd.Des.word {R : Rd} (h : R.Des) (hd : R.due = false) (l : List UInt8) : (R.word l).2.Des := by
  have htop : R.top.1 ≠ 0 → R.top ∈ R.forms := fun e => by
    have hm : R.top ∈ R.forms.dropLast ++ [R.top] := by simp
    rw [← top_split e] at hm; exact hm
  have hadd : ∀ {Q : Rd} {op arg : Int}, Q.Des → Q.due = false → opOk op → 0 ≤ arg → op ≠ 1 → arg ≤ Q.steps.length → (Q.add op arg).Des := fun hq hdu ho h0 h1 h2 => hq.add hdu ho h0 (fun e => absurd e h1) (fun _ => h2)
  unfold Rd.word
  by_cases c1 : l = [105, 102]
  · rw [if_pos c1]
    have a := hadd (op := 3) (arg := 0) h hd (by unfold opOk; omega) (by omega) (by decide) (by omega)
    exact a.push (k := 1) (g := 0) (x := R.len) ⟨by omega, by omega⟩ fun _ => ⟨R.steps.length, rfl, by show _ < (R.steps ++ [(3, 0)]).length; simp, by show opS (R.steps ++ [(3, 0)]) _ ≠ -1 ∧ opS (R.steps ++ [(3, 0)]) _ ≠ 1; rw [opS_new]; decide⟩
  rw [if_neg c1]
  by_cases c2 : l = [101, 108, 115, 101]
  · rw [if_pos c2]
    by_cases q : R.top.1 = 1
    · rw [if_pos q]
      obtain ⟨_, t2⟩ := h.forms _ (htop (by rw [q]; decide))
      obtain ⟨k, k1, k2, k3, k4⟩ := t2 (by rw [q]; decide)
      have a := hadd (op := 2) (arg := 0) h.pop hd (by unfold opOk; omega) (by omega) (by decide) (by omega)
      have b := a.push (k := 2) (g := 0) (x := R.len) ⟨by omega, by omega⟩ fun _ => ⟨R.steps.length, rfl, by show _ < (R.steps ++ [(2, 0)]).length; simp, by show opS (R.steps ++ [(2, 0)]) _ ≠ -1 ∧ opS (R.steps ++ [(2, 0)]) _ ≠ 1; rw [opS_new]; decide⟩
      have d := b.aim (k := k) (by show k < (R.steps ++ [(2, 0)]).length; simp; omega) (by show opS (R.steps ++ [(2, 0)]) k ≠ -1; rw [opS_left k2]; exact k3) (by show opS (R.steps ++ [(2, 0)]) k ≠ 1; rw [opS_left k2]; exact k4)
      rw [← k1] at d
      exact d
    · rw [if_neg q]; exact h
  rw [if_neg c2]
  by_cases c3 : l = [116, 104, 101, 110]
  · rw [if_pos c3]
    by_cases q : R.top.1 = 1 ∨ R.top.1 = 2
    · rw [if_pos q]
      obtain ⟨_, t2⟩ := h.forms _ (htop (by omega))
      obtain ⟨k, k1, k2, k3, k4⟩ := t2 (by omega)
      have d := h.pop.aim (k := k) k2 k3 k4
      rw [← k1] at d
      exact d
    · rw [if_neg q]; exact h
  rw [if_neg c3]
  by_cases c4 : l = [98, 101, 103, 105, 110]
  · rw [if_pos c4]
    exact h.push (k := 3) (g := R.len) (x := 0) ⟨by show (0 : Int) ≤ (R.steps.length : Int); omega, Int.le_refl _⟩ fun e => absurd rfl e
  rw [if_neg c4]
  by_cases c5 : l = [114, 101, 112, 101, 97, 116]
  · rw [if_pos c5]
    by_cases q : R.top.1 = 4
    · rw [if_pos q]
      obtain ⟨t1, t2⟩ := h.forms _ (htop (by omega))
      obtain ⟨k, k1, k2, k3, k4⟩ := t2 (by omega)
      have a := hadd (op := 2) (arg := R.top.2.1) h.pop hd (by unfold opOk; omega) t1.1 (by decide) t1.2
      have d := a.aim (k := k) (by show k < (R.steps ++ [(2, R.top.2.1)]).length; simp; omega) (by show opS (R.steps ++ [(2, R.top.2.1)]) k ≠ -1; rw [opS_left k2]; exact k3) (by show opS (R.steps ++ [(2, R.top.2.1)]) k ≠ 1; rw [opS_left k2]; exact k4)
      rw [← k1] at d
      exact d
    · rw [if_neg q]; exact h
  rw [if_neg c5]
  by_cases c6 : l = [117, 110, 116, 105, 108]
  · rw [if_pos c6]
    by_cases q : R.top.1 = 3
    · rw [if_pos q]
      obtain ⟨t1, t2⟩ := h.forms _ (htop (by omega))
      exact hadd (op := 3) (arg := R.top.2.1) h.pop hd (by unfold opOk; omega) t1.1 (by decide) t1.2
    · rw [if_neg q]; exact h
  rw [if_neg c6]
  by_cases c7 : l = [119, 104, 105, 108, 101]
  · rw [if_pos c7]
    by_cases q : R.top.1 = 3
    · rw [if_pos q]
      obtain ⟨t1, t2⟩ := h.forms _ (htop (by omega))
      have a := hadd (op := 3) (arg := R.top.2.1) h.pop hd (by unfold opOk; omega) t1.1 (by decide) t1.2
      exact a.push (k := 4) (g := R.top.2.1) (x := R.len) ⟨t1.1, by show R.top.2.1 ≤ ((R.steps ++ [(3, R.top.2.1)]).length : Int); simp; omega⟩ fun _ => ⟨R.steps.length, rfl, by show _ < (R.steps ++ [(3, R.top.2.1)]).length; simp, by show opS (R.steps ++ [(3, R.top.2.1)]) _ ≠ -1 ∧ opS (R.steps ++ [(3, R.top.2.1)]) _ ≠ 1; rw [opS_new]; decide⟩
    · rw [if_neg q]; exact h
  rw [if_neg c7]
  by_cases c8 : l = [58]
  · rw [if_pos c8]
    by_cases q : R.inside = true ∨ R.forms ≠ []
    · rw [if_pos q]; exact h
    · rw [if_neg q]
      have hins : R.inside = false := by cases hb : R.inside; rfl; exact absurd (.inl hb) q
      have hl : ((({ R with due := true } : Rd).add (-1) 0)).steps = R.steps ++ [(-1, 0)] := rfl
      have hlen : ((({ R with due := true } : Rd).add (-1) 0)).steps.length = R.steps.length + 1 := by rw [hl]; simp
      show ((({ R with due := true } : Rd).add (-1) 0)).Des
      refine ⟨fun i hi => ?_, fun i hi => ?_, fun f hf => ?_, fun d hd' => ?_, fun e => ?_, fun e => ?_, fun i hi hp => ?_⟩
      · by_cases c : i = R.steps.length
        · subst c; rw [hl, opS_new]; exact .inl rfl
        · rw [hl, opS_left (by omega)]; exact h.ops i (by omega)
      · rw [hlen]
        by_cases c : i = R.steps.length
        · subst c; rw [hl, opS_new, argS_new]; exact ⟨by omega, fun e => absurd e (by decide), fun e => by omega⟩
        · rw [hl, opS_left (by omega), argS_left (by omega)]
          obtain ⟨a1, a2, a3⟩ := h.args i (by omega)
          exact ⟨a1, a2, fun e => by have := a3 e; omega⟩
      · obtain ⟨a1, a2⟩ := h.forms f hf
        refine ⟨by rw [hlen]; omega, fun e => ?_⟩
        obtain ⟨k, k1, k2, k3⟩ := a2 e
        exact ⟨k, k1, by rw [hlen]; omega, by rw [hl, opS_left k2]; exact k3⟩
      · have := h.defs d hd'
        rw [hlen]; omega
      · exact ⟨hins, R.steps.length, hlen, by rw [hl, opS_new]⟩
      · exact absurd (show R.inside = true from e) (by rw [hins]; decide)
      · by_cases c : i = R.steps.length
        · exact .inr (.inl ⟨rfl, by rw [hlen, c]⟩)
        · rw [hl, opS_left (by omega)] at hp
          rcases h.pass i (by omega) hp with q1 | q1 | q1
          · exact .inl q1.left
          · rw [hd] at q1; exact absurd q1.1 (by decide)
          · rw [hins] at q1; exact absurd q1.1 (by decide)
  rw [if_neg c8]
  by_cases c9 : l = [101, 120, 105, 116]
  · rw [if_pos c9]
    by_cases q : R.inside = true
    · rw [if_pos q]; exact hadd (op := 5) (arg := 0) h hd (by unfold opOk; omega) (by omega) (by decide) (by omega)
    · rw [if_neg q]; exact h
  rw [if_neg c9]
  by_cases c10 : l = [114, 101, 99, 117, 114, 115, 101]
  · rw [if_pos c10]
    by_cases q : R.inside = true
    · rw [if_pos q]
      obtain ⟨n, n1, n2, _⟩ := h.ins q
      exact hadd (op := 4) (arg := R.first) h hd (by unfold opOk; omega) (by omega) (by decide) (by omega)
    · rw [if_neg q]; exact h
  rw [if_neg c10]
  by_cases c11 : l = [59]
  · rw [if_pos c11]
    by_cases q : R.inside = false
    · rw [if_pos q]; exact h
    · rw [if_neg q]
      by_cases q2 : R.forms ≠ []
      · rw [if_pos q2]; exact h
      · rw [if_neg q2]
        exact h.ended hd (by simpa using q) (by simpa using q2)
  rw [if_neg c11]
  cases hl : lastDef R.defs l with
  | some n =>
    obtain ⟨d, d1, d2⟩ := lastDef_mem hl
    have := h.defs d d1
    rw [d2] at this
    exact hadd (op := 4) (arg := n) h hd (by unfold opOk; omega) this.1 (by decide) this.2
  | none =>
    by_cases q : listOk l = true
    · show (if listOk l = true then (0, R.add (listOp l) 0) else (2, R)).2.Des
      rw [if_pos q]
      have hlt : listIdx l < 19 := by simpa [listOk] using q
      have hop : listOp l = 16 + (listIdx l : Int) := by unfold listOp; rw [if_pos hlt]
      exact hadd (op := listOp l) (arg := 0) h hd (by rw [hop]; unfold opOk; omega) (by omega) (by rw [hop]; omega) (by omega)
    · show (if listOk l = true then (0, R.add (listOp l) 0) else (2, R)).2.Des
      rw [if_neg q]; exact h

theorem Rd.Des.take {R : Rd} (h : R.Des) (t : ByteArray) : (R.take t).2.Des := by
  unfold Rd.take
  by_cases hd : R.due = true
  · rw [if_pos hd]
    by_cases q : nameOk t.toList = true
    · rw [if_pos q]
      obtain ⟨a, n, n1, n2⟩ := h.due hd
      refine ⟨h.ops, h.args, h.forms, h.defs, fun e => absurd (show false = true from e) (by decide), fun _ => ⟨n, ?_, by show n < R.steps.length; omega, n2, fun j x y => ?_⟩, fun i hi hp => ?_⟩
      · show (R.steps.length : Int) = _; omega
      · have : j < R.steps.length := y
        omega
      · rcases h.pass i hi hp with q1 | q1 | q1
        · exact .inl q1
        · exact .inr (.inr ⟨rfl, by show (R.steps.length : Int) = _; have := q1.2; omega⟩)
        · rw [a] at q1; exact absurd q1.1 (by decide)
    · rw [if_neg q]; exact h
  · rw [if_neg hd]
    have hd' : R.due = false := by simpa using hd
    by_cases q : digs t.toList = true
    · rw [if_pos q]
      cases hv : numVal t.toList with
      | some n =>
        have := numVal_bd q hv
        exact h.add hd' (op := 1) (arg := n) (by unfold opOk; omega) this.1 (fun _ => this.2) (fun e => absurd rfl e)
      | none => exact h
    · rw [if_neg q]; exact h.word hd' _
theorem Rd.Des.read : ∀ (l : List (ByteArray × Nat)) {R : Rd}, R.Des → (R.read l).2.2.Des
  | [], R, h => h
  | (t, a) :: l, R, h => by
    by_cases c : (R.take t).1 = 0
    · rw [Rd.read_yes R t a l c]; exact Rd.Des.read l (h.take t)
    · rw [Rd.read_no R t a l c]; exact h
theorem Rd.Des.fresh : Rd.fresh.Des :=
  ⟨fun i hi => absurd hi (by simp [Rd.fresh]), fun i hi => absurd hi (by simp [Rd.fresh]), fun f hf => (by cases hf), fun f hf => (by cases hf), fun e => absurd (show false = true from e) (by decide), fun e => absurd (show false = true from e) (by decide), fun i hi => absurd hi (by simp [Rd.fresh])⟩

/-- What holds of the steps of a program. -/
structure Des (S : List (Int × Int)) : Prop where
  ops : ∀ i, i < S.length → opS S i = -1 ∨ opOk (opS S i)
  args : ∀ i, i < S.length → 0 ≤ argS S i ∧ (opS S i = 1 → argS S i < 65536) ∧ (opS S i ≠ 1 → argS S i ≤ S.length)
  pass : ∀ i, i < S.length → opS S i = -1 → DefAt S i
theorem des_of_read (s : ByteArray) (he : (readM s).1 = 0) : Des (readM s).2.2.steps := by
  by_cases hl : 400 < s.size
  · unfold readM at he; rw [if_pos hl] at he; cases he
  · have h1 : (Rd.fresh.read (toksFrom s 0)).1 = 0 := by
      by_cases h1 : (Rd.fresh.read (toksFrom s 0)).1 ≠ 0
      · unfold readM at he; rw [if_neg hl, if_pos h1] at he; exact absurd he h1
      · simpa using h1
    have h2 : (Rd.fresh.read (toksFrom s 0)).2.2.fin = 0 := by
      by_cases h2 : (Rd.fresh.read (toksFrom s 0)).2.2.fin ≠ 0
      · unfold readM at he; rw [if_neg hl, if_neg (by simp [h1]), if_pos h2] at he; exact absurd he h2
      · simpa using h2
    have hrm : readM s = (0, 0, (Rd.fresh.read (toksFrom s 0)).2.2) := by unfold readM; rw [if_neg hl, if_neg (by simp [h1]), if_neg (by simp [h2])]
    have hD := Rd.Des.read (toksFrom s 0) Rd.Des.fresh
    rw [hrm]
    generalize (Rd.fresh.read (toksFrom s 0)).2.2 = R at h2 hD
    refine ⟨hD.ops, hD.args, fun i hi hp => ?_⟩
    unfold Rd.fin at h2
    rcases hD.pass i hi hp with q | q | q
    · exact q
    · rw [if_pos q.1] at h2; cases h2
    · by_cases c : R.due = true
      · rw [if_pos c] at h2; cases h2
      · rw [if_neg c, if_pos (.inl q.1)] at h2; cases h2
end Go.Proofs.YtnanjomnldfidabDoor

set_option linter.unusedSimpArgs false
set_option linter.unusedVariables false
set_option linter.unusedSectionVars false
namespace Go.Proofs.YtnanjomnldfidabDoor

/-- Where the definition ends of which the last step ahead of i has told. -/
def defEnd (H : List (Int × Int)) : Nat → Int
  | 0 => 0
  | i + 1 => if opS H i = -1 then argS H i else defEnd H i
/-- The steps ahead of k that stand in no definition; those that do. -/
def ownL (H : List (Int × Int)) : Nat → List Nat
  | 0 => []
  | k + 1 => if opS H k = -1 then ownL H k else if (k : Int) < defEnd H k then ownL H k else ownL H k ++ [k]
def defL (H : List (Int × Int)) : Nat → List Nat
  | 0 => []
  | k + 1 => if opS H k = -1 then defL H k else if (k : Int) < defEnd H k then defL H k ++ [k] else defL H k
def orderL (H : List (Int × Int)) : List Nat := ownL H H.length ++ defL H H.length
def sumZ (H : List (Int × Int)) (l : List Nat) : Nat := (l.map fun i => szI (opS H i)).sum
def placeI (H : List (Int × Int)) (i : Nat) : Nat := if opS H i ≠ -1 ∧ (i : Int) < defEnd H i then sumZ H (ownL H H.length) + sumZ H (defL H i) else sumZ H (ownL H i)
def argI (H : List (Int × Int)) (i : Nat) : Int := if leadI (opS H i) = true then (placeI H (argS H i).toNat : Int) else argS H i
def encI (H : List (Int × Int)) (i : Nat) : List UInt8 := byteOf (opS H i) :: (if szI (opS H i) = 3 then [byteOf (argI H i / 256), byteOf (argI H i % 256)] else [])
def codeI (H : List (Int × Int)) : List UInt8 := (orderL H).flatMap (encI H)

section
variable {H : List (Int × Int)}
theorem sumZ_append (a b : List Nat) : sumZ H (a ++ b) = sumZ H a + sumZ H b := by unfold sumZ; rw [List.map_append, List.sum_append]
theorem sumZ_one (i : Nat) : sumZ H [i] = szI (opS H i) := by simp [sumZ]
theorem sumZ_nil : sumZ H [] = 0 := rfl
theorem ownL_pass {k : Nat} (h : opS H k = -1) : ownL H (k + 1) = ownL H k := by
  conv => lhs; unfold ownL
  rw [if_pos h]
theorem ownL_def {k : Nat} (h : opS H k ≠ -1) (h2 : (k : Int) < defEnd H k) : ownL H (k + 1) = ownL H k := by
  conv => lhs; unfold ownL
  rw [if_neg h, if_pos h2]
theorem ownL_own {k : Nat} (h : opS H k ≠ -1) (h2 : ¬ (k : Int) < defEnd H k) : ownL H (k + 1) = ownL H k ++ [k] := by
  conv => lhs; unfold ownL
  rw [if_neg h, if_neg h2]
theorem defL_pass {k : Nat} (h : opS H k = -1) : defL H (k + 1) = defL H k := by
  conv => lhs; unfold defL
  rw [if_pos h]
theorem defL_def {k : Nat} (h : opS H k ≠ -1) (h2 : (k : Int) < defEnd H k) : defL H (k + 1) = defL H k ++ [k] := by
  conv => lhs; unfold defL
  rw [if_neg h, if_pos h2]
theorem defL_own {k : Nat} (h : opS H k ≠ -1) (h2 : ¬ (k : Int) < defEnd H k) : defL H (k + 1) = defL H k := by
  conv => lhs; unfold defL
  rw [if_neg h, if_neg h2]
theorem own_split {i : Nat} (h : opS H i ≠ -1) (h2 : ¬ (i : Int) < defEnd H i) : ∀ n, ∃ B, ownL H (i + 1 + n) = ownL H i ++ i :: B
  | 0 => ⟨[], ownL_own h h2⟩
  | n + 1 => by
    obtain ⟨B, hB⟩ := own_split h h2 n
    by_cases c : opS H (i + 1 + n) = -1
    · exact ⟨B, by rw [← Nat.add_assoc, ownL_pass c, hB]⟩
    · by_cases c2 : ((i + 1 + n : Nat) : Int) < defEnd H (i + 1 + n)
      · exact ⟨B, by rw [← Nat.add_assoc, ownL_def c c2, hB]⟩
      · exact ⟨B ++ [i + 1 + n], by rw [← Nat.add_assoc, ownL_own c c2, hB]; simp⟩
theorem def_split {i : Nat} (h : opS H i ≠ -1) (h2 : (i : Int) < defEnd H i) : ∀ n, ∃ B, defL H (i + 1 + n) = defL H i ++ i :: B
  | 0 => ⟨[], defL_def h h2⟩
  | n + 1 => by
    obtain ⟨B, hB⟩ := def_split h h2 n
    by_cases c : opS H (i + 1 + n) = -1
    · exact ⟨B, by rw [← Nat.add_assoc, defL_pass c, hB]⟩
    · by_cases c2 : ((i + 1 + n : Nat) : Int) < defEnd H (i + 1 + n)
      · exact ⟨B ++ [i + 1 + n], by rw [← Nat.add_assoc, defL_def c c2, hB]; simp⟩
      · exact ⟨B, by rw [← Nat.add_assoc, defL_own c c2, hB]⟩
/-- Every step but those that pass stands at its place in the order. -/
theorem order_split {i : Nat} (hi : i < H.length) (h : opS H i ≠ -1) : ∃ A B, orderL H = A ++ i :: B ∧ sumZ H A = placeI H i := by
  have e : H.length = i + 1 + (H.length - (i + 1)) := by omega
  unfold orderL placeI
  by_cases h2 : (i : Int) < defEnd H i
  · obtain ⟨B, hB⟩ := def_split h h2 (H.length - (i + 1))
    rw [← e] at hB
    refine ⟨ownL H H.length ++ defL H i, B, ?_, ?_⟩
    · rw [hB, List.append_assoc]
    · rw [if_pos ⟨h, h2⟩, sumZ_append]
  · obtain ⟨B, hB⟩ := own_split h h2 (H.length - (i + 1))
    rw [← e] at hB
    refine ⟨ownL H i, B ++ defL H H.length, ?_, ?_⟩
    · rw [hB, List.append_assoc]; rfl
    · rw [if_neg (fun c => h2 c.2)]
theorem own_mem {i : Nat} : ∀ n, i ∈ ownL H n → i < n ∧ opS H i ≠ -1 ∧ ¬ (i : Int) < defEnd H i
  | 0, h => by cases h
  | n + 1, h => by
    by_cases c : opS H n = -1
    · rw [ownL_pass c] at h; have := own_mem n h; exact ⟨by omega, this.2⟩
    · by_cases c2 : (n : Int) < defEnd H n
      · rw [ownL_def c c2] at h; have := own_mem n h; exact ⟨by omega, this.2⟩
      · rw [ownL_own c c2] at h
        rcases List.mem_append.1 h with q | q
        · have := own_mem n q; exact ⟨by omega, this.2⟩
        · rw [List.mem_singleton] at q; subst q; exact ⟨by omega, c, c2⟩
theorem def_mem {i : Nat} : ∀ n, i ∈ defL H n → i < n ∧ opS H i ≠ -1 ∧ (i : Int) < defEnd H i
  | 0, h => by cases h
  | n + 1, h => by
    by_cases c : opS H n = -1
    · rw [defL_pass c] at h; have := def_mem n h; exact ⟨by omega, this.2⟩
    · by_cases c2 : (n : Int) < defEnd H n
      · rw [defL_def c c2] at h
        rcases List.mem_append.1 h with q | q
        · have := def_mem n q; exact ⟨by omega, this.2⟩
        · rw [List.mem_singleton] at q; subst q; exact ⟨by omega, c, c2⟩
      · rw [defL_own c c2] at h; have := def_mem n h; exact ⟨by omega, this.2⟩
theorem order_mem {i : Nat} (h : i ∈ orderL H) : i < H.length ∧ opS H i ≠ -1 := by
  rcases List.mem_append.1 h with q | q
  · have := own_mem _ q; exact ⟨this.1, this.2.1⟩
  · have := def_mem _ q; exact ⟨this.1, this.2.1⟩
theorem two_len : ∀ n, (ownL H n).length + (defL H n).length ≤ n
  | 0 => by simp [ownL, defL]
  | n + 1 => by
    have := two_len n
    by_cases c : opS H n = -1
    · rw [ownL_pass c, defL_pass c]; omega
    · by_cases c2 : (n : Int) < defEnd H n
      · rw [ownL_def c c2, defL_def c c2, List.length_append, List.length_singleton]; omega
      · rw [ownL_own c c2, defL_own c c2, List.length_append, List.length_singleton]; omega
theorem sumZ_le (l : List Nat) : sumZ H l ≤ 3 * l.length := by
  induction l with
  | nil => simp [sumZ]
  | cons a l ih =>
    have := szI_le (opS H a)
    have e : sumZ H (a :: l) = szI (opS H a) + sumZ H l := by simp [sumZ]
    rw [e, List.length_cons]; omega
theorem order_len : (orderL H).length ≤ H.length := by unfold orderL; rw [List.length_append]; exact two_len _
theorem order_sum : sumZ H (orderL H) ≤ 3 * H.length := by have := sumZ_le (H := H) (orderL H); have := order_len (H := H); omega
theorem own_le : ∀ n i, i ≤ n → sumZ H (ownL H i) ≤ sumZ H (ownL H n) := by
  intro n
  induction n with
  | zero => intro i hi; have : i = 0 := by omega
            subst this; exact Nat.le_refl _
  | succ n ih =>
    intro i hi
    by_cases e : i = n + 1
    · subst e; exact Nat.le_refl _
    · have := ih i (by omega)
      have h2 : sumZ H (ownL H n) ≤ sumZ H (ownL H (n + 1)) := by
        by_cases c : opS H n = -1
        · rw [ownL_pass c]; exact Nat.le_refl _
        · by_cases c2 : (n : Int) < defEnd H n
          · rw [ownL_def c c2]; exact Nat.le_refl _
          · rw [ownL_own c c2, sumZ_append]; omega
      omega
theorem def_le : ∀ n i, i ≤ n → sumZ H (defL H i) ≤ sumZ H (defL H n) := by
  intro n
  induction n with
  | zero => intro i hi; have : i = 0 := by omega
            subst this; exact Nat.le_refl _
  | succ n ih =>
    intro i hi
    by_cases e : i = n + 1
    · subst e; exact Nat.le_refl _
    · have := ih i (by omega)
      have h2 : sumZ H (defL H n) ≤ sumZ H (defL H (n + 1)) := by
        by_cases c : opS H n = -1
        · rw [defL_pass c]; exact Nat.le_refl _
        · by_cases c2 : (n : Int) < defEnd H n
          · rw [defL_def c c2, sumZ_append]; omega
          · rw [defL_own c c2]; exact Nat.le_refl _
      omega
theorem place_le {i : Nat} (hi : i < H.length) : placeI H i ≤ 3 * H.length := by
  have h1 := order_sum (H := H)
  have h2 := own_le (H := H) H.length i (by omega)
  have h3 := def_le (H := H) H.length i (by omega)
  unfold orderL at h1
  rw [sumZ_append] at h1
  unfold placeI
  split <;> omega

/-- What holds of the steps with their halt. -/
structure DesH (H : List (Int × Int)) : Prop where
  pos : 0 < H.length
  len : H.length ≤ 300
  halt : opS H (H.length - 1) = 0
  ops : ∀ i, i + 1 < H.length → opS H i = -1 ∨ opOk (opS H i)
  args : ∀ i, i < H.length → 0 ≤ argS H i ∧ (opS H i = 1 → argS H i < 65536) ∧ (opS H i ≠ 1 → argS H i < H.length)
  pass : ∀ i, i < H.length → opS H i = -1 → ∃ e : Nat, argS H i = (e : Int) ∧ i + 2 ≤ e ∧ e < H.length ∧ opS H (e - 1) = 5 ∧ ∀ j, i < j → j < e → opS H j ≠ -1
theorem desH_of {S : List (Int × Int)} (h : Des S) (hl : S.length < 300) : DesH (withH S) := by
  have hlen : (withH S).length = S.length + 1 := by unfold withH; simp
  have hlast : opS (withH S) S.length = 0 := by unfold withH; rw [opS_new]
  have harg : argS (withH S) S.length = 0 := by unfold withH; rw [argS_new]
  have ho : ∀ i, i < S.length → opS (withH S) i = opS S i := fun i hi => by unfold withH; rw [opS_left hi]
  have ha : ∀ i, i < S.length → argS (withH S) i = argS S i := fun i hi => by unfold withH; rw [argS_left hi]
  refine ⟨by omega, by omega, by rw [hlen, Nat.add_sub_cancel]; exact hlast, fun i hi => ?_, fun i hi => ?_, fun i hi hp => ?_⟩
  · rw [ho i (by omega)]; exact h.ops i (by omega)
  · by_cases c : i = S.length
    · subst c; rw [hlast, harg, hlen]; exact ⟨by omega, fun e => by omega, fun _ => by omega⟩
    · rw [ho i (by omega), ha i (by omega), hlen]
      obtain ⟨a, b, d⟩ := h.args i (by omega)
      exact ⟨a, b, fun e => by have := d e; omega⟩
  · by_cases c : i = S.length
    · subst c; rw [hlast] at hp; cases hp
    · rw [ho i (by omega)] at hp
      obtain ⟨e, e1, e2, e3, e4, e5⟩ := h.pass i (by omega) hp
      refine ⟨e, by rw [ha i (by omega)]; exact e1, e2, by omega, by rw [ho _ (by omega)]; exact e4, fun j a b => by rw [ho j (by omega)]; exact e5 j a b⟩

theorem DesH.sz (D : DesH H) {i : Nat} (hi : i < H.length) (hp : opS H i ≠ -1) : szI (opS H i) = if 1 ≤ opS H i ∧ opS H i ≤ 4 then 3 else 1 := by
  by_cases c : i + 1 < H.length
  · have := (D.ops i c).elim (fun e => absurd e hp) id
    unfold opOk at this
    unfold szI
    by_cases c1 : opS H i = 1 ∨ opS H i = 2 ∨ opS H i = 3 ∨ opS H i = 4
    · have c2 : 1 ≤ opS H i ∧ opS H i ≤ 4 := by omega
      rw [if_pos c1, if_pos c2]
    · have c2 : ¬ (1 ≤ opS H i ∧ opS H i ≤ 4) := by omega
      have c3 : opS H i = 0 ∨ opS H i = 5 ∨ (16 ≤ opS H i ∧ opS H i ≤ 34) := by omega
      rw [if_neg c1, if_pos c3, if_neg c2]
  · have e : i = H.length - 1 := by omega
    rw [e, D.halt]; rfl
/-- Where the definition of a passing step is told. -/
theorem DesH.ends (D : DesH H) {i e : Nat} (hi : i < H.length) (hp : opS H i = -1) (he : argS H i = (e : Int)) : ∀ j, i < j → j ≤ e → defEnd H j = (e : Int) := by
  obtain ⟨e', e1, e2, e3, e4, e5⟩ := D.pass i hi hp
  have hee : e' = e := by rw [e1] at he; omega
  subst hee
  intro j
  induction j with
  | zero => intro h; omega
  | succ j ih =>
    intro h1 h2
    show (if opS H j = -1 then argS H j else defEnd H j) = _
    by_cases c : j = i
    · subst c; rw [if_pos hp, e1]
    · rw [if_neg (e5 j (by omega) (by omega))]; exact ih (by omega) (by omega)
theorem DesH.inside (D : DesH H) : ∀ k, k ≤ H.length → (k : Int) < defEnd H k → ∃ i, i < k ∧ opS H i = -1 ∧ argS H i = defEnd H k
  | 0, _, h => by simp [defEnd] at h
  | k + 1, hk, h => by
    have e : defEnd H (k + 1) = if opS H k = -1 then argS H k else defEnd H k := rfl
    by_cases c : opS H k = -1
    · rw [e, if_pos c]; exact ⟨k, by omega, c, rfl⟩
    · rw [e, if_neg c] at h
      rw [e, if_neg c]
      obtain ⟨i, i1, i2, i3⟩ := D.inside k (by omega) (by omega)
      exact ⟨i, by omega, i2, i3⟩
/-- A step that passes has the place of the step behind its definition. -/
theorem DesH.skip (D : DesH H) {i e : Nat} (hi : i < H.length) (hp : opS H i = -1) (he : argS H i = (e : Int)) : placeI H e = placeI H i ∧ i < e ∧ e < H.length := by
  obtain ⟨e', e1, e2, e3, e4, e5⟩ := D.pass i hi hp
  have hee : e' = e := by rw [e1] at he; omega
  subst hee
  have hde := D.ends hi hp e1
  have how : ∀ j, i < j → j ≤ e' → ownL H j = ownL H i := by
    intro j
    induction j with
    | zero => intro h; omega
    | succ j ih =>
      intro h1 h2
      by_cases c : j = i
      · subst c; exact ownL_pass hp
      · rw [ownL_def (e5 j (by omega) (by omega)) (by rw [hde j (by omega) (by omega)]; omega)]
        exact ih (by omega) (by omega)
  refine ⟨?_, by omega, e3⟩
  unfold placeI
  rw [if_neg (fun c => by rw [hde e' (by omega) (Nat.le_refl _)] at c; omega), if_neg (fun c => c.1 hp), how e' (by omega) (Nat.le_refl _)]
/-- The place behind a step that goes on behind itself. -/
theorem DesH.next (D : DesH H) {i : Nat} (hi : i + 1 < H.length) (hp : opS H i ≠ -1) (h5 : opS H i ≠ 5) : placeI H (i + 1) = placeI H i + szI (opS H i) := by
  have hde : defEnd H (i + 1) = defEnd H i := by show (if opS H i = -1 then _ else _) = _; rw [if_neg hp]
  by_cases c : (i : Int) < defEnd H i
  · obtain ⟨j, j1, j2, j3⟩ := D.inside i (by omega) c
    obtain ⟨e, e1, e2, e3, e4, e5⟩ := D.pass j (by omega) j2
    have hed : defEnd H i = (e : Int) := by rw [← j3, e1]
    have hie : i + 1 < e := by
      rcases Nat.lt_or_ge (i + 1) e with q | q
      · exact q
      · have : e - 1 = i := by omega
        rw [this] at e4; exact absurd e4 h5
    unfold placeI
    rw [if_pos ⟨e5 (i + 1) (by omega) hie, by rw [hde, hed]; omega⟩, if_pos ⟨hp, c⟩, defL_def hp c, sumZ_append, sumZ_one]
    omega
  · unfold placeI
    rw [if_neg (fun q => by rw [hde] at q; omega), if_neg (fun q => c q.2), ownL_own hp c, sumZ_append, sumZ_one]

/-- What stands at a step's place. -/
theorem byteOf_nat {a : Int} (h0 : 0 ≤ a) (h1 : a < 256) : ((byteOf a).toNat : Int) = a := by
  unfold byteOf
  rw [UInt8.toNat_ofNat_of_lt' (by have : a % 256 = a := Int.emod_eq_of_lt h0 h1
                                   show (a % 256).toNat < 256
                                   omega)]
  rw [Int.emod_eq_of_lt h0 h1]; omega
theorem enc_len (D : DesH H) {i : Nat} (hi : i < H.length) (hp : opS H i ≠ -1) : (encI H i).length = szI (opS H i) := by
  unfold encI
  have := D.sz hi hp
  by_cases c : szI (opS H i) = 3
  · rw [if_pos c, c]; rfl
  · rw [if_neg c]
    by_cases c2 : 1 ≤ opS H i ∧ opS H i ≤ 4
    · rw [if_pos c2] at this; exact absurd this c
    · rw [if_neg c2] at this; rw [this]; rfl
theorem flat_len (D : DesH H) : ∀ l : List Nat, (∀ i ∈ l, i < H.length ∧ opS H i ≠ -1) → (l.flatMap (encI H)).length = sumZ H l
  | [], _ => rfl
  | i :: l, h => by
    rw [List.flatMap_cons, List.length_append, flat_len D l (fun j hj => h j (List.mem_cons_of_mem _ hj))]
    have := h i List.mem_cons_self
    rw [enc_len D this.1 this.2]
    simp [sumZ]
theorem code_len (D : DesH H) : (codeI H).length = sumZ H (orderL H) := flat_len D _ fun _ h => order_mem h
theorem argI_bd (D : DesH H) {i : Nat} (hi : i < H.length) : 0 ≤ argI H i ∧ argI H i < 65536 := by
  unfold argI
  obtain ⟨a, b, c⟩ := D.args i hi
  have hl := D.len
  by_cases q : leadI (opS H i) = true
  · rw [if_pos q]
    have h1 : opS H i ≠ 1 := fun e => by rw [e] at q; revert q; decide
    have := place_le (H := H) (i := (argS H i).toNat) (by have := c h1; omega)
    omega
  · rw [if_neg q]
    refine ⟨a, ?_⟩
    by_cases h1 : opS H i = 1
    · exact b h1
    · have := c h1; omega
structure Stands (H : List (Int × Int)) (i : Nat) : Prop where
  whole : wholeC (codeI H) (placeI H i : Nat)
  op : ((atC (codeI H) (placeI H i : Nat)).toNat : Int) = opS H i
  size : sizeC (atC (codeI H) (placeI H i : Nat)) = szI (opS H i)
  oper : szI (opS H i) = 3 → operC (codeI H) (placeI H i : Nat) = argI H i
theorem DesH.stands (D : DesH H) {i : Nat} (hi : i < H.length) (hp : opS H i ≠ -1) : Stands H i := by
  obtain ⟨A, B, h1, h2⟩ := order_split hi hp
  have hA : ∀ j ∈ A, j < H.length ∧ opS H j ≠ -1 := fun j hj => order_mem (by rw [h1]; exact List.mem_append_left _ hj)
  have hlA : (A.flatMap (encI H)).length = placeI H i := by rw [flat_len D A hA, h2]
  have hcode : codeI H = A.flatMap (encI H) ++ (encI H i ++ B.flatMap (encI H)) := by unfold codeI; rw [h1, List.flatMap_append, List.flatMap_cons]
  have hsz := D.sz hi hp
  have hel := enc_len D hi hp
  have hop : 0 ≤ opS H i ∧ opS H i < 256 := by
    by_cases c : i + 1 < H.length
    · have := (D.ops i c).elim (fun e => absurd e hp) id
      unfold opOk at this; omega
    · have e : i = H.length - 1 := by omega
      rw [e, D.halt]; decide
  have hget : ∀ k, k < (encI H i).length → atC (codeI H) ((placeI H i : Nat) + (k : Nat) : Int) = (encI H i).getD k 0 := by
    intro k hk
    unfold atC
    have e : (((placeI H i : Nat) : Int) + (k : Nat)).toNat = placeI H i + k := by omega
    rw [e, hcode]
    simp only [List.getD]
    rw [List.getElem?_append_right (by omega), hlA, Nat.add_sub_cancel_left, List.getElem?_append_left hk]
  have hpos : 0 < (encI H i).length := by unfold encI; simp
  have h0 : atC (codeI H) ((placeI H i : Nat) : Int) = byteOf (opS H i) := by
    have := hget 0 hpos
    rw [show (((placeI H i : Nat) : Int) + ((0 : Nat) : Int)) = ((placeI H i : Nat) : Int) by omega] at this
    rw [this]; rfl
  have hop2 : ((atC (codeI H) (placeI H i : Nat)).toNat : Int) = opS H i := by rw [h0]; exact byteOf_nat hop.1 hop.2
  have hsc := sizeC_szI _ _ hop2
  have hlen : placeI H i + szI (opS H i) ≤ (codeI H).length := by rw [hcode, List.length_append, List.length_append, hlA, hel]; omega
  have hpos2 : 0 < szI (opS H i) := by rw [← hel]; exact hpos
  refine ⟨⟨by omega, by omega, by rw [hsc]; exact hpos2, by rw [hsc]; omega⟩, hop2, hsc, fun h3 => ?_⟩
  have e1 := hget 1 (by rw [hel, h3]; omega)
  have e2 := hget 2 (by rw [hel, h3]; omega)
  have henc : encI H i = [byteOf (opS H i), byteOf (argI H i / 256), byteOf (argI H i % 256)] := by unfold encI; rw [if_pos h3]
  obtain ⟨b1, b2⟩ := argI_bd D hi
  unfold operC
  rw [show (((placeI H i : Nat) : Int) + 1) = ((placeI H i : Nat) : Int) + ((1 : Nat) : Int) by omega, show (((placeI H i : Nat) : Int) + 2) = ((placeI H i : Nat) : Int) + ((2 : Nat) : Int) by omega, e1, e2, henc]
  show ((byteOf (argI H i / 256)).toNat : Int) * 256 + ((byteOf (argI H i % 256)).toNat : Int) = _
  rw [byteOf_nat (by omega) (by omega), byteOf_nat (by omega) (by omega)]
  omega
end
end Go.Proofs.YtnanjomnldfidabDoor

set_option linter.unusedSimpArgs false
set_option linter.unusedVariables false
set_option linter.unusedSectionVars false
namespace Go.Proofs.YtnanjomnldfidabDoor

/-- The machine of the code: the calls are places of it. -/
def callsP (H : List (Int × Int)) (l : List Int) : List Int := l.map fun c => (placeI H c.toNat : Int)
def mapP (H : List (Int × Int)) (M : Ma) : Ma := { M with calls := callsP H M.calls }

section
variable {H : List (Int × Int)}
theorem mapP_ok {M : Ma} (h : M.Ok) : (mapP H M).Ok :=
  ⟨h.stack, h.nums, by show (callsP H M.calls).length ≤ 12; simp [callsP]; exact h.calls, h.image, h.kernel, h.fence, h.fence', h.inp, h.pos, h.pos', h.fuel, h.used, h.used', h.out, h.mark, h.mark'⟩
theorem mapP_lift (M : Ma) : mapP H M = liftM 0 0 (callsP H M.calls) M := by unfold mapP liftM; simp only [Int.add_zero]
theorem mapP_act (M : Ma) (n : Int) : (mapP H M).tick.act n = mapP H (M.tick.act n) := by
  rw [mapP_lift, lift_act, mapP_lift]
  have : (M.tick.act n).calls = M.calls := by unfold Ma.act; repeat' split
                                              all_goals rfl
  rw [this]
theorem mapP_number (M : Ma) (n : Int) : (mapP H M).number n = ((M.number n).1, mapP H (M.number n).2) := by
  unfold Ma.number
  have e : (mapP H M).room 0 1 = M.room 0 1 := rfl
  rw [e]
  by_cases q : M.room 0 1 ≠ 0
  · rw [if_pos q, if_pos q]
  · rw [if_neg q, if_neg q]; rfl
theorem mapP_pass (M : Ma) : (mapP H M).pass = (M.pass.1, mapP H M.pass.2) := by
  unfold Ma.pass
  have e : (mapP H M).room 0 0 = M.room 0 0 := rfl
  rw [e]
  by_cases q : M.room 0 0 ≠ 0
  · rw [if_pos q, if_pos q]
  · rw [if_neg q, if_neg q]; rfl
theorem mapP_takeN (M : Ma) : (mapP H M).takeN = (M.takeN.1, M.takeN.2.1, mapP H M.takeN.2.2) := by
  unfold Ma.takeN
  have e : (mapP H M).room 1 0 = M.room 1 0 := rfl
  rw [e]
  by_cases q : M.room 1 0 ≠ 0
  · rw [if_pos q, if_pos q]
  · rw [if_neg q, if_neg q]; rfl
theorem mapP_doN (M : Ma) (n : Int) : (mapP H M).doN n = ((M.doN n).1, mapP H (M.doN n).2) := by
  unfold Ma.doN
  have e : (mapP H M).room (takesN n) (givesN n) = M.room (takesN n) (givesN n) := rfl
  have e2 : (mapP H M).fault n = M.fault n := rfl
  rw [e, e2]
  by_cases q : M.room (takesN n) (givesN n) ≠ 0
  · rw [if_pos q, if_pos q]
  · rw [if_neg q, if_neg q]
    by_cases q2 : M.fault n ≠ 0
    · rw [if_pos q2, if_pos q2]
    · rw [if_neg q2, if_neg q2, mapP_act]
theorem mapP_call (M : Ma) (p : Nat) : (mapP H M).call ((placeI H p : Nat) : Int) = ((M.call (p : Int)).1, mapP H (M.call (p : Int)).2) := by
  unfold Ma.call
  have e : (mapP H M).room 0 0 = M.room 0 0 := rfl
  have e2 : (mapP H M).calls.length = M.calls.length := by show (callsP H M.calls).length = _; simp [callsP]
  rw [e, e2]
  by_cases q : M.room 0 0 ≠ 0
  · rw [if_pos q, if_pos q]
  · rw [if_neg q, if_neg q]
    by_cases q2 : 12 ≤ M.calls.length
    · rw [if_pos q2, if_pos q2]
    · rw [if_neg q2, if_neg q2]
      have e3 : callsP H M.calls ++ [((placeI H p : Nat) : Int)] = callsP H (M.calls ++ [(p : Int)]) := by
        unfold callsP
        rw [List.map_append]
        simp
      show ((0 : Int), ({ (mapP H M).tick with calls := callsP H M.calls ++ [((placeI H p : Nat) : Int)] } : Ma)) = _
      rw [e3]
      rfl
theorem mapP_ret (M : Ma) : (mapP H M).ret.2.1 = M.ret.2.1 ∧ (mapP H M).ret.2.2 = mapP H M.ret.2.2 ∧ (M.ret.2.1 = 0 → (mapP H M).ret.1 = (placeI H M.ret.1.toNat : Nat)) := by
  unfold Ma.ret
  have e : (mapP H M).room 0 0 = M.room 0 0 := rfl
  have e2 : (mapP H M).calls = callsP H M.calls := rfl
  rw [e, e2]
  by_cases q : M.room 0 0 ≠ 0
  · rw [if_pos q, if_pos q]; exact ⟨rfl, rfl, fun h => absurd h q⟩
  · rw [if_neg q, if_neg q]
    by_cases q2 : M.calls = []
    · rw [if_pos q2, if_pos (by rw [q2]; rfl)]; exact ⟨rfl, rfl, fun h => by cases h⟩
    · have q3 : callsP H M.calls ≠ [] := by intro h; apply q2; unfold callsP at h; simpa using h
      rw [if_neg q2, if_neg q3]
      refine ⟨rfl, ?_, fun _ => ?_⟩
      · show ({ (mapP H M).tick with calls := (callsP H M.calls).dropLast } : Ma) = _
        have : (callsP H M.calls).dropLast = callsP H M.calls.dropLast := by unfold callsP; rw [List.map_dropLast]
        rw [this]; rfl
      · show (callsP H M.calls).getLastD 0 = (placeI H (M.calls.getLastD 0).toNat : Nat)
        obtain ⟨l, x, hl⟩ : ∃ l x, M.calls = l ++ [x] := ⟨M.calls.dropLast, M.calls.getLast q2, (List.dropLast_concat_getLast q2).symm⟩
        rw [hl]
        simp [callsP]

/-- The calls lead to steps. -/
def CallsIn (n : Nat) (M : Ma) : Prop := ∀ c ∈ M.calls, 0 ≤ c ∧ c < (n : Int)
theorem step_calls (op arg b : Int) (M : Ma) (n : Nat) (h : CallsIn n M) (hb : 0 ≤ b ∧ b < (n : Int)) (he : (stepM op arg b M).2.1 = 0) : CallsIn n (stepM op arg b M).2.2 := by
  have hact : ∀ k, (M.tick.act k).calls = M.calls := fun k => by unfold Ma.act; repeat' split
                                                                 all_goals rfl
  unfold stepM at he ⊢
  by_cases c1 : op = 1
  · rw [if_pos c1]; unfold Ma.number; split <;> exact h
  rw [if_neg c1] at he ⊢
  by_cases c2 : op = 2
  · rw [if_pos c2]; unfold Ma.pass; split <;> exact h
  rw [if_neg c2] at he ⊢
  by_cases c3 : op = 3
  · rw [if_pos c3]; show CallsIn n M.takeN.2.2; unfold Ma.takeN; split <;> exact h
  rw [if_neg c3] at he ⊢
  by_cases c4 : op = 4
  · rw [if_pos c4]; unfold Ma.call; split
    · exact h
    · split
      · exact h
      · intro c hc
        rcases List.mem_append.1 (show c ∈ M.calls ++ [b] from hc) with q | q
        · exact h c q
        · rw [List.mem_singleton] at q; subst q; exact hb
  rw [if_neg c4] at he ⊢
  by_cases c5 : op = 5
  · rw [if_pos c5]; unfold Ma.ret; split
    · exact h
    · split
      · exact h
      · intro c hc; exact h c (List.dropLast_subset _ (show c ∈ M.calls.dropLast from hc))
  rw [if_neg c5] at he ⊢
  unfold Ma.doN; split
  · exact h
  · split
    · exact h
    · intro c hc; rw [show (M.tick.act (op - 16)).calls = M.calls from hact _] at hc; exact h c hc
/-- Where a step leads. -/
theorem step_to (op arg b : Int) (M : Ma) (n : Nat) (h : CallsIn n M) (hb : 0 ≤ b ∧ b < (n : Int)) (ha : op ≠ 1 → 0 ≤ arg ∧ arg < (n : Int)) (he : (stepM op arg b M).2.1 = 0) : 0 ≤ (stepM op arg b M).1 ∧ (stepM op arg b M).1 < (n : Int) := by
  unfold stepM at he ⊢
  by_cases c1 : op = 1
  · rw [if_pos c1]; exact hb
  rw [if_neg c1] at he ⊢
  by_cases c2 : op = 2
  · rw [if_pos c2]; exact ha c1
  rw [if_neg c2] at he ⊢
  by_cases c3 : op = 3
  · rw [if_pos c3]; show 0 ≤ (if M.takeN.1 = 0 then arg else b) ∧ (if M.takeN.1 = 0 then arg else b) < (n : Int); split
    · exact ha c1
    · exact hb
  rw [if_neg c3] at he ⊢
  by_cases c4 : op = 4
  · rw [if_pos c4]; exact ha c1
  rw [if_neg c4] at he ⊢
  by_cases c5 : op = 5
  · rw [if_pos c5] at he ⊢
    unfold Ma.ret at he ⊢
    by_cases q : M.room 0 0 ≠ 0
    · rw [if_pos q] at he; exact absurd he q
    · rw [if_neg q] at he ⊢
      by_cases q2 : M.calls = []
      · rw [if_pos q2] at he; cases he
      · rw [if_neg q2]
        obtain ⟨l, x, hl⟩ : ∃ l x, M.calls = l ++ [x] := ⟨M.calls.dropLast, M.calls.getLast q2, (List.dropLast_concat_getLast q2).symm⟩
        show 0 ≤ M.calls.getLastD 0 ∧ M.calls.getLastD 0 < (n : Int)
        rw [hl]
        simp only [List.getLastD_concat]
        exact h x (by rw [hl]; simp)
  rw [if_neg c5]; exact hb

/-- One step. -/
theorem step_map (D : DesH H) {i : Nat} (hi : i + 1 < H.length) (hp : opS H i ≠ -1) (M : Ma) :
    (stepC (codeI H) (placeI H i : Nat) (mapP H M)).2.1 = (stepM (opS H i) (argS H i) ((i : Int) + 1) M).2.1 ∧ (stepC (codeI H) (placeI H i : Nat) (mapP H M)).2.2 = mapP H (stepM (opS H i) (argS H i) ((i : Int) + 1) M).2.2 ∧
      ((stepM (opS H i) (argS H i) ((i : Int) + 1) M).2.1 = 0 → (stepC (codeI H) (placeI H i : Nat) (mapP H M)).1 = (placeI H (stepM (opS H i) (argS H i) ((i : Int) + 1) M).1.toNat : Nat)) := by
  have S := D.stands (by omega) hp
  have ho := (D.ops i hi).elim (fun e => absurd e hp) id
  have hn : opS H i ≠ 5 → (((placeI H i : Nat) : Int) + (sizeC (atC (codeI H) (placeI H i : Nat)) : Nat)) = (placeI H (i + 1) : Nat) := fun h5 => by
    rw [D.next hi hp h5, S.size]; omega
  have hnat : ((i : Int) + 1).toNat = i + 1 := by omega
  unfold stepC
  rw [S.op]
  generalize hop : opS H i = op at *
  have hsz3 : (op = 1 ∨ op = 2 ∨ op = 3 ∨ op = 4) → operC (codeI H) (placeI H i : Nat) = argI H i := fun h => S.oper (by rw [hop]; unfold szI; rw [if_pos h])
  have hlead : (op = 2 ∨ op = 3 ∨ op = 4) → argI H i = (placeI H (argS H i).toNat : Nat) := fun h => by
    unfold argI
    rw [if_pos (by rw [hop]; rcases h with h | h | h <;> subst h <;> rfl)]
  unfold stepM
  by_cases c1 : op = 1
  · rw [if_pos c1, if_pos c1, hsz3 (.inl c1)]
    have ha : argI H i = argS H i := by unfold argI; rw [if_neg (by rw [hop, c1]; decide)]
    rw [ha, mapP_number, hn (by omega)]
    refine ⟨rfl, rfl, fun _ => ?_⟩
    show _ = ((placeI H ((i : Int) + 1).toNat : Nat) : Int)
    rw [hnat]
  rw [if_neg c1, if_neg c1]
  by_cases c2 : op = 2
  · rw [if_pos c2, if_pos c2, hsz3 (.inr (.inl c2)), hlead (.inl c2), mapP_pass]
    exact ⟨rfl, rfl, fun _ => rfl⟩
  rw [if_neg c2, if_neg c2]
  by_cases c3 : op = 3
  · rw [if_pos c3, if_pos c3, hsz3 (.inr (.inr (.inl c3))), hlead (.inr (.inl c3)), mapP_takeN, hn (by omega)]
    refine ⟨rfl, rfl, fun _ => ?_⟩
    show (if M.takeN.1 = 0 then ((placeI H (argS H i).toNat : Nat) : Int) else ((placeI H (i + 1) : Nat) : Int)) = ((placeI H (if M.takeN.1 = 0 then argS H i else (i : Int) + 1).toNat : Nat) : Int)
    by_cases q : M.takeN.1 = 0
    · rw [if_pos q, if_pos q]
    · rw [if_neg q, if_neg q, hnat]
  rw [if_neg c3, if_neg c3]
  by_cases c4 : op = 4
  · rw [if_pos c4, if_pos c4, hsz3 (.inr (.inr (.inr c4))), hlead (.inr (.inr c4)), hn (by omega), mapP_call]
    exact ⟨rfl, rfl, fun _ => rfl⟩
  rw [if_neg c4, if_neg c4]
  by_cases c5 : op = 5
  · rw [if_pos c5, if_pos c5]; exact mapP_ret M
  rw [if_neg c5, if_neg c5, hn c5, mapP_doN]
  refine ⟨rfl, rfl, fun _ => ?_⟩
  show _ = ((placeI H ((i : Int) + 1).toNat : Nat) : Int)
  rw [hnat]
end

/-- The run. -/
theorem exec_sim {S : List (Int × Int)} (D : DesH (withH S)) : ∀ (k : Nat) (p : Nat) (M : Ma), p ≤ S.length → Fine M → CallsIn (S.length + 1) M → measN S.length M.used p ≤ k → ∀ m : Nat, (M.fuel - M.used).toNat < m →
    execC (codeI (withH S)) m (placeI (withH S) p : Nat) (mapP (withH S) M) = ((runS S k (p : Int) M).1, mapP (withH S) (runS S k (p : Int) M).2) := by
  have hlen : (withH S).length = S.length + 1 := by unfold withH; simp
  have ho : ∀ i, i < S.length → opS (withH S) i = opS S i := fun i hi => by unfold withH; rw [opS_left hi]
  have ha : ∀ i, i < S.length → argS (withH S) i = argS S i := fun i hi => by unfold withH; rw [argS_left hi]
  intro k
  induction k with
  | zero =>
    intro p M hp hf hc hk
    exfalso
    unfold measN at hk
    have := hf.ok.used'
    have : 1 ≤ (10001 - M.used).toNat * (S.length + 2) := Nat.mul_pos (by omega) (by omega)
    omega
  | succ k ih =>
    intro p M hp hf hc hk m hm
    by_cases hlt : p < S.length
    · have hin : 0 ≤ (p : Int) ∧ (p : Int) < S.length := by omega
      have hsa : stepAt S (p : Int) = (opS S p, argS S p) := by unfold stepAt opS argS; rw [Int.toNat_natCast]
      by_cases hpa : opS S p = -1
      · have hnx : nextS S (p : Int) M = (argS S p, 0, M) := by unfold nextS; rw [hsa]; exact if_pos hpa
        obtain ⟨e, e1, _⟩ := D.pass p (by omega) (by rw [ho p hlt]; exact hpa)
        obtain ⟨s1, s2, s3⟩ := D.skip (by omega) (by rw [ho p hlt]; exact hpa) e1
        rw [ha p hlt] at e1
        rw [runS_on S k _ M hin (by rw [hnx]), hnx, e1, ← s1]
        have hlt2 := measN_lt S.length M.used M.used p e hf.ok.used hf.ok.used' hf.ok.used' hlt (.inr ⟨rfl, s2⟩)
        exact ih e M (by omega) hf hc (by omega) m hm
      · have hnx : nextS S (p : Int) M = stepM (opS S p) (argS S p) ((p : Int) + 1) M := by unfold nextS; rw [hsa]; exact if_neg hpa
        have hp' : opS (withH S) p ≠ -1 := by rw [ho p hlt]; exact hpa
        have St := D.stands (i := p) (by omega) hp'
        obtain ⟨s1, s2, s3⟩ := step_map D (i := p) (by omega) hp' M
        have hok := (D.ops p (by omega)).elim (fun e => absurd e hp') id
        obtain ⟨g1, g2, g3⟩ := D.args p (by omega)
        rw [ho p hlt, ha p hlt] at s1 s2 s3
        rw [ho p hlt] at hok
        rw [ho p hlt, ha p hlt] at g2 g3
        rw [ha p hlt] at g1
        have h0 : atC (codeI (withH S)) (placeI (withH S) p : Nat) ≠ 0 := by
          intro e
          have := St.op
          rw [e, ho p hlt] at this
          have e0 : opS S p = 0 := this.symm
          rw [e0] at hok; unfold opOk at hok; omega
        obtain ⟨m', rfl⟩ : ∃ m', m = m' + 1 := ⟨m - 1, by omega⟩
        conv => lhs; unfold execC
        rw [if_pos St.whole, if_neg h0]
        by_cases he : (stepM (opS S p) (argS S p) ((p : Int) + 1) M).2.1 = 0
        · rw [if_neg (by rw [s1]; exact fun h => h he), s3 he, s2, runS_on S k _ M hin (by rw [hnx]; exact he), hnx]
          have hu := step_used _ _ ((p : Int) + 1) M he hok hf.ok (fun e => ⟨g1, g2 e⟩)
          have hr := step_room _ _ _ M he
          have hfu := step_fuel (opS S p) (argS S p) ((p : Int) + 1) M
          have hc2 := step_calls _ _ _ M _ hc (by omega) he
          have ht := step_to (opS S p) (argS S p) ((p : Int) + 1) M (S.length + 1) hc (by omega) (fun e => ⟨g1, by have := g3 e; omega⟩) he
          generalize stepM (opS S p) (argS S p) ((p : Int) + 1) M = q at hu hr hfu hc2 ht he
          obtain ⟨r, hr'⟩ := Int.eq_ofNat_of_zero_le ht.1
          rw [hr', Int.toNat_natCast]
          have hlt2 := measN_lt S.length M.used q.2.2.used p r (by rw [hu.1]; have := hf.ok.used; omega) hu.2.used' hf.ok.used' hlt (.inl (by rw [hu.1]; omega))
          exact ih r q.2.2 (by omega) ⟨hu.2, by omega⟩ hc2 (by omega) m' (by omega)
        · rw [if_pos (by rw [s1]; exact he), s1, runS_err S k _ M hin (by rw [hnx]; exact he), hnx]
          rw [stepM_same _ _ _ _ he]
    · have hpe : p = S.length := by omega
      subst hpe
      have hl : opS (withH S) S.length = 0 := by unfold withH; rw [opS_new]
      have St := D.stands (i := S.length) (by omega) (by rw [hl]; decide)
      have h0 : atC (codeI (withH S)) (placeI (withH S) S.length : Nat) = 0 := by
        have := St.op
        rw [hl] at this
        exact UInt8.toNat_inj.1 (by show _ = 0; omega)
      obtain ⟨m', rfl⟩ : ∃ m', m = m' + 1 := ⟨m - 1, by omega⟩
      conv => lhs; unfold execC
      rw [if_pos St.whole, if_pos h0, runS_end S _ _ M (by omega)]

section
variable {H : List (Int × Int)}
theorem order_at {A B : List Nat} {i : Nat} (h : orderL H = A ++ i :: B) : sumZ H A = placeI H i := by
  have hm := order_mem (H := H) (i := i) (by rw [h]; simp)
  obtain ⟨A', B', h1, h2⟩ := order_split hm.1 hm.2
  have nd : (orderL H).Nodup := by
    unfold orderL
    have hs : ∀ n, (ownL H n).Pairwise (· < ·) ∧ (defL H n).Pairwise (· < ·) := by
      intro n
      induction n with
      | zero => exact ⟨List.Pairwise.nil, List.Pairwise.nil⟩
      | succ n ih =>
        by_cases c : opS H n = -1
        · rw [ownL_pass c, defL_pass c]; exact ih
        · by_cases c2 : (n : Int) < defEnd H n
          · rw [ownL_def c c2, defL_def c c2]
            refine ⟨ih.1, List.pairwise_append.2 ⟨ih.2, List.pairwise_singleton _ _, fun x hx y hy => ?_⟩⟩
            rw [List.mem_singleton] at hy; subst hy; exact (def_mem _ hx).1
          · rw [ownL_own c c2, defL_own c c2]
            refine ⟨List.pairwise_append.2 ⟨ih.1, List.pairwise_singleton _ _, fun x hx y hy => ?_⟩, ih.2⟩
            rw [List.mem_singleton] at hy; subst hy; exact (own_mem _ hx).1
    refine List.nodup_append.2 ⟨(hs _).1.imp fun h => by omega, (hs _).2.imp fun h => by omega, fun x hx y hy e => ?_⟩
    subst e
    exact (own_mem _ hx).2.2 (def_mem _ hy).2.2
  have hA : A = A' := by
    rw [h] at h1 nd
    have hiA : i ∉ A := fun hx => (List.nodup_append.1 nd).2.2 i hx i List.mem_cons_self rfl
    have nd' := nd
    rw [h1] at nd'
    have hiA' : i ∉ A' := fun hx => (List.nodup_append.1 nd').2.2 i hx i List.mem_cons_self rfl
    have key : ∀ (A A' B B' : List Nat), i ∉ A → i ∉ A' → A ++ i :: B = A' ++ i :: B' → A = A' := by
      intro A
      induction A with
      | nil =>
        intro A' B B' _ h2 h3
        cases A' with
        | nil => rfl
        | cons x A' =>
          simp only [List.nil_append, List.cons_append, List.cons.injEq] at h3
          exact absurd h3.1 (fun e => h2 (by rw [e]; exact List.mem_cons_self))
      | cons a A ih =>
        intro A' B B' h1 h2 h3
        cases A' with
        | nil =>
          simp only [List.nil_append, List.cons_append, List.cons.injEq] at h3
          exact absurd h3.1.symm (fun e => h1 (by rw [e]; exact List.mem_cons_self))
        | cons x A' =>
          simp only [List.cons_append, List.cons.injEq] at h3
          rw [h3.1, ih A' B B' (fun hx => h1 (List.mem_cons_of_mem _ hx)) (fun hx => h2 (List.mem_cons_of_mem _ hx)) h3.2]
    exact key _ _ _ _ hiA hiA' h1
  rw [hA, h2]
theorem walk_code (D : DesH H) : ∀ (l A : List Nat) (n : Nat), orderL H = A ++ l → l.length ≤ n →
    (walkC (codeI H) n (sumZ H A)).1 = l.map (placeI H) ∧ (walkC (codeI H) n (sumZ H A)).2 = (codeI H).length := by
  have hnd : ∀ {A B : List Nat} {i : Nat}, orderL H = A ++ i :: B → sumZ H A = placeI H i := fun h => order_at h
  intro l
  induction l with
  | nil =>
    intro A n h hn
    have hA : sumZ H A = (codeI H).length := by rw [code_len D, h, List.append_nil]
    rw [hA]
    cases n with
    | zero => exact ⟨rfl, rfl⟩
    | succ n =>
      unfold walkC
      rw [if_neg (fun hw => by have := hw.2.1; omega)]
      exact ⟨rfl, rfl⟩
  | cons i l ih =>
    intro A n h hn
    have hm := order_mem (H := H) (i := i) (by rw [h]; simp)
    have St := D.stands hm.1 hm.2
    have hs := hnd h
    obtain ⟨n', rfl⟩ : ∃ n', n = n' + 1 := ⟨n - 1, by rw [List.length_cons] at hn; omega⟩
    have h2 := ih (A ++ [i]) n' (by rw [h]; simp) (by rw [List.length_cons] at hn; omega)
    rw [sumZ_append, sumZ_one, hs] at h2
    unfold walkC
    rw [hs, if_pos St.whole, St.size]
    exact ⟨by rw [h2.1]; rfl, h2.2⟩
theorem code_starts (D : DesH H) : startsC (codeI H) = (orderL H).map (placeI H) ∧ stopC (codeI H) = (codeI H).length := by
  have hle : (orderL H).length ≤ (codeI H).length := by
    rw [code_len D]
    have : ∀ l : List Nat, (∀ i ∈ l, i < H.length ∧ opS H i ≠ -1) → l.length ≤ sumZ H l := by
      intro l
      induction l with
      | nil => intro _; exact Nat.le_refl _
      | cons a l ih =>
        intro h
        have e : sumZ H (a :: l) = szI (opS H a) + sumZ H l := by simp [sumZ]
        have h1 := ih (fun i hi => h i (List.mem_cons_of_mem _ hi))
        have h2 := D.sz (h a List.mem_cons_self).1 (h a List.mem_cons_self).2
        rw [e, List.length_cons]
        by_cases c : 1 ≤ opS H a ∧ opS H a ≤ 4
        · rw [if_pos c] at h2; omega
        · rw [if_neg c] at h2; omega
    exact this _ fun i hi => order_mem hi
  exact walk_code D (orderL H) [] (codeI H).length rfl hle
theorem start_of (D : DesH H) : ∀ (n i : Nat), H.length - i = n → i < H.length → placeI H i ∈ startsC (codeI H) := by
  intro n
  induction n using Nat.strongRecOn with
  | _ n ih =>
    intro i hn hi
    by_cases hp : opS H i = -1
    · obtain ⟨e, e1, _⟩ := D.pass i hi hp
      obtain ⟨s1, s2, s3⟩ := D.skip hi hp e1
      rw [← s1]
      exact ih (H.length - e) (by omega) e rfl s3
    · obtain ⟨A, B, h1, h2⟩ := order_split hi hp
      rw [(code_starts D).1, h1]
      exact List.mem_map.2 ⟨i, by simp, rfl⟩
theorem last_def : ∀ n, n ≤ H.length → defL H n ≠ [] → ∃ l j, defL H n = l ++ [j] ∧ j < n ∧ opS H j ≠ -1 ∧ (j : Int) < defEnd H j ∧ ∀ q, j < q → q < n → opS H q = -1 ∨ ¬ (q : Int) < defEnd H q
  | 0, _, h => absurd rfl h
  | n + 1, hn, h => by
    by_cases c : opS H n = -1
    · rw [defL_pass c] at h ⊢
      obtain ⟨l, j, h1, h2, h3, h4, h5⟩ := last_def n (by omega) h
      refine ⟨l, j, h1, by omega, h3, h4, fun q a b => ?_⟩
      by_cases e : q = n
      · subst e; exact .inl c
      · exact h5 q a (by omega)
    · by_cases c2 : (n : Int) < defEnd H n
      · exact ⟨defL H n, n, defL_def c c2, by omega, c, c2, fun q a b => by omega⟩
      · rw [defL_own c c2] at h ⊢
        obtain ⟨l, j, h1, h2, h3, h4, h5⟩ := last_def n (by omega) h
        refine ⟨l, j, h1, by omega, h3, h4, fun q a b => ?_⟩
        by_cases e : q = n
        · subst e; exact .inr c2
        · exact h5 q a (by omega)
theorem code_whole (D : DesH H) : verifyC (codeI H) = (0, 0) := by
  obtain ⟨hst, hsp⟩ := code_starts D
  have hlen := order_sum (H := H)
  rw [← code_len D] at hlen
  have hl := D.len
  have hpos := D.pos
  unfold verifyC
  rw [if_neg (by omega), if_neg (by rw [hsp]; omega)]
  have hfind : (startsC (codeI H)).find? (badC (codeI H)) = none := by
    rw [List.find?_eq_none]
    intro x hx
    rw [hst] at hx
    obtain ⟨i, h1, h2⟩ := List.mem_map.1 hx
    subst h2
    have hm := order_mem h1
    have St := D.stands hm.1 hm.2
    unfold badC
    by_cases c : 2 ≤ (atC (codeI H) (placeI H i : Nat)).toNat ∧ (atC (codeI H) (placeI H i : Nat)).toNat ≤ 4
    · have ho : opS H i = 2 ∨ opS H i = 3 ∨ opS H i = 4 := by have := St.op; omega
      have hop : operC (codeI H) (placeI H i : Nat) = (placeI H (argS H i).toNat : Nat) := by
        rw [St.oper (by unfold szI; rw [if_pos (by omega)])]
        unfold argI
        rw [if_pos (by rcases ho with h | h | h <;> rw [h] <;> rfl)]
      obtain ⟨g1, _, g3⟩ := D.args i hm.1
      have := start_of D _ (argS H i).toNat rfl (by have := g3 (by omega); omega)
      rw [hop, Int.toNat_natCast]
      have hc : (startsC (codeI H)).contains (placeI H (argS H i).toNat) = true := by simpa using this
      rw [hc]; simp
    · rw [Bool.not_eq_true, Bool.and_eq_false_iff, Bool.and_eq_false_iff]
      left
      by_cases c2 : 2 ≤ (atC (codeI H) (placeI H i : Nat)).toNat
      · right; simp; omega
      · left; simp; omega
  have hlast : opS H (H.length - 1) ≠ -1 := by rw [D.halt]; decide
  have hne : codeI H ≠ [] := by
    intro e
    have := (D.stands (i := H.length - 1) (by omega) hlast).whole.2.1
    rw [e] at this; simp at this
    omega
  -- the last instruction
  have hend : endsC (atC (codeI H) ((startsC (codeI H)).getLastD 0 : Nat)) = true := by
    have key : ∀ j, j < H.length → opS H j ≠ -1 → (opS H j = 0 ∨ opS H j = 5) → endsC (atC (codeI H) (placeI H j : Nat)) = true := by
      intro j hj hp h
      have := (D.stands hj hp).op
      unfold endsC
      rcases h with h | h
      · rw [h] at this; have : (atC (codeI H) (placeI H j : Nat)).toNat = 0 := by omega
        rw [this]; rfl
      · rw [h] at this; have : (atC (codeI H) (placeI H j : Nat)).toNat = 5 := by omega
        rw [this]; rfl
    rw [hst]
    unfold orderL
    by_cases hd : defL H H.length = []
    · have hl1 : ¬ ((H.length - 1 : Nat) : Int) < defEnd H (H.length - 1) := by
        intro hc
        obtain ⟨i, i1, i2, i3⟩ := D.inside (H.length - 1) (by omega) hc
        obtain ⟨e, e1, e2, e3, _⟩ := D.pass i (by omega) i2
        rw [← i3, e1] at hc
        omega
      have : ownL H H.length = ownL H (H.length - 1) ++ [H.length - 1] := by
        have := ownL_own hlast hl1
        rwa [Nat.sub_add_cancel hpos] at this
      rw [hd, List.append_nil, this, List.map_append]
      simp only [List.map_cons, List.map_nil, List.getLastD_concat]
      exact key _ (by omega) hlast (.inl D.halt)
    · obtain ⟨l, j, h1, h2, h3, h4, h5⟩ := last_def H.length (Nat.le_refl _) hd
      rw [h1, ← List.append_assoc, List.map_append]
      simp only [List.map_cons, List.map_nil, List.getLastD_concat]
      refine key j h2 h3 (.inr ?_)
      obtain ⟨i, i1, i2, i3⟩ := D.inside j (by omega) h4
      obtain ⟨e, e1, e2, e3, e4, e5⟩ := D.pass i (by omega) i2
      rw [← i3, e1] at h4
      have hde := D.ends (by omega) i2 e1
      by_cases hje : j + 1 = e
      · rw [← hje, Nat.add_sub_cancel] at e4; exact e4
      · exfalso
        rcases h5 (j + 1) (by omega) (by omega) with q | q
        · exact e5 (j + 1) (by omega) (by omega) q
        · rw [hde (j + 1) (by omega) (by omega)] at q; omega
  rw [hfind]
  exact if_pos ⟨hend, hne⟩
end

/-- How many words a text has at most. -/
theorem tw_next (L : List UInt8) (h : (L.takeWhile fun c => decide (32 < c.toNat)).length < L.length) : 1 ≤ ((L.drop (L.takeWhile fun c => decide (32 < c.toNat)).length).takeWhile fun c => decide (c.toNat ≤ 32)).length := by
  induction L with
  | nil => simp at h
  | cons a L ih =>
    by_cases c : 32 < a.toNat
    · have e : (a :: L).takeWhile (fun c => decide (32 < c.toNat)) = a :: L.takeWhile (fun c => decide (32 < c.toNat)) := by rw [List.takeWhile_cons, if_pos (by simpa using c)]
      rw [e] at h ⊢
      simp only [List.length_cons, List.drop_succ_cons] at h ⊢
      exact ih (by omega)
    · have e : (a :: L).takeWhile (fun c => decide (32 < c.toNat)) = [] := by rw [List.takeWhile_cons, if_neg (by simpa using c)]
      rw [e]
      simp only [List.length_nil, List.drop_zero]
      rw [List.takeWhile_cons, if_pos (by simp; omega)]
      simp
theorem toks_len (s : ByteArray) : ∀ f k, k ≤ s.size → 2 * (toksFuel f s k).length ≤ s.size - blankEnd s.data.toList k + 1
  | 0, k, _ => by simp [toksFuel]
  | f + 1, k, hk => by
    have a1 := blankEnd_ge s.data.toList k
    have a2 := blankEnd_le s.data.toList k (by rw [len_data]; exact hk)
    have a3 := wordEnd_le s.data.toList (blankEnd s.data.toList k) a2
    rw [len_data] at a2 a3
    unfold toksFuel
    by_cases c : blankEnd s.data.toList k < wordEnd s.data.toList (blankEnd s.data.toList k)
    · rw [if_pos c, List.length_cons]
      have ih := toks_len s f (wordEnd s.data.toList (blankEnd s.data.toList k)) a3
      by_cases hz : wordEnd s.data.toList (blankEnd s.data.toList k) < s.size
      · have hb : wordEnd s.data.toList (blankEnd s.data.toList k) + 1 ≤ blankEnd s.data.toList (wordEnd s.data.toList (blankEnd s.data.toList k)) := by
          generalize blankEnd s.data.toList k = a at *
          have hw : wordEnd s.data.toList a = a + ((s.data.toList.drop a).takeWhile fun c => decide (32 < c.toNat)).length := rfl
          have := tw_next (s.data.toList.drop a) (by rw [List.length_drop, len_data]; omega)
          rw [List.drop_drop, ← hw] at this
          show _ ≤ wordEnd s.data.toList a + _
          omega
        omega
      · have hb := blankEnd_ge s.data.toList (wordEnd s.data.toList (blankEnd s.data.toList k))
        omega
    · rw [if_neg c]; simp
theorem steps_few (s : ByteArray) (he : (readM s).1 = 0) : (readM s).2.2.steps.length < 300 := by
  obtain ⟨L, hs⟩ := laid_of_read s he
  rw [L.len]
  have h1 : ∀ n, stepOf (toksFrom s 0) n ≤ n := by
    intro n
    induction n with
    | zero => exact Nat.le_refl _
    | succ n ih =>
      have e : stepOf (toksFrom s 0) (n + 1) = stepOf (toksFrom s 0) n + emits (toksFrom s 0) n := rfl
      have : emits (toksFrom s 0) n ≤ 1 := by unfold emits; repeat' split
                                              all_goals omega
      omega
  have h2 := h1 (toksFrom s 0).length
  have h3 := toks_len s (s.size + 1) 0 (Nat.zero_le _)
  have h4 : (toksFrom s 0).length = (toksFuel (s.size + 1) s 0).length := rfl
  omega
theorem desH_read (s : ByteArray) (he : (readM s).1 = 0) : DesH (withH (readM s).2.2.steps) := desH_of (des_of_read s he) (steps_few s he)
end Go.Proofs.YtnanjomnldfidabDoor
