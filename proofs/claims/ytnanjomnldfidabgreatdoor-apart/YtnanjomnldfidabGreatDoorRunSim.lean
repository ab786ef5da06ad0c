/-
  The run from word to word and the run of steps go alike. Plain mathematics.
-/
import Derived.Test.YtnanjomnldfidabGreatDoorLayPureToLayAll
import Derived.Test.YtnanjomnldfidabGreatDoorMaKeep
import Derived.Test.YtnanjomnldfidabGreatDoorRmWordToRmRun2
import Derived.Test.YtnanjomnldfidabGreatDoorDmRun
set_option linter.unusedSimpArgs false
set_option linter.unusedVariables false
set_option linter.unusedSectionVars false
namespace Go.Proofs.YtnanjomnldfidabGreatDoor

/-- The machine of the steps: the calls are steps' places. -/
def callsM (T : Words) (l : List Int) : List Int := l.map fun c => (stepOf T c.toNat : Int)
def mapM (T : Words) (M : Ma) : Ma := { M with calls := callsM T M.calls }

section
variable {T : Words}
theorem mapM_ok {M : Ma} (h : M.Ok) : (mapM T M).Ok :=
  ⟨h.stack, h.nums, by show (callsM T M.calls).length ≤ 12; simp [callsM]; exact h.calls, h.image, h.kernel, h.fence, h.fence', h.inp, h.pos, h.pos', h.fuel, h.used, h.used', h.out, h.mark, h.mark'⟩
theorem map_number (M : Ma) (n : Int) : (mapM T M).number n = ((M.number n).1, mapM T (M.number n).2) := by
  unfold Ma.number
  have e : (mapM T M).room 0 1 = M.room 0 1 := rfl
  rw [e]
  by_cases q : M.room 0 1 ≠ 0
  · rw [if_pos q, if_pos q]
  · rw [if_neg q, if_neg q]; rfl
theorem map_pass (M : Ma) : (mapM T M).pass = (M.pass.1, mapM T M.pass.2) := by
  unfold Ma.pass
  have e : (mapM T M).room 0 0 = M.room 0 0 := rfl
  rw [e]
  by_cases q : M.room 0 0 ≠ 0
  · rw [if_pos q, if_pos q]
  · rw [if_neg q, if_neg q]; rfl
theorem map_takeN (M : Ma) : (mapM T M).takeN = (M.takeN.1, M.takeN.2.1, mapM T M.takeN.2.2) := by
  unfold Ma.takeN
  have e : (mapM T M).room 1 0 = M.room 1 0 := rfl
  rw [e]
  by_cases q : M.room 1 0 ≠ 0
  · rw [if_pos q, if_pos q]
  · rw [if_neg q, if_neg q]; rfl
theorem map_act (M : Ma) (n : Int) : (mapM T M).tick.act n = mapM T (M.tick.act n) := by
  unfold Ma.act
  by_cases c1 : n = 17
  · rw [if_pos c1, if_pos c1]
    have e1 : (mapM T M).tick.pos = M.tick.pos := rfl
    have e2 : (mapM T M).tick.inp = M.tick.inp := rfl
    rw [e1, e2]
    by_cases c : M.tick.pos < M.tick.inp.size
    · rw [if_pos c, if_pos c]; rfl
    · rw [if_neg c, if_neg c]; rfl
  rw [if_neg c1, if_neg c1]
  by_cases c2 : n = 1
  · rw [if_pos c2, if_pos c2]; rfl
  rw [if_neg c2, if_neg c2]
  by_cases c3 : n = 0
  · rw [if_pos c3, if_pos c3]; rfl
  rw [if_neg c3, if_neg c3]
  by_cases c4 : n = 14
  · rw [if_pos c4, if_pos c4]; rfl
  rw [if_neg c4, if_neg c4]
  by_cases c5 : n = 16
  · rw [if_pos c5, if_pos c5]; rfl
  rw [if_neg c5, if_neg c5]
  by_cases c6 : n = 18
  · rw [if_pos c6, if_pos c6]; rfl
  rw [if_neg c6, if_neg c6]
  by_cases c7 : n = 2
  · rw [if_pos c7, if_pos c7]; rfl
  rw [if_neg c7, if_neg c7]
  by_cases c8 : n = 3
  · rw [if_pos c8, if_pos c8]; rfl
  rw [if_neg c8, if_neg c8]
  by_cases c9 : n = 15
  · rw [if_pos c9, if_pos c9]; rfl
  rw [if_neg c9, if_neg c9]; rfl
theorem map_doN (M : Ma) (n : Int) : (mapM T M).doN n = ((M.doN n).1, mapM T (M.doN n).2) := by
  unfold Ma.doN
  have e : (mapM T M).room (takesN n) (givesN n) = M.room (takesN n) (givesN n) := rfl
  have e2 : (mapM T M).fault n = M.fault n := rfl
  rw [e, e2]
  by_cases q : M.room (takesN n) (givesN n) ≠ 0
  · rw [if_pos q, if_pos q]
  · rw [if_neg q, if_neg q]
    by_cases q2 : M.fault n ≠ 0
    · rw [if_pos q2, if_pos q2]
    · rw [if_neg q2, if_neg q2, map_act]
theorem map_call (M : Ma) (p : Nat) : (mapM T M).call ((stepOf T (p + 1) : Nat) : Int) = ((M.call ((p : Int) + 1)).1, mapM T (M.call ((p : Int) + 1)).2) := by
  unfold Ma.call
  have e : (mapM T M).room 0 0 = M.room 0 0 := rfl
  have e2 : (mapM T M).calls.length = M.calls.length := by show (callsM T M.calls).length = _; simp [callsM]
  rw [e, e2]
  by_cases q : M.room 0 0 ≠ 0
  · rw [if_pos q, if_pos q]
  · rw [if_neg q, if_neg q]
    by_cases q2 : 12 ≤ M.calls.length
    · rw [if_pos q2, if_pos q2]
    · rw [if_neg q2, if_neg q2]
      have e3 : callsM T M.calls ++ [((stepOf T (p + 1) : Nat) : Int)] = callsM T (M.calls ++ [(p : Int) + 1]) := by
        unfold callsM
        rw [List.map_append]
        have : ((p : Int) + 1).toNat = p + 1 := by omega
        simp [this]
      show ((0 : Int), ({ (mapM T M).tick with calls := callsM T M.calls ++ [((stepOf T (p + 1) : Nat) : Int)] } : Ma)) = _
      rw [e3]
      rfl
theorem map_ret (M : Ma) : (mapM T M).ret.2.1 = M.ret.2.1 ∧ (mapM T M).ret.2.2 = mapM T M.ret.2.2 ∧ (M.ret.2.1 = 0 → (mapM T M).ret.1 = (stepOf T M.ret.1.toNat : Nat)) := by
  unfold Ma.ret
  have e : (mapM T M).room 0 0 = M.room 0 0 := rfl
  have e2 : (mapM T M).calls = callsM T M.calls := rfl
  rw [e, e2]
  by_cases q : M.room 0 0 ≠ 0
  · rw [if_pos q, if_pos q]; exact ⟨rfl, rfl, fun h => absurd h q⟩
  · rw [if_neg q, if_neg q]
    by_cases q2 : M.calls = []
    · rw [if_pos q2, if_pos (by rw [q2]; rfl)]; exact ⟨rfl, rfl, fun h => by cases h⟩
    · have q3 : callsM T M.calls ≠ [] := by intro h; apply q2; unfold callsM at h; simpa using h
      rw [if_neg q2, if_neg q3]
      refine ⟨rfl, ?_, fun _ => ?_⟩
      · show ({ (mapM T M).tick with calls := (callsM T M.calls).dropLast } : Ma) = _
        have : (callsM T M.calls).dropLast = callsM T M.calls.dropLast := by unfold callsM; rw [List.map_dropLast]
        rw [this]; rfl
      · show (callsM T M.calls).getLastD 0 = (stepOf T (M.calls.getLastD 0).toNat : Nat)
        obtain ⟨l, x, hl⟩ : ∃ l x, M.calls = l ++ [x] := ⟨M.calls.dropLast, M.calls.getLast q2, (List.dropLast_concat_getLast q2).symm⟩
        rw [hl]
        simp [callsM]

/-- What holds ahead of word p while a program runs. -/
structure RefInv (T : Words) (p : Nat) (M : Ma) : Prop where
  ok : M.Ok
  good : Good T p
  calls : ∀ c ∈ M.calls, 0 ≤ c ∧ Good T c.toNat

theorem emits_of {p : Nat} (h : Good T p) (h1 : wAt T p ≠ wThen) (h2 : wAt T p ≠ wBegin) : emits T p = 1 := by
  unfold emits; rw [if_neg h, if_neg (fun hx => hx.elim h1 h2)]
theorem emits_free {p : Nat} (h : Good T p) (h1 : wAt T p = wThen ∨ wAt T p = wBegin) : emits T p = 0 := by
  unfold emits; rw [if_neg h]; exact if_pos h1

/-- One word. -/
structure WordOk (T : Words) (S : List (Int × Int)) (p : Nat) (M : Ma) : Prop where
  inv : (wordM T p M).2.1 = 0 → 0 ≤ (wordM T p M).1 ∧ RefInv T (wordM T p M).1.toNat (wordM T p M).2.2
  used : (wordM T p M).2.1 = 0 → M.used + 1 ≤ (wordM T p M).2.2.used ∨ ((wordM T p M).2.2.used = M.used ∧ (p : Int) + 1 ≤ (wordM T p M).1)
  err : (nextS S (stepOf T p : Nat) (mapM T M)).2.1 = (wordM T p M).2.1
  mach : (nextS S (stepOf T p : Nat) (mapM T M)).2.2 = mapM T (wordM T p M).2.2
  next : (wordM T p M).2.1 = 0 → (nextS S (stepOf T p : Nat) (mapM T M)).1 = (stepOf T (wordM T p M).1.toNat : Nat)

theorem stepAt_is {S : List (Int × Int)} (L : Laid T S) {p : Nat} (hp : p < T.length) (he : emits T p = 1) : stepAt S (stepOf T p : Nat) = (opAt T p, argAt T p) := by
  have := L.steps p hp he
  unfold stepAt
  rw [Int.toNat_natCast, List.getD_eq_getElem?_getD, this]
  rfl
theorem nextS_is {S : List (Int × Int)} (L : Laid T S) {p : Nat} (hp : p < T.length) (he : emits T p = 1) (hn : opAt T p ≠ -1) (M : Ma) : nextS S (stepOf T p : Nat) M = stepM (opAt T p) (argAt T p) ((stepOf T (p + 1) : Nat) : Int) M := by
  unfold nextS
  rw [stepAt_is L hp he, if_neg hn]
  have : ((stepOf T p : Nat) : Int) + 1 = ((stepOf T (p + 1) : Nat) : Int) := by
    show _ = ((stepOf T p + emits T p : Nat) : Int)
    omega
  rw [this]
theorem toNat_succ (p : Nat) : ((p : Int) + 1).toNat = p + 1 := by omega

theorem word_ok {S : List (Int × Int)} (L : Laid T S) {p : Nat} {M : Ma} (h : RefInv T p M) (hp : p < T.length) (h1 : wAt T p ≠ wThen) (h2 : wAt T p ≠ wBegin) : WordOk T S p M := by
  have he := emits_of h.good h1 h2
  have ht := L.tgt p hp he
  by_cases q1 : wAt T p = [58]
  · have hw : wordM T p M = (((endsM T p + 1 : Nat) : Int), 0, M) := by unfold wordM; rw [if_pos q1]
    have hn : nextS S (stepOf T p : Nat) (mapM T M) = (argAt T p, 0, mapM T M) := by
      unfold nextS; rw [stepAt_is L hp he]; rw [if_pos (op_colon q1).1]
    have hle := (endsM_le T p (by omega)).1
    refine ⟨?_, ?_, by rw [hn, hw], by rw [hn, hw], fun _ => ?_⟩
    · rw [hw]
      intro _
      refine ⟨by show (0 : Int) ≤ ((endsM T p + 1 : Nat) : Int); omega, h.ok, ?_, h.calls⟩
      show Good T ((endsM T p + 1 : Nat) : Int).toNat
      rw [Int.toNat_natCast]
      exact good_succ (ends_word T p (by omega))
    · rw [hw]
      intro _
      exact .inr ⟨rfl, by show (p : Int) + 1 ≤ ((endsM T p + 1 : Nat) : Int); omega⟩
    · rw [hn, hw]
      show argAt T p = _
      rw [(op_colon q1).2, Int.toNat_natCast]
  have hg1 : Good T (p + 1) := good_succ q1
  have qq2 : ¬ (wAt T p = wThen ∨ wAt T p = wBegin) := fun hx => hx.elim h1 h2
  by_cases q3 : wAt T p = wIf ∨ wAt T p = wWhile ∨ wAt T p = wUntil
  · have hw : wordM T p M = decideM T p M := by unfold wordM; rw [if_neg q1, if_neg qq2, if_pos q3]
    obtain ⟨o1, o2⟩ := op_if q3
    have hn : nextS S (stepOf T p : Nat) (mapM T M) = (if M.takeN.1 = 0 then argAt T p else ((stepOf T (p + 1) : Nat) : Int), M.takeN.2.1, mapM T M.takeN.2.2) := by
      rw [nextS_is L hp he (by rw [o1]; decide), o1]
      show (if (mapM T M).takeN.1 = 0 then argAt T p else ((stepOf T (p + 1) : Nat) : Int), (mapM T M).takeN.2) = _
      rw [map_takeN]
    have hgo : Good T (goesN T p) := by
      unfold goesN
      by_cases c1 : wAt T p = wIf
      · rw [if_pos c1]; exact good_succ (ahead_word T _ _ _ (by decide) _ (p + 1) 0 rfl)
      · rw [if_neg c1]
        by_cases c2 : wAt T p = wWhile
        · rw [if_pos c2]; exact good_succ (ahead_word T _ _ _ (by decide) _ (p + 1) 0 rfl)
        · rw [if_neg c2]
          exact ht.back (.inl (q3.elim (fun c => absurd c c1) (fun c => c.elim (fun c => absurd c c2) id)))
    rw [show decideM T p M = if M.takeN.1 ≠ 0 ∨ M.takeN.2.1 ≠ 0 then ((p : Int) + 1, M.takeN.2.1, M.takeN.2.2) else ((goesN T p : Nat), 0, M.takeN.2.2) from rfl] at hw
    have herr : (wordM T p M).2.1 = M.takeN.2.1 := by
      rw [hw]
      by_cases c : M.takeN.1 ≠ 0 ∨ M.takeN.2.1 ≠ 0
      · rw [if_pos c]
      · rw [if_neg c]
        by_cases c2 : M.takeN.2.1 = 0
        · exact c2.symm
        · exact absurd (.inr c2) c
    have hmm : (wordM T p M).2.2 = M.takeN.2.2 := by rw [hw]; by_cases c : M.takeN.1 ≠ 0 ∨ M.takeN.2.1 ≠ 0 <;> simp [c]
    have hnx : (wordM T p M).2.1 = 0 → (wordM T p M).1 = if M.takeN.1 = 0 then ((goesN T p : Nat) : Int) else (p : Int) + 1 := by
      intro h0
      rw [herr] at h0
      rw [hw]
      by_cases c : M.takeN.1 = 0
      · rw [if_neg (by simp [c, h0]), if_pos c]
      · rw [if_pos (.inl c), if_neg c]
    refine ⟨fun h0 => ?_, fun h0 => ?_, by rw [hn, herr], by rw [hn, hmm], fun h0 => ?_⟩
    · have hk := takeN_ok h.ok (by rw [← herr]; exact h0)
      rw [hnx h0, hmm]
      by_cases c : M.takeN.1 = 0
      · rw [if_pos c, Int.toNat_natCast]; exact ⟨by omega, hk.1.ok, hgo, by rw [hk.2]; exact h.calls⟩
      · rw [if_neg c, toNat_succ]; exact ⟨by omega, hk.1.ok, hg1, by rw [hk.2]; exact h.calls⟩
    · have hk := takeN_ok h.ok (by rw [← herr]; exact h0)
      rw [hmm]; exact .inl (by rw [hk.1.used]; omega)
    · rw [hn, hnx h0]
      show (if M.takeN.1 = 0 then argAt T p else ((stepOf T (p + 1) : Nat) : Int)) = _
      by_cases c : M.takeN.1 = 0
      · rw [if_pos c, if_pos c, Int.toNat_natCast, o2]
      · rw [if_neg c, if_neg c, toNat_succ]
  by_cases q4 : wAt T p = wElse
  · have hw : wordM T p M = (((aheadM T (p + 1) wIf wThen false + 1 : Nat) : Int), M.pass) := by unfold wordM; rw [if_neg q1, if_neg qq2, if_neg q3, if_pos q4]
    obtain ⟨o1, o2⟩ := op_else q4
    have hn : nextS S (stepOf T p : Nat) (mapM T M) = (argAt T p, M.pass.1, mapM T M.pass.2) := by
      rw [nextS_is L hp he (by rw [o1]; decide), o1]
      show (argAt T p, (mapM T M).pass) = _
      rw [map_pass]
    refine ⟨fun h0 => ?_, fun h0 => ?_, by rw [hn, hw], by rw [hn, hw], fun h0 => ?_⟩
    · rw [hw] at h0 ⊢
      have hk := pass_ok h.ok h0
      refine ⟨by show (0 : Int) ≤ ((aheadM T (p + 1) wIf wThen false + 1 : Nat) : Int); omega, hk.1.ok, ?_, by show ∀ c ∈ M.pass.2.calls, _; rw [hk.2]; exact h.calls⟩
      show Good T (((aheadM T (p + 1) wIf wThen false + 1 : Nat) : Int)).toNat
      rw [Int.toNat_natCast]; exact good_succ (ahead_word T _ _ _ (by decide) _ (p + 1) 0 rfl)
    · rw [hw] at h0 ⊢
      have hk := pass_ok h.ok h0
      exact .inl (by show M.used + 1 ≤ M.pass.2.used; rw [hk.1.used]; omega)
    · rw [hn, hw]
      show argAt T p = _
      rw [o2, Int.toNat_natCast]
  by_cases q5 : wAt T p = wRepeat
  · have hw : wordM T p M = (((backM T p + 1 : Nat) : Int), M.pass) := by unfold wordM; rw [if_neg q1, if_neg qq2, if_neg q3, if_neg q4, if_pos q5]
    obtain ⟨o1, o2⟩ := op_repeat q5
    have hn : nextS S (stepOf T p : Nat) (mapM T M) = (argAt T p, M.pass.1, mapM T M.pass.2) := by
      rw [nextS_is L hp he (by rw [o1]; decide), o1]
      show (argAt T p, (mapM T M).pass) = _
      rw [map_pass]
    refine ⟨fun h0 => ?_, fun h0 => ?_, by rw [hn, hw], by rw [hn, hw], fun h0 => ?_⟩
    · rw [hw] at h0 ⊢
      have hk := pass_ok h.ok h0
      refine ⟨by show (0 : Int) ≤ ((backM T p + 1 : Nat) : Int); omega, hk.1.ok, ?_, by show ∀ c ∈ M.pass.2.calls, _; rw [hk.2]; exact h.calls⟩
      show Good T (((backM T p + 1 : Nat) : Int)).toNat
      rw [Int.toNat_natCast]; exact ht.back (.inr q5)
    · rw [hw] at h0 ⊢
      have hk := pass_ok h.ok h0
      exact .inl (by show M.used + 1 ≤ M.pass.2.used; rw [hk.1.used]; omega)
    · rw [hn, hw]
      show argAt T p = _
      rw [o2, Int.toNat_natCast]
  by_cases q6 : wAt T p = wExit ∨ wAt T p = [59]
  · have hw : wordM T p M = M.ret := by unfold wordM; rw [if_neg q1, if_neg qq2, if_neg q3, if_neg q4, if_neg q5, if_pos q6]
    obtain ⟨o1, o2⟩ := op_ret q6
    have hn : nextS S (stepOf T p : Nat) (mapM T M) = (mapM T M).ret := by
      rw [nextS_is L hp he (by rw [o1]; decide), o1]; rfl
    obtain ⟨r1, r2, r3⟩ := map_ret (T := T) M
    refine ⟨fun h0 => ?_, fun h0 => ?_, by rw [hn, hw, r1], by rw [hn, hw, r2], fun h0 => ?_⟩
    · rw [hw] at h0 ⊢
      obtain ⟨k1, k2, k3, k4⟩ := ret_ok h.ok h0
      have hmem : M.ret.1 ∈ M.calls := by
        rw [k3, List.getLastD_eq_getLast?, List.getLast?_eq_some_getLast k2]
        exact List.getLast_mem k2
      obtain ⟨m1, m2⟩ := h.calls _ hmem
      exact ⟨m1, k1.ok, m2, by rw [k4]; exact fun c hc => h.calls c ((List.dropLast_sublist _).subset hc)⟩
    · rw [hw] at h0 ⊢
      obtain ⟨k1, k2, k3, k4⟩ := ret_ok h.ok h0
      exact .inl (by rw [k1.used]; omega)
    · rw [hw] at h0 ⊢
      rw [hn]; exact r3 h0
  have hcallcase : ∀ (t : Nat), Good T t → opAt T p = 4 → argAt T p = (stepOf T t : Nat) → wordM T p M = ((t : Int), M.call ((p : Int) + 1)) → WordOk T S p M := by
    intro t htg o1 o2 hw
    have hn : nextS S (stepOf T p : Nat) (mapM T M) = (argAt T p, (M.call ((p : Int) + 1)).1, mapM T (M.call ((p : Int) + 1)).2) := by
      rw [nextS_is L hp he (by rw [o1]; decide), o1]
      show (argAt T p, (mapM T M).call _) = _
      rw [map_call]
    refine ⟨fun h0 => ?_, fun h0 => ?_, by rw [hn, hw], by rw [hn, hw], fun h0 => ?_⟩
    · rw [hw] at h0 ⊢
      have hk := call_ok h.ok ((p : Int) + 1) h0
      refine ⟨by show (0 : Int) ≤ (t : Int); omega, hk.1.ok, by show Good T (t : Int).toNat; rw [Int.toNat_natCast]; exact htg, ?_⟩
      show ∀ c ∈ (M.call ((p : Int) + 1)).2.calls, _
      rw [hk.2]
      intro c hc
      rcases List.mem_append.1 hc with hc | hc
      · exact h.calls c hc
      · simp at hc; subst hc; exact ⟨by omega, by rw [toNat_succ]; exact hg1⟩
    · rw [hw] at h0 ⊢
      have hk := call_ok h.ok ((p : Int) + 1) h0
      exact .inl (by show M.used + 1 ≤ (M.call ((p : Int) + 1)).2.used; rw [hk.1.used]; omega)
    · rw [hn, hw]
      show argAt T p = _
      rw [o2, Int.toNat_natCast]
  by_cases q7 : wAt T p = wRec
  · exact hcallcase (outerM T p) (ht.recu q7) (op_rec q7).1 (op_rec q7).2 (by unfold wordM; rw [if_neg q1, if_neg qq2, if_neg q3, if_neg q4, if_neg q5, if_neg q6, if_pos q7])
  have hnf : wAt T p ∉ formsL := by
    simp only [not_or] at q3 q6
    simp only [formsL, List.mem_cons, List.not_mem_nil, or_false, not_or]
    exact ⟨q3.1, q4, h1, h2, q3.2.2, q3.2.1, q5, q6.1, q7, q1, q6.2⟩
  obtain ⟨o1, o2⟩ := op_other hnf
  by_cases q8 : 0 ≤ meaningM T p (wAt T p)
  · rw [if_pos q8] at o1 o2
    refine hcallcase (meaningM T p (wAt T p)).toNat (ht.name hnf q8) o1 o2 ?_
    unfold wordM
    rw [if_neg q1, if_neg qq2, if_neg q3, if_neg q4, if_neg q5, if_neg q6, if_neg q7, if_pos q8]
    have : (((meaningM T p (wAt T p)).toNat : Nat) : Int) = meaningM T p (wAt T p) := by omega
    rw [this]
  rw [if_neg q8] at o1 o2
  by_cases q9 : 0 ≤ listRef (wAt T p)
  · rw [if_pos q9] at o1 o2
    have hw : wordM T p M = ((p : Int) + 1, M.doN (listRef (wAt T p))) := by unfold wordM; rw [if_neg q1, if_neg qq2, if_neg q3, if_neg q4, if_neg q5, if_neg q6, if_neg q7, if_neg q8, if_pos q9]
    have hb := listRef_bd (wAt T p)
    have hn : nextS S (stepOf T p : Nat) (mapM T M) = (((stepOf T (p + 1) : Nat) : Int), (M.doN (listRef (wAt T p))).1, mapM T (M.doN (listRef (wAt T p))).2) := by
      rw [nextS_is L hp he (by rw [o1]; omega), o1]
      unfold stepM
      rw [if_neg (by omega), if_neg (by omega), if_neg (by omega), if_neg (by omega), if_neg (by omega), show 16 + listRef (wAt T p) - 16 = listRef (wAt T p) by omega, map_doN]
    refine ⟨fun h0 => ?_, fun h0 => ?_, by rw [hn, hw], by rw [hn, hw], fun h0 => ?_⟩
    · rw [hw] at h0 ⊢
      have hk := doN_ok h.ok _ q9 hb h0
      exact ⟨by show (0 : Int) ≤ (p : Int) + 1; omega, hk.1.ok, by show Good T ((p : Int) + 1).toNat; rw [toNat_succ]; exact hg1, by show ∀ c ∈ (M.doN (listRef (wAt T p))).2.calls, _; rw [hk.2]; exact h.calls⟩
    · rw [hw] at h0 ⊢
      have hk := doN_ok h.ok _ q9 hb h0
      exact .inl (by show M.used + 1 ≤ (M.doN (listRef (wAt T p))).2.used; rw [hk.1.used]; omega)
    · rw [hn, hw]
      show ((stepOf T (p + 1) : Nat) : Int) = (stepOf T ((p : Int) + 1).toNat : Nat)
      rw [toNat_succ]
  · rw [if_neg q9] at o1 o2
    have hw : wordM T p M = ((p : Int) + 1, M.number (refVal (wAt T p))) := by unfold wordM; rw [if_neg q1, if_neg qq2, if_neg q3, if_neg q4, if_neg q5, if_neg q6, if_neg q7, if_neg q8, if_neg q9]
    have hb := ht.num hnf (by omega) (by omega)
    have hn : nextS S (stepOf T p : Nat) (mapM T M) = (((stepOf T (p + 1) : Nat) : Int), (M.number (refVal (wAt T p))).1, mapM T (M.number (refVal (wAt T p))).2) := by
      rw [nextS_is L hp he (by rw [o1]; decide), o1, o2]
      show (((stepOf T (p + 1) : Nat) : Int), (mapM T M).number (refVal (wAt T p))) = _
      rw [map_number]
    refine ⟨fun h0 => ?_, fun h0 => ?_, by rw [hn, hw], by rw [hn, hw], fun h0 => ?_⟩
    · rw [hw] at h0 ⊢
      have hk := number_ok h.ok _ hb h0
      exact ⟨by show (0 : Int) ≤ (p : Int) + 1; omega, hk.1.ok, by show Good T ((p : Int) + 1).toNat; rw [toNat_succ]; exact hg1, by show ∀ c ∈ (M.number (refVal (wAt T p))).2.calls, _; rw [hk.2]; exact h.calls⟩
    · rw [hw] at h0 ⊢
      have hk := number_ok h.ok _ hb h0
      exact .inl (by show M.used + 1 ≤ (M.number (refVal (wAt T p))).2.used; rw [hk.1.used]; omega)
    · rw [hn, hw]
      show ((stepOf T (p + 1) : Nat) : Int) = (stepOf T ((p : Int) + 1).toNat : Nat)
      rw [toNat_succ]

theorem RefInv.skip {p : Nat} {M : Ma} (h : RefInv T p M) (hw : wAt T p = wThen ∨ wAt T p = wBegin) : RefInv T (p + 1) M ∧ stepOf T (p + 1) = stepOf T p ∧ wordM T p M = ((p : Int) + 1, 0, M) := by
  have hc : wAt T p ≠ [58] := by rcases hw with e | e <;> (rw [e]; decide)
  have he := emits_free h.good hw
  exact ⟨⟨h.ok, good_succ hc, h.calls⟩, by show stepOf T p + emits T p = _; omega, by unfold wordM; rw [if_neg hc, if_pos hw]⟩

/-- The walk over the words has what it needs. -/
theorem runInv_ref {S : List (Int × Int)} (L : Laid T S) : RunInv T (RefInv T) := by
  refine ⟨fun p M h => h.ok, fun p M h hp he => ?_, fun p M h hp he => ?_⟩
  · by_cases hw : wAt T p = wThen ∨ wAt T p = wBegin
    · obtain ⟨a, b, c⟩ := h.skip hw
      rw [c, toNat_succ]; exact ⟨by omega, a⟩
    · exact (word_ok L h hp (fun e => hw (.inl e)) (fun e => hw (.inr e))).inv he
  · by_cases hw : wAt T p = wThen ∨ wAt T p = wBegin
    · obtain ⟨a, b, c⟩ := h.skip hw
      rw [c]; exact .inr ⟨rfl, by omega⟩
    · exact (word_ok L h hp (fun e => hw (.inl e)) (fun e => hw (.inr e))).used he

theorem step_word (T : Words) : ∀ n i, i < stepOf T n → ∃ q, q < n ∧ emits T q = 1 ∧ stepOf T q = i
  | 0, i, h => by simp [stepOf] at h
  | n + 1, i, h => by
    have e : stepOf T (n + 1) = stepOf T n + emits T n := rfl
    by_cases h1 : i < stepOf T n
    · obtain ⟨q, a, b, c⟩ := step_word T n i h1
      exact ⟨q, by omega, b, c⟩
    · have h2 : emits T n ≤ 1 := by unfold emits; split; omega; split <;> omega
      exact ⟨n, by omega, by omega, by omega⟩

/-- From a place on, the next word that lays a step. -/
theorem RefInv.seek {M : Ma} : ∀ n p, T.length - p = n → RefInv T p M → stepOf T p < stepOf T T.length → ∃ q, q < T.length ∧ RefInv T q M ∧ stepOf T q = stepOf T p ∧ wAt T q ≠ wThen ∧ wAt T q ≠ wBegin
  | 0, p, hn, h, hlt => by have := stepOf_le T (show T.length ≤ p by omega); omega
  | n + 1, p, hn, h, hlt => by
    by_cases hw : wAt T p = wThen ∨ wAt T p = wBegin
    · obtain ⟨a, b, c⟩ := h.skip hw
      obtain ⟨q, c1, c2, c3, c4⟩ := RefInv.seek n (p + 1) (by omega) a (by omega)
      exact ⟨q, c1, c2, by omega, c4⟩
    · exact ⟨p, by omega, h, rfl, fun e => hw (.inl e), fun e => hw (.inr e)⟩

def DevInv (T : Words) (at' : Int) (M' : Ma) : Prop := ∃ p M, RefInv T p M ∧ at' = (stepOf T p : Nat) ∧ M' = mapM T M
theorem opOk_of (T : Words) (q : Nat) : opAt T q = -1 ∨ opOk (opAt T q) := by
  have hb := listRef_bd (wAt T q)
  unfold opAt opOk
  by_cases c1 : wAt T q = [58]
  · rw [if_pos c1]; exact .inl rfl
  rw [if_neg c1]
  right
  repeat' split
  all_goals omega
theorem stepInv_dev {S : List (Int × Int)} (L : Laid T S) : StepInv S (DevInv T) := by
  refine ⟨?_, ?_, ?_, ?_⟩
  · rintro p M ⟨q, M1, h, _, rfl⟩; exact mapM_ok h.ok
  · intro i hi
    rw [L.len] at hi
    obtain ⟨q, a, b, c⟩ := step_word T _ i hi
    have := stepAt_is L a b
    unfold stepAt at this
    rw [Int.toNat_natCast, c] at this
    rw [this]
    exact opOk_of T q
  · rintro at' M' ⟨p, M, h, rfl, rfl⟩ hin he
    rw [L.len] at hin
    obtain ⟨q, a1, a2, a3, a4, a5⟩ := RefInv.seek (T.length - p) p rfl h (by omega)
    rw [← a3] at he ⊢
    have W := word_ok L a2 a1 a4 a5
    rw [W.err] at he
    exact ⟨_, _, (W.inv he).2, W.next he, W.mach⟩
  · rintro at' M' ⟨p, M, h, rfl, rfl⟩ hin he
    rw [L.len] at hin
    obtain ⟨q, a1, a2, a3, a4, a5⟩ := RefInv.seek (T.length - p) p rfl h (by omega)
    rw [← a3] at he ⊢
    have W := word_ok L a2 a1 a4 a5
    rw [W.err] at he
    rw [W.next he, W.mach]
    rcases W.used he with g | g
    · exact .inl g
    · refine .inr ⟨g.1, ?_⟩
      have := stepOf_lt T (show q < (wordM T q M).1.toNat by omega) (emits_of a2.good a4 a5)
      omega

/-- The two runs. -/
theorem runs_alike {S : List (Int × Int)} (L : Laid T S) : ∀ n p M, RefInv T p M → measN T.length M.used p ≤ n → ∀ m, measN S.length M.used (stepOf T p) ≤ m → runS S m (stepOf T p : Nat) (mapM T M) = ((runW T n p M).1, mapM T (runW T n p M).2) := by
  intro n
  induction n with
  | zero =>
    intro p M h hn m hm
    exfalso
    unfold measN at hn
    have := h.ok.used'
    have : 1 ≤ (10001 - M.used).toNat * (T.length + 2) := Nat.mul_pos (by omega) (by omega)
    omega
  | succ n ih =>
    intro p M h hn m hm
    by_cases hp : p < T.length
    · by_cases hw : wAt T p = wThen ∨ wAt T p = wBegin
      · obtain ⟨a, b, c⟩ := h.skip hw
        have hlt := measN_lt T.length M.used M.used p (p + 1) h.ok.used h.ok.used' h.ok.used' hp (.inr ⟨rfl, Nat.le_refl _⟩)
        have := ih (p + 1) M a (by omega) m (by rw [b]; exact hm)
        rw [b] at this
        rw [this, runW_on T n p M hp (by rw [c]), c, toNat_succ]
      · have h1 : wAt T p ≠ wThen := fun e => hw (.inl e)
        have h2 : wAt T p ≠ wBegin := fun e => hw (.inr e)
        have W := word_ok L h hp h1 h2
        have he := emits_of h.good h1 h2
        have hin : 0 ≤ ((stepOf T p : Nat) : Int) ∧ ((stepOf T p : Nat) : Int) < S.length := by
          have := stepOf_lt T hp he
          rw [L.len]; omega
        obtain ⟨m', rfl⟩ : ∃ m', m = m' + 1 := by
          refine ⟨m - 1, ?_⟩
          unfold measN at hm
          have := h.ok.used'
          have : 1 ≤ (10001 - M.used).toNat * (S.length + 2) := Nat.mul_pos (by omega) (by omega)
          omega
        by_cases h0 : (wordM T p M).2.1 = 0
        · have inv := W.inv h0
          have hok2 := inv.2.ok
          have hlt := measN_lt T.length M.used (wordM T p M).2.2.used p (wordM T p M).1.toNat hok2.used hok2.used' h.ok.used' hp ((W.used h0).imp id fun g => ⟨g.1, by omega⟩)
          have hlt2 := measN_lt S.length M.used (wordM T p M).2.2.used (stepOf T p) (stepOf T (wordM T p M).1.toNat) hok2.used hok2.used' h.ok.used' (by omega) ((W.used h0).imp id fun g => ⟨g.1, stepOf_lt T (by omega) he⟩)
          rw [runW_on T n p M hp h0, runS_on S m' _ _ hin (by rw [W.err]; exact h0), W.next h0, W.mach]
          exact ih _ _ inv.2 (by omega) m' (by omega)
        · rw [runW_err T n p M hp h0, runS_err S m' _ _ hin (by rw [W.err]; exact h0)]
          exact Prod.ext W.err W.mach
    · rw [runW_end T (n + 1) p M hp, runS_end]
      have := stepOf_le T (show T.length ≤ p by omega)
      rw [L.len]; omega
end
end Go.Proofs.YtnanjomnldfidabGreatDoor
