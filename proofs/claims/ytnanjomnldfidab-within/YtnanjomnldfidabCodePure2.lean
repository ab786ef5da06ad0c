/-
  Runs of code: what fuel, secret bytes and Verify have to do with them (P6, P8, P9). Plain mathematics.
-/
import Derived.Test.YtnanjomnldfidabCodePure
set_option linter.unusedSimpArgs false
set_option linter.unusedVariables false
set_option linter.unusedSectionVars false
namespace Go.Proofs.Ytnanjomnldfidab

/-- What a run puts out it never takes back. -/
structure Grows (M N : Ma) : Prop where
  used : M.used ≤ N.used
  out : M.out <+: N.out
theorem Grows.refl (M : Ma) : Grows M M := ⟨Int.le_refl _, List.prefix_rfl⟩
theorem Grows.trans {M N K : Ma} (h : Grows M N) (h2 : Grows N K) : Grows M K := ⟨Int.le_trans h.used h2.used, h.out.trans h2.out⟩
theorem grows_step (op arg b : Int) (M : Ma) (he : (stepM op arg b M).2.1 = 0) : Grows M (stepM op arg b M).2.2 := by
  have hle : M.used ≤ M.used + 1 := by omega
  refine stepM_cases op arg b M (fun N => Grows M N) he (fun _ _ => ⟨hle, List.prefix_rfl⟩) (fun _ => ⟨hle, List.prefix_rfl⟩) (fun _ => ⟨hle, List.prefix_rfl⟩) (fun _ _ => ⟨hle, List.prefix_rfl⟩) (fun _ _ => ⟨by rw [act_used]; exact hle, ?_⟩)
  rw [act_out]; split
  · exact List.prefix_append _ _
  · exact List.prefix_rfl
theorem exec_grows (l : List UInt8) (n : Nat) (p : Int) (M : Ma) : Grows M (execC l n p M).2 :=
  execC_inv (Inv := Grows M) (fun p N _ _ h he => h.trans (grows_step _ _ _ N he)) n p M (Grows.refl M)
/-- A run that stops for want of fuel goes on with more. -/
theorem exec_six (l : List UInt8) {d : Int} (hd : 0 ≤ d) : ∀ (n m : Nat) (p : Int) (M : Ma), n ≤ m → (execC l n p M).1 = 6 → Grows (execC l n p M).2 (execC l m p (moreF d M)).2 ∧ (execC l n p M).2.fuel ≤ (execC l n p M).2.used
  | 0, m, p, M, _, h => by cases h
  | n + 1, 0, p, M, h, _ => by omega
  | n + 1, m + 1, p, M, hnm, h6 => by
    have hg : Grows M (execC l (m + 1) p (moreF d M)).2 := ⟨(exec_grows l (m + 1) p (moreF d M)).used, (exec_grows l (m + 1) p (moreF d M)).out⟩
    unfold execC at h6 hg ⊢
    by_cases hw : wholeC l p
    · rw [if_pos hw] at h6 hg ⊢
      rw [if_pos hw]
      by_cases h0 : atC l p = 0
      · rw [if_pos h0] at h6; cases h6
      · rw [if_neg h0] at h6 hg ⊢
        rw [if_neg h0]
        by_cases he : (stepC l p M).2.1 ≠ 0
        · rw [if_pos he] at h6 ⊢
          exact ⟨hg, step_six _ _ _ M h6⟩
        · rw [if_neg he] at h6 ⊢
          have he' : (stepC l p M).2.1 = 0 := by simpa using he
          have hm' : stepC l p (moreF d M) = ((stepC l p M).1, (stepC l p M).2.1, moreF d (stepC l p M).2.2) := step_more hd ((atC l p).toNat : Int) (operC l p) (p + sizeC (atC l p)) M (by show (stepC l p M).2.1 ≠ 6; rw [he']; decide)
          rw [hm', if_neg he]
          exact exec_six l hd n m _ _ (by omega) h6
    · rw [if_neg hw] at h6; cases h6
/-- A run that ends well has come to a halt. -/
theorem exec_halt (l : List UInt8) : ∀ (n : Nat) (p : Int) (M : Ma), Fine M → (M.fuel - M.used).toNat < n → (execC l n p M).1 = 0 → ∃ q : Nat, q < l.length ∧ l[q]? = some 0
  | 0, p, M, _, hn, _ => by omega
  | n + 1, p, M, h, hn, h0' => by
    unfold execC at h0'
    by_cases hw : wholeC l p
    · rw [if_pos hw] at h0'
      by_cases h0 : atC l p = 0
      · have h1 := hw.1
        have h2 := hw.2.1
        refine ⟨p.toNat, by omega, ?_⟩
        have : l[p.toNat]? = some (l.getD p.toNat 0) := by
          rw [List.getD_eq_getElem?_getD, List.getElem?_eq_getElem (by omega)]; rfl
        rw [this]
        exact congrArg some h0
      · rw [if_neg h0] at h0'
        by_cases he : (stepC l p M).2.1 ≠ 0
        · rw [if_pos he] at h0'; exact absurd h0' he
        · rw [if_neg he] at h0'
          have he' : (stepC l p M).2.1 = 0 := by simpa using he
          have hu := step_used _ _ _ M he' (sizeC_op hw.2.2.1 h0) h.ok (fun _ => operC_bd l p)
          have hr := step_room _ _ _ M he'
          have hf1 : (stepC l p M).2.2.fuel = M.fuel := step_fuel ((atC l p).toNat : Int) (operC l p) (p + sizeC (atC l p)) M
          have hu1 : (stepC l p M).2.2.used = M.used + 1 := hu.1
          have hok : (stepC l p M).2.2.Ok := hu.2
          exact exec_halt l n _ _ ⟨hok, by omega⟩ (by omega) h0'
    · rw [if_neg hw] at h0'; cases h0'

/-- The same machine with other bytes in the image. -/
def withI (M : Ma) (I : List UInt8) : Ma := { M with image := I }
/-- Two images that differ in the secret bytes alone; no right to look. -/
structure SecR (M : Ma) (I : List UInt8) : Prop where
  len : I.length = M.image.length
  same : ∀ i : Nat, ((i : Int) < M.kernel ∨ M.fence ≤ (i : Int)) → I.getD i 0 = M.image.getD i 0
  look : noRight M.rights 4 = true
theorem SecR.of {M N : Ma} {I : List UInt8} (h : SecR M I) (h1 : N.image = M.image) (h2 : N.kernel = M.kernel) (h3 : N.fence = M.fence) (h4 : N.rights = M.rights) : SecR N I :=
  ⟨by rw [h1]; exact h.len, by rw [h1, h2, h3]; exact h.same, by rw [h4]; exact h.look⟩
theorem top_nonneg {M : Ma} (h : M.Ok) : 0 ≤ M.top := by
  unfold Ma.top
  rcases hs : M.stack.getLast? with _ | x
  · rw [List.getLastD_eq_getLast?, hs]; exact Int.le_refl _
  · rw [List.getLastD_eq_getLast?, hs]
    exact (h.nums x (List.mem_of_getLast? hs)).1
theorem sec_fault {M : Ma} {I : List UInt8} (h : SecR M I) (n : Int) : (withI M I).fault n = M.fault n := by
  unfold Ma.fault
  show (if (n = 16 ∧ noRight M.rights 1 = true) ∨ (n = 17 ∧ noRight M.rights 2 = true) ∨ (n = 18 ∧ noRight M.rights 8 = true) then (10 : Int)
    else if n = 16 ∧ 64 ≤ M.out.length then 11
    else if (n = 7 ∨ n = 8) ∧ M.top = 0 then 12
    else if n = 14 ∧ ((I.length : Int) ≤ M.top ∨ (M.kernel ≤ M.top ∧ M.top < M.fence ∧ noRight M.rights 4 = true)) then 13
    else if n = 15 ∧ (M.top < M.fence ∨ (I.length : Int) ≤ M.top) then 13
    else 0) = _
  rw [h.len]
theorem sec_act {M : Ma} {I : List UInt8} (h : SecR M I) (hok : M.Ok) (n : Int) (hf : M.fault n = 0) : ∃ J, (withI M I).tick.act n = withI (M.tick.act n) J ∧ SecR (M.tick.act n) J := by
  obtain ⟨_, _, r3, r4⟩ := fault_right hf
  by_cases c4 : n = 14
  · subst c4
    have ht := top_nonneg hok
    have hr := r4 rfl
    have hlk := h.look
    have hs := h.same M.top.toNat (by
      by_cases k1 : M.kernel ≤ M.top
      · by_cases k2 : M.top < M.fence
        · rw [hr.2 k1 k2] at hlk; cases hlk
        · omega
      · omega)
    refine ⟨I, ?_, h.of (by rw [act_image]; rfl) (act_kernel _ _) (act_fence _ _) (act_rights _ _)⟩
    show (((withI M I).tick.pop).push ((I.getD M.top.toNat 0).toNat : Int)) = withI (M.tick.pop.push ((M.image.getD M.top.toNat 0).toNat : Int)) I
    rw [hs]
    rfl
  by_cases c9 : n = 15
  · subst c9
    have hr := r3 rfl
    refine ⟨I.set M.top.toNat (byteOf M.pop.top), rfl, ⟨?_, fun i hi => ?_, ?_⟩⟩
    · rw [act_image, if_pos rfl, List.length_set]
      show I.length = (M.image.set _ _).length
      rw [List.length_set]; exact h.len
    · rw [act_kernel, act_fence] at hi
      have hs := h.same i hi
      rw [act_image, if_pos rfl]
      show (I.set M.top.toNat (byteOf M.pop.top)).getD i 0 = (M.image.set M.top.toNat (byteOf M.pop.top)).getD i 0
      rw [List.getD_eq_getElem?_getD, List.getD_eq_getElem?_getD] at hs
      rw [List.getD_eq_getElem?_getD, List.getD_eq_getElem?_getD, List.getElem?_set, List.getElem?_set, h.len]
      split
      · rfl
      · exact hs
    · rw [act_rights]; exact h.look
  refine ⟨I, ?_, h.of (by rw [act_image, if_neg c9]; rfl) (act_kernel _ _) (act_fence _ _) (act_rights _ _)⟩
  have ht : (withI M I).tick = withI M.tick I := rfl
  rw [ht]
  generalize M.tick = N
  unfold Ma.act
  by_cases c1 : n = 17
  · rw [if_pos c1, if_pos c1]
    have e1 : (withI N I).pos = N.pos := rfl
    have e2 : (withI N I).inp = N.inp := rfl
    rw [e1, e2]
    by_cases c : N.pos < N.inp.size
    · rw [if_pos c, if_pos c]; rfl
    · rw [if_neg c, if_neg c]; rfl
  rw [if_neg c1, if_neg c1]
  by_cases c2 : n = 1
  · rw [if_pos c2, if_pos c2]; rfl
  rw [if_neg c2, if_neg c2]
  by_cases c3 : n = 0
  · rw [if_pos c3, if_pos c3]; rfl
  rw [if_neg c3, if_neg c3, if_neg c4, if_neg c4]
  by_cases c5 : n = 16
  · rw [if_pos c5, if_pos c5]; rfl
  rw [if_neg c5, if_neg c5]
  by_cases c6 : n = 18
  · rw [if_pos c6, if_pos c6]; rfl
  rw [if_neg c6, if_neg c6]
  by_cases c7 : n = 2
  · rw [if_pos c7, if_pos c7]; rfl
  rw [if_neg c7, if_neg c7]
  by_cases c8 : n = 3
  · rw [if_pos c8, if_pos c8]; rfl
  rw [if_neg c8, if_neg c8, if_neg c9, if_neg c9]; rfl
theorem sec_step {M : Ma} {I : List UInt8} (h : SecR M I) (hok : M.Ok) (op arg b : Int) : ∃ J, stepM op arg b (withI M I) = ((stepM op arg b M).1, (stepM op arg b M).2.1, withI (stepM op arg b M).2.2 J) ∧ SecR (stepM op arg b M).2.2 J := by
  have hroom : ∀ t g, (withI M I).room t g = M.room t g := fun _ _ => rfl
  unfold stepM
  by_cases c1 : op = 1
  · rw [if_pos c1, if_pos c1]
    unfold Ma.number
    rw [hroom]
    by_cases q : M.room 0 1 ≠ 0
    · rw [if_pos q, if_pos q]; exact ⟨I, rfl, h⟩
    · rw [if_neg q, if_neg q]; exact ⟨I, rfl, h.of rfl rfl rfl rfl⟩
  rw [if_neg c1, if_neg c1]
  by_cases c2 : op = 2
  · rw [if_pos c2, if_pos c2]
    unfold Ma.pass
    rw [hroom]
    by_cases q : M.room 0 0 ≠ 0
    · rw [if_pos q, if_pos q]; exact ⟨I, rfl, h⟩
    · rw [if_neg q, if_neg q]; exact ⟨I, rfl, h.of rfl rfl rfl rfl⟩
  rw [if_neg c2, if_neg c2]
  by_cases c3 : op = 3
  · rw [if_pos c3, if_pos c3]
    have key : (withI M I).takeN = (M.takeN.1, M.takeN.2.1, withI M.takeN.2.2 I) ∧ SecR M.takeN.2.2 I := by
      unfold Ma.takeN
      rw [hroom]
      by_cases q : M.room 1 0 ≠ 0
      · rw [if_pos q, if_pos q]; exact ⟨rfl, h⟩
      · rw [if_neg q, if_neg q]; exact ⟨rfl, h.of rfl rfl rfl rfl⟩
    refine ⟨I, ?_, key.2⟩
    rw [key.1]
  rw [if_neg c3, if_neg c3]
  by_cases c4 : op = 4
  · rw [if_pos c4, if_pos c4]
    unfold Ma.call
    rw [hroom, show (withI M I).calls = M.calls from rfl]
    by_cases q : M.room 0 0 ≠ 0
    · rw [if_pos q, if_pos q]; exact ⟨I, rfl, h⟩
    · rw [if_neg q, if_neg q]
      by_cases q2 : 12 ≤ M.calls.length
      · rw [if_pos q2, if_pos q2]; exact ⟨I, rfl, h⟩
      · rw [if_neg q2, if_neg q2]; exact ⟨I, rfl, h.of rfl rfl rfl rfl⟩
  rw [if_neg c4, if_neg c4]
  by_cases c5 : op = 5
  · rw [if_pos c5, if_pos c5]
    unfold Ma.ret
    rw [hroom, show (withI M I).calls = M.calls from rfl]
    by_cases q : M.room 0 0 ≠ 0
    · rw [if_pos q, if_pos q]; exact ⟨I, rfl, h⟩
    · rw [if_neg q, if_neg q]
      by_cases q2 : M.calls = []
      · rw [if_pos q2, if_pos q2]; exact ⟨I, rfl, h⟩
      · rw [if_neg q2, if_neg q2]; exact ⟨I, rfl, h.of rfl rfl rfl rfl⟩
  rw [if_neg c5, if_neg c5]
  generalize op - 16 = n
  unfold Ma.doN
  rw [hroom, sec_fault h]
  by_cases q : M.room (takesN n) (givesN n) ≠ 0
  · rw [if_pos q, if_pos q]; exact ⟨I, rfl, h⟩
  · rw [if_neg q, if_neg q]
    by_cases q2 : M.fault n ≠ 0
    · rw [if_pos q2, if_pos q2]; exact ⟨I, rfl, h⟩
    · rw [if_neg q2, if_neg q2]
      obtain ⟨J, hJ, hS⟩ := sec_act h hok n (by simpa using q2)
      exact ⟨J, by rw [hJ], hS⟩
theorem exec_sec (l : List UInt8) : ∀ (n : Nat) (p : Int) (M : Ma) (I : List UInt8), SecR M I → M.Ok → ∃ J, execC l n p (withI M I) = ((execC l n p M).1, withI (execC l n p M).2 J) ∧ SecR (execC l n p M).2 J
  | 0, p, M, I, h, _ => ⟨I, rfl, h⟩
  | n + 1, p, M, I, h, hok => by
    unfold execC
    by_cases hw : wholeC l p
    · rw [if_pos hw, if_pos hw]
      by_cases h0 : atC l p = 0
      · rw [if_pos h0, if_pos h0]; exact ⟨I, rfl, h⟩
      · rw [if_neg h0, if_neg h0]
        obtain ⟨J, hJ, hS⟩ := sec_step h hok ((atC l p).toNat : Int) (operC l p) (p + sizeC (atC l p))
        have hJ' : stepC l p (withI M I) = ((stepC l p M).1, (stepC l p M).2.1, withI (stepC l p M).2.2 J) := hJ
        rw [hJ']
        by_cases he : (stepC l p M).2.1 ≠ 0
        · rw [if_pos he, if_pos he]; exact ⟨I, rfl, h⟩
        · rw [if_neg he, if_neg he]
          have he' : (stepC l p M).2.1 = 0 := by simpa using he
          have hu := step_used _ _ _ M he' (sizeC_op hw.2.2.1 h0) hok (fun _ => operC_bd l p)
          exact exec_sec l n _ _ J hS hu.2
    · rw [if_neg hw, if_neg hw]; exact ⟨I, rfl, h⟩

/-- The instructions, gone through from a place on: where they begin, and where that ends. -/
def walkC (l : List UInt8) : Nat → Nat → List Nat × Nat
  | 0, p => ([], p)
  | n + 1, p => if wholeC l (p : Int) then (p :: (walkC l n (p + sizeC (atC l (p : Int)))).1, (walkC l n (p + sizeC (atC l (p : Int)))).2) else ([], p)
def startsC (l : List UInt8) : List Nat := (walkC l l.length 0).1
def stopC (l : List UInt8) : Nat := (walkC l l.length 0).2
/-- The places of the jumps and calls that lead nowhere. -/
def badC (l : List UInt8) (p : Nat) : Bool := decide (2 ≤ (atC l (p : Int)).toNat) && decide ((atC l (p : Int)).toNat ≤ 4) && !(startsC l).contains (operC l (p : Int)).toNat
def endsC (c : UInt8) : Bool := c.toNat == 0 || c.toNat == 2 || c.toNat == 5
/-- P8. -/
def verifyC (l : List UInt8) : Int × Int :=
  if 1024 < l.length then (1, 0) else if stopC l < l.length then (5, (stopC l : Int))
  else match (startsC l).find? (badC l) with
    | some p => (5, (p : Int))
    | none => if endsC (atC l ((startsC l).getLastD 0 : Nat)) = true ∧ l ≠ [] then (0, 0) else (5, ((startsC l).getLastD 0 : Nat))

theorem walk_facts (l : List UInt8) : ∀ (n p : Nat), l.length ≤ p + n → l.length ≤ (walkC l n p).2 → p ≤ l.length →
    (p < l.length → p ∈ (walkC l n p).1) ∧ (p = l.length → (walkC l n p).1 = []) ∧ ∀ q ∈ (walkC l n p).1, wholeC l (q : Int) ∧ (q + sizeC (atC l (q : Int)) ∈ (walkC l n p).1 ∨ (q + sizeC (atC l (q : Int)) = l.length ∧ (walkC l n p).1.getLast? = some q))
  | 0, p, hn, hs, hp => by
    refine ⟨fun h => by omega, fun _ => rfl, fun q hq => ?_⟩
    simp [walkC] at hq
  | n + 1, p, hn, hs, hp => by
    unfold walkC at hs ⊢
    by_cases hw : wholeC l (p : Int)
    · rw [if_pos hw] at hs ⊢
      have h3 := hw.2.2.1
      have h4 := hw.2.2.2
      obtain ⟨a, b, c⟩ := walk_facts l n (p + sizeC (atC l (p : Int))) (by omega) hs (by omega)
      have h2 := hw.2.1
      refine ⟨fun _ => List.mem_cons_self, fun h => by omega, fun q hq => ?_⟩
      rcases List.mem_cons.1 hq with h | h
      · subst h
        refine ⟨hw, ?_⟩
        by_cases hl : q + sizeC (atC l (q : Int)) < l.length
        · exact .inl (List.mem_cons_of_mem _ (a hl))
        · have he : q + sizeC (atC l (q : Int)) = l.length := by omega
          refine .inr ⟨he, ?_⟩
          rw [b he]; rfl
      · obtain ⟨c1, c2⟩ := c q h
        refine ⟨c1, c2.imp (List.mem_cons_of_mem _) fun ⟨d1, d2⟩ => ⟨d1, ?_⟩⟩
        rw [List.getLast?_cons]
        rw [d2]; rfl
    · rw [if_neg hw] at hs ⊢
      have : l.length ≤ p := hs
      refine ⟨fun h => by omega, fun _ => rfl, fun q hq => ?_⟩
      simp at hq
/-- What Verify's OK says. -/
structure WholeC (l : List UInt8) : Prop where
  ne : l ≠ []
  zero : 0 ∈ startsC l
  whole : ∀ q ∈ startsC l, wholeC l (q : Int)
  jump : ∀ q ∈ startsC l, 2 ≤ (atC l (q : Int)).toNat → (atC l (q : Int)).toNat ≤ 4 → (operC l (q : Int)).toNat ∈ startsC l
  next : ∀ q ∈ startsC l, (atC l (q : Int)).toNat ≠ 0 → (atC l (q : Int)).toNat ≠ 2 → (atC l (q : Int)).toNat ≠ 5 → q + sizeC (atC l (q : Int)) ∈ startsC l
theorem verify_whole {l : List UInt8} (h : (verifyC l).1 = 0) : WholeC l := by
  unfold verifyC at h
  by_cases h1 : 1024 < l.length
  · rw [if_pos h1] at h; cases h
  rw [if_neg h1] at h
  by_cases h2 : stopC l < l.length
  · rw [if_pos h2] at h; cases h
  rw [if_neg h2] at h
  rcases hb : (startsC l).find? (badC l) with _ | p
  · rw [hb] at h
    have h' : (if endsC (atC l ((startsC l).getLastD 0 : Nat)) = true ∧ l ≠ [] then ((0 : Int), (0 : Int)) else (5, ((startsC l).getLastD 0 : Nat))).1 = 0 := h
    by_cases h3 : endsC (atC l ((startsC l).getLastD 0 : Nat)) = true ∧ l ≠ []
    · have hlen : 0 < l.length := List.length_pos_iff.2 h3.2
      obtain ⟨a, _, c⟩ := walk_facts l l.length 0 (by omega) (by have : ¬ stopC l < l.length := h2; unfold stopC at this; omega) (by omega)
      refine ⟨h3.2, a hlen, fun q hq => (c q hq).1, fun q hq j1 j2 => ?_, fun q hq n0 n2 n5 => ?_⟩
      · have := List.find?_eq_none.1 hb q hq
        unfold badC at this
        simp [j1, j2] at this
        exact this
      · rcases (c q hq).2 with hh | ⟨_, hh⟩
        · exact hh
        · have he := h3.1
          have hl : (startsC l).getLastD 0 = q := by rw [List.getLastD_eq_getLast?]; show ((walkC l l.length 0).1.getLast?).getD 0 = q; rw [hh]; rfl
          rw [hl] at he
          unfold endsC at he
          simp at he
          omega
    · rw [if_neg h3] at h'; cases h'
  · rw [hb] at h; cases h

theorem step_five (op arg b : Int) (M : Ma) : (stepM op arg b M).2.1 ≠ 5 := by
  have hr : ∀ t g, M.room t g ≠ 5 := by
    intro t g; rw [room_eq]; repeat' split
    all_goals decide
  unfold stepM
  by_cases c1 : op = 1
  · rw [if_pos c1]; unfold Ma.number
    by_cases q : M.room 0 1 ≠ 0
    · rw [if_pos q]; exact hr _ _
    · rw [if_neg q]; show ¬ (0 : Int) = 5; decide
  rw [if_neg c1]
  by_cases c2 : op = 2
  · rw [if_pos c2]; unfold Ma.pass
    by_cases q : M.room 0 0 ≠ 0
    · rw [if_pos q]; exact hr _ _
    · rw [if_neg q]; show ¬ (0 : Int) = 5; decide
  rw [if_neg c2]
  by_cases c3 : op = 3
  · rw [if_pos c3]
    show M.takeN.2.1 ≠ 5
    unfold Ma.takeN
    by_cases q : M.room 1 0 ≠ 0
    · rw [if_pos q]; exact hr _ _
    · rw [if_neg q]; show ¬ (0 : Int) = 5; decide
  rw [if_neg c3]
  by_cases c4 : op = 4
  · rw [if_pos c4]; unfold Ma.call
    by_cases q : M.room 0 0 ≠ 0
    · rw [if_pos q]; exact hr _ _
    · rw [if_neg q]
      by_cases q2 : 12 ≤ M.calls.length
      · rw [if_pos q2]; show ¬ (9 : Int) = 5; decide
      · rw [if_neg q2]; show ¬ (0 : Int) = 5; decide
  rw [if_neg c4]
  by_cases c5 : op = 5
  · rw [if_pos c5]; unfold Ma.ret
    by_cases q : M.room 0 0 ≠ 0
    · rw [if_pos q]; exact hr _ _
    · rw [if_neg q]
      by_cases q2 : M.calls = []
      · rw [if_pos q2]; show ¬ (7 : Int) = 5; decide
      · rw [if_neg q2]; show ¬ (0 : Int) = 5; decide
  rw [if_neg c5]
  unfold Ma.doN
  by_cases q : M.room (takesN (op - 16)) (givesN (op - 16)) ≠ 0
  · rw [if_pos q]; exact hr _ _
  · rw [if_neg q]
    by_cases q2 : M.fault (op - 16) ≠ 0
    · rw [if_pos q2]
      show M.fault (op - 16) ≠ 5
      unfold Ma.fault
      repeat' split
      all_goals decide
    · rw [if_neg q2]; show ¬ (0 : Int) = 5; decide
/-- Where a step goes on, and the calls behind it. -/
theorem step_goes (op arg b : Int) (M : Ma) (he : (stepM op arg b M).2.1 = 0) :
    ((stepM op arg b M).1 = b ∧ op ≠ 2 ∧ op ≠ 5 ∧ op ≠ 4 ∧ (stepM op arg b M).2.2.calls = M.calls) ∨ ((stepM op arg b M).1 = arg ∧ (op = 2 ∨ op = 3) ∧ (stepM op arg b M).2.2.calls = M.calls) ∨
    ((stepM op arg b M).1 = arg ∧ op = 4 ∧ (stepM op arg b M).2.2.calls = M.calls ++ [b]) ∨ (op = 5 ∧ (stepM op arg b M).1 ∈ M.calls ∧ ∀ c ∈ (stepM op arg b M).2.2.calls, c ∈ M.calls) := by
  unfold stepM at he ⊢
  by_cases c1 : op = 1
  · rw [if_pos c1] at he ⊢
    unfold Ma.number at he ⊢
    by_cases q : M.room 0 1 ≠ 0
    · rw [if_pos q] at he; exact absurd he q
    · rw [if_neg q]; exact .inl ⟨rfl, by omega, by omega, by omega, rfl⟩
  rw [if_neg c1] at he ⊢
  by_cases c2 : op = 2
  · rw [if_pos c2] at he ⊢
    unfold Ma.pass at he ⊢
    by_cases q : M.room 0 0 ≠ 0
    · rw [if_pos q] at he; exact absurd he q
    · rw [if_neg q]; exact .inr (.inl ⟨rfl, .inl c2, rfl⟩)
  rw [if_neg c2] at he ⊢
  by_cases c3 : op = 3
  · rw [if_pos c3] at he ⊢
    have he' : M.takeN.2.1 = 0 := he
    have hc : M.takeN.2.2.calls = M.calls := by
      unfold Ma.takeN; split <;> rfl
    by_cases q : M.takeN.1 = 0
    · rw [if_pos q]; exact .inr (.inl ⟨rfl, .inr c3, hc⟩)
    · rw [if_neg q]; exact .inl ⟨rfl, by omega, by omega, by omega, hc⟩
  rw [if_neg c3] at he ⊢
  by_cases c4 : op = 4
  · rw [if_pos c4] at he ⊢
    unfold Ma.call at he ⊢
    by_cases q : M.room 0 0 ≠ 0
    · rw [if_pos q] at he; exact absurd he q
    · rw [if_neg q] at he ⊢
      by_cases q2 : 12 ≤ M.calls.length
      · rw [if_pos q2] at he; cases he
      · rw [if_neg q2]; exact .inr (.inr (.inl ⟨rfl, c4, rfl⟩))
  rw [if_neg c4] at he ⊢
  by_cases c5 : op = 5
  · rw [if_pos c5] at he ⊢
    unfold Ma.ret at he ⊢
    by_cases q : M.room 0 0 ≠ 0
    · rw [if_pos q] at he; exact absurd he q
    · rw [if_neg q] at he ⊢
      by_cases q2 : M.calls = []
      · rw [if_pos q2] at he; cases he
      · rw [if_neg q2]
        refine .inr (.inr (.inr ⟨c5, ?_, fun c hc => (List.dropLast_sublist _).subset hc⟩))
        show M.calls.getLastD 0 ∈ M.calls
        rw [List.getLastD_eq_getLast?, List.getLast?_eq_some_getLast q2]
        exact List.getLast_mem q2
  rw [if_neg c5] at he ⊢
  refine .inl ⟨rfl, c2, c5, c4, ?_⟩
  show (M.doN (op - 16)).2.calls = M.calls
  unfold Ma.doN
  by_cases q : M.room (takesN (op - 16)) (givesN (op - 16)) ≠ 0
  · rw [if_pos q]
  · rw [if_neg q]
    by_cases q2 : M.fault (op - 16) ≠ 0
    · rw [if_pos q2]
    · rw [if_neg q2]
      show (M.tick.act (op - 16)).calls = M.calls
      unfold Ma.act; repeat' split
      all_goals rfl
/-- Code at which Verify answers OK never meets ErrCode (P8, P9). -/
theorem exec_safe {l : List UInt8} (hV : WholeC l) : ∀ (n : Nat) (p : Nat) (M : Ma), p ∈ startsC l → (∀ c ∈ M.calls, ∃ q : Nat, c = (q : Int) ∧ q ∈ startsC l) → (execC l n (p : Int) M).1 ≠ 5
  | 0, p, M, _, _ => by show ¬ (0 : Int) = 5; decide
  | n + 1, p, M, hp, hc => by
    have hw := hV.whole p hp
    unfold execC
    rw [if_pos hw]
    by_cases h0 : atC l (p : Int) = 0
    · rw [if_pos h0]; show ¬ (0 : Int) = 5; decide
    · rw [if_neg h0]
      by_cases he : (stepC l (p : Int) M).2.1 ≠ 0
      · rw [if_pos he]; exact step_five _ _ _ M
      · rw [if_neg he]
        have he' : (stepC l (p : Int) M).2.1 = 0 := by simpa using he
        have hne : (atC l (p : Int)).toNat ≠ 0 := fun h => h0 (UInt8.toNat_inj.1 h)
        have hob := operC_bd l (p : Int)
        have key : ∃ q : Nat, (stepC l (p : Int) M).1 = (q : Int) ∧ q ∈ startsC l ∧ ∀ c ∈ (stepC l (p : Int) M).2.2.calls, ∃ r : Nat, c = (r : Int) ∧ r ∈ startsC l := by
          rcases step_goes _ _ _ M he' with ⟨a, b2, b5, b4, c⟩ | ⟨a, b, c⟩ | ⟨a, b, c⟩ | ⟨b, a, c⟩
          · refine ⟨p + sizeC (atC l (p : Int)), a, hV.next p hp hne (by omega) (by omega), ?_⟩
            intro x hx; rw [show (stepC l (p : Int) M).2.2.calls = M.calls from c] at hx; exact hc x hx
          · refine ⟨(operC l (p : Int)).toNat, ?_, hV.jump p hp (by omega) (by omega), ?_⟩
            · rw [show (stepC l (p : Int) M).1 = operC l (p : Int) from a]; omega
            · intro x hx; rw [show (stepC l (p : Int) M).2.2.calls = M.calls from c] at hx; exact hc x hx
          · refine ⟨(operC l (p : Int)).toNat, ?_, hV.jump p hp (by omega) (by omega), ?_⟩
            · rw [show (stepC l (p : Int) M).1 = operC l (p : Int) from a]; omega
            · intro x hx
              rw [show (stepC l (p : Int) M).2.2.calls = M.calls ++ [(p : Int) + sizeC (atC l (p : Int))] from c] at hx
              rcases List.mem_append.1 hx with hx | hx
              · exact hc x hx
              · rw [List.mem_singleton] at hx
                exact ⟨p + sizeC (atC l (p : Int)), by rw [hx]; omega, hV.next p hp hne (by omega) (by omega)⟩
          · obtain ⟨r, hr, hr2⟩ := hc _ a
            refine ⟨r, hr, hr2, ?_⟩
            intro x hx; exact hc x (c x hx)
        obtain ⟨q, hq1, hq2, hq3⟩ := key
        rw [hq1]
        exact exec_safe hV n q _ hq2 hq3
end Go.Proofs.Ytnanjomnldfidab
