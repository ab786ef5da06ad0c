/-
  Code as plain data: which bytes are whole instructions, what a run of them does (P9), and what holds of every run (P5, P6). No memory.
  Runs of code: what fuel, secret bytes and Verify have to do with them (P6, P8, P9). Plain mathematics.
  Verify as two loops would do it. Plain mathematics.
-/
import Derived.Test.YtnanjomnldfidabDoorMaKeep
set_option linter.unusedSimpArgs false
set_option linter.unusedVariables false
set_option linter.unusedSectionVars false
namespace Go.Proofs.YtnanjomnldfidabDoor

/-- How many bytes an instruction has; the byte at a place; does a whole one stand there; the two bytes behind it. -/
def sizeC (c : UInt8) : Nat := if 1 ≤ c.toNat ∧ c.toNat ≤ 4 then 3 else if c.toNat = 0 ∨ c.toNat = 5 ∨ (16 ≤ c.toNat ∧ c.toNat < 35) then 1 else 0
def atC (l : List UInt8) (p : Int) : UInt8 := l.getD p.toNat 0
abbrev wholeC (l : List UInt8) (p : Int) : Prop := 0 ≤ p ∧ p < (l.length : Int) ∧ 0 < sizeC (atC l p) ∧ p + sizeC (atC l p) ≤ (l.length : Int)
def operC (l : List UInt8) (p : Int) : Int := ((atC l (p + 1)).toNat : Int) * 256 + ((atC l (p + 2)).toNat : Int)
/-- The instruction at p (whole, no halt), and the run. -/
def stepC (l : List UInt8) (p : Int) (M : Ma) : Int × Int × Ma := stepM ((atC l p).toNat : Int) (operC l p) (p + sizeC (atC l p)) M
def execC (l : List UInt8) : Nat → Int → Ma → Int × Ma
  | 0, _, M => (0, M)
  | n + 1, p, M => if wholeC l p then (if atC l p = 0 then (0, M) else if (stepC l p M).2.1 ≠ 0 then ((stepC l p M).2.1, M) else execC l n (stepC l p M).1 (stepC l p M).2.2) else (5, M)

def szI (op : Int) : Nat := if op = 1 ∨ op = 2 ∨ op = 3 ∨ op = 4 then 3 else if op = 0 ∨ op = 5 ∨ (16 ≤ op ∧ op ≤ 34) then 1 else 0
def leadI (op : Int) : Bool := op == 2 || op == 3 || op == 4
theorem sizeC_szI (c : UInt8) (op : Int) (h : (c.toNat : Int) = op) : sizeC c = szI op := by
  subst h
  unfold sizeC szI
  by_cases q : 1 ≤ c.toNat ∧ c.toNat ≤ 4
  · have q' : (c.toNat : Int) = 1 ∨ (c.toNat : Int) = 2 ∨ (c.toNat : Int) = 3 ∨ (c.toNat : Int) = 4 := by omega
    rw [if_pos q, if_pos q']
  · have q' : ¬ ((c.toNat : Int) = 1 ∨ (c.toNat : Int) = 2 ∨ (c.toNat : Int) = 3 ∨ (c.toNat : Int) = 4) := by omega
    rw [if_neg q, if_neg q']
    by_cases q2 : c.toNat = 0 ∨ c.toNat = 5 ∨ (16 ≤ c.toNat ∧ c.toNat < 35)
    · have q3 : (c.toNat : Int) = 0 ∨ (c.toNat : Int) = 5 ∨ (16 ≤ (c.toNat : Int) ∧ (c.toNat : Int) ≤ 34) := by omega
      rw [if_pos q2, if_pos q3]
    · have q3 : ¬ ((c.toNat : Int) = 0 ∨ (c.toNat : Int) = 5 ∨ (16 ≤ (c.toNat : Int) ∧ (c.toNat : Int) ≤ 34)) := by omega
      rw [if_neg q2, if_neg q3]
/-- What instructionAt answers: the instruction, what belongs to it, its size. -/
def insA (l : List UInt8) (p : Int) : Int × Int × Int :=
  if 0 ≤ p ∧ p < (l.length : Int) then (if (l.length : Int) - p < sizeC (atC l p) then (0, 0, 0) else if sizeC (atC l p) = 3 then (((atC l p).toNat : Int), operC l p, 3) else (((atC l p).toNat : Int), 0, (sizeC (atC l p) : Int))) else (0, 0, 0)
theorem sizeC_op {c : UInt8} (h : 0 < sizeC c) (h0 : c ≠ 0) : opOk (c.toNat : Int) := by
  have hc : c.toNat ≠ 0 := fun h => h0 (UInt8.toNat_inj.1 h)
  unfold sizeC at h
  unfold opOk
  by_cases q : 1 ≤ c.toNat ∧ c.toNat ≤ 4
  · omega
  · rw [if_neg q] at h
    by_cases q2 : c.toNat = 0 ∨ c.toNat = 5 ∨ (16 ≤ c.toNat ∧ c.toNat < 35)
    · omega
    · rw [if_neg q2] at h; omega
theorem operC_bd (l : List UInt8) (p : Int) : 0 ≤ operC l p ∧ operC l p < 65536 := by
  unfold operC
  have h1 := (atC l (p + 1)).toNat_lt
  have h2 := (atC l (p + 2)).toNat_lt
  omega

/-- What a step that goes well leaves. -/
theorem stepM_cases (op arg b : Int) (M : Ma) (P : Ma → Prop) (he : (stepM op arg b M).2.1 = 0)
    (h1 : op = 1 → M.room 0 1 = 0 → P ((M.push arg).tick)) (h2 : M.room 0 0 = 0 → P M.tick) (h3 : M.room 1 0 = 0 → P M.tick.pop) (h4 : ∀ C, M.room 0 0 = 0 → P { M.tick with calls := C })
    (h6 : M.room (takesN (op - 16)) (givesN (op - 16)) = 0 → M.fault (op - 16) = 0 → P (M.tick.act (op - 16))) : P (stepM op arg b M).2.2 := by
  unfold stepM at he ⊢
  by_cases c1 : op = 1
  · rw [if_pos c1] at he ⊢
    unfold Ma.number at he ⊢
    by_cases q : M.room 0 1 ≠ 0
    · rw [if_pos q] at he; exact absurd he q
    · rw [if_neg q]; exact h1 c1 (by simpa using q)
  rw [if_neg c1] at he ⊢
  by_cases c2 : op = 2
  · rw [if_pos c2] at he ⊢
    unfold Ma.pass at he ⊢
    by_cases q : M.room 0 0 ≠ 0
    · rw [if_pos q] at he; exact absurd he q
    · rw [if_neg q]; exact h2 (by simpa using q)
  rw [if_neg c2] at he ⊢
  by_cases c3 : op = 3
  · rw [if_pos c3] at he ⊢
    have he' : M.takeN.2.1 = 0 := he
    show P M.takeN.2.2
    unfold Ma.takeN at he' ⊢
    by_cases q : M.room 1 0 ≠ 0
    · rw [if_pos q] at he'; exact absurd he' q
    · rw [if_neg q]; exact h3 (by simpa using q)
  rw [if_neg c3] at he ⊢
  by_cases c4 : op = 4
  · rw [if_pos c4] at he ⊢
    unfold Ma.call at he ⊢
    by_cases q : M.room 0 0 ≠ 0
    · rw [if_pos q] at he; exact absurd he q
    · rw [if_neg q] at he ⊢
      by_cases q2 : 12 ≤ M.calls.length
      · rw [if_pos q2] at he; cases he
      · rw [if_neg q2]; exact h4 _ (by simpa using q)
  rw [if_neg c4] at he ⊢
  by_cases c5 : op = 5
  · rw [if_pos c5] at he ⊢
    unfold Ma.ret at he ⊢
    by_cases q : M.room 0 0 ≠ 0
    · rw [if_pos q] at he; exact absurd he q
    · rw [if_neg q] at he ⊢
      by_cases q2 : M.calls = []
      · rw [if_pos q2] at he; cases he
      · rw [if_neg q2]; exact h4 _ (by simpa using q)
  rw [if_neg c5] at he ⊢
  unfold Ma.doN at he ⊢
  by_cases q : M.room (takesN (op - 16)) (givesN (op - 16)) ≠ 0
  · rw [if_pos q] at he; exact absurd he q
  · rw [if_neg q] at he ⊢
    by_cases q2 : M.fault (op - 16) ≠ 0
    · rw [if_pos q2] at he; exact absurd he q2
    · rw [if_neg q2]; exact h6 (by simpa using q) (by simpa using q2)

section
variable (M : Ma) (n : Int)
theorem act_out : (M.act n).out = if n = 16 then M.out ++ [byteOf M.top] else M.out := by
  unfold Ma.act
  by_cases h : n = 16
  · subst h; rfl
  · rw [if_neg h]; repeat' split
    all_goals first | rfl | (exact absurd ‹n = 16› h)
theorem act_mark : (M.act n).mark = if n = 18 then M.top else M.mark := by
  unfold Ma.act
  by_cases h : n = 18
  · subst h; rfl
  · rw [if_neg h]; repeat' split
    all_goals first | rfl | (exact absurd ‹n = 18› h)
theorem act_image : (M.act n).image = if n = 15 then M.image.set M.top.toNat (byteOf M.pop.top) else M.image := by
  unfold Ma.act
  by_cases h : n = 15
  · subst h; rfl
  · rw [if_neg h]; repeat' split
    all_goals first | rfl | (exact absurd ‹n = 15› h)
theorem act_rights : (M.act n).rights = M.rights := by unfold Ma.act; repeat' split
                                                       all_goals rfl
theorem act_fence : (M.act n).fence = M.fence := by unfold Ma.act; repeat' split
                                                    all_goals rfl
theorem act_kernel : (M.act n).kernel = M.kernel := by unfold Ma.act; repeat' split
                                                       all_goals rfl
theorem act_used : (M.act n).used = M.used := by unfold Ma.act; repeat' split
                                                 all_goals rfl
end

theorem fault_right {M : Ma} {n : Int} (h : M.fault n = 0) : (n = 16 → noRight M.rights 1 = false) ∧ (n = 18 → noRight M.rights 8 = false) ∧ (n = 15 → M.fence ≤ M.top ∧ M.top < M.image.length) ∧
    (n = 14 → M.top < M.image.length ∧ (M.kernel ≤ M.top → M.top < M.fence → noRight M.rights 4 = false)) := by
  unfold Ma.fault at h
  by_cases q1 : (n = 16 ∧ noRight M.rights 1 = true) ∨ (n = 17 ∧ noRight M.rights 2 = true) ∨ (n = 18 ∧ noRight M.rights 8 = true)
  · rw [if_pos q1] at h; cases h
  rw [if_neg q1] at h
  by_cases q2 : n = 16 ∧ 64 ≤ M.out.length
  · rw [if_pos q2] at h; cases h
  rw [if_neg q2] at h
  by_cases q3 : (n = 7 ∨ n = 8) ∧ M.top = 0
  · rw [if_pos q3] at h; cases h
  rw [if_neg q3] at h
  by_cases q4 : n = 14 ∧ ((M.image.length : Int) ≤ M.top ∨ (M.kernel ≤ M.top ∧ M.top < M.fence ∧ noRight M.rights 4 = true))
  · rw [if_pos q4] at h; cases h
  rw [if_neg q4] at h
  by_cases q5 : n = 15 ∧ (M.top < M.fence ∨ (M.image.length : Int) ≤ M.top)
  · rw [if_pos q5] at h; cases h
  refine ⟨fun e => ?_, fun e => ?_, fun e => ?_, fun e => ?_⟩
  · cases hh : noRight M.rights 1 with
    | false => rfl
    | true => exact absurd (.inl ⟨e, hh⟩) q1
  · cases hh : noRight M.rights 8 with
    | false => rfl
    | true => exact absurd (.inr (.inr ⟨e, hh⟩)) q1
  · have := fun hh => q5 ⟨e, hh⟩
    omega
  · refine ⟨?_, fun a b => ?_⟩
    · have := fun hh => q4 ⟨e, .inl hh⟩
      omega
    · cases hh : noRight M.rights 4 with
      | false => rfl
      | true => exact absurd ⟨e, .inr ⟨a, b, hh⟩⟩ q4

/-- What holds of a run: at its start, behind each step, at its end. -/
theorem execC_inv {l : List UInt8} {Inv : Ma → Prop} (hstep : ∀ p M, wholeC l p → atC l p ≠ 0 → Inv M → (stepC l p M).2.1 = 0 → Inv (stepC l p M).2.2) : ∀ n p M, Inv M → Inv (execC l n p M).2
  | 0, p, M, h => h
  | n + 1, p, M, h => by
    unfold execC
    by_cases hw : wholeC l p
    · rw [if_pos hw]
      by_cases h0 : atC l p = 0
      · rw [if_pos h0]; exact h
      · rw [if_neg h0]
        by_cases he : (stepC l p M).2.1 ≠ 0
        · rw [if_pos he]; exact h
        · rw [if_neg he]; exact execC_inv hstep n _ _ (hstep p M hw h0 h (by simpa using he))
    · rw [if_neg hw]; exact h

/-- The bounds of a run (P5, P6). -/
structure Bounds (B : Ma) (M : Ma) : Prop where
  fine : Fine M
  fuel : M.fuel = B.fuel
  rights : M.rights = B.rights
  kernel : M.kernel = B.kernel
  fence : M.fence = B.fence
  len : M.image.length = B.image.length
  sealed : M.image.take B.fence.toNat = B.image.take B.fence.toNat
  emit : noRight B.rights 1 = true → M.out = []
  mark : noRight B.rights 8 = true → M.mark = 0
  out : (M.out.length : Int) ≤ M.used
theorem Bounds.step {B M : Ma} (h : Bounds B M) (hB : 0 ≤ B.fence) {op arg b : Int} (ho : opOk op) (ha : 0 ≤ arg ∧ arg < 65536) (he : (stepM op arg b M).2.1 = 0) : Bounds B (stepM op arg b M).2.2 := by
  have hu := step_used op arg b M he ho h.fine.ok (fun _ => ha)
  have hr := step_room op arg b M he
  have hfu := step_fuel op arg b M
  have hfine : Fine (stepM op arg b M).2.2 := ⟨hu.2, by rw [hu.1, hfu]; omega⟩
  have hrest : (stepM op arg b M).2.2.rights = M.rights ∧ (stepM op arg b M).2.2.kernel = M.kernel ∧ (stepM op arg b M).2.2.fence = M.fence ∧ (stepM op arg b M).2.2.image.length = M.image.length ∧
      (stepM op arg b M).2.2.image.take M.fence.toNat = M.image.take M.fence.toNat ∧ (noRight M.rights 1 = true → (stepM op arg b M).2.2.out = M.out) ∧ (noRight M.rights 8 = true → (stepM op arg b M).2.2.mark = M.mark) ∧ (stepM op arg b M).2.2.out.length ≤ M.out.length + 1 := by
    refine stepM_cases op arg b M (fun N => N.rights = M.rights ∧ N.kernel = M.kernel ∧ N.fence = M.fence ∧ N.image.length = M.image.length ∧ N.image.take M.fence.toNat = M.image.take M.fence.toNat ∧ (noRight M.rights 1 = true → N.out = M.out) ∧ (noRight M.rights 8 = true → N.mark = M.mark) ∧ N.out.length ≤ M.out.length + 1) he ?_ ?_ ?_ ?_ ?_
    · exact fun _ _ => ⟨rfl, rfl, rfl, rfl, rfl, fun _ => rfl, fun _ => rfl, Nat.le_succ _⟩
    · exact fun _ => ⟨rfl, rfl, rfl, rfl, rfl, fun _ => rfl, fun _ => rfl, Nat.le_succ _⟩
    · exact fun _ => ⟨rfl, rfl, rfl, rfl, rfl, fun _ => rfl, fun _ => rfl, Nat.le_succ _⟩
    · exact fun _ _ => ⟨rfl, rfl, rfl, rfl, rfl, fun _ => rfl, fun _ => rfl, Nat.le_succ _⟩
    · intro _ hf
      obtain ⟨r1, r2, r3, _⟩ := fault_right hf
      generalize op - 16 = n at *
      refine ⟨act_rights _ _, act_kernel _ _, act_fence _ _, ?_, ?_, fun hn => ?_, fun hn => ?_, ?_⟩
      · rw [act_image]; split
        · rw [List.length_set]; rfl
        · rfl
      · rw [act_image]; split
        · rename_i h15
          have h3 := r3 h15
          show (M.image.set M.top.toNat _).take M.fence.toNat = _
          rw [List.take_set_of_le (by omega)]
        · rfl
      · rw [act_out]; split
        · rename_i h16
          rw [r1 h16] at hn; cases hn
        · rfl
      · rw [act_mark]; split
        · rename_i h18
          rw [r2 h18] at hn; cases hn
        · rfl
      · rw [act_out]; split
        · show (M.out ++ [_]).length ≤ _; simp
        · show M.out.length ≤ _; omega
  obtain ⟨a1, a2, a3, a4, a5, a6, a7, a8⟩ := hrest
  refine ⟨hfine, hfu.trans h.fuel, a1.trans h.rights, a2.trans h.kernel, a3.trans h.fence, a4.trans h.len, ?_, fun hn => ?_, fun hn => ?_, ?_⟩
  · rw [← h.fence]; rw [a5, h.fence]; exact h.sealed
  · rw [a6 (by rw [h.rights]; exact hn)]; exact h.emit hn
  · rw [a7 (by rw [h.rights]; exact hn)]; exact h.mark hn
  · have := h.out
    rw [hu.1]; omega
theorem exec_bounds (l : List UInt8) (n : Nat) (p : Int) {B : Ma} (hB : 0 ≤ B.fence) (h : Bounds B B) : Bounds B (execC l n p B).2 :=
  execC_inv (Inv := Bounds B) (fun p M hw h0 hM he => hM.step hB (sizeC_op hw.2.2.1 h0) (operC_bd l p) he) n p B h

/-- The turns that a run has left. -/
theorem execC_stable (l : List UInt8) : ∀ (n m : Nat) (p : Int) (M : Ma), Fine M → (M.fuel - M.used).toNat < n → (M.fuel - M.used).toNat < m → execC l n p M = execC l m p M
  | 0, m, p, M, _, hn, _ => by omega
  | n + 1, 0, p, M, _, _, hm => by omega
  | n + 1, m + 1, p, M, h, hn, hm => by
    unfold execC
    by_cases hw : wholeC l p
    · rw [if_pos hw, if_pos hw]
      by_cases h0 : atC l p = 0
      · rw [if_pos h0, if_pos h0]
      · rw [if_neg h0, if_neg h0]
        by_cases he : (stepC l p M).2.1 ≠ 0
        · rw [if_pos he, if_pos he]
        · rw [if_neg he, if_neg he]
          have he' : (stepC l p M).2.1 = 0 := by simpa using he
          have hu := step_used _ _ _ M he' (sizeC_op hw.2.2.1 h0) h.ok (fun _ => operC_bd l p)
          have hr := step_room _ _ _ M he'
          have hfu := step_fuel ((atC l p).toNat : Int) (operC l p) (p + sizeC (atC l p)) M
          have hu1 : (stepC l p M).2.2.used = M.used + 1 := hu.1
          have hf1 : (stepC l p M).2.2.fuel = M.fuel := hfu
          have hok : (stepC l p M).2.2.Ok := hu.2
          exact execC_stable l n m _ _ ⟨hok, by omega⟩ (by omega) (by omega)
    · rw [if_neg hw, if_neg hw]

/-- More fuel (P5). -/
def moreF (d : Int) (M : Ma) : Ma := { M with fuel := M.fuel + d }
theorem more_lift (d : Int) (M : Ma) : moreF d M = liftM 0 d M.calls M := by unfold moreF liftM; simp only [Int.add_zero]
theorem more_room {d : Int} (hd : 0 ≤ d) (M : Ma) (t g : Int) (h : M.room t g ≠ 6) : (moreF d M).room t g = M.room t g := by rw [more_lift]; exact lift_room hd M t g h
theorem step_more {d : Int} (hd : 0 ≤ d) (op arg b : Int) (M : Ma) (h6 : (stepM op arg b M).2.1 ≠ 6) : stepM op arg b (moreF d M) = ((stepM op arg b M).1, (stepM op arg b M).2.1, moreF d (stepM op arg b M).2.2) := by
  unfold stepM at h6 ⊢
  by_cases c1 : op = 1
  · rw [if_pos c1] at h6 ⊢
    rw [if_pos c1]
    unfold Ma.number at h6 ⊢
    by_cases q : M.room 0 1 ≠ 0
    · rw [if_pos q] at h6 ⊢
      have := more_room hd M 0 1 h6
      rw [this, if_pos q]
    · have hq : M.room 0 1 = 0 := by simpa using q
      have := more_room hd M 0 1 (by rw [hq]; decide)
      rw [if_neg q, this, if_neg q]; rfl
  rw [if_neg c1] at h6 ⊢
  rw [if_neg c1]
  by_cases c2 : op = 2
  · rw [if_pos c2] at h6 ⊢
    rw [if_pos c2]
    unfold Ma.pass at h6 ⊢
    by_cases q : M.room 0 0 ≠ 0
    · rw [if_pos q] at h6 ⊢
      have := more_room hd M 0 0 h6
      rw [this, if_pos q]
    · have hq : M.room 0 0 = 0 := by simpa using q
      have := more_room hd M 0 0 (by rw [hq]; decide)
      rw [if_neg q, this, if_neg q]; rfl
  rw [if_neg c2] at h6 ⊢
  rw [if_neg c2]
  by_cases c3 : op = 3
  · rw [if_pos c3] at h6 ⊢
    rw [if_pos c3]
    have h6' : M.takeN.2.1 ≠ 6 := h6
    have key : (moreF d M).takeN = (M.takeN.1, M.takeN.2.1, moreF d M.takeN.2.2) := by
      unfold Ma.takeN at h6' ⊢
      by_cases q : M.room 1 0 ≠ 0
      · rw [if_pos q] at h6' ⊢
        have := more_room hd M 1 0 h6'
        rw [this, if_pos q]
      · have hq : M.room 1 0 = 0 := by simpa using q
        have := more_room hd M 1 0 (by rw [hq]; decide)
        rw [if_neg q, this, if_neg q]; rfl
    rw [key]
  rw [if_neg c3] at h6 ⊢
  rw [if_neg c3]
  by_cases c4 : op = 4
  · rw [if_pos c4] at h6 ⊢
    rw [if_pos c4]
    have h6' : (M.call b).1 ≠ 6 := h6
    have key : (moreF d M).call b = ((M.call b).1, moreF d (M.call b).2) := by
      unfold Ma.call at h6' ⊢
      by_cases q : M.room 0 0 ≠ 0
      · rw [if_pos q] at h6' ⊢
        have := more_room hd M 0 0 h6'
        rw [this, if_pos q]
      · have hq : M.room 0 0 = 0 := by simpa using q
        have := more_room hd M 0 0 (by rw [hq]; decide)
        rw [if_neg q, this, if_neg q]
        have hc : (moreF d M).calls = M.calls := rfl
        rw [hc]
        by_cases q2 : 12 ≤ M.calls.length
        · rw [if_pos q2, if_pos q2]
        · rw [if_neg q2, if_neg q2]; rfl
    rw [key]
  rw [if_neg c4] at h6 ⊢
  rw [if_neg c4]
  by_cases c5 : op = 5
  · rw [if_pos c5] at h6 ⊢
    rw [if_pos c5]
    unfold Ma.ret at h6 ⊢
    by_cases q : M.room 0 0 ≠ 0
    · rw [if_pos q] at h6 ⊢
      have := more_room hd M 0 0 h6
      rw [this, if_pos q]
    · have hq : M.room 0 0 = 0 := by simpa using q
      have := more_room hd M 0 0 (by rw [hq]; decide)
      rw [if_neg q, this, if_neg q]
      have hc : (moreF d M).calls = M.calls := rfl
      rw [hc]
      by_cases q2 : M.calls = []
      · rw [if_pos q2, if_pos q2]
      · rw [if_neg q2, if_neg q2]; rfl
  rw [if_neg c5] at h6 ⊢
  rw [if_neg c5]
  have h6' : (M.doN (op - 16)).1 ≠ 6 := h6
  have key : (moreF d M).doN (op - 16) = ((M.doN (op - 16)).1, moreF d (M.doN (op - 16)).2) := by
    generalize op - 16 = n at *
    unfold Ma.doN at h6' ⊢
    by_cases q : M.room (takesN n) (givesN n) ≠ 0
    · rw [if_pos q] at h6' ⊢
      have := more_room hd M _ _ h6'
      rw [this, if_pos q]
    · have hq : M.room (takesN n) (givesN n) = 0 := by simpa using q
      have := more_room hd M _ _ (show M.room (takesN n) (givesN n) ≠ 6 by rw [hq]; decide)
      have hf : (moreF d M).fault n = M.fault n := rfl
      rw [if_neg q, this, if_neg q, hf]
      by_cases q2 : M.fault n ≠ 0
      · rw [if_pos q2, if_pos q2]
      · rw [if_neg q2, if_neg q2]
        have ha := lift_act (du := 0) (df := d) (C := M.calls) M n
        rw [← more_lift] at ha
        rw [ha]
        have hcl : (M.tick.act n).calls = M.calls := by unfold Ma.act; repeat' split
                                                        all_goals rfl
        rw [← hcl, ← more_lift]
  rw [key]
theorem exec_more (l : List UInt8) {d : Int} (hd : 0 ≤ d) : ∀ (n : Nat) (p : Int) (M : Ma), (execC l n p M).1 ≠ 6 → execC l n p (moreF d M) = ((execC l n p M).1, moreF d (execC l n p M).2)
  | 0, p, M, _ => rfl
  | n + 1, p, M, h6 => by
    unfold execC at h6 ⊢
    by_cases hw : wholeC l p
    · rw [if_pos hw] at h6 ⊢
      rw [if_pos hw]
      by_cases h0 : atC l p = 0
      · rw [if_pos h0, if_pos h0]
      · rw [if_neg h0] at h6 ⊢
        rw [if_neg h0]
        by_cases he : (stepC l p M).2.1 ≠ 0
        · rw [if_pos he] at h6 ⊢
          have hm := step_more hd ((atC l p).toNat : Int) (operC l p) (p + sizeC (atC l p)) M h6
          have hm' : stepC l p (moreF d M) = ((stepC l p M).1, (stepC l p M).2.1, moreF d (stepC l p M).2.2) := hm
          rw [hm', if_pos he]
        · rw [if_neg he] at h6 ⊢
          have he' : (stepC l p M).2.1 = 0 := by simpa using he
          have hm' : stepC l p (moreF d M) = ((stepC l p M).1, (stepC l p M).2.1, moreF d (stepC l p M).2.2) := step_more hd ((atC l p).toNat : Int) (operC l p) (p + sizeC (atC l p)) M (by show (stepC l p M).2.1 ≠ 6; rw [he']; decide)
          rw [hm', if_neg he]
          exact exec_more l hd n _ _ h6
    · rw [if_neg hw, if_neg hw]
end Go.Proofs.YtnanjomnldfidabDoor

set_option linter.unusedSimpArgs false
set_option linter.unusedVariables false
set_option linter.unusedSectionVars false
namespace Go.Proofs.YtnanjomnldfidabDoor

/-- What a run puts out it never takes back. -/
structure Grows (M N : Ma) : Prop where
  used : M.used ≤ N.used
  out : M.out <+: N.out
theorem Grows.refl (M : Ma) : Grows M M := ⟨Int.le_refl _, List.prefix_rfl⟩
theorem Grows.trans {M N K : Ma} (h : Grows M N) (h2 : Grows N K) : Grows M K := ⟨Int.le_trans h.used h2.used, h.out.trans h2.out⟩
theorem grows_step (op arg b : Int) (M : Ma) (he : (stepM op arg b M).2.1 = 0) : Grows M (stepM op arg b M).2.2 := by
  have hle : M.used ≤ M.used + 1 := by omega
  refine stepM_cases op arg b M (fun N => Grows M N) he (fun _ _ => ⟨hle, List.prefix_rfl⟩) (fun _ => ⟨hle, List.prefix_rfl⟩) (fun _ => ⟨hle, List.prefix_rfl⟩) (fun _ _ => ⟨hle, List.prefix_rfl⟩) (fun _ _ => ⟨by rw [act_used]; exact hle, ?_⟩)
  rw [act_out]; split
  · exact List.prefix_append _ _
  · exact List.prefix_rfl
theorem exec_grows (l : List UInt8) (n : Nat) (p : Int) (M : Ma) : Grows M (execC l n p M).2 :=
  execC_inv (Inv := Grows M) (fun p N _ _ h he => h.trans (grows_step _ _ _ N he)) n p M (Grows.refl M)
/-- A run that stops for want of fuel goes on with more. -/
theorem exec_six (l : List UInt8) {d : Int} (hd : 0 ≤ d) : ∀ (n m : Nat) (p : Int) (M : Ma), n ≤ m → (execC l n p M).1 = 6 → Grows (execC l n p M).2 (execC l m p (moreF d M)).2 ∧ (execC l n p M).2.fuel ≤ (execC l n p M).2.used
  | 0, m, p, M, _, h => by cases h
  | n + 1, 0, p, M, h, _ => by omega
  | n + 1, m + 1, p, M, hnm, h6 => by
    have hg : Grows M (execC l (m + 1) p (moreF d M)).2 := ⟨(exec_grows l (m + 1) p (moreF d M)).used, (exec_grows l (m + 1) p (moreF d M)).out⟩
    unfold execC at h6 hg ⊢
    by_cases hw : wholeC l p
    · rw [if_pos hw] at h6 hg ⊢
      rw [if_pos hw]
      by_cases h0 : atC l p = 0
      · rw [if_pos h0] at h6; cases h6
      · rw [if_neg h0] at h6 hg ⊢
        rw [if_neg h0]
        by_cases he : (stepC l p M).2.1 ≠ 0
        · rw [if_pos he] at h6 ⊢
          exact ⟨hg, step_six _ _ _ M h6⟩
        · rw [if_neg he] at h6 ⊢
          have he' : (stepC l p M).2.1 = 0 := by simpa using he
          have hm' : stepC l p (moreF d M) = ((stepC l p M).1, (stepC l p M).2.1, moreF d (stepC l p M).2.2) := step_more hd ((atC l p).toNat : Int) (operC l p) (p + sizeC (atC l p)) M (by show (stepC l p M).2.1 ≠ 6; rw [he']; decide)
          rw [hm', if_neg he]
          exact exec_six l hd n m _ _ (by omega) h6
    · rw [if_neg hw] at h6; cases h6
/-- A run that ends well has come to a halt. -/
theorem exec_halt (l : List UInt8) : ∀ (n : Nat) (p : Int) (M : Ma), Fine M → (M.fuel - M.used).toNat < n → (execC l n p M).1 = 0 → ∃ q : Nat, q < l.length ∧ l[q]? = some 0
  | 0, p, M, _, hn, _ => by omega
  | n + 1, p, M, h, hn, h0' => by
    unfold execC at h0'
    by_cases hw : wholeC l p
    · rw [if_pos hw] at h0'
      by_cases h0 : atC l p = 0
      · have h1 := hw.1
        have h2 := hw.2.1
        refine ⟨p.toNat, by omega, ?_⟩
        have : l[p.toNat]? = some (l.getD p.toNat 0) := by
          rw [List.getD_eq_getElem?_getD, List.getElem?_eq_getElem (by omega)]; rfl
        rw [this]
        exact congrArg some h0
      · rw [if_neg h0] at h0'
        by_cases he : (stepC l p M).2.1 ≠ 0
        · rw [if_pos he] at h0'; exact absurd h0' he
        · rw [if_neg he] at h0'
          have he' : (stepC l p M).2.1 = 0 := by simpa using he
          have hu := step_used _ _ _ M he' (sizeC_op hw.2.2.1 h0) h.ok (fun _ => operC_bd l p)
          have hr := step_room _ _ _ M he'
          have hf1 : (stepC l p M).2.2.fuel = M.fuel := step_fuel ((atC l p).toNat : Int) (operC l p) (p + sizeC (atC l p)) M
          have hu1 : (stepC l p M).2.2.used = M.used + 1 := hu.1
          have hok : (stepC l p M).2.2.Ok := hu.2
          exact exec_halt l n _ _ ⟨hok, by omega⟩ (by omega) h0'
    · rw [if_neg hw] at h0'; cases h0'

/-- The same machine with other bytes in the image. -/
def withI (M : Ma) (I : List UInt8) : Ma := { M with image := I }
/-- Two images that differ in the secret bytes alone; no right to look. -/
structure SecR (M : Ma) (I : List UInt8) : Prop where
  len : I.length = M.image.length
  same : ∀ i : Nat, ((i : Int) < M.kernel ∨ M.fence ≤ (i : Int)) → I.getD i 0 = M.image.getD i 0
  look : noRight M.rights 4 = true
theorem SecR.of {M N : Ma} {I : List UInt8} (h : SecR M I) (h1 : N.image = M.image) (h2 : N.kernel = M.kernel) (h3 : N.fence = M.fence) (h4 : N.rights = M.rights) : SecR N I :=
  ⟨by rw [h1]; exact h.len, by rw [h1, h2, h3]; exact h.same, by rw [h4]; exact h.look⟩
theorem top_nonneg {M : Ma} (h : M.Ok) : 0 ≤ M.top := by
  unfold Ma.top
  rcases hs : M.stack.getLast? with _ | x
  · rw [List.getLastD_eq_getLast?, hs]; exact Int.le_refl _
  · rw [List.getLastD_eq_getLast?, hs]
    exact (h.nums x (List.mem_of_getLast? hs)).1
theorem sec_fault {M : Ma} {I : List UInt8} (h : SecR M I) (n : Int) : (withI M I).fault n = M.fault n := by
  unfold Ma.fault
  show (if (n = 16 ∧ noRight M.rights 1 = true) ∨ (n = 17 ∧ noRight M.rights 2 = true) ∨ (n = 18 ∧ noRight M.rights 8 = true) then (10 : Int)
    else if n = 16 ∧ 64 ≤ M.out.length then 11
    else if (n = 7 ∨ n = 8) ∧ M.top = 0 then 12
    else if n = 14 ∧ ((I.length : Int) ≤ M.top ∨ (M.kernel ≤ M.top ∧ M.top < M.fence ∧ noRight M.rights 4 = true)) then 13
    else if n = 15 ∧ (M.top < M.fence ∨ (I.length : Int) ≤ M.top) then 13
    else 0) = _
  rw [h.len]
theorem sec_act {M : Ma} {I : List UInt8} (h : SecR M I) (hok : M.Ok) (n : Int) (hf : M.fault n = 0) : ∃ J, (withI M I).tick.act n = withI (M.tick.act n) J ∧ SecR (M.tick.act n) J := by
  obtain ⟨_, _, r3, r4⟩ := fault_right hf
  by_cases c4 : n = 14
  · subst c4
    have ht := top_nonneg hok
    have hr := r4 rfl
    have hlk := h.look
    have hs := h.same M.top.toNat (by
      by_cases k1 : M.kernel ≤ M.top
      · by_cases k2 : M.top < M.fence
        · rw [hr.2 k1 k2] at hlk; cases hlk
        · omega
      · omega)
    refine ⟨I, ?_, h.of (by rw [act_image]; rfl) (act_kernel _ _) (act_fence _ _) (act_rights _ _)⟩
    show (((withI M I).tick.pop).push ((I.getD M.top.toNat 0).toNat : Int)) = withI (M.tick.pop.push ((M.image.getD M.top.toNat 0).toNat : Int)) I
    rw [hs]
    rfl
  by_cases c9 : n = 15
  · subst c9
    have hr := r3 rfl
    refine ⟨I.set M.top.toNat (byteOf M.pop.top), rfl, ⟨?_, fun i hi => ?_, ?_⟩⟩
    · rw [act_image, if_pos rfl, List.length_set]
      show I.length = (M.image.set _ _).length
      rw [List.length_set]; exact h.len
    · rw [act_kernel, act_fence] at hi
      have hs := h.same i hi
      rw [act_image, if_pos rfl]
      show (I.set M.top.toNat (byteOf M.pop.top)).getD i 0 = (M.image.set M.top.toNat (byteOf M.pop.top)).getD i 0
      rw [List.getD_eq_getElem?_getD, List.getD_eq_getElem?_getD] at hs
      rw [List.getD_eq_getElem?_getD, List.getD_eq_getElem?_getD, List.getElem?_set, List.getElem?_set, h.len]
      split
      · rfl
      · exact hs
    · rw [act_rights]; exact h.look
  refine ⟨I, ?_, h.of (by rw [act_image, if_neg c9]; rfl) (act_kernel _ _) (act_fence _ _) (act_rights _ _)⟩
  have ht : (withI M I).tick = withI M.tick I := rfl
  rw [ht]
  generalize M.tick = N
  unfold Ma.act
  by_cases c1 : n = 17
  · rw [if_pos c1, if_pos c1]
    have e1 : (withI N I).pos = N.pos := rfl
    have e2 : (withI N I).inp = N.inp := rfl
    rw [e1, e2]
    by_cases c : N.pos < N.inp.size
    · rw [if_pos c, if_pos c]; rfl
    · rw [if_neg c, if_neg c]; rfl
  rw [if_neg c1, if_neg c1]
  by_cases c2 : n = 1
  · rw [if_pos c2, if_pos c2]; rfl
  rw [if_neg c2, if_neg c2]
  by_cases c3 : n = 0
  · rw [if_pos c3, if_pos c3]; rfl
  rw [if_neg c3, if_neg c3, if_neg c4, if_neg c4]
  by_cases c5 : n = 16
  · rw [if_pos c5, if_pos c5]; rfl
  rw [if_neg c5, if_neg c5]
  by_cases c6 : n = 18
  · rw [if_pos c6, if_pos c6]; rfl
  rw [if_neg c6, if_neg c6]
  by_cases c7 : n = 2
  · rw [if_pos c7, if_pos c7]; rfl
  rw [if_neg c7, if_neg c7]
  by_cases c8 : n = 3
  · rw [if_pos c8, if_pos c8]; rfl
  rw [if_neg c8, if_neg c8, if_neg c9, if_neg c9]; rfl
theorem sec_step {M : Ma} {I : List UInt8} (h : SecR M I) (hok : M.Ok) (op arg b : Int) : ∃ J, stepM op arg b (withI M I) = ((stepM op arg b M).1, (stepM op arg b M).2.1, withI (stepM op arg b M).2.2 J) ∧ SecR (stepM op arg b M).2.2 J := by
  have hroom : ∀ t g, (withI M I).room t g = M.room t g := fun _ _ => rfl
  unfold stepM
  by_cases c1 : op = 1
  · rw [if_pos c1, if_pos c1]
    unfold Ma.number
    rw [hroom]
    by_cases q : M.room 0 1 ≠ 0
    · rw [if_pos q, if_pos q]; exact ⟨I, rfl, h⟩
    · rw [if_neg q, if_neg q]; exact ⟨I, rfl, h.of rfl rfl rfl rfl⟩
  rw [if_neg c1, if_neg c1]
  by_cases c2 : op = 2
  · rw [if_pos c2, if_pos c2]
    unfold Ma.pass
    rw [hroom]
    by_cases q : M.room 0 0 ≠ 0
    · rw [if_pos q, if_pos q]; exact ⟨I, rfl, h⟩
    · rw [if_neg q, if_neg q]; exact ⟨I, rfl, h.of rfl rfl rfl rfl⟩
  rw [if_neg c2, if_neg c2]
  by_cases c3 : op = 3
  · rw [if_pos c3, if_pos c3]
    have key : (withI M I).takeN = (M.takeN.1, M.takeN.2.1, withI M.takeN.2.2 I) ∧ SecR M.takeN.2.2 I := by
      unfold Ma.takeN
      rw [hroom]
      by_cases q : M.room 1 0 ≠ 0
      · rw [if_pos q, if_pos q]; exact ⟨rfl, h⟩
      · rw [if_neg q, if_neg q]; exact ⟨rfl, h.of rfl rfl rfl rfl⟩
    refine ⟨I, ?_, key.2⟩
    rw [key.1]
  rw [if_neg c3, if_neg c3]
  by_cases c4 : op = 4
  · rw [if_pos c4, if_pos c4]
    unfold Ma.call
    rw [hroom, show (withI M I).calls = M.calls from rfl]
    by_cases q : M.room 0 0 ≠ 0
    · rw [if_pos q, if_pos q]; exact ⟨I, rfl, h⟩
    · rw [if_neg q, if_neg q]
      by_cases q2 : 12 ≤ M.calls.length
      · rw [if_pos q2, if_pos q2]; exact ⟨I, rfl, h⟩
      · rw [if_neg q2, if_neg q2]; exact ⟨I, rfl, h.of rfl rfl rfl rfl⟩
  rw [if_neg c4, if_neg c4]
  by_cases c5 : op = 5
  · rw [if_pos c5, if_pos c5]
    unfold Ma.ret
    rw [hroom, show (withI M I).calls = M.calls from rfl]
    by_cases q : M.room 0 0 ≠ 0
    · rw [if_pos q, if_pos q]; exact ⟨I, rfl, h⟩
    · rw [if_neg q, if_neg q]
      by_cases q2 : M.calls = []
      · rw [if_pos q2, if_pos q2]; exact ⟨I, rfl, h⟩
      · rw [if_neg q2, if_neg q2]; exact ⟨I, rfl, h.of rfl rfl rfl rfl⟩
  rw [if_neg c5, if_neg c5]
  generalize op - 16 = n
  unfold Ma.doN
  rw [hroom, sec_fault h]
  by_cases q : M.room (takesN n) (givesN n) ≠ 0
  · rw [if_pos q, if_pos q]; exact ⟨I, rfl, h⟩
  · rw [if_neg q, if_neg q]
    by_cases q2 : M.fault n ≠ 0
    · rw [if_pos q2, if_pos q2]; exact ⟨I, rfl, h⟩
    · rw [if_neg q2, if_neg q2]
      obtain ⟨J, hJ, hS⟩ := sec_act h hok n (by simpa using q2)
      exact ⟨J, by rw [hJ], hS⟩
theorem exec_sec (l : List UInt8) : ∀ (n : Nat) (p : Int) (M : Ma) (I : List UInt8), SecR M I → M.Ok → ∃ J, execC l n p (withI M I) = ((execC l n p M).1, withI (execC l n p M).2 J) ∧ SecR (execC l n p M).2 J
  | 0, p, M, I, h, _ => ⟨I, rfl, h⟩
  | n + 1, p, M, I, h, hok => by
    unfold execC
    by_cases hw : wholeC l p
    · rw [if_pos hw, if_pos hw]
      by_cases h0 : atC l p = 0
      · rw [if_pos h0, if_pos h0]; exact ⟨I, rfl, h⟩
      · rw [if_neg h0, if_neg h0]
        obtain ⟨J, hJ, hS⟩ := sec_step h hok ((atC l p).toNat : Int) (operC l p) (p + sizeC (atC l p))
        have hJ' : stepC l p (withI M I) = ((stepC l p M).1, (stepC l p M).2.1, withI (stepC l p M).2.2 J) := hJ
        rw [hJ']
        by_cases he : (stepC l p M).2.1 ≠ 0
        · rw [if_pos he, if_pos he]; exact ⟨I, rfl, h⟩
        · rw [if_neg he, if_neg he]
          have he' : (stepC l p M).2.1 = 0 := by simpa using he
          have hu := step_used _ _ _ M he' (sizeC_op hw.2.2.1 h0) hok (fun _ => operC_bd l p)
          exact exec_sec l n _ _ J hS hu.2
    · rw [if_neg hw, if_neg hw]; exact ⟨I, rfl, h⟩

/-- The instructions, gone through from a place on: where they begin, and where that ends. -/
def walkC (l : List UInt8) : Nat → Nat → List Nat × Nat
  | 0, p => ([], p)
  | n + 1, p => if wholeC l (p : Int) then (p :: (walkC l n (p + sizeC (atC l (p : Int)))).1, (walkC l n (p + sizeC (atC l (p : Int)))).2) else ([], p)
def startsC (l : List UInt8) : List Nat := (walkC l l.length 0).1
def stopC (l : List UInt8) : Nat := (walkC l l.length 0).2
/-- The places of the jumps and calls that lead nowhere. -/
def badC (l : List UInt8) (p : Nat) : Bool := decide (2 ≤ (atC l (p : Int)).toNat) && decide ((atC l (p : Int)).toNat ≤ 4) && !(startsC l).contains (operC l (p : Int)).toNat
def endsC (c : UInt8) : Bool := c.toNat == 0 || c.toNat == 2 || c.toNat == 5
/-- P8. -/
def verifyC (l : List UInt8) : Int × Int :=
  if 1024 < l.length then (1, 0) else if stopC l < l.length then (5, (stopC l : Int))
  else match (startsC l).find? (badC l) with
    | some p => (5, (p : Int))
    | none => if endsC (atC l ((startsC l).getLastD 0 : Nat)) = true ∧ l ≠ [] then (0, 0) else (5, ((startsC l).getLastD 0 : Nat))

theorem walk_facts (l : List UInt8) : ∀ (n p : Nat), l.length ≤ p + n → l.length ≤ (walkC l n p).2 → p ≤ l.length →
    (p < l.length → p ∈ (walkC l n p).1) ∧ (p = l.length → (walkC l n p).1 = []) ∧ ∀ q ∈ (walkC l n p).1, wholeC l (q : Int) ∧ (q + sizeC (atC l (q : Int)) ∈ (walkC l n p).1 ∨ (q + sizeC (atC l (q : Int)) = l.length ∧ (walkC l n p).1.getLast? = some q))
  | 0, p, hn, hs, hp => by
    refine ⟨fun h => by omega, fun _ => rfl, fun q hq => ?_⟩
    simp [walkC] at hq
  | n + 1, p, hn, hs, hp => by
    unfold walkC at hs ⊢
    by_cases hw : wholeC l (p : Int)
    · rw [if_pos hw] at hs ⊢
      have h3 := hw.2.2.1
      have h4 := hw.2.2.2
      obtain ⟨a, b, c⟩ := walk_facts l n (p + sizeC (atC l (p : Int))) (by omega) hs (by omega)
      have h2 := hw.2.1
      refine ⟨fun _ => List.mem_cons_self, fun h => by omega, fun q hq => ?_⟩
      rcases List.mem_cons.1 hq with h | h
      · subst h
        refine ⟨hw, ?_⟩
        by_cases hl : q + sizeC (atC l (q : Int)) < l.length
        · exact .inl (List.mem_cons_of_mem _ (a hl))
        · have he : q + sizeC (atC l (q : Int)) = l.length := by omega
          refine .inr ⟨he, ?_⟩
          rw [b he]; rfl
      · obtain ⟨c1, c2⟩ := c q h
        refine ⟨c1, c2.imp (List.mem_cons_of_mem _) fun ⟨d1, d2⟩ => ⟨d1, ?_⟩⟩
        rw [List.getLast?_cons]
        rw [d2]; rfl
    · rw [if_neg hw] at hs ⊢
      have : l.length ≤ p := hs
      refine ⟨fun h => by omega, fun _ => rfl, fun q hq => ?_⟩
      simp at hq
/-- What Verify's OK says. -/
structure WholeC (l : List UInt8) : Prop where
  ne : l ≠ []
  zero : 0 ∈ startsC l
  whole : ∀ q ∈ startsC l, wholeC l (q : Int)
  jump : ∀ q ∈ startsC l, 2 ≤ (atC l (q : Int)).toNat → (atC l (q : Int)).toNat ≤ 4 → (operC l (q : Int)).toNat ∈ startsC l
  next : ∀ q ∈ startsC l, (atC l (q : Int)).toNat ≠ 0 → (atC l (q : Int)).toNat ≠ 2 → (atC l (q : Int)).toNat ≠ 5 → q + sizeC (atC l (q : Int)) ∈ startsC l
theorem verify_whole {l : List UInt8} (h : (verifyC l).1 = 0) : WholeC l := by
  unfold verifyC at h
  by_cases h1 : 1024 < l.length
  · rw [if_pos h1] at h; cases h
  rw [if_neg h1] at h
  by_cases h2 : stopC l < l.length
  · rw [if_pos h2] at h; cases h
  rw [if_neg h2] at h
  rcases hb : (startsC l).find? (badC l) with _ | p
  · rw [hb] at h
    have h' : (if endsC (atC l ((startsC l).getLastD 0 : Nat)) = true ∧ l ≠ [] then ((0 : Int), (0 : Int)) else (5, ((startsC l).getLastD 0 : Nat))).1 = 0 := h
    by_cases h3 : endsC (atC l ((startsC l).getLastD 0 : Nat)) = true ∧ l ≠ []
    · have hlen : 0 < l.length := List.length_pos_iff.2 h3.2
      obtain ⟨a, _, c⟩ := walk_facts l l.length 0 (by omega) (by have : ¬ stopC l < l.length := h2; unfold stopC at this; omega) (by omega)
      refine ⟨h3.2, a hlen, fun q hq => (c q hq).1, fun q hq j1 j2 => ?_, fun q hq n0 n2 n5 => ?_⟩
      · have := List.find?_eq_none.1 hb q hq
        unfold badC at this
        simp [j1, j2] at this
        exact this
      · rcases (c q hq).2 with hh | ⟨_, hh⟩
        · exact hh
        · have he := h3.1
          have hl : (startsC l).getLastD 0 = q := by rw [List.getLastD_eq_getLast?]; show ((walkC l l.length 0).1.getLast?).getD 0 = q; rw [hh]; rfl
          rw [hl] at he
          unfold endsC at he
          simp at he
          omega
    · rw [if_neg h3] at h'; cases h'
  · rw [hb] at h; cases h

theorem step_five (op arg b : Int) (M : Ma) : (stepM op arg b M).2.1 ≠ 5 := by
  have hr : ∀ t g, M.room t g ≠ 5 := by
    intro t g; rw [room_eq]; repeat' split
    all_goals decide
  unfold stepM
  by_cases c1 : op = 1
  · rw [if_pos c1]; unfold Ma.number
    by_cases q : M.room 0 1 ≠ 0
    · rw [if_pos q]; exact hr _ _
    · rw [if_neg q]; show ¬ (0 : Int) = 5; decide
  rw [if_neg c1]
  by_cases c2 : op = 2
  · rw [if_pos c2]; unfold Ma.pass
    by_cases q : M.room 0 0 ≠ 0
    · rw [if_pos q]; exact hr _ _
    · rw [if_neg q]; show ¬ (0 : Int) = 5; decide
  rw [if_neg c2]
  by_cases c3 : op = 3
  · rw [if_pos c3]
    show M.takeN.2.1 ≠ 5
    unfold Ma.takeN
    by_cases q : M.room 1 0 ≠ 0
    · rw [if_pos q]; exact hr _ _
    · rw [if_neg q]; show ¬ (0 : Int) = 5; decide
  rw [if_neg c3]
  by_cases c4 : op = 4
  · rw [if_pos c4]; unfold Ma.call
    by_cases q : M.room 0 0 ≠ 0
    · rw [if_pos q]; exact hr _ _
    · rw [if_neg q]
      by_cases q2 : 12 ≤ M.calls.length
      · rw [if_pos q2]; show ¬ (9 : Int) = 5; decide
      · rw [if_neg q2]; show ¬ (0 : Int) = 5; decide
  rw [if_neg c4]
  by_cases c5 : op = 5
  · rw [if_pos c5]; unfold Ma.ret
    by_cases q : M.room 0 0 ≠ 0
    · rw [if_pos q]; exact hr _ _
    · rw [if_neg q]
      by_cases q2 : M.calls = []
      · rw [if_pos q2]; show ¬ (7 : Int) = 5; decide
      · rw [if_neg q2]; show ¬ (0 : Int) = 5; decide
  rw [if_neg c5]
  unfold Ma.doN
  by_cases q : M.room (takesN (op - 16)) (givesN (op - 16)) ≠ 0
  · rw [if_pos q]; exact hr _ _
  · rw [if_neg q]
    by_cases q2 : M.fault (op - 16) ≠ 0
    · rw [if_pos q2]
      show M.fault (op - 16) ≠ 5
      unfold Ma.fault
      repeat' split
      all_goals decide
    · rw [if_neg q2]; show ¬ (0 : Int) = 5; decide
/-- Where a step goes on, and the calls behind it. -/
theorem step_goes (op arg b : Int) (M : Ma) (he : (stepM op arg b M).2.1 = 0) :
    ((stepM op arg b M).1 = b ∧ op ≠ 2 ∧ op ≠ 5 ∧ op ≠ 4 ∧ (stepM op arg b M).2.2.calls = M.calls) ∨ ((stepM op arg b M).1 = arg ∧ (op = 2 ∨ op = 3) ∧ (stepM op arg b M).2.2.calls = M.calls) ∨
    ((stepM op arg b M).1 = arg ∧ op = 4 ∧ (stepM op arg b M).2.2.calls = M.calls ++ [b]) ∨ (op = 5 ∧ (stepM op arg b M).1 ∈ M.calls ∧ ∀ c ∈ (stepM op arg b M).2.2.calls, c ∈ M.calls) := by
  unfold stepM at he ⊢
  by_cases c1 : op = 1
  · rw [if_pos c1] at he ⊢
    unfold Ma.number at he ⊢
    by_cases q : M.room 0 1 ≠ 0
    · rw [if_pos q] at he; exact absurd he q
    · rw [if_neg q]; exact .inl ⟨rfl, by omega, by omega, by omega, rfl⟩
  rw [if_neg c1] at he ⊢
  by_cases c2 : op = 2
  · rw [if_pos c2] at he ⊢
    unfold Ma.pass at he ⊢
    by_cases q : M.room 0 0 ≠ 0
    · rw [if_pos q] at he; exact absurd he q
    · rw [if_neg q]; exact .inr (.inl ⟨rfl, .inl c2, rfl⟩)
  rw [if_neg c2] at he ⊢
  by_cases c3 : op = 3
  · rw [if_pos c3] at he ⊢
    have he' : M.takeN.2.1 = 0 := he
    have hc : M.takeN.2.2.calls = M.calls := by
      unfold Ma.takeN; split <;> rfl
    by_cases q : M.takeN.1 = 0
    · rw [if_pos q]; exact .inr (.inl ⟨rfl, .inr c3, hc⟩)
    · rw [if_neg q]; exact .inl ⟨rfl, by omega, by omega, by omega, hc⟩
  rw [if_neg c3] at he ⊢
  by_cases c4 : op = 4
  · rw [if_pos c4] at he ⊢
    unfold Ma.call at he ⊢
    by_cases q : M.room 0 0 ≠ 0
    · rw [if_pos q] at he; exact absurd he q
    · rw [if_neg q] at he ⊢
      by_cases q2 : 12 ≤ M.calls.length
      · rw [if_pos q2] at he; cases he
      · rw [if_neg q2]; exact .inr (.inr (.inl ⟨rfl, c4, rfl⟩))
  rw [if_neg c4] at he ⊢
  by_cases c5 : op = 5
  · rw [if_pos c5] at he ⊢
    unfold Ma.ret at he ⊢
    by_cases q : M.room 0 0 ≠ 0
    · rw [if_pos q] at he; exact absurd he q
    · rw [if_neg q] at he ⊢
      by_cases q2 : M.calls = []
      · rw [if_pos q2] at he; cases he
      · rw [if_neg q2]
        refine .inr (.inr (.inr ⟨c5, ?_, fun c hc => (List.dropLast_sublist _).subset hc⟩))
        show M.calls.getLastD 0 ∈ M.calls
        rw [List.getLastD_eq_getLast?, List.getLast?_eq_some_getLast q2]
        exact List.getLast_mem q2
  rw [if_neg c5] at he ⊢
  refine .inl ⟨rfl, c2, c5, c4, ?_⟩
  show (M.doN (op - 16)).2.calls = M.calls
  unfold Ma.doN
  by_cases q : M.room (takesN (op - 16)) (givesN (op - 16)) ≠ 0
  · rw [if_pos q]
  · rw [if_neg q]
    by_cases q2 : M.fault (op - 16) ≠ 0
    · rw [if_pos q2]
    · rw [if_neg q2]
      show (M.tick.act (op - 16)).calls = M.calls
      unfold Ma.act; repeat' split
      all_goals rfl
/-- Code at which Verify answers OK never meets ErrCode (P8, P9). -/
theorem exec_safe {l : List UInt8} (hV : WholeC l) : ∀ (n : Nat) (p : Nat) (M : Ma), p ∈ startsC l → (∀ c ∈ M.calls, ∃ q : Nat, c = (q : Int) ∧ q ∈ startsC l) → (execC l n (p : Int) M).1 ≠ 5
  | 0, p, M, _, _ => by show ¬ (0 : Int) = 5; decide
  | n + 1, p, M, hp, hc => by
    have hw := hV.whole p hp
    unfold execC
    rw [if_pos hw]
    by_cases h0 : atC l (p : Int) = 0
    · rw [if_pos h0]; show ¬ (0 : Int) = 5; decide
    · rw [if_neg h0]
      by_cases he : (stepC l (p : Int) M).2.1 ≠ 0
      · rw [if_pos he]; exact step_five _ _ _ M
      · rw [if_neg he]
        have he' : (stepC l (p : Int) M).2.1 = 0 := by simpa using he
        have hne : (atC l (p : Int)).toNat ≠ 0 := fun h => h0 (UInt8.toNat_inj.1 h)
        have hob := operC_bd l (p : Int)
        have key : ∃ q : Nat, (stepC l (p : Int) M).1 = (q : Int) ∧ q ∈ startsC l ∧ ∀ c ∈ (stepC l (p : Int) M).2.2.calls, ∃ r : Nat, c = (r : Int) ∧ r ∈ startsC l := by
          rcases step_goes _ _ _ M he' with ⟨a, b2, b5, b4, c⟩ | ⟨a, b, c⟩ | ⟨a, b, c⟩ | ⟨b, a, c⟩
          · refine ⟨p + sizeC (atC l (p : Int)), a, hV.next p hp hne (by omega) (by omega), ?_⟩
            intro x hx; rw [show (stepC l (p : Int) M).2.2.calls = M.calls from c] at hx; exact hc x hx
          · refine ⟨(operC l (p : Int)).toNat, ?_, hV.jump p hp (by omega) (by omega), ?_⟩
            · rw [show (stepC l (p : Int) M).1 = operC l (p : Int) from a]; omega
            · intro x hx; rw [show (stepC l (p : Int) M).2.2.calls = M.calls from c] at hx; exact hc x hx
          · refine ⟨(operC l (p : Int)).toNat, ?_, hV.jump p hp (by omega) (by omega), ?_⟩
            · rw [show (stepC l (p : Int) M).1 = operC l (p : Int) from a]; omega
            · intro x hx
              rw [show (stepC l (p : Int) M).2.2.calls = M.calls ++ [(p : Int) + sizeC (atC l (p : Int))] from c] at hx
              rcases List.mem_append.1 hx with hx | hx
              · exact hc x hx
              · rw [List.mem_singleton] at hx
                exact ⟨p + sizeC (atC l (p : Int)), by rw [hx]; omega, hV.next p hp hne (by omega) (by omega)⟩
          · obtain ⟨r, hr, hr2⟩ := hc _ a
            refine ⟨r, hr, hr2, ?_⟩
            intro x hx; exact hc x (c x hx)
        obtain ⟨q, hq1, hq2, hq3⟩ := key
        rw [hq1]
        exact exec_safe hV n q _ hq2 hq3
end Go.Proofs.YtnanjomnldfidabDoor

set_option linter.unusedSimpArgs false
set_option linter.unusedVariables false
set_option linter.unusedSectionVars false
namespace Go.Proofs.YtnanjomnldfidabDoor

theorem szI_le (op : Int) : szI op ≤ 3 := by
  unfold szI; repeat' split
  all_goals omega
theorem walk_on {l : List UInt8} {n p : Nat} (h : wholeC l (p : Int)) : walkC l (n + 1) p = (p :: (walkC l n (p + sizeC (atC l (p : Int)))).1, (walkC l n (p + sizeC (atC l (p : Int)))).2) := by
  conv => lhs; unfold walkC
  rw [if_pos h]
theorem walk_stop {l : List UInt8} {p : Nat} (h : ¬ wholeC l (p : Int)) : ∀ n, walkC l n p = ([], p)
  | 0 => rfl
  | n + 1 => by conv => lhs; unfold walkC
                rw [if_neg h]
theorem walk_sorted (l : List UInt8) : ∀ n p, (walkC l n p).1.Pairwise (· < ·) ∧ ∀ q ∈ (walkC l n p).1, p ≤ q ∧ wholeC l (q : Int)
  | 0, p => ⟨List.Pairwise.nil, fun q h => by cases h⟩
  | n + 1, p => by
    by_cases h : wholeC l (p : Int)
    · rw [walk_on h]
      obtain ⟨a, b⟩ := walk_sorted l n (p + sizeC (atC l (p : Int)))
      have hs := h.2.2.1
      refine ⟨List.pairwise_cons.2 ⟨fun q hq => by have := (b q hq).1; omega, a⟩, fun q hq => ?_⟩
      rcases List.mem_cons.1 hq with e | e
      · subst e; exact ⟨Nat.le_refl _, h⟩
      · have := b q e; exact ⟨by omega, this.2⟩
    · rw [walk_stop h]; exact ⟨List.Pairwise.nil, fun q h => by cases h⟩
theorem starts_whole {l : List UInt8} {q : Nat} (h : q ∈ startsC l) : wholeC l (q : Int) ∧ q < l.length := by
  have := ((walk_sorted l l.length 0).2 q h).2
  exact ⟨this, by have := this.2.1; omega⟩
theorem starts_sorted (l : List UInt8) : (startsC l).Pairwise (· < ·) := (walk_sorted l l.length 0).1

/-- The state of the first loop at p. -/
structure Walk (l : List UInt8) (p : Nat) (A : List Nat) : Prop where
  le : p ≤ l.length
  ex : ∃ n, l.length ≤ p + n ∧ startsC l = A ++ (walkC l n p).1 ∧ stopC l = (walkC l n p).2
theorem Walk.zero (l : List UInt8) : Walk l 0 [] := ⟨Nat.zero_le _, l.length, by omega, rfl, rfl⟩
theorem Walk.step {l : List UInt8} {p : Nat} {A : List Nat} (h : Walk l p A) (hw : wholeC l (p : Int)) : Walk l (p + sizeC (atC l (p : Int))) (A ++ [p]) := by
  obtain ⟨n, h1, h2, h3⟩ := h.ex
  have a := hw.2.1
  have b := hw.2.2.1
  have c := hw.2.2.2
  obtain ⟨m, rfl⟩ : ∃ m, n = m + 1 := ⟨n - 1, by omega⟩
  rw [walk_on hw] at h2 h3
  exact ⟨by omega, m, by omega, by rw [h2]; simp, h3⟩
theorem Walk.stop {l : List UInt8} {p : Nat} {A : List Nat} (h : Walk l p A) (hw : ¬ wholeC l (p : Int)) : startsC l = A ∧ stopC l = p := by
  obtain ⟨n, h1, h2, h3⟩ := h.ex
  rw [walk_stop hw] at h2 h3
  exact ⟨by rw [h2]; simp, h3⟩
theorem Walk.fin {l : List UInt8} {p : Nat} {A : List Nat} (h : Walk l p A) (hp : ¬ p < l.length) : startsC l = A ∧ stopC l = l.length ∧ p = l.length := by
  have hpe : p = l.length := by have := h.le; omega
  have := h.stop (fun hw => by have := hw.2.1; omega)
  exact ⟨this.1, by rw [this.2, hpe], hpe⟩
theorem Walk.mem {l : List UInt8} {p : Nat} {A : List Nat} (h : Walk l p A) : ∀ q ∈ A, q ∈ startsC l := by
  obtain ⟨n, h1, h2, h3⟩ := h.ex
  intro q hq; rw [h2]; exact List.mem_append_left _ hq

/-- What the second loop looks for at i. -/
def hitC (l : List UInt8) (i : Nat) : Bool := decide (i ∈ startsC l) && badC l i
theorem find_first {L : List Nat} (hs : L.Pairwise (· < ·)) (f : Nat → Bool) {i : Nat} (hi : i ∈ L) (hf : f i = true) (hb : ∀ j, j < i → j ∈ L → f j = false) : L.find? f = some i := by
  induction L with
  | nil => cases hi
  | cons a L ih =>
    rw [List.pairwise_cons] at hs
    rcases List.mem_cons.1 hi with e | e
    · subst e; rw [List.find?_cons, hf]
    · have := hs.1 i e
      rw [List.find?_cons, hb a this List.mem_cons_self]
      exact ih hs.2 e fun j h1 h2 => hb j h1 (List.mem_cons_of_mem _ h2)
theorem verify_stop {l : List UInt8} (h : l.length ≤ 1024) (h2 : stopC l < l.length) : verifyC l = (5, (stopC l : Int)) := by
  unfold verifyC; rw [if_neg (by omega), if_pos h2]
theorem verify_hit {l : List UInt8} (h : l.length ≤ 1024) (h2 : stopC l = l.length) {i : Nat} (hi : hitC l i = true) (hb : ∀ j, j < i → hitC l j = false) : verifyC l = (5, (i : Int)) := by
  unfold verifyC
  unfold hitC at hi hb
  rw [Bool.and_eq_true, decide_eq_true_eq] at hi
  rw [if_neg (by omega), if_neg (by omega), find_first (starts_sorted l) (badC l) hi.1 hi.2 (fun j h1 h2 => by have := hb j h1; rw [decide_eq_true h2, Bool.true_and] at this; exact this)]
theorem verify_none {l : List UInt8} (h : l.length ≤ 1024) (h2 : stopC l = l.length) (hb : ∀ j, j < l.length → hitC l j = false) : verifyC l = if endsC (atC l ((startsC l).getLastD 0 : Nat)) = true ∧ l ≠ [] then ((0 : Int), (0 : Int)) else ((5 : Int), (((startsC l).getLastD 0 : Nat) : Int)) := by
  unfold verifyC
  have : (startsC l).find? (badC l) = none := by
    rw [List.find?_eq_none]
    intro q hq
    have h3 := hb q (starts_whole hq).2
    unfold hitC at h3
    rw [decide_eq_true hq, Bool.true_and] at h3
    rw [h3]; decide
  rw [if_neg (by omega), if_neg (by omega), this]
theorem verify_long {l : List UInt8} (h : 1024 < l.length) : verifyC l = (1, 0) := by unfold verifyC; rw [if_pos h]
theorem last_mem {l : List UInt8} (h2 : stopC l = l.length) (hne : l ≠ []) : (startsC l).getLastD 0 ∈ startsC l := by
  have hlen : 0 < l.length := List.length_pos_iff.2 hne
  obtain ⟨a, _, _⟩ := walk_facts l l.length 0 (by omega) (by unfold stopC at h2; omega) (by omega)
  have h0 : startsC l ≠ [] := fun e => by have := a hlen; unfold startsC at e; rw [e] at this; cases this
  rw [List.getLastD_eq_getLast?, List.getLast?_eq_some_getLast h0]
  exact List.getLast_mem h0

/-- The last start ahead of p. -/
def lastB (l : List UInt8) (p : Nat) : Nat := ((startsC l).filter fun q => decide (q < p)).getLastD 0
theorem filter_next {L : List Nat} (hs : L.Pairwise (· < ·)) (p : Nat) : L.filter (fun q => decide (q < p + 1)) = if p ∈ L then L.filter (fun q => decide (q < p)) ++ [p] else L.filter fun q => decide (q < p) := by
  induction L with
  | nil => simp
  | cons a L ih =>
    rw [List.pairwise_cons] at hs
    have ih := ih hs.2
    by_cases c : a = p
    · subst c
      have hn : a ∉ L := fun h => by have := hs.1 a h; omega
      rw [if_pos List.mem_cons_self]
      rw [if_neg hn] at ih
      have he : L.filter (fun q => decide (q < a)) = [] := by
        rw [List.filter_eq_nil_iff]; intro q hq; have := hs.1 q hq; simp; omega
      rw [List.filter_cons, if_pos (by simp), ih, List.filter_cons, if_neg (by simp), he]; rfl
    · by_cases c2 : a < p
      · have d1 : decide (a < p + 1) = true := by simp; omega
        have d2 : decide (a < p) = true := by simpa using c2
        rw [List.filter_cons, if_pos d1, ih, List.filter_cons, if_pos d2]
        by_cases c3 : p ∈ L
        · rw [if_pos c3, if_pos (List.mem_cons_of_mem a c3)]; rfl
        · have c4 : ¬ p ∈ a :: L := fun h => (List.mem_cons.1 h).elim (fun e => c e.symm) c3
          rw [if_neg c3, if_neg c4]
      · have hn : p ∉ L := fun h => by have := hs.1 p h; omega
        have c4 : ¬ p ∈ a :: L := fun h => (List.mem_cons.1 h).elim (fun e => c e.symm) hn
        have d1 : ¬ decide (a < p + 1) = true := by simp; omega
        have d2 : ¬ decide (a < p) = true := by simpa using c2
        rw [List.filter_cons, if_neg d1, ih, if_neg hn, if_neg c4, List.filter_cons, if_neg d2]
theorem lastB_zero (l : List UInt8) : lastB l 0 = 0 := by
  unfold lastB
  rw [show (startsC l).filter (fun q => decide (q < 0)) = [] from by rw [List.filter_eq_nil_iff]; intro q _; simp]
  rfl
theorem lastB_yes {l : List UInt8} {p : Nat} (h : p ∈ startsC l) : lastB l (p + 1) = p := by
  unfold lastB; rw [filter_next (starts_sorted l), if_pos h, List.getLastD_concat]
theorem lastB_no {l : List UInt8} {p : Nat} (h : p ∉ startsC l) : lastB l (p + 1) = lastB l p := by
  unfold lastB; rw [filter_next (starts_sorted l), if_neg h]
theorem lastB_end (l : List UInt8) : lastB l l.length = (startsC l).getLastD 0 := by
  unfold lastB
  rw [List.filter_eq_self.2 (fun q hq => by simpa using (starts_whole hq).2)]
theorem lastB_lt {l : List UInt8} : ∀ p, lastB l p ≤ p
  | 0 => by rw [lastB_zero]; exact Nat.le_refl _
  | p + 1 => by
    by_cases h : p ∈ startsC l
    · rw [lastB_yes h]; omega
    · rw [lastB_no h]; have := lastB_lt (l := l) p; omega

/-- What instructionAt answers of an instruction that is whole; and of none. -/
theorem insA_whole {l : List UInt8} {p : Int} (h : wholeC l p) : insA l p = (((atC l p).toNat : Int), if sizeC (atC l p) = 3 then operC l p else 0, (sizeC (atC l p) : Int)) := by
  unfold insA
  rw [if_pos ⟨h.1, h.2.1⟩, if_neg (by have := h.2.2.2; omega)]
  by_cases c : sizeC (atC l p) = 3
  · rw [if_pos c, if_pos c, c]; rfl
  · rw [if_neg c, if_neg c]
theorem insA_none {l : List UInt8} {p : Int} (h : ¬ wholeC l p) : (insA l p).2.2 = 0 := by
  unfold insA
  by_cases c : 0 ≤ p ∧ p < (l.length : Int)
  · rw [if_pos c]
    by_cases c2 : (l.length : Int) - p < sizeC (atC l p)
    · rw [if_pos c2]
    · rw [if_neg c2]
      have h0 : sizeC (atC l p) = 0 := by
        rcases Nat.eq_zero_or_pos (sizeC (atC l p)) with q | q
        · exact q
        · exact absurd ⟨c.1, c.2, q, by omega⟩ h
      rw [h0]; rfl
  · rw [if_neg c]
theorem sizeC_three {c : UInt8} : sizeC c = 3 ↔ (1 ≤ c.toNat ∧ c.toNat ≤ 4) := by
  unfold sizeC
  by_cases q : 1 ≤ c.toNat ∧ c.toNat ≤ 4
  · rw [if_pos q]; exact ⟨fun _ => q, fun _ => rfl⟩
  · rw [if_neg q]
    refine ⟨fun h => ?_, fun h => absurd h q⟩
    by_cases q2 : c.toNat = 0 ∨ c.toNat = 5 ∨ (16 ≤ c.toNat ∧ c.toNat < 35)
    · rw [if_pos q2] at h; cases h
    · rw [if_neg q2] at h; cases h
theorem insA_bd (l : List UInt8) (p : Int) : 0 ≤ (insA l p).2.1 ∧ (insA l p).2.1 < 65536 := by
  have := operC_bd l p
  unfold insA
  repeat' split
  all_goals first | exact this | exact ⟨Int.le_refl 0, (by decide : (0 : Int) < 65536)⟩
/-- What the program's second loop sees at i. -/
theorem hit_dev (l : List UInt8) (i : Nat) : hitC l i = (decide (i ∈ startsC l) && (leadI (insA l (i : Int)).1 && (decide ((l.length : Int) ≤ (insA l (i : Int)).2.1) || !decide ((insA l (i : Int)).2.1.toNat ∈ startsC l)))) := by
  unfold hitC
  by_cases h : i ∈ startsC l
  · have hw := starts_whole h
    rw [decide_eq_true h, Bool.true_and, Bool.true_and, insA_whole hw.1]
    unfold badC leadI
    obtain ⟨c, hc⟩ : ∃ c, c = atC l (i : Int) := ⟨_, rfl⟩
    rw [← hc]
    by_cases q : 2 ≤ c.toNat ∧ c.toNat ≤ 4
    · have h3 : sizeC c = 3 := sizeC_three.2 (by omega)
      have hl : ((((c.toNat : Int) == 2 || (c.toNat : Int) == 3 || (c.toNat : Int) == 4)) : Bool) = true := by simp; omega
      show _ = (((c.toNat : Int) == 2 || (c.toNat : Int) == 3 || (c.toNat : Int) == 4) && _)
      rw [hl, if_pos h3, decide_eq_true q.1, decide_eq_true q.2, Bool.true_and, Bool.true_and, Bool.true_and]
      by_cases q2 : (operC l (i : Int)).toNat ∈ startsC l
      · have := (starts_whole q2).2
        have b := operC_bd l (i : Int)
        have hcn : (startsC l).contains (operC l (i : Int)).toNat = true := by simpa using q2
        have hlt : ¬ (l.length : Int) ≤ operC l (i : Int) := by omega
        show (!(startsC l).contains (operC l (i : Int)).toNat) = (decide ((l.length : Int) ≤ operC l (i : Int)) || !decide ((operC l (i : Int)).toNat ∈ startsC l))
        rw [hcn, decide_eq_true q2, decide_eq_false hlt]; rfl
      · have hcn : (startsC l).contains (operC l (i : Int)).toNat = false := by simpa using q2
        rw [hcn, decide_eq_false q2]; simp
    · have hl : ((((c.toNat : Int) == 2 || (c.toNat : Int) == 3 || (c.toNat : Int) == 4)) : Bool) = false := by
        rw [Bool.eq_false_iff]; intro hh; simp at hh; omega
      show _ = (((c.toNat : Int) == 2 || (c.toNat : Int) == 3 || (c.toNat : Int) == 4) && _)
      rw [hl, Bool.false_and]
      by_cases q2 : 2 ≤ c.toNat
      · rw [decide_eq_false (fun h4 => q ⟨q2, h4⟩)]; simp
      · rw [decide_eq_false q2]; simp
  · rw [decide_eq_false h]; rfl
/-- What endsARun answers. -/
def endsR (l : List UInt8) (p : Int) : Bool := decide (0 < (insA l p).2.2) && ((insA l p).1 == 0 || (insA l p).1 == 2 || (insA l p).1 == 5)
theorem ends_dev {l : List UInt8} (h2 : stopC l = l.length) : (endsR l ((startsC l).getLastD 0 : Nat) = true) ↔ (endsC (atC l ((startsC l).getLastD 0 : Nat)) = true ∧ l ≠ []) := by
  by_cases hne : l = []
  · subst hne
    constructor
    · intro h; revert h; decide
    · rintro ⟨_, h⟩; exact absurd rfl h
  · have hm := last_mem h2 hne
    have hw := (starts_whole hm).1
    unfold endsR endsC
    rw [insA_whole hw]
    have := hw.2.2.1
    obtain ⟨c, hc⟩ : ∃ c, c = atC l (((startsC l).getLastD 0 : Nat) : Int) := ⟨_, rfl⟩
    rw [← hc] at this ⊢
    show (decide (0 < (sizeC c : Int)) && ((c.toNat : Int) == 0 || (c.toNat : Int) == 2 || (c.toNat : Int) == 5)) = true ↔ _
    rw [decide_eq_true (by omega), Bool.true_and]
    simp only [Bool.or_eq_true, beq_iff_eq, ne_eq, hne, not_false_eq_true, and_true]
    omega
end Go.Proofs.YtnanjomnldfidabDoor
