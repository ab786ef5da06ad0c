/-
  Code as plain data: which bytes are whole instructions, what a run of them does (P9), and what holds of every run (P5, P6). No memory.
-/
import Derived.Test.YtnanjomnldfidaaMaKeep
set_option linter.unusedSimpArgs false
set_option linter.unusedVariables false
set_option linter.unusedSectionVars false
namespace Go.Proofs.Ytnanjomnldfidaa

/-- How many bytes an instruction has; the byte at a place; does a whole one stand there; the two bytes behind it. -/
def sizeC (c : UInt8) : Nat := if 1 ≤ c.toNat ∧ c.toNat ≤ 4 then 3 else if c.toNat = 0 ∨ c.toNat = 5 ∨ (16 ≤ c.toNat ∧ c.toNat < 35) then 1 else 0
def atC (l : List UInt8) (p : Int) : UInt8 := l.getD p.toNat 0
abbrev wholeC (l : List UInt8) (p : Int) : Prop := 0 ≤ p ∧ p < (l.length : Int) ∧ 0 < sizeC (atC l p) ∧ p + sizeC (atC l p) ≤ (l.length : Int)
def operC (l : List UInt8) (p : Int) : Int := ((atC l (p + 1)).toNat : Int) * 256 + ((atC l (p + 2)).toNat : Int)
/-- The instruction at p (whole, no halt), and the run. -/
def stepC (l : List UInt8) (p : Int) (M : Ma) : Int × Int × Ma := stepM ((atC l p).toNat : Int) (operC l p) (p + sizeC (atC l p)) M
def execC (l : List UInt8) : Nat → Int → Ma → Int × Ma
  | 0, _, M => (0, M)
  | n + 1, p, M => if wholeC l p then (if atC l p = 0 then (0, M) else if (stepC l p M).2.1 ≠ 0 then ((stepC l p M).2.1, M) else execC l n (stepC l p M).1 (stepC l p M).2.2) else (5, M)

def szI (op : Int) : Nat := if op = 1 ∨ op = 2 ∨ op = 3 ∨ op = 4 then 3 else if op = 0 ∨ op = 5 ∨ (16 ≤ op ∧ op ≤ 34) then 1 else 0
def leadI (op : Int) : Bool := op == 2 || op == 3 || op == 4
theorem sizeC_szI (c : UInt8) (op : Int) (h : (c.toNat : Int) = op) : sizeC c = szI op := by
  subst h
  unfold sizeC szI
  by_cases q : 1 ≤ c.toNat ∧ c.toNat ≤ 4
  · have q' : (c.toNat : Int) = 1 ∨ (c.toNat : Int) = 2 ∨ (c.toNat : Int) = 3 ∨ (c.toNat : Int) = 4 := by omega
    rw [if_pos q, if_pos q']
  · have q' : ¬ ((c.toNat : Int) = 1 ∨ (c.toNat : Int) = 2 ∨ (c.toNat : Int) = 3 ∨ (c.toNat : Int) = 4) := by omega
    rw [if_neg q, if_neg q']
    by_cases q2 : c.toNat = 0 ∨ c.toNat = 5 ∨ (16 ≤ c.toNat ∧ c.toNat < 35)
    · have q3 : (c.toNat : Int) = 0 ∨ (c.toNat : Int) = 5 ∨ (16 ≤ (c.toNat : Int) ∧ (c.toNat : Int) ≤ 34) := by omega
      rw [if_pos q2, if_pos q3]
    · have q3 : ¬ ((c.toNat : Int) = 0 ∨ (c.toNat : Int) = 5 ∨ (16 ≤ (c.toNat : Int) ∧ (c.toNat : Int) ≤ 34)) := by omega
      rw [if_neg q2, if_neg q3]
/-- What instructionAt answers: the instruction, what belongs to it, its size. -/
def insA (l : List UInt8) (p : Int) : Int × Int × Int :=
  if 0 ≤ p ∧ p < (l.length : Int) then (if (l.length : Int) - p < sizeC (atC l p) then (0, 0, 0) else if sizeC (atC l p) = 3 then (((atC l p).toNat : Int), operC l p, 3) else (((atC l p).toNat : Int), 0, (sizeC (atC l p) : Int))) else (0, 0, 0)
theorem sizeC_op {c : UInt8} (h : 0 < sizeC c) (h0 : c ≠ 0) : opOk (c.toNat : Int) := by
  have hc : c.toNat ≠ 0 := fun h => h0 (UInt8.toNat_inj.1 h)
  unfold sizeC at h
  unfold opOk
  by_cases q : 1 ≤ c.toNat ∧ c.toNat ≤ 4
  · omega
  · rw [if_neg q] at h
    by_cases q2 : c.toNat = 0 ∨ c.toNat = 5 ∨ (16 ≤ c.toNat ∧ c.toNat < 35)
    · omega
    · rw [if_neg q2] at h; omega
theorem operC_bd (l : List UInt8) (p : Int) : 0 ≤ operC l p ∧ operC l p < 65536 := by
  unfold operC
  have h1 := (atC l (p + 1)).toNat_lt
  have h2 := (atC l (p + 2)).toNat_lt
  omega

/-- What a step that goes well leaves. -/
theorem stepM_cases (op arg b : Int) (M : Ma) (P : Ma → Prop) (he : (stepM op arg b M).2.1 = 0)
    (h1 : op = 1 → M.room 0 1 = 0 → P ((M.push arg).tick)) (h2 : M.room 0 0 = 0 → P M.tick) (h3 : M.room 1 0 = 0 → P M.tick.pop) (h4 : ∀ C, M.room 0 0 = 0 → P { M.tick with calls := C })
    (h6 : M.room (takesN (op - 16)) (givesN (op - 16)) = 0 → M.fault (op - 16) = 0 → P (M.tick.act (op - 16))) : P (stepM op arg b M).2.2 := by
  unfold stepM at he ⊢
  by_cases c1 : op = 1
  · rw [if_pos c1] at he ⊢
    unfold Ma.number at he ⊢
    by_cases q : M.room 0 1 ≠ 0
    · rw [if_pos q] at he; exact absurd he q
    · rw [if_neg q]; exact h1 c1 (by simpa using q)
  rw [if_neg c1] at he ⊢
  by_cases c2 : op = 2
  · rw [if_pos c2] at he ⊢
    unfold Ma.pass at he ⊢
    by_cases q : M.room 0 0 ≠ 0
    · rw [if_pos q] at he; exact absurd he q
    · rw [if_neg q]; exact h2 (by simpa using q)
  rw [if_neg c2] at he ⊢
  by_cases c3 : op = 3
  · rw [if_pos c3] at he ⊢
    have he' : M.takeN.2.1 = 0 := he
    show P M.takeN.2.2
    unfold Ma.takeN at he' ⊢
    by_cases q : M.room 1 0 ≠ 0
    · rw [if_pos q] at he'; exact absurd he' q
    · rw [if_neg q]; exact h3 (by simpa using q)
  rw [if_neg c3] at he ⊢
  by_cases c4 : op = 4
  · rw [if_pos c4] at he ⊢
    unfold Ma.call at he ⊢
    by_cases q : M.room 0 0 ≠ 0
    · rw [if_pos q] at he; exact absurd he q
    · rw [if_neg q] at he ⊢
      by_cases q2 : 12 ≤ M.calls.length
      · rw [if_pos q2] at he; cases he
      · rw [if_neg q2]; exact h4 _ (by simpa using q)
  rw [if_neg c4] at he ⊢
  by_cases c5 : op = 5
  · rw [if_pos c5] at he ⊢
    unfold Ma.ret at he ⊢
    by_cases q : M.room 0 0 ≠ 0
    · rw [if_pos q] at he; exact absurd he q
    · rw [if_neg q] at he ⊢
      by_cases q2 : M.calls = []
      · rw [if_pos q2] at he; cases he
      · rw [if_neg q2]; exact h4 _ (by simpa using q)
  rw [if_neg c5] at he ⊢
  unfold Ma.doN at he ⊢
  by_cases q : M.room (takesN (op - 16)) (givesN (op - 16)) ≠ 0
  · rw [if_pos q] at he; exact absurd he q
  · rw [if_neg q] at he ⊢
    by_cases q2 : M.fault (op - 16) ≠ 0
    · rw [if_pos q2] at he; exact absurd he q2
    · rw [if_neg q2]; exact h6 (by simpa using q) (by simpa using q2)

section
variable (M : Ma) (n : Int)
theorem act_out : (M.act n).out = if n = 16 then M.out ++ [byteOf M.top] else M.out := by
  unfold Ma.act
  by_cases h : n = 16
  · subst h; rfl
  · rw [if_neg h]; repeat' split
    all_goals first | rfl | (exact absurd ‹n = 16› h)
theorem act_mark : (M.act n).mark = if n = 18 then M.top else M.mark := by
  unfold Ma.act
  by_cases h : n = 18
  · subst h; rfl
  · rw [if_neg h]; repeat' split
    all_goals first | rfl | (exact absurd ‹n = 18› h)
theorem act_image : (M.act n).image = if n = 15 then M.image.set M.top.toNat (byteOf M.pop.top) else M.image := by
  unfold Ma.act
  by_cases h : n = 15
  · subst h; rfl
  · rw [if_neg h]; repeat' split
    all_goals first | rfl | (exact absurd ‹n = 15› h)
theorem act_rights : (M.act n).rights = M.rights := by unfold Ma.act; repeat' split
                                                       all_goals rfl
theorem act_fence : (M.act n).fence = M.fence := by unfold Ma.act; repeat' split
                                                    all_goals rfl
theorem act_kernel : (M.act n).kernel = M.kernel := by unfold Ma.act; repeat' split
                                                       all_goals rfl
theorem act_used : (M.act n).used = M.used := by unfold Ma.act; repeat' split
                                                 all_goals rfl
end

theorem fault_right {M : Ma} {n : Int} (h : M.fault n = 0) : (n = 16 → noRight M.rights 1 = false) ∧ (n = 18 → noRight M.rights 8 = false) ∧ (n = 15 → M.fence ≤ M.top ∧ M.top < M.image.length) ∧
    (n = 14 → M.top < M.image.length ∧ (M.kernel ≤ M.top → M.top < M.fence → noRight M.rights 4 = false)) := by
  unfold Ma.fault at h
  by_cases q1 : (n = 16 ∧ noRight M.rights 1 = true) ∨ (n = 17 ∧ noRight M.rights 2 = true) ∨ (n = 18 ∧ noRight M.rights 8 = true)
  · rw [if_pos q1] at h; cases h
  rw [if_neg q1] at h
  by_cases q2 : n = 16 ∧ 64 ≤ M.out.length
  · rw [if_pos q2] at h; cases h
  rw [if_neg q2] at h
  by_cases q3 : (n = 7 ∨ n = 8) ∧ M.top = 0
  · rw [if_pos q3] at h; cases h
  rw [if_neg q3] at h
  by_cases q4 : n = 14 ∧ ((M.image.length : Int) ≤ M.top ∨ (M.kernel ≤ M.top ∧ M.top < M.fence ∧ noRight M.rights 4 = true))
  · rw [if_pos q4] at h; cases h
  rw [if_neg q4] at h
  by_cases q5 : n = 15 ∧ (M.top < M.fence ∨ (M.image.length : Int) ≤ M.top)
  · rw [if_pos q5] at h; cases h
  refine ⟨fun e => ?_, fun e => ?_, fun e => ?_, fun e => ?_⟩
  · cases hh : noRight M.rights 1 with
    | false => rfl
    | true => exact absurd (.inl ⟨e, hh⟩) q1
  · cases hh : noRight M.rights 8 with
    | false => rfl
    | true => exact absurd (.inr (.inr ⟨e, hh⟩)) q1
  · have := fun hh => q5 ⟨e, hh⟩
    omega
  · refine ⟨?_, fun a b => ?_⟩
    · have := fun hh => q4 ⟨e, .inl hh⟩
      omega
    · cases hh : noRight M.rights 4 with
      | false => rfl
      | true => exact absurd ⟨e, .inr ⟨a, b, hh⟩⟩ q4

/-- What holds of a run: at its start, behind each step, at its end. -/
theorem execC_inv {l : List UInt8} {Inv : Ma → Prop} (hstep : ∀ p M, wholeC l p → atC l p ≠ 0 → Inv M → (stepC l p M).2.1 = 0 → Inv (stepC l p M).2.2) : ∀ n p M, Inv M → Inv (execC l n p M).2
  | 0, p, M, h => h
  | n + 1, p, M, h => by
    unfold execC
    by_cases hw : wholeC l p
    · rw [if_pos hw]
      by_cases h0 : atC l p = 0
      · rw [if_pos h0]; exact h
      · rw [if_neg h0]
        by_cases he : (stepC l p M).2.1 ≠ 0
        · rw [if_pos he]; exact h
        · rw [if_neg he]; exact execC_inv hstep n _ _ (hstep p M hw h0 h (by simpa using he))
    · rw [if_neg hw]; exact h

/-- The bounds of a run (P5, P6). -/
structure Bounds (B : Ma) (M : Ma) : Prop where
  fine : Fine M
  fuel : M.fuel = B.fuel
  rights : M.rights = B.rights
  kernel : M.kernel = B.kernel
  fence : M.fence = B.fence
  len : M.image.length = B.image.length
  sealed : M.image.take B.fence.toNat = B.image.take B.fence.toNat
  emit : noRight B.rights 1 = true → M.out = []
  mark : noRight B.rights 8 = true → M.mark = 0
  out : (M.out.length : Int) ≤ M.used
theorem Bounds.step {B M : Ma} (h : Bounds B M) (hB : 0 ≤ B.fence) {op arg b : Int} (ho : opOk op) (ha : 0 ≤ arg ∧ arg < 65536) (he : (stepM op arg b M).2.1 = 0) : Bounds B (stepM op arg b M).2.2 := by
  have hu := step_used op arg b M he ho h.fine.ok (fun _ => ha)
  have hr := step_room op arg b M he
  have hfu := step_fuel op arg b M
  have hfine : Fine (stepM op arg b M).2.2 := ⟨hu.2, by rw [hu.1, hfu]; omega⟩
  have hrest : (stepM op arg b M).2.2.rights = M.rights ∧ (stepM op arg b M).2.2.kernel = M.kernel ∧ (stepM op arg b M).2.2.fence = M.fence ∧ (stepM op arg b M).2.2.image.length = M.image.length ∧
      (stepM op arg b M).2.2.image.take M.fence.toNat = M.image.take M.fence.toNat ∧ (noRight M.rights 1 = true → (stepM op arg b M).2.2.out = M.out) ∧ (noRight M.rights 8 = true → (stepM op arg b M).2.2.mark = M.mark) ∧ (stepM op arg b M).2.2.out.length ≤ M.out.length + 1 := by
    refine stepM_cases op arg b M (fun N => N.rights = M.rights ∧ N.kernel = M.kernel ∧ N.fence = M.fence ∧ N.image.length = M.image.length ∧ N.image.take M.fence.toNat = M.image.take M.fence.toNat ∧ (noRight M.rights 1 = true → N.out = M.out) ∧ (noRight M.rights 8 = true → N.mark = M.mark) ∧ N.out.length ≤ M.out.length + 1) he ?_ ?_ ?_ ?_ ?_
    · exact fun _ _ => ⟨rfl, rfl, rfl, rfl, rfl, fun _ => rfl, fun _ => rfl, Nat.le_succ _⟩
    · exact fun _ => ⟨rfl, rfl, rfl, rfl, rfl, fun _ => rfl, fun _ => rfl, Nat.le_succ _⟩
    · exact fun _ => ⟨rfl, rfl, rfl, rfl, rfl, fun _ => rfl, fun _ => rfl, Nat.le_succ _⟩
    · exact fun _ _ => ⟨rfl, rfl, rfl, rfl, rfl, fun _ => rfl, fun _ => rfl, Nat.le_succ _⟩
    · intro _ hf
      obtain ⟨r1, r2, r3, _⟩ := fault_right hf
      generalize op - 16 = n at *
      refine ⟨act_rights _ _, act_kernel _ _, act_fence _ _, ?_, ?_, fun hn => ?_, fun hn => ?_, ?_⟩
      · rw [act_image]; split
        · rw [List.length_set]; rfl
        · rfl
      · rw [act_image]; split
        · rename_i h15
          have h3 := r3 h15
          show (M.image.set M.top.toNat _).take M.fence.toNat = _
          rw [List.take_set_of_le (by omega)]
        · rfl
      · rw [act_out]; split
        · rename_i h16
          rw [r1 h16] at hn; cases hn
        · rfl
      · rw [act_mark]; split
        · rename_i h18
          rw [r2 h18] at hn; cases hn
        · rfl
      · rw [act_out]; split
        · show (M.out ++ [_]).length ≤ _; simp
        · show M.out.length ≤ _; omega
  obtain ⟨a1, a2, a3, a4, a5, a6, a7, a8⟩ := hrest
  refine ⟨hfine, hfu.trans h.fuel, a1.trans h.rights, a2.trans h.kernel, a3.trans h.fence, a4.trans h.len, ?_, fun hn => ?_, fun hn => ?_, ?_⟩
  · rw [← h.fence]; rw [a5, h.fence]; exact h.sealed
  · rw [a6 (by rw [h.rights]; exact hn)]; exact h.emit hn
  · rw [a7 (by rw [h.rights]; exact hn)]; exact h.mark hn
  · have := h.out
    rw [hu.1]; omega
theorem exec_bounds (l : List UInt8) (n : Nat) (p : Int) {B : Ma} (hB : 0 ≤ B.fence) (h : Bounds B B) : Bounds B (execC l n p B).2 :=
  execC_inv (Inv := Bounds B) (fun p M hw h0 hM he => hM.step hB (sizeC_op hw.2.2.1 h0) (operC_bd l p) he) n p B h

/-- The turns that a run has left. -/
theorem execC_stable (l : List UInt8) : ∀ (n m : Nat) (p : Int) (M : Ma), Fine M → (M.fuel - M.used).toNat < n → (M.fuel - M.used).toNat < m → execC l n p M = execC l m p M
  | 0, m, p, M, _, hn, _ => by omega
  | n + 1, 0, p, M, _, _, hm => by omega
  | n + 1, m + 1, p, M, h, hn, hm => by
    unfold execC
    by_cases hw : wholeC l p
    · rw [if_pos hw, if_pos hw]
      by_cases h0 : atC l p = 0
      · rw [if_pos h0, if_pos h0]
      · rw [if_neg h0, if_neg h0]
        by_cases he : (stepC l p M).2.1 ≠ 0
        · rw [if_pos he, if_pos he]
        · rw [if_neg he, if_neg he]
          have he' : (stepC l p M).2.1 = 0 := by simpa using he
          have hu := step_used _ _ _ M he' (sizeC_op hw.2.2.1 h0) h.ok (fun _ => operC_bd l p)
          have hr := step_room _ _ _ M he'
          have hfu := step_fuel ((atC l p).toNat : Int) (operC l p) (p + sizeC (atC l p)) M
          have hu1 : (stepC l p M).2.2.used = M.used + 1 := hu.1
          have hf1 : (stepC l p M).2.2.fuel = M.fuel := hfu
          have hok : (stepC l p M).2.2.Ok := hu.2
          exact execC_stable l n m _ _ ⟨hok, by omega⟩ (by omega) (by omega)
    · rw [if_neg hw, if_neg hw]

/-- More fuel (P5). -/
def moreF (d : Int) (M : Ma) : Ma := { M with fuel := M.fuel + d }
theorem more_lift (d : Int) (M : Ma) : moreF d M = liftM 0 d M.calls M := by unfold moreF liftM; simp only [Int.add_zero]
theorem more_room {d : Int} (hd : 0 ≤ d) (M : Ma) (t g : Int) (h : M.room t g ≠ 6) : (moreF d M).room t g = M.room t g := by rw [more_lift]; exact lift_room hd M t g h
theorem step_more {d : Int} (hd : 0 ≤ d) (op arg b : Int) (M : Ma) (h6 : (stepM op arg b M).2.1 ≠ 6) : stepM op arg b (moreF d M) = ((stepM op arg b M).1, (stepM op arg b M).2.1, moreF d (stepM op arg b M).2.2) := by
  unfold stepM at h6 ⊢
  by_cases c1 : op = 1
  · rw [if_pos c1] at h6 ⊢
    rw [if_pos c1]
    unfold Ma.number at h6 ⊢
    by_cases q : M.room 0 1 ≠ 0
    · rw [if_pos q] at h6 ⊢
      have := more_room hd M 0 1 h6
      rw [this, if_pos q]
    · have hq : M.room 0 1 = 0 := by simpa using q
      have := more_room hd M 0 1 (by rw [hq]; decide)
      rw [if_neg q, this, if_neg q]; rfl
  rw [if_neg c1] at h6 ⊢
  rw [if_neg c1]
  by_cases c2 : op = 2
  · rw [if_pos c2] at h6 ⊢
    rw [if_pos c2]
    unfold Ma.pass at h6 ⊢
    by_cases q : M.room 0 0 ≠ 0
    · rw [if_pos q] at h6 ⊢
      have := more_room hd M 0 0 h6
      rw [this, if_pos q]
    · have hq : M.room 0 0 = 0 := by simpa using q
      have := more_room hd M 0 0 (by rw [hq]; decide)
      rw [if_neg q, this, if_neg q]; rfl
  rw [if_neg c2] at h6 ⊢
  rw [if_neg c2]
  by_cases c3 : op = 3
  · rw [if_pos c3] at h6 ⊢
    rw [if_pos c3]
    have h6' : M.takeN.2.1 ≠ 6 := h6
    have key : (moreF d M).takeN = (M.takeN.1, M.takeN.2.1, moreF d M.takeN.2.2) := by
      unfold Ma.takeN at h6' ⊢
      by_cases q : M.room 1 0 ≠ 0
      · rw [if_pos q] at h6' ⊢
        have := more_room hd M 1 0 h6'
        rw [this, if_pos q]
      · have hq : M.room 1 0 = 0 := by simpa using q
        have := more_room hd M 1 0 (by rw [hq]; decide)
        rw [if_neg q, this, if_neg q]; rfl
    rw [key]
  rw [if_neg c3] at h6 ⊢
  rw [if_neg c3]
  by_cases c4 : op = 4
  · rw [if_pos c4] at h6 ⊢
    rw [if_pos c4]
    have h6' : (M.call b).1 ≠ 6 := h6
    have key : (moreF d M).call b = ((M.call b).1, moreF d (M.call b).2) := by
      unfold Ma.call at h6' ⊢
      by_cases q : M.room 0 0 ≠ 0
      · rw [if_pos q] at h6' ⊢
        have := more_room hd M 0 0 h6'
        rw [this, if_pos q]
      · have hq : M.room 0 0 = 0 := by simpa using q
        have := more_room hd M 0 0 (by rw [hq]; decide)
        rw [if_neg q, this, if_neg q]
        have hc : (moreF d M).calls = M.calls := rfl
        rw [hc]
        by_cases q2 : 12 ≤ M.calls.length
        · rw [if_pos q2, if_pos q2]
        · rw [if_neg q2, if_neg q2]; rfl
    rw [key]
  rw [if_neg c4] at h6 ⊢
  rw [if_neg c4]
  by_cases c5 : op = 5
  · rw [if_pos c5] at h6 ⊢
    rw [if_pos c5]
    unfold Ma.ret at h6 ⊢
    by_cases q : M.room 0 0 ≠ 0
    · rw [if_pos q] at h6 ⊢
      have := more_room hd M 0 0 h6
      rw [this, if_pos q]
    · have hq : M.room 0 0 = 0 := by simpa using q
      have := more_room hd M 0 0 (by rw [hq]; decide)
      rw [if_neg q, this, if_neg q]
      have hc : (moreF d M).calls = M.calls := rfl
      rw [hc]
      by_cases q2 : M.calls = []
      · rw [if_pos q2, if_pos q2]
      · rw [if_neg q2, if_neg q2]; rfl
  rw [if_neg c5] at h6 ⊢
  rw [if_neg c5]
  have h6' : (M.doN (op - 16)).1 ≠ 6 := h6
  have key : (moreF d M).doN (op - 16) = ((M.doN (op - 16)).1, moreF d (M.doN (op - 16)).2) := by
    generalize op - 16 = n at *
    unfold Ma.doN at h6' ⊢
    by_cases q : M.room (takesN n) (givesN n) ≠ 0
    · rw [if_pos q] at h6' ⊢
      have := more_room hd M _ _ h6'
      rw [this, if_pos q]
    · have hq : M.room (takesN n) (givesN n) = 0 := by simpa using q
      have := more_room hd M _ _ (show M.room (takesN n) (givesN n) ≠ 6 by rw [hq]; decide)
      have hf : (moreF d M).fault n = M.fault n := rfl
      rw [if_neg q, this, if_neg q, hf]
      by_cases q2 : M.fault n ≠ 0
      · rw [if_pos q2, if_pos q2]
      · rw [if_neg q2, if_neg q2]
        have ha := lift_act (du := 0) (df := d) (C := M.calls) M n
        rw [← more_lift] at ha
        rw [ha]
        have hcl : (M.tick.act n).calls = M.calls := by unfold Ma.act; repeat' split
                                                        all_goals rfl
        rw [← hcl, ← more_lift]
  rw [key]
theorem exec_more (l : List UInt8) {d : Int} (hd : 0 ≤ d) : ∀ (n : Nat) (p : Int) (M : Ma), (execC l n p M).1 ≠ 6 → execC l n p (moreF d M) = ((execC l n p M).1, moreF d (execC l n p M).2)
  | 0, p, M, _ => rfl
  | n + 1, p, M, h6 => by
    unfold execC at h6 ⊢
    by_cases hw : wholeC l p
    · rw [if_pos hw] at h6 ⊢
      rw [if_pos hw]
      by_cases h0 : atC l p = 0
      · rw [if_pos h0, if_pos h0]
      · rw [if_neg h0] at h6 ⊢
        rw [if_neg h0]
        by_cases he : (stepC l p M).2.1 ≠ 0
        · rw [if_pos he] at h6 ⊢
          have hm := step_more hd ((atC l p).toNat : Int) (operC l p) (p + sizeC (atC l p)) M h6
          have hm' : stepC l p (moreF d M) = ((stepC l p M).1, (stepC l p M).2.1, moreF d (stepC l p M).2.2) := hm
          rw [hm', if_pos he]
        · rw [if_neg he] at h6 ⊢
          have he' : (stepC l p M).2.1 = 0 := by simpa using he
          have hm' : stepC l p (moreF d M) = ((stepC l p M).1, (stepC l p M).2.1, moreF d (stepC l p M).2.2) := step_more hd ((atC l p).toNat : Int) (operC l p) (p + sizeC (atC l p)) M (by show (stepC l p M).2.1 ≠ 6; rw [he']; decide)
          rw [hm', if_neg he]
          exact exec_more l hd n _ _ h6
    · rw [if_neg hw, if_neg hw]
end Go.Proofs.Ytnanjomnldfidaa
