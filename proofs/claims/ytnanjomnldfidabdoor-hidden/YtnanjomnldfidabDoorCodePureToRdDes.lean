/-
  Code as plain data: which bytes are whole instructions, what a run of them does (P9), and what holds of every run (P5, P6). No memory.
  Runs of code: what fuel, secret bytes and Verify have to do with them (P6, P8, P9). Plain mathematics.
  What the reader's steps are like: where definitions lie in them, and to where steps lead. Plain mathematics.
-/
import Derived.Test.YtnanjomnldfidabDoorMaKeep
import Derived.Test.YtnanjomnldfidabDoorRunSim
set_option linter.unusedSimpArgs false
set_option linter.unusedVariables false
set_option linter.unusedSectionVars false
namespace Go.Proofs.YtnanjomnldfidabDoor

/-- How many bytes an instruction has; the byte at a place; does a whole one stand there; the two bytes behind it. -/
def sizeC (c : UInt8) : Nat := if 1 ≤ c.toNat ∧ c.toNat ≤ 4 then 3 else if c.toNat = 0 ∨ c.toNat = 5 ∨ (16 ≤ c.toNat ∧ c.toNat < 35) then 1 else 0
def atC (l : List UInt8) (p : Int) : UInt8 := l.getD p.toNat 0
abbrev wholeC (l : List UInt8) (p : Int) : Prop := 0 ≤ p ∧ p < (l.length : Int) ∧ 0 < sizeC (atC l p) ∧ p + sizeC (atC l p) ≤ (l.length : Int)
def operC (l : List UInt8) (p : Int) : Int := ((atC l (p + 1)).toNat : Int) * 256 + ((atC l (p + 2)).toNat : Int)
/-- The instruction at p (whole, no halt), and the run. -/
def stepC (l : List UInt8) (p : Int) (M : Ma) : Int × Int × Ma := stepM ((atC l p).toNat : Int) (operC l p) (p + sizeC (atC l p)) M
def execC (l : List UInt8) : Nat → Int → Ma → Int × Ma
  | 0, _, M => (0, M)
  | n + 1, p, M => if wholeC l p then (if atC l p = 0 then (0, M) else if (stepC l p M).2.1 ≠ 0 then ((stepC l p M).2.1, M) else execC l n (stepC l p M).1 (stepC l p M).2.2) else (5, M)

def szI (op : Int) : Nat := if op = 1 ∨ op = 2 ∨ op = 3 ∨ op = 4 then 3 else if op = 0 ∨ op = 5 ∨ (16 ≤ op ∧ op ≤ 34) then 1 else 0
def leadI (op : Int) : Bool := op == 2 || op == 3 || op == 4
theorem sizeC_szI (c : UInt8) (op : Int) (h : (c.toNat : Int) = op) : sizeC c = szI op := by
  subst h
  unfold sizeC szI
  by_cases q : 1 ≤ c.toNat ∧ c.toNat ≤ 4
  · have q' : (c.toNat : Int) = 1 ∨ (c.toNat : Int) = 2 ∨ (c.toNat : Int) = 3 ∨ (c.toNat : Int) = 4 := by omega
    rw [if_pos q, if_pos q']
  · have q' : ¬ ((c.toNat : Int) = 1 ∨ (c.toNat : Int) = 2 ∨ (c.toNat : Int) = 3 ∨ (c.toNat : Int) = 4) := by omega
    rw [if_neg q, if_neg q']
    by_cases q2 : c.toNat = 0 ∨ c.toNat = 5 ∨ (16 ≤ c.toNat ∧ c.toNat < 35)
    · have q3 : (c.toNat : Int) = 0 ∨ (c.toNat : Int) = 5 ∨ (16 ≤ (c.toNat : Int) ∧ (c.toNat : Int) ≤ 34) := by omega
      rw [if_pos q2, if_pos q3]
    · have q3 : ¬ ((c.toNat : Int) = 0 ∨ (c.toNat : Int) = 5 ∨ (16 ≤ (c.toNat : Int) ∧ (c.toNat : Int) ≤ 34)) := by omega
      rw [if_neg q2, if_neg q3]
/-- What instructionAt answers: the instruction, what belongs to it, its size. -/
def insA (l : List UInt8) (p : Int) : Int × Int × Int :=
  if 0 ≤ p ∧ p < (l.length : Int) then (if (l.length : Int) - p < sizeC (atC l p) then (0, 0, 0) else if sizeC (atC l p) = 3 then (((atC l p).toNat : Int), operC l p, 3) else (((atC l p).toNat : Int), 0, (sizeC (atC l p) : Int))) else (0, 0, 0)
theorem sizeC_op {c : UInt8} (h : 0 < sizeC c) (h0 : c ≠ 0) : opOk (c.toNat : Int) := by
  have hc : c.toNat ≠ 0 := fun h => h0 (UInt8.toNat_inj.1 h)
  unfold sizeC at h
  unfold opOk
  by_cases q : 1 ≤ c.toNat ∧ c.toNat ≤ 4
  · omega
  · rw [if_neg q] at h
    by_cases q2 : c.toNat = 0 ∨ c.toNat = 5 ∨ (16 ≤ c.toNat ∧ c.toNat < 35)
    · omega
    · rw [if_neg q2] at h; omega
theorem operC_bd (l : List UInt8) (p : Int) : 0 ≤ operC l p ∧ operC l p < 65536 := by
  unfold operC
  have h1 := (atC l (p + 1)).toNat_lt
  have h2 := (atC l (p + 2)).toNat_lt
  omega

/-- What a step that goes well leaves. -/
theorem stepM_cases (op arg b : Int) (M : Ma) (P : Ma → Prop) (he : (stepM op arg b M).2.1 = 0)
    (h1 : op = 1 → M.room 0 1 = 0 → P ((M.push arg).tick)) (h2 : M.room 0 0 = 0 → P M.tick) (h3 : M.room 1 0 = 0 → P M.tick.pop) (h4 : ∀ C, M.room 0 0 = 0 → P { M.tick with calls := C })
    (h6 : M.room (takesN (op - 16)) (givesN (op - 16)) = 0 → M.fault (op - 16) = 0 → P (M.tick.act (op - 16))) : P (stepM op arg b M).2.2 := by
  unfold stepM at he ⊢
  by_cases c1 : op = 1
  · rw [if_pos c1] at he ⊢
    unfold Ma.number at he ⊢
    by_cases q : M.room 0 1 ≠ 0
    · rw [if_pos q] at he; exact absurd he q
    · rw [if_neg q]; exact h1 c1 (by simpa using q)
  rw [if_neg c1] at he ⊢
  by_cases c2 : op = 2
  · rw [if_pos c2] at he ⊢
    unfold Ma.pass at he ⊢
    by_cases q : M.room 0 0 ≠ 0
    · rw [if_pos q] at he; exact absurd he q
    · rw [if_neg q]; exact h2 (by simpa using q)
  rw [if_neg c2] at he ⊢
  by_cases c3 : op = 3
  · rw [if_pos c3] at he ⊢
    have he' : M.takeN.2.1 = 0 := he
    show P M.takeN.2.2
    unfold Ma.takeN at he' ⊢
    by_cases q : M.room 1 0 ≠ 0
    · rw [if_pos q] at he'; exact absurd he' q
    · rw [if_neg q]; exact h3 (by simpa using q)
  rw [if_neg c3] at he ⊢
  by_cases c4 : op = 4
  · rw [if_pos c4] at he ⊢
    unfold Ma.call at he ⊢
    by_cases q : M.room 0 0 ≠ 0
    · rw [if_pos q] at he; exact absurd he q
    · rw [if_neg q] at he ⊢
      by_cases q2 : 12 ≤ M.calls.length
      · rw [if_pos q2] at he; cases he
      · rw [if_neg q2]; exact h4 _ (by simpa using q)
  rw [if_neg c4] at he ⊢
  by_cases c5 : op = 5
  · rw [if_pos c5] at he ⊢
    unfold Ma.ret at he ⊢
    by_cases q : M.room 0 0 ≠ 0
    · rw [if_pos q] at he; exact absurd he q
    · rw [if_neg q] at he ⊢
      by_cases q2 : M.calls = []
      · rw [if_pos q2] at he; cases he
      · rw [if_neg q2]; exact h4 _ (by simpa using q)
  rw [if_neg c5] at he ⊢
  unfold Ma.doN at he ⊢
  by_cases q : M.room (takesN (op - 16)) (givesN (op - 16)) ≠ 0
  · rw [if_pos q] at he; exact absurd he q
  · rw [if_neg q] at he ⊢
    by_cases q2 : M.fault (op - 16) ≠ 0
    · rw [if_pos q2] at he; exact absurd he q2
    · rw [if_neg q2]; exact h6 (by simpa using q) (by simpa using q2)

section
variable (M : Ma) (n : Int)
theorem act_out : (M.act n).out = if n = 16 then M.out ++ [byteOf M.top] else M.out := by
  unfold Ma.act
  by_cases h : n = 16
  · subst h; rfl
  · rw [if_neg h]; repeat' split
    all_goals first | rfl | (exact absurd ‹n = 16› h)
theorem act_mark : (M.act n).mark = if n = 18 then M.top else M.mark := by
  unfold Ma.act
  by_cases h : n = 18
  · subst h; rfl
  · rw [if_neg h]; repeat' split
    all_goals first | rfl | (exact absurd ‹n = 18› h)
theorem act_image : (M.act n).image = if n = 15 then M.image.set M.top.toNat (byteOf M.pop.top) else M.image := by
  unfold Ma.act
  by_cases h : n = 15
  · subst h; rfl
  · rw [if_neg h]; repeat' split
    all_goals first | rfl | (exact absurd ‹n = 15› h)
theorem act_rights : (M.act n).rights = M.rights := by unfold Ma.act; repeat' split
                                                       all_goals rfl
theorem act_fence : (M.act n).fence = M.fence := by unfold Ma.act; repeat' split
                                                    all_goals rfl
theorem act_kernel : (M.act n).kernel = M.kernel := by unfold Ma.act; repeat' split
                                                       all_goals rfl
theorem act_used : (M.act n).used = M.used := by unfold Ma.act; repeat' split
                                                 all_goals rfl
end

theorem fault_right {M : Ma} {n : Int} (h : M.fault n = 0) : (n = 16 → noRight M.rights 1 = false) ∧ (n = 18 → noRight M.rights 8 = false) ∧ (n = 15 → M.fence ≤ M.top ∧ M.top < M.image.length) ∧
    (n = 14 → M.top < M.image.length ∧ (M.kernel ≤ M.top → M.top < M.fence → noRight M.rights 4 = false)) := by
  unfold Ma.fault at h
  by_cases q1 : (n = 16 ∧ noRight M.rights 1 = true) ∨ (n = 17 ∧ noRight M.rights 2 = true) ∨ (n = 18 ∧ noRight M.rights 8 = true)
  · rw [if_pos q1] at h; cases h
  rw [if_neg q1] at h
  by_cases q2 : n = 16 ∧ 64 ≤ M.out.length
  · rw [if_pos q2] at h; cases h
  rw [if_neg q2] at h
  by_cases q3 : (n = 7 ∨ n = 8) ∧ M.top = 0
  · rw [if_pos q3] at h; cases h
  rw [if_neg q3] at h
  by_cases q4 : n = 14 ∧ ((M.image.length : Int) ≤ M.top ∨ (M.kernel ≤ M.top ∧ M.top < M.fence ∧ noRight M.rights 4 = true))
  · rw [if_pos q4] at h; cases h
  rw [if_neg q4] at h
  by_cases q5 : n = 15 ∧ (M.top < M.fence ∨ (M.image.length : Int) ≤ M.top)
  · rw [if_pos q5] at h; cases h
  refine ⟨fun e => ?_, fun e => ?_, fun e => ?_, fun e => ?_⟩
  · cases hh : noRight M.rights 1 with
    | false => rfl
    | true => exact absurd (.inl ⟨e, hh⟩) q1
  · cases hh : noRight M.rights 8 with
    | false => rfl
    | true => exact absurd (.inr (.inr ⟨e, hh⟩)) q1
  · have := fun hh => q5 ⟨e, hh⟩
    omega
  · refine ⟨?_, fun a b => ?_⟩
    · have := fun hh => q4 ⟨e, .inl hh⟩
      omega
    · cases hh : noRight M.rights 4 with
      | false => rfl
      | true => exact absurd ⟨e, .inr ⟨a, b, hh⟩⟩ q4

/-- What holds of a run: at its start, behind each step, at its end. -/
theorem execC_inv {l : List UInt8} {Inv : Ma → Prop} (hstep : ∀ p M, wholeC l p → atC l p ≠ 0 → Inv M → (stepC l p M).2.1 = 0 → Inv (stepC l p M).2.2) : ∀ n p M, Inv M → Inv (execC l n p M).2
  | 0, p, M, h => h
  | n + 1, p, M, h => by
    unfold execC
    by_cases hw : wholeC l p
    · rw [if_pos hw]
      by_cases h0 : atC l p = 0
      · rw [if_pos h0]; exact h
      · rw [if_neg h0]
        by_cases he : (stepC l p M).2.1 ≠ 0
        · rw [if_pos he]; exact h
        · rw [if_neg he]; exact execC_inv hstep n _ _ (hstep p M hw h0 h (by simpa using he))
    · rw [if_neg hw]; exact h

/-- The bounds of a run (P5, P6). -/
structure Bounds (B : Ma) (M : Ma) : Prop where
  fine : Fine M
  fuel : M.fuel = B.fuel
  rights : M.rights = B.rights
  kernel : M.kernel = B.kernel
  fence : M.fence = B.fence
  len : M.image.length = B.image.length
  sealed : M.image.take B.fence.toNat = B.image.take B.fence.toNat
  emit : noRight B.rights 1 = true → M.out = []
  mark : noRight B.rights 8 = true → M.mark = 0
  out : (M.out.length : Int) ≤ M.used
theorem Bounds.step {B M : Ma} (h : Bounds B M) (hB : 0 ≤ B.fence) {op arg b : Int} (ho : opOk op) (ha : 0 ≤ arg ∧ arg < 65536) (he : (stepM op arg b M).2.1 = 0) : Bounds B (stepM op arg b M).2.2 := by
  have hu := step_used op arg b M he ho h.fine.ok (fun _ => ha)
  have hr := step_room op arg b M he
  have hfu := step_fuel op arg b M
  have hfine : Fine (stepM op arg b M).2.2 := ⟨hu.2, by rw [hu.1, hfu]; omega⟩
  have hrest : (stepM op arg b M).2.2.rights = M.rights ∧ (stepM op arg b M).2.2.kernel = M.kernel ∧ (stepM op arg b M).2.2.fence = M.fence ∧ (stepM op arg b M).2.2.image.length = M.image.length ∧
      (stepM op arg b M).2.2.image.take M.fence.toNat = M.image.take M.fence.toNat ∧ (noRight M.rights 1 = true → (stepM op arg b M).2.2.out = M.out) ∧ (noRight M.rights 8 = true → (stepM op arg b M).2.2.mark = M.mark) ∧ (stepM op arg b M).2.2.out.length ≤ M.out.length + 1 := by
    refine stepM_cases op arg b M (fun N => N.rights = M.rights ∧ N.kernel = M.kernel ∧ N.fence = M.fence ∧ N.image.length = M.image.length ∧ N.image.take M.fence.toNat = M.image.take M.fence.toNat ∧ (noRight M.rights 1 = true → N.out = M.out) ∧ (noRight M.rights 8 = true → N.mark = M.mark) ∧ N.out.length ≤ M.out.length + 1) he ?_ ?_ ?_ ?_ ?_
    · exact fun _ _ => ⟨rfl, rfl, rfl, rfl, rfl, fun _ => rfl, fun _ => rfl, Nat.le_succ _⟩
    · exact fun _ => ⟨rfl, rfl, rfl, rfl, rfl, fun _ => rfl, fun _ => rfl, Nat.le_succ _⟩
    · exact fun _ => ⟨rfl, rfl, rfl, rfl, rfl, fun _ => rfl, fun _ => rfl, Nat.le_succ _⟩
    · exact fun _ _ => ⟨rfl, rfl, rfl, rfl, rfl, fun _ => rfl, fun _ => rfl, Nat.le_succ _⟩
    · intro _ hf
      obtain ⟨r1, r2, r3, _⟩ := fault_right hf
      generalize op - 16 = n at *
      refine ⟨act_rights _ _, act_kernel _ _, act_fence _ _, ?_, ?_, fun hn => ?_, fun hn => ?_, ?_⟩
      · rw [act_image]; split
        · rw [List.length_set]; rfl
        · rfl
      · rw [act_image]; split
        · rename_i h15
          have h3 := r3 h15
          show (M.image.set M.top.toNat _).take M.fence.toNat = _
          rw [List.take_set_of_le (by omega)]
        · rfl
      · rw [act_out]; split
        · rename_i h16
          rw [r1 h16] at hn; cases hn
        · rfl
      · rw [act_mark]; split
        · rename_i h18
          rw [r2 h18] at hn; cases hn
        · rfl
      · rw [act_out]; split
        · show (M.out ++ [_]).length ≤ _; simp
        · show M.out.length ≤ _; omega
  obtain ⟨a1, a2, a3, a4, a5, a6, a7, a8⟩ := hrest
  refine ⟨hfine, hfu.trans h.fuel, a1.trans h.rights, a2.trans h.kernel, a3.trans h.fence, a4.trans h.len, ?_, fun hn => ?_, fun hn => ?_, ?_⟩
  · rw [← h.fence]; rw [a5, h.fence]; exact h.sealed
  · rw [a6 (by rw [h.rights]; exact hn)]; exact h.emit hn
  · rw [a7 (by rw [h.rights]; exact hn)]; exact h.mark hn
  · have := h.out
    rw [hu.1]; omega
theorem exec_bounds (l : List UInt8) (n : Nat) (p : Int) {B : Ma} (hB : 0 ≤ B.fence) (h : Bounds B B) : Bounds B (execC l n p B).2 :=
  execC_inv (Inv := Bounds B) (fun p M hw h0 hM he => hM.step hB (sizeC_op hw.2.2.1 h0) (operC_bd l p) he) n p B h

/-- The turns that a run has left. -/
theorem execC_stable (l : List UInt8) : ∀ (n m : Nat) (p : Int) (M : Ma), Fine M → (M.fuel - M.used).toNat < n → (M.fuel - M.used).toNat < m → execC l n p M = execC l m p M
  | 0, m, p, M, _, hn, _ => by omega
  | n + 1, 0, p, M, _, _, hm => by omega
  | n + 1, m + 1, p, M, h, hn, hm => by
    unfold execC
    by_cases hw : wholeC l p
    · rw [if_pos hw, if_pos hw]
      by_cases h0 : atC l p = 0
      · rw [if_pos h0, if_pos h0]
      · rw [if_neg h0, if_neg h0]
        by_cases he : (stepC l p M).2.1 ≠ 0
        · rw [if_pos he, if_pos he]
        · rw [if_neg he, if_neg he]
          have he' : (stepC l p M).2.1 = 0 := by simpa using he
          have hu := step_used _ _ _ M he' (sizeC_op hw.2.2.1 h0) h.ok (fun _ => operC_bd l p)
          have hr := step_room _ _ _ M he'
          have hfu := step_fuel ((atC l p).toNat : Int) (operC l p) (p + sizeC (atC l p)) M
          have hu1 : (stepC l p M).2.2.used = M.used + 1 := hu.1
          have hf1 : (stepC l p M).2.2.fuel = M.fuel := hfu
          have hok : (stepC l p M).2.2.Ok := hu.2
          exact execC_stable l n m _ _ ⟨hok, by omega⟩ (by omega) (by omega)
    · rw [if_neg hw, if_neg hw]

/-- More fuel (P5). -/
def moreF (d : Int) (M : Ma) : Ma := { M with fuel := M.fuel + d }
theorem more_lift (d : Int) (M : Ma) : moreF d M = liftM 0 d M.calls M := by unfold moreF liftM; simp only [Int.add_zero]
theorem more_room {d : Int} (hd : 0 ≤ d) (M : Ma) (t g : Int) (h : M.room t g ≠ 6) : (moreF d M).room t g = M.room t g := by rw [more_lift]; exact lift_room hd M t g h
theorem step_more {d : Int} (hd : 0 ≤ d) (op arg b : Int) (M : Ma) (h6 : (stepM op arg b M).2.1 ≠ 6) : stepM op arg b (moreF d M) = ((stepM op arg b M).1, (stepM op arg b M).2.1, moreF d (stepM op arg b M).2.2) := by
  unfold stepM at h6 ⊢
  by_cases c1 : op = 1
  · rw [if_pos c1] at h6 ⊢
    rw [if_pos c1]
    unfold Ma.number at h6 ⊢
    by_cases q : M.room 0 1 ≠ 0
    · rw [if_pos q] at h6 ⊢
      have := more_room hd M 0 1 h6
      rw [this, if_pos q]
    · have hq : M.room 0 1 = 0 := by simpa using q
      have := more_room hd M 0 1 (by rw [hq]; decide)
      rw [if_neg q, this, if_neg q]; rfl
  rw [if_neg c1] at h6 ⊢
  rw [if_neg c1]
  by_cases c2 : op = 2
  · rw [if_pos c2] at h6 ⊢
    rw [if_pos c2]
    unfold Ma.pass at h6 ⊢
    by_cases q : M.room 0 0 ≠ 0
    · rw [if_pos q] at h6 ⊢
      have := more_room hd M 0 0 h6
      rw [this, if_pos q]
    · have hq : M.room 0 0 = 0 := by simpa using q
      have := more_room hd M 0 0 (by rw [hq]; decide)
      rw [if_neg q, this, if_neg q]; rfl
  rw [if_neg c2] at h6 ⊢
  rw [if_neg c2]
  by_cases c3 : op = 3
  · rw [if_pos c3] at h6 ⊢
    rw [if_pos c3]
    have h6' : M.takeN.2.1 ≠ 6 := h6
    have key : (moreF d M).takeN = (M.takeN.1, M.takeN.2.1, moreF d M.takeN.2.2) := by
      unfold Ma.takeN at h6' ⊢
      by_cases q : M.room 1 0 ≠ 0
      · rw [if_pos q] at h6' ⊢
        have := more_room hd M 1 0 h6'
        rw [this, if_pos q]
      · have hq : M.room 1 0 = 0 := by simpa using q
        have := more_room hd M 1 0 (by rw [hq]; decide)
        rw [if_neg q, this, if_neg q]; rfl
    rw [key]
  rw [if_neg c3] at h6 ⊢
  rw [if_neg c3]
  by_cases c4 : op = 4
  · rw [if_pos c4] at h6 ⊢
    rw [if_pos c4]
    have h6' : (M.call b).1 ≠ 6 := h6
    have key : (moreF d M).call b = ((M.call b).1, moreF d (M.call b).2) := by
      unfold Ma.call at h6' ⊢
      by_cases q : M.room 0 0 ≠ 0
      · rw [if_pos q] at h6' ⊢
        have := more_room hd M 0 0 h6'
        rw [this, if_pos q]
      · have hq : M.room 0 0 = 0 := by simpa using q
        have := more_room hd M 0 0 (by rw [hq]; decide)
        rw [if_neg q, this, if_neg q]
        have hc : (moreF d M).calls = M.calls := rfl
        rw [hc]
        by_cases q2 : 12 ≤ M.calls.length
        · rw [if_pos q2, if_pos q2]
        · rw [if_neg q2, if_neg q2]; rfl
    rw [key]
  rw [if_neg c4] at h6 ⊢
  rw [if_neg c4]
  by_cases c5 : op = 5
  · rw [if_pos c5] at h6 ⊢
    rw [if_pos c5]
    unfold Ma.ret at h6 ⊢
    by_cases q : M.room 0 0 ≠ 0
    · rw [if_pos q] at h6 ⊢
      have := more_room hd M 0 0 h6
      rw [this, if_pos q]
    · have hq : M.room 0 0 = 0 := by simpa using q
      have := more_room hd M 0 0 (by rw [hq]; decide)
      rw [if_neg q, this, if_neg q]
      have hc : (moreF d M).calls = M.calls := rfl
      rw [hc]
      by_cases q2 : M.calls = []
      · rw [if_pos q2, if_pos q2]
      · rw [if_neg q2, if_neg q2]; rfl
  rw [if_neg c5] at h6 ⊢
  rw [if_neg c5]
  have h6' : (M.doN (op - 16)).1 ≠ 6 := h6
  have key : (moreF d M).doN (op - 16) = ((M.doN (op - 16)).1, moreF d (M.doN (op - 16)).2) := by
    generalize op - 16 = n at *
    unfold Ma.doN at h6' ⊢
    by_cases q : M.room (takesN n) (givesN n) ≠ 0
    · rw [if_pos q] at h6' ⊢
      have := more_room hd M _ _ h6'
      rw [this, if_pos q]
    · have hq : M.room (takesN n) (givesN n) = 0 := by simpa using q
      have := more_room hd M _ _ (show M.room (takesN n) (givesN n) ≠ 6 by rw [hq]; decide)
      have hf : (moreF d M).fault n = M.fault n := rfl
      rw [if_neg q, this, if_neg q, hf]
      by_cases q2 : M.fault n ≠ 0
      · rw [if_pos q2, if_pos q2]
      · rw [if_neg q2, if_neg q2]
        have ha := lift_act (du := 0) (df := d) (C := M.calls) M n
        rw [← more_lift] at ha
        rw [ha]
        have hcl : (M.tick.act n).calls = M.calls := by unfold Ma.act; repeat' split
                                                        all_goals rfl
        rw [← hcl, ← more_lift]
  rw [key]
theorem exec_more (l : List UInt8) {d : Int} (hd : 0 ≤ d) : ∀ (n : Nat) (p : Int) (M : Ma), (execC l n p M).1 ≠ 6 → execC l n p (moreF d M) = ((execC l n p M).1, moreF d (execC l n p M).2)
  | 0, p, M, _ => rfl
  | n + 1, p, M, h6 => by
    unfold execC at h6 ⊢
    by_cases hw : wholeC l p
    · rw [if_pos hw] at h6 ⊢
      rw [if_pos hw]
      by_cases h0 : atC l p = 0
      · rw [if_pos h0, if_pos h0]
      · rw [if_neg h0] at h6 ⊢
        rw [if_neg h0]
        by_cases he : (stepC l p M).2.1 ≠ 0
        · rw [if_pos he] at h6 ⊢
          have hm := step_more hd ((atC l p).toNat : Int) (operC l p) (p + sizeC (atC l p)) M h6
          have hm' : stepC l p (moreF d M) = ((stepC l p M).1, (stepC l p M).2.1, moreF d (stepC l p M).2.2) := hm
          rw [hm', if_pos he]
        · rw [if_neg he] at h6 ⊢
          have he' : (stepC l p M).2.1 = 0 := by simpa using he
          have hm' : stepC l p (moreF d M) = ((stepC l p M).1, (stepC l p M).2.1, moreF d (stepC l p M).2.2) := step_more hd ((atC l p).toNat : Int) (operC l p) (p + sizeC (atC l p)) M (by show (stepC l p M).2.1 ≠ 6; rw [he']; decide)
          rw [hm', if_neg he]
          exact exec_more l hd n _ _ h6
    · rw [if_neg hw, if_neg hw]
end Go.Proofs.YtnanjomnldfidabDoor

set_option linter.unusedSimpArgs false
set_option linter.unusedVariables false
set_option linter.unusedSectionVars false
namespace Go.Proofs.YtnanjomnldfidabDoor

/-- What a run puts out it never takes back. -/
structure Grows (M N : Ma) : Prop where
  used : M.used ≤ N.used
  out : M.out <+: N.out
theorem Grows.refl (M : Ma) : Grows M M := ⟨Int.le_refl _, List.prefix_rfl⟩
theorem Grows.trans {M N K : Ma} (h : Grows M N) (h2 : Grows N K) : Grows M K := ⟨Int.le_trans h.used h2.used, h.out.trans h2.out⟩
theorem grows_step (op arg b : Int) (M : Ma) (he : (stepM op arg b M).2.1 = 0) : Grows M (stepM op arg b M).2.2 := by
  have hle : M.used ≤ M.used + 1 := by omega
  refine stepM_cases op arg b M (fun N => Grows M N) he (fun _ _ => ⟨hle, List.prefix_rfl⟩) (fun _ => ⟨hle, List.prefix_rfl⟩) (fun _ => ⟨hle, List.prefix_rfl⟩) (fun _ _ => ⟨hle, List.prefix_rfl⟩) (fun _ _ => ⟨by rw [act_used]; exact hle, ?_⟩)
  rw [act_out]; split
  · exact List.prefix_append _ _
  · exact List.prefix_rfl
theorem exec_grows (l : List UInt8) (n : Nat) (p : Int) (M : Ma) : Grows M (execC l n p M).2 :=
  execC_inv (Inv := Grows M) (fun p N _ _ h he => h.trans (grows_step _ _ _ N he)) n p M (Grows.refl M)
/-- A run that stops for want of fuel goes on with more. -/
theorem exec_six (l : List UInt8) {d : Int} (hd : 0 ≤ d) : ∀ (n m : Nat) (p : Int) (M : Ma), n ≤ m → (execC l n p M).1 = 6 → Grows (execC l n p M).2 (execC l m p (moreF d M)).2 ∧ (execC l n p M).2.fuel ≤ (execC l n p M).2.used
  | 0, m, p, M, _, h => by cases h
  | n + 1, 0, p, M, h, _ => by omega
  | n + 1, m + 1, p, M, hnm, h6 => by
    have hg : Grows M (execC l (m + 1) p (moreF d M)).2 := ⟨(exec_grows l (m + 1) p (moreF d M)).used, (exec_grows l (m + 1) p (moreF d M)).out⟩
    unfold execC at h6 hg ⊢
    by_cases hw : wholeC l p
    · rw [if_pos hw] at h6 hg ⊢
      rw [if_pos hw]
      by_cases h0 : atC l p = 0
      · rw [if_pos h0] at h6; cases h6
      · rw [if_neg h0] at h6 hg ⊢
        rw [if_neg h0]
        by_cases he : (stepC l p M).2.1 ≠ 0
        · rw [if_pos he] at h6 ⊢
          exact ⟨hg, step_six _ _ _ M h6⟩
        · rw [if_neg he] at h6 ⊢
          have he' : (stepC l p M).2.1 = 0 := by simpa using he
          have hm' : stepC l p (moreF d M) = ((stepC l p M).1, (stepC l p M).2.1, moreF d (stepC l p M).2.2) := step_more hd ((atC l p).toNat : Int) (operC l p) (p + sizeC (atC l p)) M (by show (stepC l p M).2.1 ≠ 6; rw [he']; decide)
          rw [hm', if_neg he]
          exact exec_six l hd n m _ _ (by omega) h6
    · rw [if_neg hw] at h6; cases h6
/-- A run that ends well has come to a halt. -/
theorem exec_halt (l : List UInt8) : ∀ (n : Nat) (p : Int) (M : Ma), Fine M → (M.fuel - M.used).toNat < n → (execC l n p M).1 = 0 → ∃ q : Nat, q < l.length ∧ l[q]? = some 0
  | 0, p, M, _, hn, _ => by omega
  | n + 1, p, M, h, hn, h0' => by
    unfold execC at h0'
    by_cases hw : wholeC l p
    · rw [if_pos hw] at h0'
      by_cases h0 : atC l p = 0
      · have h1 := hw.1
        have h2 := hw.2.1
        refine ⟨p.toNat, by omega, ?_⟩
        have : l[p.toNat]? = some (l.getD p.toNat 0) := by
          rw [List.getD_eq_getElem?_getD, List.getElem?_eq_getElem (by omega)]; rfl
        rw [this]
        exact congrArg some h0
      · rw [if_neg h0] at h0'
        by_cases he : (stepC l p M).2.1 ≠ 0
        · rw [if_pos he] at h0'; exact absurd h0' he
        · rw [if_neg he] at h0'
          have he' : (stepC l p M).2.1 = 0 := by simpa using he
          have hu := step_used _ _ _ M he' (sizeC_op hw.2.2.1 h0) h.ok (fun _ => operC_bd l p)
          have hr := step_room _ _ _ M he'
          have hf1 : (stepC l p M).2.2.fuel = M.fuel := step_fuel ((atC l p).toNat : Int) (operC l p) (p + sizeC (atC l p)) M
          have hu1 : (stepC l p M).2.2.used = M.used + 1 := hu.1
          have hok : (stepC l p M).2.2.Ok := hu.2
          exact exec_halt l n _ _ ⟨hok, by omega⟩ (by omega) h0'
    · rw [if_neg hw] at h0'; cases h0'

/-- The same machine with other bytes in the image. -/
def withI (M : Ma) (I : List UInt8) : Ma := { M with image := I }
/-- Two images that differ in the secret bytes alone; no right to look. -/
structure SecR (M : Ma) (I : List UInt8) : Prop where
  len : I.length = M.image.length
  same : ∀ i : Nat, ((i : Int) < M.kernel ∨ M.fence ≤ (i : Int)) → I.getD i 0 = M.image.getD i 0
  look : noRight M.rights 4 = true
theorem SecR.of {M N : Ma} {I : List UInt8} (h : SecR M I) (h1 : N.image = M.image) (h2 : N.kernel = M.kernel) (h3 : N.fence = M.fence) (h4 : N.rights = M.rights) : SecR N I :=
  ⟨by rw [h1]; exact h.len, by rw [h1, h2, h3]; exact h.same, by rw [h4]; exact h.look⟩
theorem top_nonneg {M : Ma} (h : M.Ok) : 0 ≤ M.top := by
  unfold Ma.top
  rcases hs : M.stack.getLast? with _ | x
  · rw [List.getLastD_eq_getLast?, hs]; exact Int.le_refl _
  · rw [List.getLastD_eq_getLast?, hs]
    exact (h.nums x (List.mem_of_getLast? hs)).1
theorem sec_fault {M : Ma} {I : List UInt8} (h : SecR M I) (n : Int) : (withI M I).fault n = M.fault n := by
  unfold Ma.fault
  show (if (n = 16 ∧ noRight M.rights 1 = true) ∨ (n = 17 ∧ noRight M.rights 2 = true) ∨ (n = 18 ∧ noRight M.rights 8 = true) then (10 : Int)
    else if n = 16 ∧ 64 ≤ M.out.length then 11
    else if (n = 7 ∨ n = 8) ∧ M.top = 0 then 12
    else if n = 14 ∧ ((I.length : Int) ≤ M.top ∨ (M.kernel ≤ M.top ∧ M.top < M.fence ∧ noRight M.rights 4 = true)) then 13
    else if n = 15 ∧ (M.top < M.fence ∨ (I.length : Int) ≤ M.top) then 13
    else 0) = _
  rw [h.len]
theorem sec_act {M : Ma} {I : List UInt8} (h : SecR M I) (hok : M.Ok) (n : Int) (hf : M.fault n = 0) : ∃ J, (withI M I).tick.act n = withI (M.tick.act n) J ∧ SecR (M.tick.act n) J := by
  obtain ⟨_, _, r3, r4⟩ := fault_right hf
  by_cases c4 : n = 14
  · subst c4
    have ht := top_nonneg hok
    have hr := r4 rfl
    have hlk := h.look
    have hs := h.same M.top.toNat (by
      by_cases k1 : M.kernel ≤ M.top
      · by_cases k2 : M.top < M.fence
        · rw [hr.2 k1 k2] at hlk; cases hlk
        · omega
      · omega)
    refine ⟨I, ?_, h.of (by rw [act_image]; rfl) (act_kernel _ _) (act_fence _ _) (act_rights _ _)⟩
    show (((withI M I).tick.pop).push ((I.getD M.top.toNat 0).toNat : Int)) = withI (M.tick.pop.push ((M.image.getD M.top.toNat 0).toNat : Int)) I
    rw [hs]
    rfl
  by_cases c9 : n = 15
  · subst c9
    have hr := r3 rfl
    refine ⟨I.set M.top.toNat (byteOf M.pop.top), rfl, ⟨?_, fun i hi => ?_, ?_⟩⟩
    · rw [act_image, if_pos rfl, List.length_set]
      show I.length = (M.image.set _ _).length
      rw [List.length_set]; exact h.len
    · rw [act_kernel, act_fence] at hi
      have hs := h.same i hi
      rw [act_image, if_pos rfl]
      show (I.set M.top.toNat (byteOf M.pop.top)).getD i 0 = (M.image.set M.top.toNat (byteOf M.pop.top)).getD i 0
      rw [List.getD_eq_getElem?_getD, List.getD_eq_getElem?_getD] at hs
      rw [List.getD_eq_getElem?_getD, List.getD_eq_getElem?_getD, List.getElem?_set, List.getElem?_set, h.len]
      split
      · rfl
      · exact hs
    · rw [act_rights]; exact h.look
  refine ⟨I, ?_, h.of (by rw [act_image, if_neg c9]; rfl) (act_kernel _ _) (act_fence _ _) (act_rights _ _)⟩
  have ht : (withI M I).tick = withI M.tick I := rfl
  rw [ht]
  generalize M.tick = N
  unfold Ma.act
  by_cases c1 : n = 17
  · rw [if_pos c1, if_pos c1]
    have e1 : (withI N I).pos = N.pos := rfl
    have e2 : (withI N I).inp = N.inp := rfl
    rw [e1, e2]
    by_cases c : N.pos < N.inp.size
    · rw [if_pos c, if_pos c]; rfl
    · rw [if_neg c, if_neg c]; rfl
  rw [if_neg c1, if_neg c1]
  by_cases c2 : n = 1
  · rw [if_pos c2, if_pos c2]; rfl
  rw [if_neg c2, if_neg c2]
  by_cases c3 : n = 0
  · rw [if_pos c3, if_pos c3]; rfl
  rw [if_neg c3, if_neg c3, if_neg c4, if_neg c4]
  by_cases c5 : n = 16
  · rw [if_pos c5, if_pos c5]; rfl
  rw [if_neg c5, if_neg c5]
  by_cases c6 : n = 18
  · rw [if_pos c6, if_pos c6]; rfl
  rw [if_neg c6, if_neg c6]
  by_cases c7 : n = 2
  · rw [if_pos c7, if_pos c7]; rfl
  rw [if_neg c7, if_neg c7]
  by_cases c8 : n = 3
  · rw [if_pos c8, if_pos c8]; rfl
  rw [if_neg c8, if_neg c8, if_neg c9, if_neg c9]; rfl
theorem sec_step {M : Ma} {I : List UInt8} (h : SecR M I) (hok : M.Ok) (op arg b : Int) : ∃ J, stepM op arg b (withI M I) = ((stepM op arg b M).1, (stepM op arg b M).2.1, withI (stepM op arg b M).2.2 J) ∧ SecR (stepM op arg b M).2.2 J := by
  have hroom : ∀ t g, (withI M I).room t g = M.room t g := fun _ _ => rfl
  unfold stepM
  by_cases c1 : op = 1
  · rw [if_pos c1, if_pos c1]
    unfold Ma.number
    rw [hroom]
    by_cases q : M.room 0 1 ≠ 0
    · rw [if_pos q, if_pos q]; exact ⟨I, rfl, h⟩
    · rw [if_neg q, if_neg q]; exact ⟨I, rfl, h.of rfl rfl rfl rfl⟩
  rw [if_neg c1, if_neg c1]
  by_cases c2 : op = 2
  · rw [if_pos c2, if_pos c2]
    unfold Ma.pass
    rw [hroom]
    by_cases q : M.room 0 0 ≠ 0
    · rw [if_pos q, if_pos q]; exact ⟨I, rfl, h⟩
    · rw [if_neg q, if_neg q]; exact ⟨I, rfl, h.of rfl rfl rfl rfl⟩
  rw [if_neg c2, if_neg c2]
  by_cases c3 : op = 3
  · rw [if_pos c3, if_pos c3]
    have key : (withI M I).takeN = (M.takeN.1, M.takeN.2.1, withI M.takeN.2.2 I) ∧ SecR M.takeN.2.2 I := by
      unfold Ma.takeN
      rw [hroom]
      by_cases q : M.room 1 0 ≠ 0
      · rw [if_pos q, if_pos q]; exact ⟨rfl, h⟩
      · rw [if_neg q, if_neg q]; exact ⟨rfl, h.of rfl rfl rfl rfl⟩
    refine ⟨I, ?_, key.2⟩
    rw [key.1]
  rw [if_neg c3, if_neg c3]
  by_cases c4 : op = 4
  · rw [if_pos c4, if_pos c4]
    unfold Ma.call
    rw [hroom, show (withI M I).calls = M.calls from rfl]
    by_cases q : M.room 0 0 ≠ 0
    · rw [if_pos q, if_pos q]; exact ⟨I, rfl, h⟩
    · rw [if_neg q, if_neg q]
      by_cases q2 : 12 ≤ M.calls.length
      · rw [if_pos q2, if_pos q2]; exact ⟨I, rfl, h⟩
      · rw [if_neg q2, if_neg q2]; exact ⟨I, rfl, h.of rfl rfl rfl rfl⟩
  rw [if_neg c4, if_neg c4]
  by_cases c5 : op = 5
  · rw [if_pos c5, if_pos c5]
    unfold Ma.ret
    rw [hroom, show (withI M I).calls = M.calls from rfl]
    by_cases q : M.room 0 0 ≠ 0
    · rw [if_pos q, if_pos q]; exact ⟨I, rfl, h⟩
    · rw [if_neg q, if_neg q]
      by_cases q2 : M.calls = []
      · rw [if_pos q2, if_pos q2]; exact ⟨I, rfl, h⟩
      · rw [if_neg q2, if_neg q2]; exact ⟨I, rfl, h.of rfl rfl rfl rfl⟩
  rw [if_neg c5, if_neg c5]
  generalize op - 16 = n
  unfold Ma.doN
  rw [hroom, sec_fault h]
  by_cases q : M.room (takesN n) (givesN n) ≠ 0
  · rw [if_pos q, if_pos q]; exact ⟨I, rfl, h⟩
  · rw [if_neg q, if_neg q]
    by_cases q2 : M.fault n ≠ 0
    · rw [if_pos q2, if_pos q2]; exact ⟨I, rfl, h⟩
    · rw [if_neg q2, if_neg q2]
      obtain ⟨J, hJ, hS⟩ := sec_act h hok n (by simpa using q2)
      exact ⟨J, by rw [hJ], hS⟩
theorem exec_sec (l : List UInt8) : ∀ (n : Nat) (p : Int) (M : Ma) (I : List UInt8), SecR M I → M.Ok → ∃ J, execC l n p (withI M I) = ((execC l n p M).1, withI (execC l n p M).2 J) ∧ SecR (execC l n p M).2 J
  | 0, p, M, I, h, _ => ⟨I, rfl, h⟩
  | n + 1, p, M, I, h, hok => by
    unfold execC
    by_cases hw : wholeC l p
    · rw [if_pos hw, if_pos hw]
      by_cases h0 : atC l p = 0
      · rw [if_pos h0, if_pos h0]; exact ⟨I, rfl, h⟩
      · rw [if_neg h0, if_neg h0]
        obtain ⟨J, hJ, hS⟩ := sec_step h hok ((atC l p).toNat : Int) (operC l p) (p + sizeC (atC l p))
        have hJ' : stepC l p (withI M I) = ((stepC l p M).1, (stepC l p M).2.1, withI (stepC l p M).2.2 J) := hJ
        rw [hJ']
        by_cases he : (stepC l p M).2.1 ≠ 0
        · rw [if_pos he, if_pos he]; exact ⟨I, rfl, h⟩
        · rw [if_neg he, if_neg he]
          have he' : (stepC l p M).2.1 = 0 := by simpa using he
          have hu := step_used _ _ _ M he' (sizeC_op hw.2.2.1 h0) hok (fun _ => operC_bd l p)
          exact exec_sec l n _ _ J hS hu.2
    · rw [if_neg hw, if_neg hw]; exact ⟨I, rfl, h⟩

/-- The instructions, gone through from a place on: where they begin, and where that ends. -/
def walkC (l : List UInt8) : Nat → Nat → List Nat × Nat
  | 0, p => ([], p)
  | n + 1, p => if wholeC l (p : Int) then (p :: (walkC l n (p + sizeC (atC l (p : Int)))).1, (walkC l n (p + sizeC (atC l (p : Int)))).2) else ([], p)
def startsC (l : List UInt8) : List Nat := (walkC l l.length 0).1
def stopC (l : List UInt8) : Nat := (walkC l l.length 0).2
/-- The places of the jumps and calls that lead nowhere. -/
def badC (l : List UInt8) (p : Nat) : Bool := decide (2 ≤ (atC l (p : Int)).toNat) && decide ((atC l (p : Int)).toNat ≤ 4) && !(startsC l).contains (operC l (p : Int)).toNat
def endsC (c : UInt8) : Bool := c.toNat == 0 || c.toNat == 2 || c.toNat == 5
/-- P8. -/
def verifyC (l : List UInt8) : Int × Int :=
  if 1024 < l.length then (1, 0) else if stopC l < l.length then (5, (stopC l : Int))
  else match (startsC l).find? (badC l) with
    | some p => (5, (p : Int))
    | none => if endsC (atC l ((startsC l).getLastD 0 : Nat)) = true ∧ l ≠ [] then (0, 0) else (5, ((startsC l).getLastD 0 : Nat))

theorem walk_facts (l : List UInt8) : ∀ (n p : Nat), l.length ≤ p + n → l.length ≤ (walkC l n p).2 → p ≤ l.length →
    (p < l.length → p ∈ (walkC l n p).1) ∧ (p = l.length → (walkC l n p).1 = []) ∧ ∀ q ∈ (walkC l n p).1, wholeC l (q : Int) ∧ (q + sizeC (atC l (q : Int)) ∈ (walkC l n p).1 ∨ (q + sizeC (atC l (q : Int)) = l.length ∧ (walkC l n p).1.getLast? = some q))
  | 0, p, hn, hs, hp => by
    refine ⟨fun h => by omega, fun _ => rfl, fun q hq => ?_⟩
    simp [walkC] at hq
  | n + 1, p, hn, hs, hp => by
    unfold walkC at hs ⊢
    by_cases hw : wholeC l (p : Int)
    · rw [if_pos hw] at hs ⊢
      have h3 := hw.2.2.1
      have h4 := hw.2.2.2
      obtain ⟨a, b, c⟩ := walk_facts l n (p + sizeC (atC l (p : Int))) (by omega) hs (by omega)
      have h2 := hw.2.1
      refine ⟨fun _ => List.mem_cons_self, fun h => by omega, fun q hq => ?_⟩
      rcases List.mem_cons.1 hq with h | h
      · subst h
        refine ⟨hw, ?_⟩
        by_cases hl : q + sizeC (atC l (q : Int)) < l.length
        · exact .inl (List.mem_cons_of_mem _ (a hl))
        · have he : q + sizeC (atC l (q : Int)) = l.length := by omega
          refine .inr ⟨he, ?_⟩
          rw [b he]; rfl
      · obtain ⟨c1, c2⟩ := c q h
        refine ⟨c1, c2.imp (List.mem_cons_of_mem _) fun ⟨d1, d2⟩ => ⟨d1, ?_⟩⟩
        rw [List.getLast?_cons]
        rw [d2]; rfl
    · rw [if_neg hw] at hs ⊢
      have : l.length ≤ p := hs
      refine ⟨fun h => by omega, fun _ => rfl, fun q hq => ?_⟩
      simp at hq
/-- What Verify's OK says. -/
structure WholeC (l : List UInt8) : Prop where
  ne : l ≠ []
  zero : 0 ∈ startsC l
  whole : ∀ q ∈ startsC l, wholeC l (q : Int)
  jump : ∀ q ∈ startsC l, 2 ≤ (atC l (q : Int)).toNat → (atC l (q : Int)).toNat ≤ 4 → (operC l (q : Int)).toNat ∈ startsC l
  next : ∀ q ∈ startsC l, (atC l (q : Int)).toNat ≠ 0 → (atC l (q : Int)).toNat ≠ 2 → (atC l (q : Int)).toNat ≠ 5 → q + sizeC (atC l (q : Int)) ∈ startsC l
theorem verify_whole {l : List UInt8} (h : (verifyC l).1 = 0) : WholeC l := by
  unfold verifyC at h
  by_cases h1 : 1024 < l.length
  · rw [if_pos h1] at h; cases h
  rw [if_neg h1] at h
  by_cases h2 : stopC l < l.length
  · rw [if_pos h2] at h; cases h
  rw [if_neg h2] at h
  rcases hb : (startsC l).find? (badC l) with _ | p
  · rw [hb] at h
    have h' : (if endsC (atC l ((startsC l).getLastD 0 : Nat)) = true ∧ l ≠ [] then ((0 : Int), (0 : Int)) else (5, ((startsC l).getLastD 0 : Nat))).1 = 0 := h
    by_cases h3 : endsC (atC l ((startsC l).getLastD 0 : Nat)) = true ∧ l ≠ []
    · have hlen : 0 < l.length := List.length_pos_iff.2 h3.2
      obtain ⟨a, _, c⟩ := walk_facts l l.length 0 (by omega) (by have : ¬ stopC l < l.length := h2; unfold stopC at this; omega) (by omega)
      refine ⟨h3.2, a hlen, fun q hq => (c q hq).1, fun q hq j1 j2 => ?_, fun q hq n0 n2 n5 => ?_⟩
      · have := List.find?_eq_none.1 hb q hq
        unfold badC at this
        simp [j1, j2] at this
        exact this
      · rcases (c q hq).2 with hh | ⟨_, hh⟩
        · exact hh
        · have he := h3.1
          have hl : (startsC l).getLastD 0 = q := by rw [List.getLastD_eq_getLast?]; show ((walkC l l.length 0).1.getLast?).getD 0 = q; rw [hh]; rfl
          rw [hl] at he
          unfold endsC at he
          simp at he
          omega
    · rw [if_neg h3] at h'; cases h'
  · rw [hb] at h; cases h

theorem step_five (op arg b : Int) (M : Ma) : (stepM op arg b M).2.1 ≠ 5 := by
  have hr : ∀ t g, M.room t g ≠ 5 := by
    intro t g; rw [room_eq]; repeat' split
    all_goals decide
  unfold stepM
  by_cases c1 : op = 1
  · rw [if_pos c1]; unfold Ma.number
    by_cases q : M.room 0 1 ≠ 0
    · rw [if_pos q]; exact hr _ _
    · rw [if_neg q]; show ¬ (0 : Int) = 5; decide
  rw [if_neg c1]
  by_cases c2 : op = 2
  · rw [if_pos c2]; unfold Ma.pass
    by_cases q : M.room 0 0 ≠ 0
    · rw [if_pos q]; exact hr _ _
    · rw [if_neg q]; show ¬ (0 : Int) = 5; decide
  rw [if_neg c2]
  by_cases c3 : op = 3
  · rw [if_pos c3]
    show M.takeN.2.1 ≠ 5
    unfold Ma.takeN
    by_cases q : M.room 1 0 ≠ 0
    · rw [if_pos q]; exact hr _ _
    · rw [if_neg q]; show ¬ (0 : Int) = 5; decide
  rw [if_neg c3]
  by_cases c4 : op = 4
  · rw [if_pos c4]; unfold Ma.call
    by_cases q : M.room 0 0 ≠ 0
    · rw [if_pos q]; exact hr _ _
    · rw [if_neg q]
      by_cases q2 : 12 ≤ M.calls.length
      · rw [if_pos q2]; show ¬ (9 : Int) = 5; decide
      · rw [if_neg q2]; show ¬ (0 : Int) = 5; decide
  rw [if_neg c4]
  by_cases c5 : op = 5
  · rw [if_pos c5]; unfold Ma.ret
    by_cases q : M.room 0 0 ≠ 0
    · rw [if_pos q]; exact hr _ _
    · rw [if_neg q]
      by_cases q2 : M.calls = []
      · rw [if_pos q2]; show ¬ (7 : Int) = 5; decide
      · rw [if_neg q2]; show ¬ (0 : Int) = 5; decide
  rw [if_neg c5]
  unfold Ma.doN
  by_cases q : M.room (takesN (op - 16)) (givesN (op - 16)) ≠ 0
  · rw [if_pos q]; exact hr _ _
  · rw [if_neg q]
    by_cases q2 : M.fault (op - 16) ≠ 0
    · rw [if_pos q2]
      show M.fault (op - 16) ≠ 5
      unfold Ma.fault
      repeat' split
      all_goals decide
    · rw [if_neg q2]; show ¬ (0 : Int) = 5; decide
/-- Where a step goes on, and the calls behind it. -/
theorem step_goes (op arg b : Int) (M : Ma) (he : (stepM op arg b M).2.1 = 0) :
    ((stepM op arg b M).1 = b ∧ op ≠ 2 ∧ op ≠ 5 ∧ op ≠ 4 ∧ (stepM op arg b M).2.2.calls = M.calls) ∨ ((stepM op arg b M).1 = arg ∧ (op = 2 ∨ op = 3) ∧ (stepM op arg b M).2.2.calls = M.calls) ∨
    ((stepM op arg b M).1 = arg ∧ op = 4 ∧ (stepM op arg b M).2.2.calls = M.calls ++ [b]) ∨ (op = 5 ∧ (stepM op arg b M).1 ∈ M.calls ∧ ∀ c ∈ (stepM op arg b M).2.2.calls, c ∈ M.calls) := by
  unfold stepM at he ⊢
  by_cases c1 : op = 1
  · rw [if_pos c1] at he ⊢
    unfold Ma.number at he ⊢
    by_cases q : M.room 0 1 ≠ 0
    · rw [if_pos q] at he; exact absurd he q
    · rw [if_neg q]; exact .inl ⟨rfl, by omega, by omega, by omega, rfl⟩
  rw [if_neg c1] at he ⊢
  by_cases c2 : op = 2
  · rw [if_pos c2] at he ⊢
    unfold Ma.pass at he ⊢
    by_cases q : M.room 0 0 ≠ 0
    · rw [if_pos q] at he; exact absurd he q
    · rw [if_neg q]; exact .inr (.inl ⟨rfl, .inl c2, rfl⟩)
  rw [if_neg c2] at he ⊢
  by_cases c3 : op = 3
  · rw [if_pos c3] at he ⊢
    have he' : M.takeN.2.1 = 0 := he
    have hc : M.takeN.2.2.calls = M.calls := by
      unfold Ma.takeN; split <;> rfl
    by_cases q : M.takeN.1 = 0
    · rw [if_pos q]; exact .inr (.inl ⟨rfl, .inr c3, hc⟩)
    · rw [if_neg q]; exact .inl ⟨rfl, by omega, by omega, by omega, hc⟩
  rw [if_neg c3] at he ⊢
  by_cases c4 : op = 4
  · rw [if_pos c4] at he ⊢
    unfold Ma.call at he ⊢
    by_cases q : M.room 0 0 ≠ 0
    · rw [if_pos q] at he; exact absurd he q
    · rw [if_neg q] at he ⊢
      by_cases q2 : 12 ≤ M.calls.length
      · rw [if_pos q2] at he; cases he
      · rw [if_neg q2]; exact .inr (.inr (.inl ⟨rfl, c4, rfl⟩))
  rw [if_neg c4] at he ⊢
  by_cases c5 : op = 5
  · rw [if_pos c5] at he ⊢
    unfold Ma.ret at he ⊢
    by_cases q : M.room 0 0 ≠ 0
    · rw [if_pos q] at he; exact absurd he q
    · rw [if_neg q] at he ⊢
      by_cases q2 : M.calls = []
      · rw [if_pos q2] at he; cases he
      · rw [if_neg q2]
        refine .inr (.inr (.inr ⟨c5, ?_, fun c hc => (List.dropLast_sublist _).subset hc⟩))
        show M.calls.getLastD 0 ∈ M.calls
        rw [List.getLastD_eq_getLast?, List.getLast?_eq_some_getLast q2]
        exact List.getLast_mem q2
  rw [if_neg c5] at he ⊢
  refine .inl ⟨rfl, c2, c5, c4, ?_⟩
  show (M.doN (op - 16)).2.calls = M.calls
  unfold Ma.doN
  by_cases q : M.room (takesN (op - 16)) (givesN (op - 16)) ≠ 0
  · rw [if_pos q]
  · rw [if_neg q]
    by_cases q2 : M.fault (op - 16) ≠ 0
    · rw [if_pos q2]
    · rw [if_neg q2]
      show (M.tick.act (op - 16)).calls = M.calls
      unfold Ma.act; repeat' split
      all_goals rfl
/-- Code at which Verify answers OK never meets ErrCode (P8, P9). -/
theorem exec_safe {l : List UInt8} (hV : WholeC l) : ∀ (n : Nat) (p : Nat) (M : Ma), p ∈ startsC l → (∀ c ∈ M.calls, ∃ q : Nat, c = (q : Int) ∧ q ∈ startsC l) → (execC l n (p : Int) M).1 ≠ 5
  | 0, p, M, _, _ => by show ¬ (0 : Int) = 5; decide
  | n + 1, p, M, hp, hc => by
    have hw := hV.whole p hp
    unfold execC
    rw [if_pos hw]
    by_cases h0 : atC l (p : Int) = 0
    · rw [if_pos h0]; show ¬ (0 : Int) = 5; decide
    · rw [if_neg h0]
      by_cases he : (stepC l (p : Int) M).2.1 ≠ 0
      · rw [if_pos he]; exact step_five _ _ _ M
      · rw [if_neg he]
        have he' : (stepC l (p : Int) M).2.1 = 0 := by simpa using he
        have hne : (atC l (p : Int)).toNat ≠ 0 := fun h => h0 (UInt8.toNat_inj.1 h)
        have hob := operC_bd l (p : Int)
        have key : ∃ q : Nat, (stepC l (p : Int) M).1 = (q : Int) ∧ q ∈ startsC l ∧ ∀ c ∈ (stepC l (p : Int) M).2.2.calls, ∃ r : Nat, c = (r : Int) ∧ r ∈ startsC l := by
          rcases step_goes _ _ _ M he' with ⟨a, b2, b5, b4, c⟩ | ⟨a, b, c⟩ | ⟨a, b, c⟩ | ⟨b, a, c⟩
          · refine ⟨p + sizeC (atC l (p : Int)), a, hV.next p hp hne (by omega) (by omega), ?_⟩
            intro x hx; rw [show (stepC l (p : Int) M).2.2.calls = M.calls from c] at hx; exact hc x hx
          · refine ⟨(operC l (p : Int)).toNat, ?_, hV.jump p hp (by omega) (by omega), ?_⟩
            · rw [show (stepC l (p : Int) M).1 = operC l (p : Int) from a]; omega
            · intro x hx; rw [show (stepC l (p : Int) M).2.2.calls = M.calls from c] at hx; exact hc x hx
          · refine ⟨(operC l (p : Int)).toNat, ?_, hV.jump p hp (by omega) (by omega), ?_⟩
            · rw [show (stepC l (p : Int) M).1 = operC l (p : Int) from a]; omega
            · intro x hx
              rw [show (stepC l (p : Int) M).2.2.calls = M.calls ++ [(p : Int) + sizeC (atC l (p : Int))] from c] at hx
              rcases List.mem_append.1 hx with hx | hx
              · exact hc x hx
              · rw [List.mem_singleton] at hx
                exact ⟨p + sizeC (atC l (p : Int)), by rw [hx]; omega, hV.next p hp hne (by omega) (by omega)⟩
          · obtain ⟨r, hr, hr2⟩ := hc _ a
            refine ⟨r, hr, hr2, ?_⟩
            intro x hx; exact hc x (c x hx)
        obtain ⟨q, hq1, hq2, hq3⟩ := key
        rw [hq1]
        exact exec_safe hV n q _ hq2 hq3
end Go.Proofs.YtnanjomnldfidabDoor

set_option linter.unusedSimpArgs false
set_option linter.unusedVariables false
set_option linter.unusedSectionVars false
namespace Go.Proofs.YtnanjomnldfidabDoor

def opS (S : List (Int × Int)) (i : Nat) : Int := (S.getD i (0, 0)).1
def argS (S : List (Int × Int)) (i : Nat) : Int := (S.getD i (0, 0)).2

theorem getS_left {S l : List (Int × Int)} {i : Nat} (h : i < S.length) : (S ++ l).getD i (0, 0) = S.getD i (0, 0) := by
  simp [List.getD, List.getElem?_append_left h]
theorem getS_new (S : List (Int × Int)) (x : Int × Int) : (S ++ [x]).getD S.length (0, 0) = x := by
  simp [List.getD]
theorem opS_left {S l : List (Int × Int)} {i : Nat} (h : i < S.length) : opS (S ++ l) i = opS S i := by unfold opS; rw [getS_left h]
theorem argS_left {S l : List (Int × Int)} {i : Nat} (h : i < S.length) : argS (S ++ l) i = argS S i := by unfold argS; rw [getS_left h]
theorem opS_new (S : List (Int × Int)) (op arg : Int) : opS (S ++ [(op, arg)]) S.length = op := by unfold opS; rw [getS_new]
theorem argS_new (S : List (Int × Int)) (op arg : Int) : argS (S ++ [(op, arg)]) S.length = arg := by unfold argS; rw [getS_new]
theorem aim_get (S : List (Int × Int)) (k i : Nat) (hk : k < S.length) : (aimI S (k : Int)).getD i (0, 0) = if i = k then ((S.getD i (0, 0)).1, (S.length : Int)) else S.getD i (0, 0) := by
  unfold aimI aimAt
  rw [if_pos ⟨by omega, by omega⟩, Int.toNat_natCast]
  by_cases h : i = k
  · subst h
    simp [List.getD, List.getElem?_modify, hk]
  · rw [if_neg h]
    have h' : ¬ k = i := fun e => h e.symm
    cases hx : S[i]? <;> simp [List.getD, List.getElem?_modify, h', hx]
theorem aim_opS (S : List (Int × Int)) (k i : Nat) (hk : k < S.length) : opS (aimI S (k : Int)) i = opS S i := by
  unfold opS; rw [aim_get S k i hk]; split <;> rfl
theorem aim_argS (S : List (Int × Int)) (k i : Nat) (hk : k < S.length) : argS (aimI S (k : Int)) i = if i = k then (S.length : Int) else argS S i := by
  unfold argS; rw [aim_get S k i hk]; split <;> rfl

/-- A definition that has ended: its steps are those behind i. -/
def DefAt (S : List (Int × Int)) (i : Nat) : Prop := ∃ e : Nat, argS S i = (e : Int) ∧ i + 2 ≤ e ∧ e ≤ S.length ∧ opS S (e - 1) = 5 ∧ ∀ j, i < j → j < e → opS S j ≠ -1
theorem DefAt.left {S l : List (Int × Int)} {i : Nat} (h : DefAt S i) : DefAt (S ++ l) i := by
  obtain ⟨e, h1, h2, h3, h4, h5⟩ := h
  refine ⟨e, by rw [argS_left (by omega)]; exact h1, h2, by rw [List.length_append]; omega, by rw [opS_left (by omega)]; exact h4, fun j a b => by rw [opS_left (by omega)]; exact h5 j a b⟩
theorem DefAt.aim {S : List (Int × Int)} {i k : Nat} (h : DefAt S i) (hk : k < S.length) (hik : i ≠ k) : DefAt (aimI S (k : Int)) i := by
  obtain ⟨e, h1, h2, h3, h4, h5⟩ := h
  refine ⟨e, by rw [aim_argS S k i hk, if_neg hik]; exact h1, h2, by rw [aimI_length]; exact h3, by rw [aim_opS S k _ hk]; exact h4, fun j a b => by rw [aim_opS S k j hk]; exact h5 j a b⟩

/-- What holds of the reader. -/
structure Rd.Des (R : Rd) : Prop where
  ops : ∀ i, i < R.steps.length → opS R.steps i = -1 ∨ opOk (opS R.steps i)
  args : ∀ i, i < R.steps.length → 0 ≤ argS R.steps i ∧ (opS R.steps i = 1 → argS R.steps i < 65536) ∧ (opS R.steps i ≠ 1 → argS R.steps i ≤ R.steps.length)
  forms : ∀ f ∈ R.forms, (0 ≤ f.2.1 ∧ f.2.1 ≤ R.steps.length) ∧ (f.1 ≠ 3 → ∃ k : Nat, f.2.2 = k ∧ k < R.steps.length ∧ opS R.steps k ≠ -1 ∧ opS R.steps k ≠ 1)
  defs : ∀ d ∈ R.defs, 0 ≤ d.2 ∧ d.2 ≤ R.steps.length
  due : R.due = true → R.inside = false ∧ ∃ n, R.steps.length = n + 1 ∧ opS R.steps n = -1
  ins : R.inside = true → ∃ n : Nat, R.first = (n : Int) + 1 ∧ n < R.steps.length ∧ opS R.steps n = -1 ∧ ∀ j, n < j → j < R.steps.length → opS R.steps j ≠ -1
  pass : ∀ i, i < R.steps.length → opS R.steps i = -1 → DefAt R.steps i ∨ (R.due = true ∧ i + 1 = R.steps.length) ∨ (R.inside = true ∧ R.first = (i : Int) + 1)

theorem Rd.Des.add {R : Rd} (h : R.Des) (hd : R.due = false) {op arg : Int} (ho : opOk op) (h0 : 0 ≤ arg) (h1 : op = 1 → arg < 65536) (h2 : op ≠ 1 → arg ≤ R.steps.length) : (R.add op arg).Des := by
  have hne : op ≠ -1 := fun e => by subst e; unfold opOk at ho; omega
  have hl : (R.add op arg).steps = R.steps ++ [(op, arg)] := rfl
  have hlen : (R.add op arg).steps.length = R.steps.length + 1 := by rw [hl]; simp
  refine ⟨fun i hi => ?_, fun i hi => ?_, fun f hf => ?_, fun d hd' => ?_, fun e => ?_, fun e => ?_, fun i hi hp => ?_⟩
  · by_cases c : i = R.steps.length
    · subst c; rw [hl, opS_new]; exact .inr ho
    · rw [hl, opS_left (by omega)]; exact h.ops i (by omega)
  · rw [hlen]
    by_cases c : i = R.steps.length
    · subst c; rw [hl, opS_new, argS_new]; exact ⟨h0, h1, fun e => by have := h2 e; omega⟩
    · rw [hl, opS_left (by omega), argS_left (by omega)]
      obtain ⟨a1, a2, a3⟩ := h.args i (by omega)
      exact ⟨a1, a2, fun e => by have := a3 e; omega⟩
  · obtain ⟨a1, a2⟩ := h.forms f hf
    refine ⟨by rw [hlen]; omega, fun e => ?_⟩
    obtain ⟨k, k1, k2, k3⟩ := a2 e
    exact ⟨k, k1, by rw [hlen]; omega, by rw [hl, opS_left k2]; exact k3⟩
  · have := h.defs d hd'
    rw [hlen]; omega
  · exact absurd (show R.due = true from e) (by rw [hd]; decide)
  · obtain ⟨n, n1, n2, n3, n4⟩ := h.ins e
    refine ⟨n, n1, by rw [hlen]; omega, by rw [hl, opS_left n2]; exact n3, fun j a b => ?_⟩
    by_cases c : j = R.steps.length
    · subst c; rw [hl, opS_new]; exact hne
    · rw [hl, opS_left (by omega)]; exact n4 j a (by omega)
  · by_cases c : i = R.steps.length
    · subst c; rw [hl, opS_new] at hp; exact absurd hp hne
    · rw [hl, opS_left (by omega)] at hp
      rcases h.pass i (by omega) hp with q | q | q
      · exact .inl q.left
      · rw [hd] at q; exact absurd q.1 (by decide)
      · exact .inr (.inr q)
theorem Rd.Des.push {R : Rd} (h : R.Des) {k g x : Int} (hg : 0 ≤ g ∧ g ≤ R.steps.length) (hx : k ≠ 3 → ∃ j : Nat, x = j ∧ j < R.steps.length ∧ opS R.steps j ≠ -1 ∧ opS R.steps j ≠ 1) : (R.push k g x).Des :=
  ⟨h.ops, h.args, fun f hf => by
    rcases List.mem_append.1 (show f ∈ R.forms ++ [(k, g, x)] from hf) with q | q
    · exact h.forms f q
    · rw [List.mem_singleton] at q; subst q; exact ⟨hg, hx⟩, h.defs, h.due, h.ins, h.pass⟩
theorem Rd.Des.pop {R : Rd} (h : R.Des) : R.pop.Des := ⟨h.ops, h.args, fun f hf => h.forms f (List.dropLast_subset _ hf), h.defs, h.due, h.ins, h.pass⟩
theorem Rd.Des.aim {R : Rd} (h : R.Des) {k : Nat} (hk : k < R.steps.length) (h1 : opS R.steps k ≠ -1) (h2 : opS R.steps k ≠ 1) : (R.aim (k : Int)).Des := by
  have hl : (R.aim (k : Int)).steps = aimI R.steps (k : Int) := rfl
  have hlen : (R.aim (k : Int)).steps.length = R.steps.length := by rw [hl, aimI_length]
  refine ⟨fun i hi => ?_, fun i hi => ?_, fun f hf => ?_, fun d hd' => ?_, fun e => ?_, fun e => ?_, fun i hi hp => ?_⟩
  · rw [hl, aim_opS _ _ _ hk]; exact h.ops i (by omega)
  · rw [hlen, hl, aim_opS _ _ _ hk, aim_argS _ _ _ hk]
    by_cases c : i = k
    · subst c; rw [if_pos rfl]; exact ⟨by omega, fun e => absurd e h2, fun _ => Int.le_refl _⟩
    · rw [if_neg c]; exact h.args i (by omega)
  · obtain ⟨a1, a2⟩ := h.forms f hf
    refine ⟨by rw [hlen]; omega, fun e => ?_⟩
    obtain ⟨j, k1, k2, k3⟩ := a2 e
    exact ⟨j, k1, by rw [hlen]; omega, by rw [hl, aim_opS _ _ _ hk]; exact k3⟩
  · rw [hlen]; exact h.defs d hd'
  · obtain ⟨a, n, n1, n2⟩ := h.due e
    exact ⟨a, n, by rw [hlen]; exact n1, by rw [hl, aim_opS _ _ _ hk]; exact n2⟩
  · obtain ⟨n, n1, n2, n3, n4⟩ := h.ins e
    exact ⟨n, n1, by rw [hlen]; omega, by rw [hl, aim_opS _ _ _ hk]; exact n3, fun j a b => by rw [hl, aim_opS _ _ _ hk]; exact n4 j a (by omega)⟩
  · rw [hl, aim_opS _ _ _ hk] at hp
    rw [hlen]
    have hik : i ≠ k := fun e => by subst e; exact h1 hp
    rcases h.pass i (by omega) hp with q | q | q
    · exact .inl (q.aim hk hik)
    · exact .inr (.inl q)
    · exact .inr (.inr q)
theorem Rd.Des.ended {R : Rd} (h : R.Des) (hd : R.due = false) (hi : R.inside = true) (hf : R.forms = []) : R.ended.Des := by
  obtain ⟨n, n1, n2, n3, n4⟩ := h.ins hi
  have h2 := h.add hd (op := 5) (arg := 0) (by unfold opOk; omega) (Int.le_refl _) (fun e => absurd e (by decide)) (fun _ => by omega)
  have hfx : R.first - 1 = ((n : Nat) : Int) := by omega
  have hlen2 : (R.add 5 0).steps.length = R.steps.length + 1 := by show (R.steps ++ [(5, 0)]).length = _; simp
  have hn : n < (R.add 5 0).steps.length := by omega
  have hl : R.ended.steps = aimI (R.add 5 0).steps ((n : Nat) : Int) := by show aimI (R.add 5 0).steps (R.first - 1) = _; rw [hfx]
  have hlen : R.ended.steps.length = R.steps.length + 1 := by rw [hl, aimI_length, hlen2]
  have hop : ∀ i, opS R.ended.steps i = opS (R.steps ++ [(5, 0)]) i := fun i => by rw [hl, aim_opS _ _ _ hn]; rfl
  have harg : ∀ i, argS R.ended.steps i = if i = n then ((R.steps.length + 1 : Nat) : Int) else argS (R.steps ++ [(5, 0)]) i := fun i => by
    rw [hl, aim_argS _ _ _ hn, hlen2]; rfl
  have hnon : ∀ j, n < j → j < R.steps.length + 1 → opS R.ended.steps j ≠ -1 := by
    intro j a b
    rw [hop]
    by_cases c : j = R.steps.length
    · subst c; rw [opS_new]; decide
    · rw [opS_left (by omega)]; exact n4 j a (by omega)
  refine ⟨fun i hi' => ?_, fun i hi' => ?_, fun f hf' => ?_, fun d hd' => ?_, fun e => ?_, fun e => ?_, fun i hi' hp => ?_⟩
  · rw [hop]; exact h2.ops i (by rw [hlen2]; omega)
  · rw [hlen, hop, harg]
    obtain ⟨a1, a2, a3⟩ := h2.args i (by rw [hlen2]; omega)
    by_cases c : i = n
    · subst c
      rw [if_pos rfl]
      refine ⟨by omega, fun e => ?_, fun _ => by omega⟩
      rw [opS_left n2, n3] at e; cases e
    · rw [if_neg c]
      exact ⟨a1, a2, fun e => by have := a3 e; rw [hlen2] at this; exact this⟩
  · rw [show R.ended.forms = R.forms from rfl, hf] at hf'; cases hf'
  · rw [hlen]
    rcases List.mem_append.1 (show d ∈ R.defs ++ [(R.name, R.first)] from hd') with q | q
    · have := h.defs d q; omega
    · rw [List.mem_singleton] at q; subst q
      show 0 ≤ R.first ∧ R.first ≤ _
      omega
  · exact absurd (show R.due = true from e) (by rw [hd]; decide)
  · exact absurd (show false = true from e) (by decide)
  · rw [hlen] at hi'
    by_cases c : i = n
    · subst c
      refine .inl ⟨R.steps.length + 1, by rw [harg, if_pos rfl], by omega, by rw [hlen]; omega, ?_, fun j a b => hnon j a b⟩
      rw [hop, Nat.add_sub_cancel, opS_new]
    · rcases Nat.lt_or_ge n i with q | q
      · exact absurd hp (hnon i q hi')
      · have hp' : opS R.steps i = -1 := by rw [hop, opS_left (by omega)] at hp; exact hp
        rcases h.pass i (by omega) hp' with q1 | q1 | q1
        · refine .inl ?_
          rw [hl]
          exact DefAt.aim (q1.left (l := [(5, 0)])) hn c
        · rw [hd] at q1; exact absurd q1.1 (by decide)
        · exfalso; have := q1.2; omega

theorem lastDef_mem {l : List (ByteArray × Int)} {t : List UInt8} {n : Int} (h : lastDef l t = some n) : ∃ d ∈ l, d.2 = n := by
  unfold lastDef at h
  rw [Option.map_eq_some_iff] at h
  obtain ⟨d, h1, h2⟩ := h
  exact ⟨d, List.mem_reverse.1 (List.mem_of_find?_eq_some h1), h2⟩
theorem numVal_bd {s : List UInt8} {n : Int} (hd : digs s = true) (hv : numVal s = some n) : 0 ≤ n ∧ n < 65536 := by
  by_cases hne : s = []
  · subst hne
    have : numVal [] = some 0 := by decide
    rw [this] at hv; cases hv; decide
  · exact (refVal_digs s hd hne hv).2

theorem Rd.Des.word {R : Rd} (h : R.Des) (hd : R.due = false) (l : List UInt8) : (R.word l).2.Des := by
  have htop : R.top.1 ≠ 0 → R.top ∈ R.forms := fun e => by
    have hm : R.top ∈ R.forms.dropLast ++ [R.top] := by simp
    rw [← top_split e] at hm; exact hm
  have hadd : ∀ {Q : Rd} {op arg : Int}, Q.Des → Q.due = false → opOk op → 0 ≤ arg → op ≠ 1 → arg ≤ Q.steps.length → (Q.add op arg).Des := fun hq hdu ho h0 h1 h2 => hq.add hdu ho h0 (fun e => absurd e h1) (fun _ => h2)
  unfold Rd.word
  by_cases c1 : l = [105, 102]
  · rw [if_pos c1]
    have a := hadd (op := 3) (arg := 0) h hd (by unfold opOk; omega) (by omega) (by decide) (by omega)
    exact a.push (k := 1) (g := 0) (x := R.len) ⟨by omega, by omega⟩ fun _ => ⟨R.steps.length, rfl, by show _ < (R.steps ++ [(3, 0)]).length; simp, by show opS (R.steps ++ [(3, 0)]) _ ≠ -1 ∧ opS (R.steps ++ [(3, 0)]) _ ≠ 1; rw [opS_new]; decide⟩
  rw [if_neg c1]
  by_cases c2 : l = [101, 108, 115, 101]
  · rw [if_pos c2]
    by_cases q : R.top.1 = 1
    · rw [if_pos q]
      obtain ⟨_, t2⟩ := h.forms _ (htop (by rw [q]; decide))
      obtain ⟨k, k1, k2, k3, k4⟩ := t2 (by rw [q]; decide)
      have a := hadd (op := 2) (arg := 0) h.pop hd (by unfold opOk; omega) (by omega) (by decide) (by omega)
      have b := a.push (k := 2) (g := 0) (x := R.len) ⟨by omega, by omega⟩ fun _ => ⟨R.steps.length, rfl, by show _ < (R.steps ++ [(2, 0)]).length; simp, by show opS (R.steps ++ [(2, 0)]) _ ≠ -1 ∧ opS (R.steps ++ [(2, 0)]) _ ≠ 1; rw [opS_new]; decide⟩
      have d := b.aim (k := k) (by show k < (R.steps ++ [(2, 0)]).length; simp; omega) (by show opS (R.steps ++ [(2, 0)]) k ≠ -1; rw [opS_left k2]; exact k3) (by show opS (R.steps ++ [(2, 0)]) k ≠ 1; rw [opS_left k2]; exact k4)
      rw [← k1] at d
      exact d
    · rw [if_neg q]; exact h
  rw [if_neg c2]
  by_cases c3 : l = [116, 104, 101, 110]
  · rw [if_pos c3]
    by_cases q : R.top.1 = 1 ∨ R.top.1 = 2
    · rw [if_pos q]
      obtain ⟨_, t2⟩ := h.forms _ (htop (by omega))
      obtain ⟨k, k1, k2, k3, k4⟩ := t2 (by omega)
      have d := h.pop.aim (k := k) k2 k3 k4
      rw [← k1] at d
      exact d
    · rw [if_neg q]; exact h
  rw [if_neg c3]
  by_cases c4 : l = [98, 101, 103, 105, 110]
  · rw [if_pos c4]
    exact h.push (k := 3) (g := R.len) (x := 0) ⟨by show (0 : Int) ≤ (R.steps.length : Int); omega, Int.le_refl _⟩ fun e => absurd rfl e
  rw [if_neg c4]
  by_cases c5 : l = [114, 101, 112, 101, 97, 116]
  · rw [if_pos c5]
    by_cases q : R.top.1 = 4
    · rw [if_pos q]
      obtain ⟨t1, t2⟩ := h.forms _ (htop (by omega))
      obtain ⟨k, k1, k2, k3, k4⟩ := t2 (by omega)
      have a := hadd (op := 2) (arg := R.top.2.1) h.pop hd (by unfold opOk; omega) t1.1 (by decide) t1.2
      have d := a.aim (k := k) (by show k < (R.steps ++ [(2, R.top.2.1)]).length; simp; omega) (by show opS (R.steps ++ [(2, R.top.2.1)]) k ≠ -1; rw [opS_left k2]; exact k3) (by show opS (R.steps ++ [(2, R.top.2.1)]) k ≠ 1; rw [opS_left k2]; exact k4)
      rw [← k1] at d
      exact d
    · rw [if_neg q]; exact h
  rw [if_neg c5]
  by_cases c6 : l = [117, 110, 116, 105, 108]
  · rw [if_pos c6]
    by_cases q : R.top.1 = 3
    · rw [if_pos q]
      obtain ⟨t1, t2⟩ := h.forms _ (htop (by omega))
      exact hadd (op := 3) (arg := R.top.2.1) h.pop hd (by unfold opOk; omega) t1.1 (by decide) t1.2
    · rw [if_neg q]; exact h
  rw [if_neg c6]
  by_cases c7 : l = [119, 104, 105, 108, 101]
  · rw [if_pos c7]
    by_cases q : R.top.1 = 3
    · rw [if_pos q]
      obtain ⟨t1, t2⟩ := h.forms _ (htop (by omega))
      have a := hadd (op := 3) (arg := R.top.2.1) h.pop hd (by unfold opOk; omega) t1.1 (by decide) t1.2
      exact a.push (k := 4) (g := R.top.2.1) (x := R.len) ⟨t1.1, by show R.top.2.1 ≤ ((R.steps ++ [(3, R.top.2.1)]).length : Int); simp; omega⟩ fun _ => ⟨R.steps.length, rfl, by show _ < (R.steps ++ [(3, R.top.2.1)]).length; simp, by show opS (R.steps ++ [(3, R.top.2.1)]) _ ≠ -1 ∧ opS (R.steps ++ [(3, R.top.2.1)]) _ ≠ 1; rw [opS_new]; decide⟩
    · rw [if_neg q]; exact h
  rw [if_neg c7]
  by_cases c8 : l = [58]
  · rw [if_pos c8]
    by_cases q : R.inside = true ∨ R.forms ≠ []
    · rw [if_pos q]; exact h
    · rw [if_neg q]
      have hins : R.inside = false := by cases hb : R.inside; rfl; exact absurd (.inl hb) q
      have hl : ((({ R with due := true } : Rd).add (-1) 0)).steps = R.steps ++ [(-1, 0)] := rfl
      have hlen : ((({ R with due := true } : Rd).add (-1) 0)).steps.length = R.steps.length + 1 := by rw [hl]; simp
      show ((({ R with due := true } : Rd).add (-1) 0)).Des
      refine ⟨fun i hi => ?_, fun i hi => ?_, fun f hf => ?_, fun d hd' => ?_, fun e => ?_, fun e => ?_, fun i hi hp => ?_⟩
      · by_cases c : i = R.steps.length
        · subst c; rw [hl, opS_new]; exact .inl rfl
        · rw [hl, opS_left (by omega)]; exact h.ops i (by omega)
      · rw [hlen]
        by_cases c : i = R.steps.length
        · subst c; rw [hl, opS_new, argS_new]; exact ⟨by omega, fun e => absurd e (by decide), fun e => by omega⟩
        · rw [hl, opS_left (by omega), argS_left (by omega)]
          obtain ⟨a1, a2, a3⟩ := h.args i (by omega)
          exact ⟨a1, a2, fun e => by have := a3 e; omega⟩
      · obtain ⟨a1, a2⟩ := h.forms f hf
        refine ⟨by rw [hlen]; omega, fun e => ?_⟩
        obtain ⟨k, k1, k2, k3⟩ := a2 e
        exact ⟨k, k1, by rw [hlen]; omega, by rw [hl, opS_left k2]; exact k3⟩
      · have := h.defs d hd'
        rw [hlen]; omega
      · exact ⟨hins, R.steps.length, hlen, by rw [hl, opS_new]⟩
      · exact absurd (show R.inside = true from e) (by rw [hins]; decide)
      · by_cases c : i = R.steps.length
        · exact .inr (.inl ⟨rfl, by rw [hlen, c]⟩)
        · rw [hl, opS_left (by omega)] at hp
          rcases h.pass i (by omega) hp with q1 | q1 | q1
          · exact .inl q1.left
          · rw [hd] at q1; exact absurd q1.1 (by decide)
          · rw [hins] at q1; exact absurd q1.1 (by decide)
  rw [if_neg c8]
  by_cases c9 : l = [101, 120, 105, 116]
  · rw [if_pos c9]
    by_cases q : R.inside = true
    · rw [if_pos q]; exact hadd (op := 5) (arg := 0) h hd (by unfold opOk; omega) (by omega) (by decide) (by omega)
    · rw [if_neg q]; exact h
  rw [if_neg c9]
  by_cases c10 : l = [114, 101, 99, 117, 114, 115, 101]
  · rw [if_pos c10]
    by_cases q : R.inside = true
    · rw [if_pos q]
      obtain ⟨n, n1, n2, _⟩ := h.ins q
      exact hadd (op := 4) (arg := R.first) h hd (by unfold opOk; omega) (by omega) (by decide) (by omega)
    · rw [if_neg q]; exact h
  rw [if_neg c10]
  by_cases c11 : l = [59]
  · rw [if_pos c11]
    by_cases q : R.inside = false
    · rw [if_pos q]; exact h
    · rw [if_neg q]
      by_cases q2 : R.forms ≠ []
      · rw [if_pos q2]; exact h
      · rw [if_neg q2]
        exact h.ended hd (by simpa using q) (by simpa using q2)
  rw [if_neg c11]
  cases hl : lastDef R.defs l with
  | some n =>
    obtain ⟨d, d1, d2⟩ := lastDef_mem hl
    have := h.defs d d1
    rw [d2] at this
    exact hadd (op := 4) (arg := n) h hd (by unfold opOk; omega) this.1 (by decide) this.2
  | none =>
    by_cases q : listOk l = true
    · show (if listOk l = true then (0, R.add (listOp l) 0) else (2, R)).2.Des
      rw [if_pos q]
      have hlt : listIdx l < 19 := by simpa [listOk] using q
      have hop : listOp l = 16 + (listIdx l : Int) := by unfold listOp; rw [if_pos hlt]
      exact hadd (op := listOp l) (arg := 0) h hd (by rw [hop]; unfold opOk; omega) (by omega) (by rw [hop]; omega) (by omega)
    · show (if listOk l = true then (0, R.add (listOp l) 0) else (2, R)).2.Des
      rw [if_neg q]; exact h

theorem Rd.Des.take {R : Rd} (h : R.Des) (t : ByteArray) : (R.take t).2.Des := by
  unfold Rd.take
  by_cases hd : R.due = true
  · rw [if_pos hd]
    by_cases q : nameOk t.toList = true
    · rw [if_pos q]
      obtain ⟨a, n, n1, n2⟩ := h.due hd
      refine ⟨h.ops, h.args, h.forms, h.defs, fun e => absurd (show false = true from e) (by decide), fun _ => ⟨n, ?_, by show n < R.steps.length; omega, n2, fun j x y => ?_⟩, fun i hi hp => ?_⟩
      · show (R.steps.length : Int) = _; omega
      · have : j < R.steps.length := y
        omega
      · rcases h.pass i hi hp with q1 | q1 | q1
        · exact .inl q1
        · exact .inr (.inr ⟨rfl, by show (R.steps.length : Int) = _; have := q1.2; omega⟩)
        · rw [a] at q1; exact absurd q1.1 (by decide)
    · rw [if_neg q]; exact h
  · rw [if_neg hd]
    have hd' : R.due = false := by simpa using hd
    by_cases q : digs t.toList = true
    · rw [if_pos q]
      cases hv : numVal t.toList with
      | some n =>
        have := numVal_bd q hv
        exact h.add hd' (op := 1) (arg := n) (by unfold opOk; omega) this.1 (fun _ => this.2) (fun e => absurd rfl e)
      | none => exact h
    · rw [if_neg q]; exact h.word hd' _
theorem Rd.Des.read : ∀ (l : List (ByteArray × Nat)) {R : Rd}, R.Des → (R.read l).2.2.Des
  | [], R, h => h
  | (t, a) :: l, R, h => by
    by_cases c : (R.take t).1 = 0
    · rw [Rd.read_yes R t a l c]; exact Rd.Des.read l (h.take t)
    · rw [Rd.read_no R t a l c]; exact h
theorem Rd.Des.fresh : Rd.fresh.Des :=
  ⟨fun i hi => absurd hi (by simp [Rd.fresh]), fun i hi => absurd hi (by simp [Rd.fresh]), fun f hf => (by cases hf), fun f hf => (by cases hf), fun e => absurd (show false = true from e) (by decide), fun e => absurd (show false = true from e) (by decide), fun i hi => absurd hi (by simp [Rd.fresh])⟩

/-- What holds of the steps of a program. -/
structure Des (S : List (Int × Int)) : Prop where
  ops : ∀ i, i < S.length → opS S i = -1 ∨ opOk (opS S i)
  args : ∀ i, i < S.length → 0 ≤ argS S i ∧ (opS S i = 1 → argS S i < 65536) ∧ (opS S i ≠ 1 → argS S i ≤ S.length)
  pass : ∀ i, i < S.length → opS S i = -1 → DefAt S i
theorem des_of_read (s : ByteArray) (he : (readM s).1 = 0) : Des (readM s).2.2.steps := by
  by_cases hl : 400 < s.size
  · unfold readM at he; rw [if_pos hl] at he; cases he
  · have h1 : (Rd.fresh.read (toksFrom s 0)).1 = 0 := by
      by_cases h1 : (Rd.fresh.read (toksFrom s 0)).1 ≠ 0
      · unfold readM at he; rw [if_neg hl, if_pos h1] at he; exact absurd he h1
      · simpa using h1
    have h2 : (Rd.fresh.read (toksFrom s 0)).2.2.fin = 0 := by
      by_cases h2 : (Rd.fresh.read (toksFrom s 0)).2.2.fin ≠ 0
      · unfold readM at he; rw [if_neg hl, if_neg (by simp [h1]), if_pos h2] at he; exact absurd he h2
      · simpa using h2
    have hrm : readM s = (0, 0, (Rd.fresh.read (toksFrom s 0)).2.2) := by unfold readM; rw [if_neg hl, if_neg (by simp [h1]), if_neg (by simp [h2])]
    have hD := Rd.Des.read (toksFrom s 0) Rd.Des.fresh
    rw [hrm]
    generalize (Rd.fresh.read (toksFrom s 0)).2.2 = R at h2 hD
    refine ⟨hD.ops, hD.args, fun i hi hp => ?_⟩
    unfold Rd.fin at h2
    rcases hD.pass i hi hp with q | q | q
    · exact q
    · rw [if_pos q.1] at h2; cases h2
    · by_cases c : R.due = true
      · rw [if_pos c] at h2; cases h2
      · rw [if_neg c, if_pos (.inl q.1)] at h2; cases h2
end Go.Proofs.YtnanjomnldfidabDoor
