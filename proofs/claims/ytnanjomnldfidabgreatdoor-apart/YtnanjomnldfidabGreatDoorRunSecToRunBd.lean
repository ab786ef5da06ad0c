/-
  A program without the right to look does the same whatever the secret bytes are; what holds of every run. Plain mathematics.
  Grading as plain data (P11 to P14): images, transcripts, marks; without the right to look a transcript does not depend on what is hidden. No memory.
  The bounds of what a run comes to. Plain mathematics.
-/
import Derived.Test.YtnanjomnldfidabGreatDoorLexToRunEmb2
import Derived.Test.YtnanjomnldfidabGreatDoorCodePureToRdDes
set_option linter.unusedSimpArgs false
set_option linter.unusedVariables false
set_option linter.unusedSectionVars false
namespace Go.Proofs.YtnanjomnldfidabGreatDoor

theorem run_sec {S : List (Int × Int)} (hops : ∀ i, i < S.length → (S.getD i (0, 0)).1 = -1 ∨ opOk (S.getD i (0, 0)).1) (hargs : ∀ i, i < S.length → (S.getD i (0, 0)).1 = 1 → 0 ≤ (S.getD i (0, 0)).2 ∧ (S.getD i (0, 0)).2 < 65536) :
    ∀ (n : Nat) (p : Int) (M : Ma) (I : List UInt8), SecR M I → M.Ok → ∃ J, runS S n p (withI M I) = ((runS S n p M).1, withI (runS S n p M).2 J) ∧ SecR (runS S n p M).2 J
  | 0, p, M, I, h, _ => ⟨I, rfl, h⟩
  | n + 1, p, M, I, h, hok => by
    unfold runS
    by_cases hin : 0 ≤ p ∧ p < (S.length : Int)
    · rw [if_pos hin, if_pos hin]
      have hst : stepAt S p = S.getD p.toNat (0, 0) := rfl
      have hlt : p.toNat < S.length := by omega
      have ho := hops p.toNat hlt
      have ha := hargs p.toNat hlt
      by_cases hp : (stepAt S p).1 = -1
      · have e1 : ∀ N, nextS S p N = ((stepAt S p).2, 0, N) := fun N => by unfold nextS; rw [if_pos hp]
        rw [e1, e1, if_neg (show ¬ ((0 : Int) ≠ 0) by simp), if_neg (show ¬ ((0 : Int) ≠ 0) by simp)]
        exact run_sec hops hargs n _ M I h hok
      · have e1 : ∀ N, nextS S p N = stepM (stepAt S p).1 (stepAt S p).2 (p + 1) N := fun N => by unfold nextS; rw [if_neg hp]
        rw [e1, e1]
        rw [← hst] at ho ha
        have ho' : opOk (stepAt S p).1 := ho.elim (fun e => absurd e hp) id
        obtain ⟨J, hJ, hS⟩ := sec_step h hok (stepAt S p).1 (stepAt S p).2 (p + 1)
        rw [hJ]
        by_cases he : (stepM (stepAt S p).1 (stepAt S p).2 (p + 1) M).2.1 ≠ 0
        · rw [if_pos he, if_pos he]
          exact ⟨J, rfl, hS⟩
        · rw [if_neg he, if_neg he]
          have he' : (stepM (stepAt S p).1 (stepAt S p).2 (p + 1) M).2.1 = 0 := by simpa using he
          have hu := step_used _ _ _ M he' ho' hok ha
          exact run_sec hops hargs n _ _ J hS hu.2
    · rw [if_neg hin, if_neg hin]
      exact ⟨I, rfl, h⟩
theorem Bounds.step_any {B M : Ma} (h : Bounds B M) (hB : 0 ≤ B.fence) {op arg b : Int} (ho : opOk op) (h1 : op ≠ 1) (he : (stepM op arg b M).2.1 = 0) : Bounds B (stepM op arg b M).2.2 := by
  have e : ∀ a, (stepM op a b M).2 = (stepM op 0 b M).2 := by
    intro a
    unfold stepM
    rw [if_neg h1, if_neg h1]
    repeat' split
    all_goals rfl
  rw [e arg] at he ⊢
  exact h.step hB ho (by decide) he
/-- The bounds of a program's run. -/
theorem run_bounds {S : List (Int × Int)} (hops : ∀ i, i < S.length → (S.getD i (0, 0)).1 = -1 ∨ opOk (S.getD i (0, 0)).1) (hargs : ∀ i, i < S.length → (S.getD i (0, 0)).1 = 1 → 0 ≤ (S.getD i (0, 0)).2 ∧ (S.getD i (0, 0)).2 < 65536) {B : Ma} (hB : 0 ≤ B.fence) :
    ∀ (n : Nat) (p : Int) (M : Ma), Bounds B M → Bounds B (runS S n p M).2
  | 0, p, M, h => h
  | n + 1, p, M, h => by
    unfold runS
    by_cases hin : 0 ≤ p ∧ p < (S.length : Int)
    · rw [if_pos hin]
      have hst : stepAt S p = S.getD p.toNat (0, 0) := rfl
      have hlt : p.toNat < S.length := by omega
      have ho := hops p.toNat hlt
      have ha := hargs p.toNat hlt
      by_cases hp : (stepAt S p).1 = -1
      · have e1 : nextS S p M = ((stepAt S p).2, 0, M) := by unfold nextS; rw [if_pos hp]
        rw [e1, if_neg (show ¬ ((0 : Int) ≠ 0) by simp)]
        exact run_bounds hops hargs hB n _ M h
      · have e1 : nextS S p M = stepM (stepAt S p).1 (stepAt S p).2 (p + 1) M := by unfold nextS; rw [if_neg hp]
        rw [e1]
        rw [← hst] at ho ha
        have ho' : opOk (stepAt S p).1 := ho.elim (fun e => absurd e hp) id
        by_cases he : (stepM (stepAt S p).1 (stepAt S p).2 (p + 1) M).2.1 ≠ 0
        · rw [if_pos he]
          show Bounds B (stepM (stepAt S p).1 (stepAt S p).2 (p + 1) M).2.2
          rw [stepM_same _ _ _ _ he]; exact h
        · rw [if_neg he]
          have he' : (stepM (stepAt S p).1 (stepAt S p).2 (p + 1) M).2.1 = 0 := by simpa using he
          refine run_bounds hops hargs hB n _ _ ?_
          by_cases h1 : (stepAt S p).1 = 1
          · exact h.step hB ho' (ha h1) he'
          · exact h.step_any hB ho' h1 he'
    · rw [if_neg hin]; exact h

theorem steps_ops {s : ByteArray} (h : (readM s).1 = 0) : (∀ i, i < (readM s).2.2.steps.length → ((readM s).2.2.steps.getD i (0, 0)).1 = -1 ∨ opOk ((readM s).2.2.steps.getD i (0, 0)).1) ∧ (∀ i, i < (readM s).2.2.steps.length → ((readM s).2.2.steps.getD i (0, 0)).1 = 1 → 0 ≤ ((readM s).2.2.steps.getD i (0, 0)).2 ∧ ((readM s).2.2.steps.getD i (0, 0)).2 < 65536) := by
  have D := des_of_read s h
  exact ⟨fun i hi => D.ops i hi, fun i hi h1 => ⟨(D.args i hi).1, (D.args i hi).2.1 h1⟩⟩
end Go.Proofs.YtnanjomnldfidabGreatDoor

set_option linter.unusedSimpArgs false
set_option linter.unusedVariables false
set_option linter.unusedSectionVars false
namespace Go.Proofs.YtnanjomnldfidabGreatDoor

structure TestV where
  inp : ByteArray
  hidden : ByteArray
/-- A number in base ten. -/
def decF : Nat → Nat → List UInt8
  | 0, n => [byteOf (48 + n)]
  | f + 1, n => if n < 10 then [byteOf (48 + n)] else decF f (n / 10) ++ [byteOf (48 + n % 10)]
def decL (n : Nat) : List UInt8 := decF n n
theorem decF_same (n : Nat) : ∀ f g, n ≤ f → n ≤ g → decF f n = decF g n := by
  induction n using Nat.strongRecOn with
  | _ n ih =>
    intro f g hf hg
    cases f with
    | zero =>
      have h0 : n = 0 := by omega
      subst h0
      cases g with
      | zero => rfl
      | succ g => simp [decF]
    | succ f =>
      cases g with
      | zero =>
        have h0 : n = 0 := by omega
        subst h0
        simp [decF]
      | succ g =>
        by_cases h : n < 10
        · simp [decF, h]
        · rw [decF, decF, if_neg h, if_neg h, ih (n / 10) (by omega) f g (by omega) (by omega)]
theorem decL_small {n : Nat} (h : n < 10) : decL n = [byteOf (48 + n)] := by
  unfold decL
  cases n with
  | zero => rfl
  | succ n => rw [decF, if_pos h]
theorem decL_big {n : Nat} (h : ¬ n < 10) : decL n = decL (n / 10) ++ [byteOf (48 + n % 10)] := by
  unfold decL
  cases n with
  | zero => exact absurd (Nat.zero_lt_succ _) h
  | succ n => rw [decF, if_neg h, decF_same ((n + 1) / 10) n ((n + 1) / 10) (by omega) (Nat.le_refl _)]
theorem decL_pos (n : Nat) : 0 < (decL n).length := by
  by_cases h : n < 10
  · rw [decL_small h]; simp
  · rw [decL_big h]; simp

/-- The hidden bytes of the first n tests; the image of test i. -/
def hidL (ts : List TestV) (n : Nat) : List UInt8 := (ts.take n).flatMap fun t => t.hidden.toList
def noTest : TestV := ⟨ByteArray.empty, ByteArray.empty⟩
def headL (ts : List TestV) (i : Nat) : List UInt8 := [byteOf (i : Int), byteOf (ts.length : Int), byteOf (4 + (hidL ts i).length : Int), byteOf ((ts.getD i noTest).hidden.size : Int)]
def imageL (ts : List TestV) (i : Nat) : List UInt8 := headL ts i ++ hidL ts ts.length ++ List.replicate 32 0
theorem hidL_step {ts : List TestV} {n : Nat} (h : n < ts.length) : hidL ts (n + 1) = hidL ts n ++ (ts.getD n noTest).hidden.toList := by
  unfold hidL
  rw [List.take_add_one, List.getElem?_eq_getElem h, List.flatMap_append]
  simp [List.getD, h]

/-- What a run comes to. -/
structure Res where
  out : List UInt8
  image : List UInt8
  mark : Int
  used : Int
  err : Int
def runRes (s : ByteArray) (b : BoxV) : Res :=
  if (readM s).1 ≠ 0 then ⟨[], [], 0, 0, (readM s).1⟩ else if 256 < b.image.size ∨ 10000 < b.fuel then ⟨[], [], 0, 0, 1⟩
  else ⟨(runD s b).2.out, (runD s b).2.image, (runD s b).2.mark, (runD s b).2.used, (runD s b).1⟩
def Res.cells (r : Res) : Array Value := #[.string (mkB r.out), .string (mkB r.image), .int .i64 r.mark, .int .i64 r.used, .int .i64 r.err]
theorem runCells_res (s : ByteArray) (b : BoxV) (hin : b.inp.size ≤ maxLen) : runCells s b = (runRes s b).cells := by
  by_cases h1 : (readM s).1 ≠ 0
  · unfold runRes runCells; rw [if_pos h1, if_pos h1]; rfl
  · by_cases h2 : 256 < b.image.size ∨ 10000 < b.fuel
    · unfold runRes runCells; rw [if_neg h1, if_pos h2, if_neg h1, if_pos h2]; rfl
    · rw [runCells_dev s b (by simpa using h1) (by omega) (by omega) hin]
      unfold runRes; rw [if_neg h1, if_neg h2]; rfl

/-- The run of a test, and the checker's behind it. -/
def testBox (ts : List TestV) (i : Nat) (rights fuel : Int) : BoxV := ⟨(ts.getD i noTest).inp, mkB (imageL ts i), 4, ((hidL ts ts.length).length : Int), rights, fuel⟩
def checkBox (ts : List TestV) (r : Res) (fuel : Int) : BoxV := ⟨mkB r.out, mkB r.image, 4, ((hidL ts ts.length).length : Int), 15, fuel⟩
def lineL (r : Res) : List UInt8 := decL r.err.toNat ++ [32] ++ decL r.used.toNat ++ [32] ++ decL r.out.length ++ [58] ++ r.out ++ [10]
def markL (c : Res) : List UInt8 := decL c.mark.toNat ++ [32] ++ decL c.err.toNat ++ [10]
def pubTo (ts : List TestV) (rights fuel : Int) (src : ByteArray) : Nat → List UInt8
  | 0 => []
  | k + 1 => pubTo ts rights fuel src k ++ lineL (runRes src (testBox ts k rights fuel))
def marksTo (checker : ByteArray) (ts : List TestV) (rights fuel : Int) (src : ByteArray) : Nat → List UInt8
  | 0 => []
  | k + 1 => marksTo checker ts rights fuel src k ++ markL (runRes checker (checkBox ts (runRes src (testBox ts k rights fuel)) fuel))
theorem lineL_len (r : Res) : 7 ≤ (lineL r).length := by
  unfold lineL
  have h1 := decL_pos r.err.toNat
  have h2 := decL_pos r.used.toNat
  have h3 := decL_pos r.out.length
  simp only [List.length_append, List.length_cons, List.length_nil]
  omega
theorem markL_len (r : Res) : 4 ≤ (markL r).length := by
  unfold markL
  have h1 := decL_pos r.mark.toNat
  have h2 := decL_pos r.err.toNat
  simp only [List.length_append, List.length_cons, List.length_nil]
  omega
theorem pubTo_len (ts : List TestV) (rights fuel : Int) (src : ByteArray) : ∀ k, 7 * k ≤ (pubTo ts rights fuel src k).length
  | 0 => Nat.zero_le _
  | k + 1 => by
    have := pubTo_len ts rights fuel src k
    have := lineL_len (runRes src (testBox ts k rights fuel))
    show _ ≤ (pubTo ts rights fuel src k ++ _).length
    rw [List.length_append]; omega
theorem marksTo_len (checker : ByteArray) (ts : List TestV) (rights fuel : Int) (src : ByteArray) : ∀ k, 4 * k ≤ (marksTo checker ts rights fuel src k).length
  | 0 => Nat.zero_le _
  | k + 1 => by
    have := marksTo_len checker ts rights fuel src k
    have := markL_len (runRes checker (checkBox ts (runRes src (testBox ts k rights fuel)) fuel))
    show _ ≤ (marksTo checker ts rights fuel src k ++ _).length
    rw [List.length_append]; omega

/-- Two lists of tests that differ in what is hidden alone. -/
structure Alike2 (ts ts' : List TestV) : Prop where
  len : ts'.length = ts.length
  inp : ∀ i, (ts'.getD i noTest).inp = (ts.getD i noTest).inp
  size : ∀ i, (ts'.getD i noTest).hidden.size = (ts.getD i noTest).hidden.size
theorem Alike2.hid {ts ts' : List TestV} (h : Alike2 ts ts') : ∀ n, n ≤ ts.length → (hidL ts' n).length = (hidL ts n).length
  | 0, _ => by simp [hidL]
  | n + 1, hn => by
    have hl := h.len
    rw [hidL_step (ts := ts') (by omega), hidL_step (ts := ts) (by omega), List.length_append, List.length_append, h.hid n (by omega), toList_len, toList_len, h.size n]
theorem Alike2.head {ts ts' : List TestV} (h : Alike2 ts ts') {i : Nat} (hi : i < ts.length) : headL ts' i = headL ts i := by
  unfold headL; rw [h.len, h.hid i (by omega), h.size i]
theorem head_len (ts : List TestV) (i : Nat) : (headL ts i).length = 4 := rfl
theorem imageL_len (ts : List TestV) (i : Nat) : (imageL ts i).length = 4 + (hidL ts ts.length).length + 32 := by
  unfold imageL; rw [List.length_append, List.length_append, head_len, List.length_replicate]
theorem hidL_le {ts : List TestV} (h : ∀ i, i < ts.length → (ts.getD i noTest).hidden.size ≤ 32) : ∀ n, n ≤ ts.length → (hidL ts n).length ≤ 32 * n
  | 0, _ => by simp [hidL]
  | n + 1, hn => by
    have := hidL_le h n (by omega)
    have := h n (by omega)
    rw [hidL_step (by omega), List.length_append, toList_len]; omega

def startT (b : BoxV) : Ma := Ma.start b.inp b.image.toList b.kernel b.secret b.rights b.fuel
theorem test_start (ts : List TestV) (i : Nat) (rights fuel : Int) : (startT (testBox ts i rights fuel)).kernel = 4 ∧ (startT (testBox ts i rights fuel)).fence = 4 + (hidL ts ts.length).length := by
  have hl : ((mkB (imageL ts i)).toList.length : Int) = 4 + (hidL ts ts.length).length + 32 := by rw [mkB_toList, imageL_len]; omega
  show clampN 4 ((mkB (imageL ts i)).toList.length : Int) = _ ∧ clampN 4 ((mkB (imageL ts i)).toList.length : Int) + clampN ((hidL ts ts.length).length : Int) (((mkB (imageL ts i)).toList.length : Int) - clampN 4 ((mkB (imageL ts i)).toList.length : Int)) = _
  rw [hl]
  have e1 : clampN 4 (4 + ((hidL ts ts.length).length : Int) + 32) = 4 := by
    unfold clampN; rw [if_neg (by omega), if_neg (by omega)]
  rw [e1]
  have e2 : clampN ((hidL ts ts.length).length : Int) (4 + ((hidL ts ts.length).length : Int) + 32 - 4) = (hidL ts ts.length).length := by
    unfold clampN; rw [if_neg (by omega), if_neg (by omega)]
  rw [e2]
  exact ⟨rfl, rfl⟩
theorem test_with {ts ts' : List TestV} (h : Alike2 ts ts') {i : Nat} (hi : i < ts.length) (rights fuel : Int) : startT (testBox ts' i rights fuel) = withI (startT (testBox ts i rights fuel)) (imageL ts' i) := by
  obtain ⟨a1, a2⟩ := test_start ts i rights fuel
  obtain ⟨b1, b2⟩ := test_start ts' i rights fuel
  have hk : (startT (testBox ts' i rights fuel)).kernel = (startT (testBox ts i rights fuel)).kernel := by rw [a1, b1]
  have hf : (startT (testBox ts' i rights fuel)).fence = (startT (testBox ts i rights fuel)).fence := by rw [a2, b2, h.len, h.hid ts.length (Nat.le_refl _)]
  have hin : (startT (testBox ts' i rights fuel)).inp = (startT (testBox ts i rights fuel)).inp := h.inp i
  have him : (startT (testBox ts' i rights fuel)).image = imageL ts' i := mkB_toList _
  have : startT (testBox ts' i rights fuel) = { startT (testBox ts i rights fuel) with image := (startT (testBox ts' i rights fuel)).image, inp := (startT (testBox ts' i rights fuel)).inp, kernel := (startT (testBox ts' i rights fuel)).kernel, fence := (startT (testBox ts' i rights fuel)).fence } := rfl
  rw [this, hk, hf, hin, him]
  rfl
theorem test_sec {ts ts' : List TestV} (h : Alike2 ts ts') {i : Nat} (hi : i < ts.length) (rights fuel : Int) (hr : noRight rights 4 = true) : SecR (startT (testBox ts i rights fuel)) (imageL ts' i) := by
  obtain ⟨a1, a2⟩ := test_start ts i rights fuel
  have him : (startT (testBox ts i rights fuel)).image = imageL ts i := mkB_toList _
  have hh := h.hid ts.length (Nat.le_refl _)
  refine ⟨?_, fun j hj => ?_, hr⟩
  · rw [him, imageL_len, imageL_len, h.len, hh]
  · rw [a1, a2] at hj
    rw [him]
    unfold imageL
    rw [h.head hi, h.len]
    simp only [List.getD]
    rcases hj with hj | hj
    · rw [List.getElem?_append_left (by rw [List.length_append, head_len]; omega), List.getElem?_append_left (by rw [head_len]; omega), List.getElem?_append_left (by rw [List.length_append, head_len]; omega), List.getElem?_append_left (by rw [head_len]; omega)]
    · rw [List.getElem?_append_right (by rw [List.length_append, head_len, hh]; omega), List.getElem?_append_right (by rw [List.length_append, head_len]; omega), List.length_append, List.length_append, hh]
/-- The line of a test does not depend on what is hidden. -/
theorem line_same {ts ts' : List TestV} (h : Alike2 ts ts') {i : Nat} (hi : i < ts.length) (rights fuel : Int) (src : ByteArray) (hr : noRight rights 4 = true) (hl : (imageL ts i).length ≤ 256) (hin : (ts.getD i noTest).inp.size ≤ maxLen) :
    lineL (runRes src (testBox ts' i rights fuel)) = lineL (runRes src (testBox ts i rights fuel)) := by
  have hs : (testBox ts i rights fuel).image.size = (imageL ts i).length := mkB_size _
  have hs' : (testBox ts' i rights fuel).image.size = (imageL ts i).length := by
    show (mkB (imageL ts' i)).size = _
    rw [mkB_size, imageL_len, imageL_len, h.len, h.hid ts.length (Nat.le_refl _)]
  unfold runRes
  by_cases h1 : (readM src).1 ≠ 0
  · rw [if_pos h1, if_pos h1]
  · rw [if_neg h1, if_neg h1]
    by_cases h2 : 10000 < fuel
    · rw [if_pos (.inr h2), if_pos (.inr h2)]
    · have hf : ¬ (256 < (testBox ts i rights fuel).image.size ∨ 10000 < (testBox ts i rights fuel).fuel) := by
        rintro (q | q)
        · omega
        · exact h2 q
      have hf' : ¬ (256 < (testBox ts' i rights fuel).image.size ∨ 10000 < (testBox ts' i rights fuel).fuel) := by
        rintro (q | q)
        · omega
        · exact h2 q
      rw [if_neg hf, if_neg hf']
      have h1' : (readM src).1 = 0 := by simpa using h1
      obtain ⟨o1, o2⟩ := steps_ops h1'
      have hok : (startT (testBox ts i rights fuel)).Ok := Ma.start_ok _ _ _ _ _ _ (by rw [toList_len]; omega) (by show (ts.getD i noTest).inp.size ≤ _; unfold maxLen at hin; omega)
      obtain ⟨J, hJ, _⟩ := run_sec o1 o2 (measN (readM src).2.2.steps.length 0 0) 0 _ _ (test_sec h hi rights fuel hr) hok
      rw [← test_with h hi rights fuel] at hJ
      have e : runD src (testBox ts' i rights fuel) = ((runD src (testBox ts i rights fuel)).1, withI (runD src (testBox ts i rights fuel)).2 J) := hJ
      rw [e]
      rfl
theorem pub_same {ts ts' : List TestV} (h : Alike2 ts ts') (rights fuel : Int) (src : ByteArray) (hr : noRight rights 4 = true) (hl : ∀ i, i < ts.length → (imageL ts i).length ≤ 256) (hin : ∀ i, (ts.getD i noTest).inp.size ≤ maxLen) :
    ∀ k, k ≤ ts.length → pubTo ts' rights fuel src k = pubTo ts rights fuel src k
  | 0, _ => rfl
  | k + 1, hk => by
    show pubTo ts' rights fuel src k ++ _ = pubTo ts rights fuel src k ++ _
    rw [pub_same h rights fuel src hr hl hin k (by omega), line_same h (by omega) rights fuel src hr (hl k (by omega)) (hin k)]
end Go.Proofs.YtnanjomnldfidabGreatDoor

set_option linter.unusedSimpArgs false
set_option linter.unusedVariables false
set_option linter.unusedSectionVars false
namespace Go.Proofs.YtnanjomnldfidabGreatDoor

theorem room_bd (M : Ma) (t g : Int) : 0 ≤ M.room t g ∧ M.room t g ≤ 13 := by
  unfold Ma.room
  repeat' split
  all_goals decide
theorem fault_bd (M : Ma) (n : Int) : 0 ≤ M.fault n ∧ M.fault n ≤ 13 := by
  unfold Ma.fault
  repeat' split
  all_goals decide
theorem step_err_bd (op arg b : Int) (M : Ma) : 0 ≤ (stepM op arg b M).2.1 ∧ (stepM op arg b M).2.1 ≤ 13 := by
  unfold stepM Ma.number Ma.pass Ma.takeN Ma.call Ma.ret Ma.doN
  repeat' split
  all_goals first | exact room_bd M _ _ | exact fault_bd M _ | exact (by decide : (0 : Int) ≤ 0 ∧ (0 : Int) ≤ 13) | exact (by decide : (0 : Int) ≤ 9 ∧ (9 : Int) ≤ 13) | exact (by decide : (0 : Int) ≤ 7 ∧ (7 : Int) ≤ 13)
theorem step_image (op arg b : Int) (M : Ma) : (stepM op arg b M).2.2.image.length = M.image.length := by
  unfold stepM Ma.number Ma.pass Ma.takeN Ma.call Ma.ret Ma.doN
  repeat' split
  all_goals first | rfl | (show (M.tick.act _).image.length = _; rw [act_image]; split <;> simp [Ma.tick])
theorem runS_ok {S : List (Int × Int)} (hops : ∀ i, i < S.length → (S.getD i (0, 0)).1 = -1 ∨ opOk (S.getD i (0, 0)).1) (hargs : ∀ i, i < S.length → (S.getD i (0, 0)).1 = 1 → 0 ≤ (S.getD i (0, 0)).2 ∧ (S.getD i (0, 0)).2 < 65536) :
    ∀ (n : Nat) (p : Int) (M : Ma), M.Ok → (runS S n p M).2.Ok ∧ (0 ≤ (runS S n p M).1 ∧ (runS S n p M).1 ≤ 13) ∧ (runS S n p M).2.image.length = M.image.length
  | 0, p, M, h => ⟨h, (by decide : (0 : Int) ≤ 0 ∧ (0 : Int) ≤ 13), rfl⟩
  | n + 1, p, M, h => by
    unfold runS
    by_cases hin : 0 ≤ p ∧ p < (S.length : Int)
    · rw [if_pos hin]
      have hst : stepAt S p = S.getD p.toNat (0, 0) := rfl
      have hlt : p.toNat < S.length := by omega
      have ho := hops p.toNat hlt
      have ha := hargs p.toNat hlt
      by_cases hp : (stepAt S p).1 = -1
      · have e1 : nextS S p M = ((stepAt S p).2, 0, M) := by unfold nextS; rw [if_pos hp]
        rw [e1, if_neg (show ¬ ((0 : Int) ≠ 0) by simp)]
        exact runS_ok hops hargs n _ M h
      · have e1 : nextS S p M = stepM (stepAt S p).1 (stepAt S p).2 (p + 1) M := by unfold nextS; rw [if_neg hp]
        rw [e1]
        rw [← hst] at ho ha
        have ho' : opOk (stepAt S p).1 := ho.elim (fun e => absurd e hp) id
        by_cases he : (stepM (stepAt S p).1 (stepAt S p).2 (p + 1) M).2.1 ≠ 0
        · rw [if_pos he]
          refine ⟨?_, step_err_bd _ _ _ _, ?_⟩
          · rw [stepM_same _ _ _ _ he]; exact h
          · rw [stepM_same _ _ _ _ he]
        · rw [if_neg he]
          have he' : (stepM (stepAt S p).1 (stepAt S p).2 (p + 1) M).2.1 = 0 := by simpa using he
          have hu := step_used _ _ _ M he' ho' h ha
          obtain ⟨q1, q2, q3⟩ := runS_ok hops hargs n (stepM (stepAt S p).1 (stepAt S p).2 (p + 1) M).1 _ hu.2
          refine ⟨q1, q2, q3.trans (step_image _ _ _ M)⟩
    · rw [if_neg hin]; exact ⟨h, (by decide : (0 : Int) ≤ 0 ∧ (0 : Int) ≤ 13), rfl⟩
structure Res.Bd (r : Res) (n : Nat) : Prop where
  out : r.out.length ≤ 64
  image : r.image.length = n
  mark : 0 ≤ r.mark
  mark' : r.mark < 65536
  used : 0 ≤ r.used
  used' : r.used ≤ 10000
  err : 0 ≤ r.err
  err' : r.err ≤ 13
theorem res_bd {s : ByteArray} {b : BoxV} (h : (readM s).1 = 0) (hi : b.image.size ≤ 256) (hf : b.fuel ≤ 10000) (hin : b.inp.size ≤ maxLen) : (runRes s b).Bd b.image.size := by
  obtain ⟨o1, o2⟩ := steps_ops h
  have hok : (startT b).Ok := Ma.start_ok _ _ _ _ _ _ (by rw [toList_len]; omega) (by unfold maxLen at hin; omega)
  obtain ⟨q1, q2, q3⟩ := runS_ok o1 o2 (measN (readM s).2.2.steps.length 0 0) 0 _ hok
  have e : runRes s b = ⟨(runD s b).2.out, (runD s b).2.image, (runD s b).2.mark, (runD s b).2.used, (runD s b).1⟩ := by
    unfold runRes; rw [if_neg (by simp [h]), if_neg (by omega)]
  rw [e]
  exact ⟨q1.out, q3.trans (toList_len _), q1.mark, q1.mark', q1.used, q1.used', q2.1, q2.2⟩
theorem decL_le (n : Nat) : (decL n).length ≤ n + 1 := by
  induction n using Nat.strongRecOn with
  | _ n ih =>
    by_cases h : n < 10
    · rw [decL_small h]; simp
    · rw [decL_big h, List.length_append]
      have := ih (n / 10) (by omega)
      simp; omega
theorem line_le {r : Res} {n : Nat} (h : r.Bd n) : (lineL r).length ≤ 20000 := by
  have := decL_le r.err.toNat
  have := decL_le r.used.toNat
  have := decL_le r.out.length
  have := h.err'; have := h.used'; have := h.out
  unfold lineL
  simp only [List.length_append, List.length_cons, List.length_nil]
  omega
theorem mark_le {r : Res} {n : Nat} (h : r.Bd n) : (markL r).length ≤ 70000 := by
  have := decL_le r.err.toNat
  have := decL_le r.mark.toNat
  have := h.err'; have := h.mark'
  unfold markL
  simp only [List.length_append, List.length_cons, List.length_nil]
  omega
theorem test_bd {s : ByteArray} {ts : List TestV} (h : (readM s).1 = 0) (hh : (hidL ts ts.length).length ≤ 192) (i : Nat) (rights fuel : Int) (hf : fuel ≤ 10000) (hin : (ts.getD i noTest).inp.size ≤ maxLen) : (runRes s (testBox ts i rights fuel)).Bd (4 + (hidL ts ts.length).length + 32) := by
  have e : (testBox ts i rights fuel).image.size = 4 + (hidL ts ts.length).length + 32 := by show (mkB (imageL ts i)).size = _; rw [mkB_size, imageL_len]
  rw [← e]
  exact res_bd h (by omega) hf hin
theorem check_bd {s : ByteArray} {ts : List TestV} {r : Res} (h : (readM s).1 = 0) (hh : (hidL ts ts.length).length ≤ 192) (hr : r.Bd (4 + (hidL ts ts.length).length + 32)) (fuel : Int) (hf : fuel ≤ 10000) : (runRes s (checkBox ts r fuel)).Bd (4 + (hidL ts ts.length).length + 32) := by
  have e : (checkBox ts r fuel).image.size = 4 + (hidL ts ts.length).length + 32 := by show (mkB r.image).size = _; rw [mkB_size]; exact hr.image
  rw [← e]
  exact res_bd h (by omega) hf (by show (mkB r.out).size ≤ _; rw [mkB_size]; have := hr.out; unfold maxLen; omega)
theorem pubTo_le {s : ByteArray} {ts : List TestV} (h : (readM s).1 = 0) (hh : (hidL ts ts.length).length ≤ 192) (rights fuel : Int) (hf : fuel ≤ 10000) (hin : ∀ i, (ts.getD i noTest).inp.size ≤ maxLen) : ∀ k, (pubTo ts rights fuel s k).length ≤ 20000 * k
  | 0 => Nat.zero_le _
  | k + 1 => by
    have := pubTo_le h hh rights fuel hf hin k
    have := line_le (test_bd h hh k rights fuel hf (hin k))
    show (pubTo ts rights fuel s k ++ _).length ≤ _
    rw [List.length_append]; omega
theorem marksTo_le {c s : ByteArray} {ts : List TestV} (h : (readM s).1 = 0) (h2 : (readM c).1 = 0) (hh : (hidL ts ts.length).length ≤ 192) (rights fuel : Int) (hf : fuel ≤ 10000) (hin : ∀ i, (ts.getD i noTest).inp.size ≤ maxLen) : ∀ k, (marksTo c ts rights fuel s k).length ≤ 70000 * k
  | 0 => Nat.zero_le _
  | k + 1 => by
    have := marksTo_le h h2 hh rights fuel hf hin k
    have := mark_le (check_bd h2 hh (test_bd h hh k rights fuel hf (hin k)) fuel hf)
    show (marksTo c ts rights fuel s k ++ _).length ≤ _
    rw [List.length_append]; omega
end Go.Proofs.YtnanjomnldfidabGreatDoor
