/-
  The law Runs.
-/
import Derived.Test.YtnanjomnldfidabDoorRunSim
import Derived.Test.YtnanjomnldfidabDoorDmTop
import Derived.Test.YtnanjomnldfidabDoorChecks
import Derived.Test.YtnanjomnldfidabDoorBoxArg
set_option linter.unusedSimpArgs false
set_option linter.unusedVariables false
set_option linter.unusedSectionVars false
namespace Go.Proofs.YtnanjomnldfidabDoor
open Go.ChangeShapes Go.WideShapes Go.ChangeAt Go.RowKit
open Go.ChangeMaps (open_string shut_string)

/-- What a run answers, as cells. -/
def runCells (s : ByteArray) (b : BoxV) : Array Value :=
  if (readM s).1 ≠ 0 then errCells (readM s).1
  else if 256 < b.image.size ∨ 10000 < b.fuel then errCells 1
  else resCells (runW (toksFrom s 0) (runFuel (toksFrom s 0)) 0 (Ma.start b.inp b.image.toList b.kernel b.secret b.rights b.fuel)).2 (runW (toksFrom s 0) (runFuel (toksFrom s 0)) 0 (Ma.start b.inp b.image.toList b.kernel b.secret b.rights b.fuel)).1
theorem errCells_five (e : Int) : ∃ x y a b c, errCells e = #[.string x, .string y, .int .i64 a, .int .i64 b, .int .i64 c] := ⟨_, _, _, _, _, rfl⟩
theorem runCells_five (s : ByteArray) (b : BoxV) : ∃ x y a c d, runCells s b = #[.string x, .string y, .int .i64 a, .int .i64 c, .int .i64 d] := by
  unfold runCells
  split
  · exact errCells_five _
  · split
    · exact errCells_five _
    · exact ⟨_, _, _, _, _, rfl⟩

theorem start_inv (T : Words) (b : BoxV) (hi : b.image.size ≤ 256) (hin : b.inp.size ≤ maxLen) : RefInv T 0 (Ma.start b.inp b.image.toList b.kernel b.secret b.rights b.fuel) :=
  ⟨Ma.start_ok _ _ _ _ _ _ (by rw [toList_len]; exact hi) (by unfold maxLen at hin; omega), (fun h => by omega), (fun c hc => by simp [Ma.start] at hc)⟩

section
variable (s : ByteArray) (b : BoxV) (w : World) (P : Nat → Prop)
theorem run_any (hP : ∀ k, P k → k < w.heap.size) (hs : s.size ≤ maxLen) (hin : b.inp.size ≤ maxLen) (hsi : b.image.size ≤ maxLen) (hT : WordsAt w 2 listedL) (hPT : P 2) :
    Calls Tryd.prog 33 #[.string s, .string b.inp, .string b.image, .int .i64 b.kernel, .int .i64 b.secret, .int .i64 b.rights, .int .i64 b.fuel] w (RunPost P (runCells s b) w) := by
  unfold runCells
  by_cases h1 : (readM s).1 ≠ 0
  · rw [if_pos h1]; exact run_err s b.inp b.image b.kernel b.secret b.rights b.fuel w P hP hs hT hPT h1
  rw [if_neg h1]
  have h1' : (readM s).1 = 0 := by simpa using h1
  by_cases h2 : 256 < b.image.size ∨ 10000 < b.fuel
  · rw [if_pos h2]; exact run_long s b.inp b.image b.kernel b.secret b.rights b.fuel w P hP hs hsi hT hPT h1' h2
  rw [if_neg h2]
  obtain ⟨L, hl⟩ := laid_of_read s h1'
  have hi : b.image.size ≤ 256 := by omega
  have hinv := start_inv (toksFrom s 0) b hi hin
  have hlen : (readM s).2.2.steps.length ≤ 10000 := by
    rw [L.len]
    have : ∀ n, stepOf (toksFrom s 0) n ≤ n := by
      intro n
      induction n with
      | zero => exact Nat.le_refl _
      | succ n ih =>
        have : emits (toksFrom s 0) n ≤ 1 := by unfold emits; split; omega; split <;> omega
        show stepOf _ n + emits _ n ≤ n + 1
        omega
    have := this (toksFrom s 0).length
    have := toks_length s
    omega
  have hrun := run_ok s b.inp b.image b.kernel b.secret b.rights b.fuel w P hP hs hi (by omega) hT hPT h1' hlen (DevInv (toksFrom s 0)) (stepInv_dev L) ⟨0, _, hinv, rfl, rfl⟩ (measN (readM s).2.2.steps.length 0 0) (Nat.le_refl _)
  have hal := runs_alike L (runFuel (toksFrom s 0)) 0 _ hinv (Nat.le_refl _) (measN (readM s).2.2.steps.length 0 0) (Nat.le_refl _)
  have hal' : runS (readM s).2.2.steps (measN (readM s).2.2.steps.length 0 0) 0 (Ma.start b.inp b.image.toList b.kernel b.secret b.rights b.fuel) = _ := hal
  rw [hal'] at hrun
  exact hrun
theorem refRun_any (hP : ∀ k, P k → k < w.heap.size) (hs : s.size ≤ maxLen) (hin : b.inp.size ≤ maxLen) (hsi : b.image.size ≤ maxLen) (hF : WordsAt w 0 formsL) (hL : WordsAt w 1 listedL) (hPF : P 0) (hPL : P 1) :
    Calls Tryd.prog 30 #[.string s, .string b.inp, .string b.image, .int .i64 b.kernel, .int .i64 b.secret, .int .i64 b.rights, .int .i64 b.fuel] w (RunPost P (runCells s b) w) := by
  have heq : (readM s).1 = (refCheckM s).1 := by rw [← check_eq s]
  unfold runCells
  by_cases h1 : (readM s).1 ≠ 0
  · rw [if_pos h1, heq]
    rw [heq] at h1
    exact refRun_err s b.inp b.image b.kernel b.secret b.rights b.fuel w P hP hs hF hL hPF hPL h1
  rw [if_neg h1]
  have h1' : (readM s).1 = 0 := by simpa using h1
  by_cases h2 : 256 < b.image.size ∨ 10000 < b.fuel
  · rw [if_pos h2]; exact refRun_long s b.inp b.image b.kernel b.secret b.rights b.fuel w P hP hs hsi hF hL hPF hPL (by rw [← heq]; exact h1') h2
  rw [if_neg h2]
  obtain ⟨L, hl⟩ := laid_of_read s h1'
  have hi : b.image.size ≤ 256 := by omega
  exact refRun_ok s b.inp b.image b.kernel b.secret b.rights b.fuel w P hP hl hi (by omega) hF hL hPF hPL (by rw [← heq]; exact h1') (RefInv (toksFrom s 0)) (runInv_ref L) (start_inv (toksFrom s 0) b hi hin) _ (Nat.le_refl _)
end

section
variable {s : ByteArray} {b : BoxV} {w : World} {P : Nat → Prop}
set_option maxRecDepth 100000 in
set_option maxHeartbeats 1600000 in
/-- graderlaw's run. -/
theorem lawRun_any (hP : ∀ k, P k → k < w.heap.size) (hs : s.size ≤ maxLen) (hin : b.inp.size ≤ maxLen) (hsi : b.image.size ≤ maxLen) (hT : WordsAt w 2 listedL) (hPT : P 2) :
    Calls Tryd.prog 16 #[.string s, b.val] w (RunPost P (runCells s b) w) := by
  obtain ⟨w0, hw0⟩ : ∃ w0, w0 = (w.alloc (.cells #[.string b.inp, .string b.image, .int .i64 b.kernel, .int .i64 b.secret, .int .i64 b.rights, .int .i64 b.fuel] 23)).alloc (.cells #[.string ⟨#[]⟩, .string ⟨#[]⟩, .int .i64 0, .int .i64 0, .int .i64 0] 37) := ⟨_, rfl⟩
  have hk0 : Kept P w w0 := by rw [hw0]; exact ((Kept.refl P w).alloc _).alloc _
  have hbox : w0.heap[w.heap.size + 1]? = some (.cells #[.string ⟨#[]⟩, .string ⟨#[]⟩, .int .i64 0, .int .i64 0, .int .i64 0] 37 (0, 0)) := by
    rw [hw0]
    have e : (w.alloc (.cells #[.string b.inp, .string b.image, .int .i64 b.kernel, .int .i64 b.secret, .int .i64 b.rights, .int .i64 b.fuel] 23)).heap.size = w.heap.size + 1 := by simp
    rw [← e]; exact heap_alloc_new _ _
  have hsz0 : w0.heap.size = w.heap.size + 2 := by rw [hw0]; simp
  have hPb : ∀ k, P k ∨ k = w.heap.size + 1 → k < w0.heap.size := by
    intro k hk
    rcases hk with hk | hk
    · have := hP k hk; omega
    · omega
  have hck := hide (run_any s b w0 (fun k => P k ∨ k = w.heap.size + 1) hPb hs hin hsi (hT.kept hk0 (hP _ hPT) hPT) (.inl hPT))
  obtain ⟨x, y, a, c, d, h5⟩ := runCells_five s b
  rw [h5] at hck ⊢
  have HP := hide hP
  have HK := hide hk0
  have HB := hide hbox
  clear hP hk0 hbox hPb h5 hT
  unfold BoxV.val
  unfold RunPost at hck
  go_enter Tryd.func16, Tryd.ntmps16
  go_wp2_with fail
  rw [show (w.alloc (.cells #[.string b.inp, .string b.image, .int .i64 b.kernel, .int .i64 b.secret, .int .i64 b.rights, .int .i64 b.fuel] 23)).alloc (.cells #[.string ⟨#[]⟩, .string ⟨#[]⟩, .int .i64 0, .int .i64 0, .int .i64 0] 37) = w0 from hw0.symm]
  refine (unhide hck).mono ?_
  rintro e w1 ⟨rfl, k1⟩
  have hbox1 := k1.at' HB.out (.inr rfl)
  have hfin : Hid ((set5 w1 (w.heap.size + 1) (.string x) (.string y) (.int .i64 a) (.int .i64 c) (.int .i64 d)).heap[w.heap.size + 1]? = some (.cells #[.string x, .string y, .int .i64 a, .int .i64 c, .int .i64 d] 37 (0, 0)) ∧ Kept P w (set5 w1 (w.heap.size + 1) (.string x) (.string y) (.int .i64 a) (.int .i64 c) (.int .i64 d))) :=
    ⟨set5_box hbox1 _ _ _ _ _, (HK.out.trans (k1.mono fun k hk => .inl hk)).trans (set5_kept (show ¬ P (w.heap.size + 1) from fun hp => by have := HP.out _ hp; omega) _ _ _ _ _)⟩
  have hlt1 := lt_of_block hbox1
  obtain ⟨⟨c0, c1, c2, c3, c4⟩, fr⟩ := set5_cells hbox1
  have f0 := fr 0
  have f1 := fr 1
  have f2 := fr 2
  have f3 := fr 3
  have f4 := fr 4
  clear hck k1 HB HK HP hw0 hbox1 fr
  unfold set5 at hfin
  go_wp2
  obtain ⟨hb5, hk5⟩ := hfin.out
  obtain ⟨⟨d0, d1, d2, d3, d4⟩, _⟩ := set5_cells hb5
  refine bodyPost_ret (v := .agg #[.string x, .string y, .int .i64 a, .int .i64 c, .int .i64 d]) ?_ rfl ⟨rfl, hk5⟩
  clear c0 c1 c2 c3 c4 hfin hb5 hk5 f0 f1 f2 f3 f4
  revert d0 d1 d2 d3 d4
  generalize World.setCell _ _ _ = W2
  intro d0 d1 d2 d3 d4
  simp [results, Tryd.results16, go_sem, d0, d1, d2, d3, d4]

set_option maxRecDepth 100000 in
set_option maxHeartbeats 1600000 in
/-- graderlaw's refRun. -/
theorem lawRefRun_any (hP : ∀ k, P k → k < w.heap.size) (hs : s.size ≤ maxLen) (hin : b.inp.size ≤ maxLen) (hsi : b.image.size ≤ maxLen) (hF : WordsAt w 0 formsL) (hL : WordsAt w 1 listedL) (hPF : P 0) (hPL : P 1) :
    Calls Tryd.prog 12 #[.string s, b.val] w (RunPost P (runCells s b) w) := by
  obtain ⟨w0, hw0⟩ : ∃ w0, w0 = (w.alloc (.cells #[.string b.inp, .string b.image, .int .i64 b.kernel, .int .i64 b.secret, .int .i64 b.rights, .int .i64 b.fuel] 23)).alloc (.cells #[.string ⟨#[]⟩, .string ⟨#[]⟩, .int .i64 0, .int .i64 0, .int .i64 0] 31) := ⟨_, rfl⟩
  have hk0 : Kept P w w0 := by rw [hw0]; exact ((Kept.refl P w).alloc _).alloc _
  have hbox : w0.heap[w.heap.size + 1]? = some (.cells #[.string ⟨#[]⟩, .string ⟨#[]⟩, .int .i64 0, .int .i64 0, .int .i64 0] 31 (0, 0)) := by
    rw [hw0]
    have e : (w.alloc (.cells #[.string b.inp, .string b.image, .int .i64 b.kernel, .int .i64 b.secret, .int .i64 b.rights, .int .i64 b.fuel] 23)).heap.size = w.heap.size + 1 := by simp
    rw [← e]; exact heap_alloc_new _ _
  have hsz0 : w0.heap.size = w.heap.size + 2 := by rw [hw0]; simp
  have hPb : ∀ k, P k ∨ k = w.heap.size + 1 → k < w0.heap.size := by
    intro k hk
    rcases hk with hk | hk
    · have := hP k hk; omega
    · omega
  have hck := hide (refRun_any s b w0 (fun k => P k ∨ k = w.heap.size + 1) hPb hs hin hsi (hF.kept hk0 (hP _ hPF) hPF) (hL.kept hk0 (hP _ hPL) hPL) (.inl hPF) (.inl hPL))
  obtain ⟨x, y, a, c, d, h5⟩ := runCells_five s b
  rw [h5] at hck ⊢
  have HP := hide hP
  have HK := hide hk0
  have HB := hide hbox
  clear hP hk0 hbox hPb h5 hF hL
  unfold BoxV.val
  unfold RunPost at hck
  go_enter Tryd.func12, Tryd.ntmps12
  go_wp2_with fail
  rw [show (w.alloc (.cells #[.string b.inp, .string b.image, .int .i64 b.kernel, .int .i64 b.secret, .int .i64 b.rights, .int .i64 b.fuel] 23)).alloc (.cells #[.string ⟨#[]⟩, .string ⟨#[]⟩, .int .i64 0, .int .i64 0, .int .i64 0] 31) = w0 from hw0.symm]
  refine (unhide hck).mono ?_
  rintro e w1 ⟨rfl, k1⟩
  have hbox1 := k1.at' HB.out (.inr rfl)
  have hfin : Hid ((set5 w1 (w.heap.size + 1) (.string x) (.string y) (.int .i64 a) (.int .i64 c) (.int .i64 d)).heap[w.heap.size + 1]? = some (.cells #[.string x, .string y, .int .i64 a, .int .i64 c, .int .i64 d] 31 (0, 0)) ∧ Kept P w (set5 w1 (w.heap.size + 1) (.string x) (.string y) (.int .i64 a) (.int .i64 c) (.int .i64 d))) :=
    ⟨set5_box hbox1 _ _ _ _ _, (HK.out.trans (k1.mono fun k hk => .inl hk)).trans (set5_kept (show ¬ P (w.heap.size + 1) from fun hp => by have := HP.out _ hp; omega) _ _ _ _ _)⟩
  have hlt1 := lt_of_block hbox1
  obtain ⟨⟨c0, c1, c2, c3, c4⟩, fr⟩ := set5_cells hbox1
  have f0 := fr 0
  have f1 := fr 1
  have f2 := fr 2
  have f3 := fr 3
  have f4 := fr 4
  clear hck k1 HB HK HP hw0 hbox1 fr
  unfold set5 at hfin
  go_wp2
  obtain ⟨hb5, hk5⟩ := hfin.out
  obtain ⟨⟨d0, d1, d2, d3, d4⟩, _⟩ := set5_cells hb5
  refine bodyPost_ret (v := .agg #[.string x, .string y, .int .i64 a, .int .i64 c, .int .i64 d]) ?_ rfl ⟨rfl, hk5⟩
  clear c0 c1 c2 c3 c4 hfin hb5 hk5 f0 f1 f2 f3 f4
  revert d0 d1 d2 d3 d4
  generalize World.setCell _ _ _ = W2
  intro d0 d1 d2 d3 d4
  simp [results, Tryd.results12, go_sem, d0, d1, d2, d3, d4]

end
end Go.Proofs.YtnanjomnldfidabDoor
