/-
  The law Runs.
-/
import Derived.Test.YtnanjomnldfidaaDoorRunSim
import Derived.Test.YtnanjomnldfidaaDoorDmTop
import Derived.Test.YtnanjomnldfidaaDoorChecks
import Derived.Test.YtnanjomnldfidaaDoorBoxArg
set_option linter.unusedSimpArgs false
set_option linter.unusedVariables false
set_option linter.unusedSectionVars false
namespace Go.Proofs.YtnanjomnldfidaaDoor
open Go.ChangeShapes Go.WideShapes Go.ChangeAt Go.RowKit
open Go.ChangeMaps (open_string shut_string)

/-- What a run answers, as cells. -/
def runCells (s : ByteArray) (b : BoxV) : Array Value :=
  if (readM s).1 ≠ 0 then errCells (readM s).1
  else if 256 < b.image.size ∨ 10000 < b.fuel then errCells 1
  else resCells (runW (toksFrom s 0) (runFuel (toksFrom s 0)) 0 (Ma.start b.inp b.image.toList b.kernel b.secret b.rights b.fuel)).2 (runW (toksFrom s 0) (runFuel (toksFrom s 0)) 0 (Ma.start b.inp b.image.toList b.kernel b.secret b.rights b.fuel)).1
theorem errCells_five (e : Int) : ∃ x y a b c, errCells e = #[.string x, .string y, .int .i64 a, .int .i64 b, .int .i64 c] := ⟨_, _, _, _, _, rfl⟩
theorem runCells_five (s : ByteArray) (b : BoxV) : ∃ x y a c d, runCells s b = #[.string x, .string y, .int .i64 a, .int .i64 c, .int .i64 d] := by
  unfold runCells
  split
  · exact errCells_five _
  · split
    · exact errCells_five _
    · exact ⟨_, _, _, _, _, rfl⟩

theorem start_inv (T : Words) (b : BoxV) (hi : b.image.size ≤ 256) (hin : b.inp.size ≤ maxLen) : RefInv T 0 (Ma.start b.inp b.image.toList b.kernel b.secret b.rights b.fuel) :=
  ⟨Ma.start_ok _ _ _ _ _ _ (by rw [toList_len]; exact hi) (by unfold maxLen at hin; omega), (fun h => by omega), (fun c hc => by simp [Ma.start] at hc)⟩

section
variable (s : ByteArray) (b : BoxV) (w : World) (P : Nat → Prop)
theorem run_any (hP : ∀ k, P k → k < w.heap.size) (hs : s.size ≤ maxLen) (hin : b.inp.size ≤ maxLen) (hsi : b.image.size ≤ maxLen) (hT : WordsAt w 2 listedL) (hPT : P 2) :
    Calls Tryd.prog 21 #[.string s, .string b.inp, .string b.image, .int .i64 b.kernel, .int .i64 b.secret, .int .i64 b.rights, .int .i64 b.fuel] w (RunPost P (runCells s b) w) := by
  unfold runCells
  by_cases h1 : (readM s).1 ≠ 0
  · rw [if_pos h1]; exact run_err s b.inp b.image b.kernel b.secret b.rights b.fuel w P hP hs hT hPT h1
  rw [if_neg h1]
  have h1' : (readM s).1 = 0 := by simpa using h1
  by_cases h2 : 256 < b.image.size ∨ 10000 < b.fuel
  · rw [if_pos h2]; exact run_long s b.inp b.image b.kernel b.secret b.rights b.fuel w P hP hs hsi hT hPT h1' h2
  rw [if_neg h2]
  obtain ⟨L, hl⟩ := laid_of_read s h1'
  have hi : b.image.size ≤ 256 := by omega
  have hinv := start_inv (toksFrom s 0) b hi hin
  have hlen : (readM s).2.2.steps.length ≤ 10000 := by
    rw [L.len]
    have : ∀ n, stepOf (toksFrom s 0) n ≤ n := by
      intro n
      induction n with
      | zero => exact Nat.le_refl _
      | succ n ih =>
        have : emits (toksFrom s 0) n ≤ 1 := by unfold emits; split; omega; split <;> omega
        show stepOf _ n + emits _ n ≤ n + 1
        omega
    have := this (toksFrom s 0).length
    have := toks_length s
    omega
  have hrun := run_ok s b.inp b.image b.kernel b.secret b.rights b.fuel w P hP hs hi (by omega) hT hPT h1' hlen (DevInv (toksFrom s 0)) (stepInv_dev L) ⟨0, _, hinv, rfl, rfl⟩ (measN (readM s).2.2.steps.length 0 0) (Nat.le_refl _)
  have hal := runs_alike L (runFuel (toksFrom s 0)) 0 _ hinv (Nat.le_refl _) (measN (readM s).2.2.steps.length 0 0) (Nat.le_refl _)
  have hal' : runS (readM s).2.2.steps (measN (readM s).2.2.steps.length 0 0) 0 (Ma.start b.inp b.image.toList b.kernel b.secret b.rights b.fuel) = _ := hal
  rw [hal'] at hrun
  exact hrun
theorem refRun_any (hP : ∀ k, P k → k < w.heap.size) (hs : s.size ≤ maxLen) (hin : b.inp.size ≤ maxLen) (hsi : b.image.size ≤ maxLen) (hF : WordsAt w 0 formsL) (hL : WordsAt w 1 listedL) (hPF : P 0) (hPL : P 1) :
    Calls Tryd.prog 22 #[.string s, .string b.inp, .string b.image, .int .i64 b.kernel, .int .i64 b.secret, .int .i64 b.rights, .int .i64 b.fuel] w (RunPost P (runCells s b) w) := by
  have heq : (readM s).1 = (refCheckM s).1 := by rw [← check_eq s]
  unfold runCells
  by_cases h1 : (readM s).1 ≠ 0
  · rw [if_pos h1, heq]
    rw [heq] at h1
    exact refRun_err s b.inp b.image b.kernel b.secret b.rights b.fuel w P hP hs hF hL hPF hPL h1
  rw [if_neg h1]
  have h1' : (readM s).1 = 0 := by simpa using h1
  by_cases h2 : 256 < b.image.size ∨ 10000 < b.fuel
  · rw [if_pos h2]; exact refRun_long s b.inp b.image b.kernel b.secret b.rights b.fuel w P hP hs hsi hF hL hPF hPL (by rw [← heq]; exact h1') h2
  rw [if_neg h2]
  obtain ⟨L, hl⟩ := laid_of_read s h1'
  have hi : b.image.size ≤ 256 := by omega
  exact refRun_ok s b.inp b.image b.kernel b.secret b.rights b.fuel w P hP hl hi (by omega) hF hL hPF hPL (by rw [← heq]; exact h1') (RefInv (toksFrom s 0)) (runInv_ref L) (start_inv (toksFrom s 0) b hi hin) _ (Nat.le_refl _)
end

section
variable {s : ByteArray} {b : BoxV} {w : World} {P : Nat → Prop}
set_option maxRecDepth 100000 in
set_option maxHeartbeats 1600000 in
/-- graderlaw's run. -/
theorem lawRun_any (hP : ∀ k, P k → k < w.heap.size) (hs : s.size ≤ maxLen) (hin : b.inp.size ≤ maxLen) (hsi : b.image.size ≤ maxLen) (hT : WordsAt w 2 listedL) (hPT : P 2) :
    Calls Tryd.prog 12 #[.string s, b.val] w (RunPost P (runCells s b) w) := by
  obtain ⟨w0, hw0⟩ : ∃ w0, w0 = (w.alloc (.cells #[.string b.inp, .string b.image, .int .i64 b.kernel, .int .i64 b.secret, .int .i64 b.rights, .int .i64 b.fuel] 30)).alloc (.cells #[.string ⟨#[]⟩, .string ⟨#[]⟩, .int .i64 0, .int .i64 0, .int .i64 0] 32) := ⟨_, rfl⟩
  have hk0 : Kept P w w0 := by rw [hw0]; exact ((Kept.refl P w).alloc _).alloc _
  have hbox : w0.heap[w.heap.size + 1]? = some (.cells #[.string ⟨#[]⟩, .string ⟨#[]⟩, .int .i64 0, .int .i64 0, .int .i64 0] 32 (0, 0)) := by
    rw [hw0]
    have e : (w.alloc (.cells #[.string b.inp, .string b.image, .int .i64 b.kernel, .int .i64 b.secret, .int .i64 b.rights, .int .i64 b.fuel] 30)).heap.size = w.heap.size + 1 := by simp
    rw [← e]; exact heap_alloc_new _ _
  have hsz0 : w0.heap.size = w.heap.size + 2 := by rw [hw0]; simp
  have hPb : ∀ k, P k ∨ k = w.heap.size + 1 → k < w0.heap.size := by
    intro k hk
    rcases hk with hk | hk
    · have := hP k hk; omega
    · omega
  have hck := hide (run_any s b w0 (fun k => P k ∨ k = w.heap.size + 1) hPb hs hin hsi (hT.kept hk0 (hP _ hPT) hPT) (.inl hPT))
  obtain ⟨x, y, a, c, d, h5⟩ := runCells_five s b
  rw [h5] at hck ⊢
  have HP := hide hP
  have HK := hide hk0
  have HB := hide hbox
  clear hP hk0 hbox hPb h5 hT
  unfold BoxV.val
  unfold RunPost at hck
  go_enter Tryd.func12, Tryd.ntmps12
  go_wp2_with fail
  rw [show (w.alloc (.cells #[.string b.inp, .string b.image, .int .i64 b.kernel, .int .i64 b.secret, .int .i64 b.rights, .int .i64 b.fuel] 30)).alloc (.cells #[.string ⟨#[]⟩, .string ⟨#[]⟩, .int .i64 0, .int .i64 0, .int .i64 0] 32) = w0 from hw0.symm]
  refine (unhide hck).mono ?_
  rintro e w1 ⟨rfl, k1⟩
  have hbox1 := k1.at' HB.out (.inr rfl)
  have hfin : Hid ((set5 w1 (w.heap.size + 1) (.string x) (.string y) (.int .i64 a) (.int .i64 c) (.int .i64 d)).heap[w.heap.size + 1]? = some (.cells #[.string x, .string y, .int .i64 a, .int .i64 c, .int .i64 d] 32 (0, 0)) ∧ Kept P w (set5 w1 (w.heap.size + 1) (.string x) (.string y) (.int .i64 a) (.int .i64 c) (.int .i64 d))) :=
    ⟨set5_box hbox1 _ _ _ _ _, (HK.out.trans (k1.mono fun k hk => .inl hk)).trans (set5_kept (show ¬ P (w.heap.size + 1) from fun hp => by have := HP.out _ hp; omega) _ _ _ _ _)⟩
  have hlt1 := lt_of_block hbox1
  obtain ⟨⟨c0, c1, c2, c3, c4⟩, fr⟩ := set5_cells hbox1
  have f0 := fr 0
  have f1 := fr 1
  have f2 := fr 2
  have f3 := fr 3
  have f4 := fr 4
  clear hck k1 HB HK HP hw0 hbox1 fr
  unfold set5 at hfin
  go_wp2
  obtain ⟨hb5, hk5⟩ := hfin.out
  obtain ⟨⟨d0, d1, d2, d3, d4⟩, _⟩ := set5_cells hb5
  refine bodyPost_ret (v := .agg #[.string x, .string y, .int .i64 a, .int .i64 c, .int .i64 d]) ?_ rfl ⟨rfl, hk5⟩
  clear c0 c1 c2 c3 c4 hfin hb5 hk5 f0 f1 f2 f3 f4
  revert d0 d1 d2 d3 d4
  generalize World.setCell _ _ _ = W2
  intro d0 d1 d2 d3 d4
  simp [results, Tryd.results12, go_sem, d0, d1, d2, d3, d4]

set_option maxRecDepth 100000 in
set_option maxHeartbeats 1600000 in
/-- graderlaw's refRun. -/
theorem lawRefRun_any (hP : ∀ k, P k → k < w.heap.size) (hs : s.size ≤ maxLen) (hin : b.inp.size ≤ maxLen) (hsi : b.image.size ≤ maxLen) (hF : WordsAt w 0 formsL) (hL : WordsAt w 1 listedL) (hPF : P 0) (hPL : P 1) :
    Calls Tryd.prog 13 #[.string s, b.val] w (RunPost P (runCells s b) w) := by
  obtain ⟨w0, hw0⟩ : ∃ w0, w0 = (w.alloc (.cells #[.string b.inp, .string b.image, .int .i64 b.kernel, .int .i64 b.secret, .int .i64 b.rights, .int .i64 b.fuel] 30)).alloc (.cells #[.string ⟨#[]⟩, .string ⟨#[]⟩, .int .i64 0, .int .i64 0, .int .i64 0] 35) := ⟨_, rfl⟩
  have hk0 : Kept P w w0 := by rw [hw0]; exact ((Kept.refl P w).alloc _).alloc _
  have hbox : w0.heap[w.heap.size + 1]? = some (.cells #[.string ⟨#[]⟩, .string ⟨#[]⟩, .int .i64 0, .int .i64 0, .int .i64 0] 35 (0, 0)) := by
    rw [hw0]
    have e : (w.alloc (.cells #[.string b.inp, .string b.image, .int .i64 b.kernel, .int .i64 b.secret, .int .i64 b.rights, .int .i64 b.fuel] 30)).heap.size = w.heap.size + 1 := by simp
    rw [← e]; exact heap_alloc_new _ _
  have hsz0 : w0.heap.size = w.heap.size + 2 := by rw [hw0]; simp
  have hPb : ∀ k, P k ∨ k = w.heap.size + 1 → k < w0.heap.size := by
    intro k hk
    rcases hk with hk | hk
    · have := hP k hk; omega
    · omega
  have hck := hide (refRun_any s b w0 (fun k => P k ∨ k = w.heap.size + 1) hPb hs hin hsi (hF.kept hk0 (hP _ hPF) hPF) (hL.kept hk0 (hP _ hPL) hPL) (.inl hPF) (.inl hPL))
  obtain ⟨x, y, a, c, d, h5⟩ := runCells_five s b
  rw [h5] at hck ⊢
  have HP := hide hP
  have HK := hide hk0
  have HB := hide hbox
  clear hP hk0 hbox hPb h5 hF hL
  unfold BoxV.val
  unfold RunPost at hck
  go_enter Tryd.func13, Tryd.ntmps13
  go_wp2_with fail
  rw [show (w.alloc (.cells #[.string b.inp, .string b.image, .int .i64 b.kernel, .int .i64 b.secret, .int .i64 b.rights, .int .i64 b.fuel] 30)).alloc (.cells #[.string ⟨#[]⟩, .string ⟨#[]⟩, .int .i64 0, .int .i64 0, .int .i64 0] 35) = w0 from hw0.symm]
  refine (unhide hck).mono ?_
  rintro e w1 ⟨rfl, k1⟩
  have hbox1 := k1.at' HB.out (.inr rfl)
  have hfin : Hid ((set5 w1 (w.heap.size + 1) (.string x) (.string y) (.int .i64 a) (.int .i64 c) (.int .i64 d)).heap[w.heap.size + 1]? = some (.cells #[.string x, .string y, .int .i64 a, .int .i64 c, .int .i64 d] 35 (0, 0)) ∧ Kept P w (set5 w1 (w.heap.size + 1) (.string x) (.string y) (.int .i64 a) (.int .i64 c) (.int .i64 d))) :=
    ⟨set5_box hbox1 _ _ _ _ _, (HK.out.trans (k1.mono fun k hk => .inl hk)).trans (set5_kept (show ¬ P (w.heap.size + 1) from fun hp => by have := HP.out _ hp; omega) _ _ _ _ _)⟩
  have hlt1 := lt_of_block hbox1
  obtain ⟨⟨c0, c1, c2, c3, c4⟩, fr⟩ := set5_cells hbox1
  have f0 := fr 0
  have f1 := fr 1
  have f2 := fr 2
  have f3 := fr 3
  have f4 := fr 4
  clear hck k1 HB HK HP hw0 hbox1 fr
  unfold set5 at hfin
  go_wp2
  obtain ⟨hb5, hk5⟩ := hfin.out
  obtain ⟨⟨d0, d1, d2, d3, d4⟩, _⟩ := set5_cells hb5
  refine bodyPost_ret (v := .agg #[.string x, .string y, .int .i64 a, .int .i64 c, .int .i64 d]) ?_ rfl ⟨rfl, hk5⟩
  clear c0 c1 c2 c3 c4 hfin hb5 hk5 f0 f1 f2 f3 f4
  revert d0 d1 d2 d3 d4
  generalize World.setCell _ _ _ = W2
  intro d0 d1 d2 d3 d4
  simp [results, Tryd.results13, go_sem, d0, d1, d2, d3, d4]

set_option maxRecDepth 100000 in
set_option maxHeartbeats 3200000 in
/-- graderlaw's as, of two results that are the same. -/
theorem as_same (x y : ByteArray) (a c d : Int) (w : World) (P : Nat → Prop) :
    Calls Tryd.prog 14 #[.agg #[.string x, .string y, .int .i64 a, .int .i64 c, .int .i64 d], .agg #[.string x, .string y, .int .i64 a, .int .i64 c, .int .i64 d]] w fun e w' => e = .returned (.bool true) ∧ Kept P w w' := by
  have q1 : (x.toList == x.toList) = true := by simp
  have q2 : (y.toList == y.toList) = true := by simp
  have q3 : (a == a) = true := by simp
  have q4 : (c == c) = true := by simp
  have q5 : (d == d) = true := by simp
  have hnum := hide (fun w' => num_any d w')
  obtain ⟨w0, hw0⟩ : ∃ w0, w0 = (w.alloc (.cells #[.string x, .string y, .int .i64 a, .int .i64 c, .int .i64 d] 32)).alloc (.cells #[.string x, .string y, .int .i64 a, .int .i64 c, .int .i64 d] 35) := ⟨_, rfl⟩
  have hk0 : Kept P w w0 := by rw [hw0]; exact ((Kept.refl P w).alloc _).alloc _
  have hsz0 : w0.heap.size = w.heap.size + 2 := by rw [hw0]; simp
  have b1 : w0.heap[w.heap.size]? = some (.cells #[.string x, .string y, .int .i64 a, .int .i64 c, .int .i64 d] 32 (0, 0)) := by
    rw [hw0]; exact alloc_block (heap_alloc_new w _)
  have b2 : w0.heap[w.heap.size + 1]? = some (.cells #[.string x, .string y, .int .i64 a, .int .i64 c, .int .i64 d] 35 (0, 0)) := by
    rw [hw0]
    have e : (w.alloc (.cells #[.string x, .string y, .int .i64 a, .int .i64 c, .int .i64 d] 32)).heap.size = w.heap.size + 1 := by simp
    rw [← e]; exact heap_alloc_new _ _
  obtain ⟨⟨c0, c1, c2, c3, c4⟩, _⟩ := set5_cells b1
  obtain ⟨⟨d0, d1, d2, d3, d4⟩, _⟩ := set5_cells b2
  have l1 := lt_of_block b1
  have l2 := lt_of_block b2
  have HW := hide hw0
  clear b1 b2 hw0
  go_enter Tryd.func14, Tryd.ntmps14
  go_wp2
  rw [show (w.alloc (.cells #[.string x, .string y, .int .i64 a, .int .i64 c, .int .i64 d] 32)).alloc (.cells #[.string x, .string y, .int .i64 a, .int .i64 c, .int .i64 d] 35) = w0 from HW.out.symm]
  clear HW
  go_quiet (first | (go_at_call 11; refine Calls.quiet_of_same ((unhide hnum) _)))
  go_wp2
  go_ret
  exact ⟨rfl, hk0.trans (Kept.drewN _ _ _)⟩

set_option maxRecDepth 100000 in
set_option maxHeartbeats 1600000 in
theorem runs_walk (s : ByteArray) (b : BoxV) (w : World) (hs : s.size ≤ maxLen) (hin : b.inp.size ≤ maxLen) (hsi : b.image.size ≤ maxLen) (hT : WordsAt w 2 listedL) (hL : WordsAt w 1 listedL) (hF : WordsAt w 0 formsL) :
    Calls Tryd.prog 5 #[.string s, b.val] w fun e w' => e = .returned (.bool true) ∧ Below w.heap.size w w' := by
  have l1 := words_lt hT (by decide)
  have l2 := words_lt hL (by decide)
  have l3 := words_lt hF (by decide)
  have HR := hide (fun w1 (hk : Kept (fun k => k < w.heap.size) w w1) (Q : Nat → Prop) (hq : ∀ k, Q k → k < w1.heap.size) (hqq : Q 2) => lawRun_any (s := s) (b := b) (w := w1) (P := Q) hq hs hin hsi (hT.kept hk l1 l1) hqq)
  have HF := hide (fun w1 (hk : Kept (fun k => k < w.heap.size) w w1) (Q : Nat → Prop) (hq : ∀ k, Q k → k < w1.heap.size) (h1 : Q 0) (h2 : Q 1) => lawRefRun_any (s := s) (b := b) (w := w1) (P := Q) hq hs hin hsi (hF.kept hk l3 l3) (hL.kept hk l2 l2) h1 h2)
  obtain ⟨x, y, a, c, d, h5⟩ := runCells_five s b
  rw [h5] at HR HF
  unfold RunPost at HR HF
  clear hT hL hF h5
  have HA := hide (fun w' => as_same x y a c d w' (fun k => k < w.heap.size))
  have hbs : b.val = .agg #[.string b.inp, .string b.image, .int .i64 b.kernel, .int .i64 b.secret, .int .i64 b.rights, .int .i64 b.fuel] := rfl
  rw [hbs] at HR HF ⊢
  generalize b.inp = bi at *
  generalize b.image = bm at *
  generalize b.kernel = bk at *
  generalize b.secret = bs at *
  generalize b.rights = br at *
  generalize b.fuel = bf at *
  obtain ⟨w0, hw0⟩ : ∃ w0, w0 = w.alloc (.cells #[.string bi, .string bm, .int .i64 bk, .int .i64 bs, .int .i64 br, .int .i64 bf] 30) := ⟨_, rfl⟩
  have hk0 : Kept (fun k => k < w.heap.size) w w0 := by rw [hw0]; exact (Kept.refl _ w).alloc _
  have hb0 : w0.heap[w.heap.size]? = some (.cells #[.string bi, .string bm, .int .i64 bk, .int .i64 bs, .int .i64 br, .int .i64 bf] 30 (0, 0)) := by rw [hw0]; exact heap_alloc_new w _
  have hs0 : w0.heap.size = w.heap.size + 1 := by rw [hw0]; simp
  have hc1 := hide ((unhide HR) w0 hk0 (fun k => k < w0.heap.size) (fun k hk => hk) (by show _ < w0.heap.size; omega))
  have HK0 := hide hk0
  have HB0 := hide hb0
  have HW := hide hw0
  clear HR hk0 hb0 hw0 hbs
  go_enter Tryd.func5, Tryd.ntmps5
  go_wp2_with fail
  rw [show w.alloc (.cells #[.string bi, .string bm, .int .i64 bk, .int .i64 bs, .int .i64 br, .int .i64 bf] 30) = w0 from HW.out.symm]
  refine (unhide hc1).mono ?_
  rintro e w1 ⟨rfl, k1⟩
  obtain ⟨w2, hw2⟩ : ∃ w2, w2 = w1.alloc (.cells #[.string x, .string y, .int .i64 a, .int .i64 c, .int .i64 d] 32) := ⟨_, rfl⟩
  have hb1 := k1.at' HB0.out (by show _ < w0.heap.size; omega)
  have hlt1 := lt_of_block hb1
  have e0 : w1.cell? ⟨w.heap.size, 0, none⟩ = some (.string bi) := cell_of_block hb1 0 _ rfl
  have e1 : w1.cell? ⟨w.heap.size, 1, none⟩ = some (.string bm) := cell_of_block hb1 1 _ rfl
  have e2 : w1.cell? ⟨w.heap.size, 2, none⟩ = some (.int .i64 bk) := cell_of_block hb1 2 _ rfl
  have e3 : w1.cell? ⟨w.heap.size, 3, none⟩ = some (.int .i64 bs) := cell_of_block hb1 3 _ rfl
  have e4 : w1.cell? ⟨w.heap.size, 4, none⟩ = some (.int .i64 br) := cell_of_block hb1 4 _ rfl
  have e5 : w1.cell? ⟨w.heap.size, 5, none⟩ = some (.int .i64 bf) := cell_of_block hb1 5 _ rfl
  have kk1 : Kept (fun k => k < w.heap.size) w w1 := HK0.out.trans (k1.mono fun k hk => by show k < w0.heap.size; omega)
  have kk2 : Kept (fun k => k < w.heap.size) w w2 := by rw [hw2]; exact kk1.alloc _
  have hs2 : w2.heap.size = w1.heap.size + 1 := by rw [hw2]; simp
  have hc2 := hide ((unhide HF) w2 kk2 (fun k => k < w2.heap.size) (fun k hk => hk) (by have := kk2.size; show _ < w2.heap.size; omega) (by have := kk2.size; show _ < w2.heap.size; omega))
  have hb2 : w2.heap[w1.heap.size]? = some (.cells #[.string x, .string y, .int .i64 a, .int .i64 c, .int .i64 d] 32 (0, 0)) := by rw [hw2]; exact heap_alloc_new w1 _
  have HB2 := hide hb2
  have HW2 := hide hw2
  clear hc1 k1 HB0 HK0 HW hb1 kk1 hb2 hw2
  go_wp2_with fail
  rw [show w1.alloc (.cells #[.string x, .string y, .int .i64 a, .int .i64 c, .int .i64 d] 32) = w2 from HW2.out.symm]
  refine (unhide hc2).mono ?_
  rintro e w3 ⟨rfl, k3⟩
  have hb3 := k3.at' HB2.out (by show _ < w2.heap.size; omega)
  have hlt3 := lt_of_block hb3
  obtain ⟨⟨g0, g1, g2, g3, g4⟩, _⟩ := set5_cells hb3
  have kk3 : Kept (fun k => k < w.heap.size) w w3 := kk2.trans (k3.mono fun k hk => by have := kk2.size; show k < w2.heap.size; omega)
  obtain ⟨w4, hw4⟩ : ∃ w4, w4 = w3.alloc (.cells #[.string x, .string y, .int .i64 a, .int .i64 c, .int .i64 d] 35) := ⟨_, rfl⟩
  have kk4 : Kept (fun k => k < w.heap.size) w w4 := by rw [hw4]; exact kk3.alloc _
  have HW4 := hide hw4
  clear hc2 k3 HB2 HW2 hb3 hw4 kk3 kk2
  go_wp2_with fail
  rw [show w3.alloc (.cells #[.string x, .string y, .int .i64 a, .int .i64 c, .int .i64 d] 35) = w4 from HW4.out.symm]
  refine ((unhide HA) w4).mono ?_
  rintro e w5 ⟨rfl, k5⟩
  have hb := (kk4.trans k5).below (Nat.le_refl _)
  clear kk4 k5 HW4
  go_wp2
  go_ret
  exact ⟨rfl, hb⟩

set_option maxRecDepth 100000 in
/-- What the walk gives, for every argument and every world that holds the tables. -/
theorem runs_contract (H : Type) (enc : TypeId × Value → H) (W : World) (base : Nat) (args : Array Value) (ds gs : List (DataW H)) (before : List MemPlace)
    (hval : ∀ (j : Nat) t v, Tryd.f5.params[j]? = some t → args[j]? = some v → Value.okWide Tryd.prog W .any base t v)
    (hW : DataW.Whole enc Tryd.prog Tryd.f5.params.toList Rows.runsSpec.vars false W args.toList ds gs before) (hL : laidMetH Tryd.prog Rows.runsRow.laid W) :
    Calls Tryd.prog 5 args W fun e W' => ∃ v, e = .returned v ∧ Rows.runsSpec.post enc Tryd.prog Tryd.f5 false true false false W args v W' := by
  have hW' := hW
  obtain ⟨p, q, hA0, hV, rfl, hfz, hnd⟩ := hW
  have hA : DataW.TrodAll enc Tryd.prog W 0 (fun _ => true) true Tryd.f5.params.toList args.toList ds p := hA0
  rw [Tryd.params5] at hA hval
  obtain ⟨v0, vs0, d0, ds0, p0, q0, hargs, rfl, rfl, h0, r0⟩ := trodAll_cons hA
  obtain ⟨v1, vs1, d1, ds1, p1, q1, hargs1, rfl, rfl, h1, r1⟩ := trodAll_cons r0
  obtain ⟨rfl, rfl, rfl⟩ := trodAll_nil r1
  obtain rfl : args = #[v0, v1] := by cases args; simp_all
  obtain ⟨rfl, rfl⟩ := trodVars_none hV
  obtain ⟨s, rfl, rfl, rfl, hs⟩ := open_string Tryd.underlying9 (hval 0 9 v0 rfl rfl) h0
  obtain ⟨b, rfl, rfl, rfl, hb⟩ := open_box (hval 1 30 v1 rfl rfl) h1
  clear hA0
  simp only [List.append_nil] at hW'
  obtain ⟨t1, t2, t3⟩ := tables hL
  refine (runs_walk s b W hs hb.inp hb.image t1 t2 t3).mono fun e W' ⟨he, hg⟩ => ?_
  subst he
  refine ⟨_, rfl, _, _, _, [], [], [], hW', ?_, ?_, rfl, hg.frame _, fun h => by cases h⟩
  · exact trodAll_cons_mk (shut_bool Tryd.underlying4 _) trodAll_mk0
  · exact trodAll_cons_mk (shut_string Tryd.underlying9 hs) (trodAll_cons_mk (shut_box b hb) trodAll_mk0)
end
end Go.Proofs.YtnanjomnldfidaaDoor
