/-
  Package grader: Exec; graderlaw's exec.
-/
import Derived.Test.YtnanjomnldfidabDcExec
import Derived.Test.YtnanjomnldfidabBoxArg
set_option linter.unusedSimpArgs false
set_option linter.unusedVariables false
set_option linter.unusedSectionVars false
namespace Go.Proofs.Ytnanjomnldfidab
open Go.ChangeShapes Go.WideShapes Go.ChangeAt Go.RowKit

/-- What a run of code comes to; what Exec answers, as cells. -/
def startM (b : BoxV) : Ma := Ma.start b.inp b.image.toList b.kernel b.secret b.rights b.fuel
def execR (s : ByteArray) (b : BoxV) : Int × Ma := execC s.toList 10002 0 (startM b)
def execCells (s : ByteArray) (b : BoxV) : Array Value :=
  if 1024 < s.size ∨ 256 < b.image.size ∨ 10000 < b.fuel then errCells 1 else resCells (execR s b).2 (execR s b).1
theorem execCells_five (s : ByteArray) (b : BoxV) : ∃ x y a c d, execCells s b = #[.string x, .string y, .int .i64 a, .int .i64 c, .int .i64 d] := by
  unfold execCells
  split
  · exact ⟨_, _, _, _, _, rfl⟩
  · exact ⟨_, _, _, _, _, rfl⟩
theorem start_fine (b : BoxV) (hi : b.image.size ≤ 256) (hin : b.inp.size ≤ maxLen) : Fine (startM b) ∧ ((startM b).fuel - (startM b).used).toNat < 10002 := by
  have h1 : (startM b).Ok := Ma.start_ok _ _ _ _ _ _ (by rw [toList_len]; exact hi) (by unfold maxLen at hin; omega)
  have h3 := clampN_bd b.fuel 10000 (by omega)
  have hf : (startM b).fuel = clampN b.fuel 10000 := rfl
  have hu : (startM b).used = 0 := rfl
  exact ⟨⟨h1, by rw [hf, hu]; exact h3.1⟩, by rw [hf, hu]; omega⟩

section
variable (s : ByteArray) (b : BoxV) (w : World) (P : Nat → Prop)
set_option maxRecDepth 100000 in
set_option maxHeartbeats 3200000 in
theorem exec_long (hP : ∀ k, P k → k < w.heap.size) (hs : s.size ≤ maxLen) (hsi : b.image.size ≤ maxLen) (hlim : 1024 < s.size ∨ 256 < b.image.size ∨ 10000 < b.fuel) :
    Calls Try.prog 7 #[.string s, .string b.inp, .string b.image, .int .i64 b.kernel, .int .i64 b.secret, .int .i64 b.rights, .int .i64 b.fuel] w (RunPost P (errCells 1) w) := by
  have hlim' : 1024 < s.size ∨ (¬ 1024 < s.size ∧ 256 < b.image.size) ∨ (¬ 1024 < s.size ∧ ¬ 256 < b.image.size ∧ 10000 < b.fuel) := by omega
  have hk : Kept P w (w.alloc (.cells #[.string ⟨#[]⟩, .string ⟨#[]⟩, .int .i64 0, .int .i64 0, .int .i64 1] 27)) := (Kept.refl P w).alloc _
  unfold maxLen at hs hsi
  generalize b.inp = bi at *
  generalize b.image = bm at *
  generalize b.kernel = bk at *
  generalize b.secret = bs at *
  generalize b.rights = br at *
  generalize b.fuel = bf at *
  clear hlim hP
  rcases hlim' with q1 | ⟨q1, q2⟩ | ⟨q1, q2, q3⟩
  all_goals
    go_enter Try.func7, Try.ntmps7
    go_wp2
    exact bodyPost_ret (v := .agg (errCells 1)) (by simp [results, Try.results7, go_sem, errCells]) rfl ⟨rfl, hk⟩

set_option maxRecDepth 100000 in
set_option maxHeartbeats 6400000 in
theorem exec_ok (hP : ∀ k, P k → k < w.heap.size) (hs : s.size ≤ 1024) (hin : b.inp.size ≤ maxLen) (hsi : b.image.size ≤ 256) (hfu : b.fuel ≤ 10000) :
    Calls Try.prog 7 #[.string s, .string b.inp, .string b.image, .int .i64 b.kernel, .int .i64 b.secret, .int .i64 b.rights, .int .i64 b.fuel] w (RunPost P (resCells (execR s b).2 (execR s b).1) w) := by
  obtain ⟨hf0, hN0⟩ := start_fine b hsi hin
  obtain ⟨w0, hw0⟩ : ∃ w0, w0 = w.alloc (.cells #[.string ⟨#[]⟩, .string ⟨#[]⟩, .int .i64 0, .int .i64 0, .int .i64 0] 27) := ⟨_, rfl⟩
  have hk0 : Kept P w w0 := by rw [hw0]; exact (Kept.refl P w).alloc _
  have hbox : w0.heap[w.heap.size]? = some (.cells #[.string ⟨#[]⟩, .string ⟨#[]⟩, .int .i64 0, .int .i64 0, .int .i64 0] 27 (0, 0)) := by rw [hw0]; exact heap_alloc_new w _
  have hsz0 : w0.heap.size = w.heap.size + 1 := by rw [hw0]; simp
  obtain ⟨P1, hP1⟩ : ∃ P1 : Nat → Prop, P1 = fun k => P k ∨ k = w.heap.size := ⟨_, rfl⟩
  have hP1b : ∀ k, P1 k → k < w0.heap.size := by
    intro k hk
    rw [hP1] at hk
    rcases hk with hk | hk
    · have := hP k hk; omega
    · omega
  have hP1i : Hid (∀ k, P k → P1 k) := by intro k hk; rw [hP1]; exact .inl hk
  have hP1r : Hid (P1 w.heap.size) := by unfold Hid; rw [hP1]; exact .inr rfl
  have HNm := hide (newMachine_any b.inp b.image b.kernel b.secret b.rights b.fuel w0 P1 hP1b hsi)
  have hRun := hide (fun w' g (hm : DmIs w' P1 g (startM b)) => runCode_any hm s hs hf0 10002 hN0)
  unfold DPost at hRun
  have hM0 : Ma.start b.inp b.image.toList b.kernel b.secret b.rights b.fuel = startM b := rfl
  rw [hM0] at HNm
  have hR0 : execC s.toList 10002 0 (startM b) = execR s b := rfl
  rw [hR0] at hRun
  generalize execR s b = R at *
  generalize startM b = M0 at *
  have hi2 : ((b.image.size : Int) ≤ 256) := by omega
  have hs2 : ((s.size : Int) ≤ 1024) := by omega
  have HP := hide hP
  have HK := hide hk0
  have HB := hide hbox
  have HW := hide hw0
  clear hP hk0 hbox hP1 hP1b hM0 hR0 hf0 hN0 hw0
  generalize b.inp = bi at *
  generalize b.image = bm at *
  generalize b.kernel = bk at *
  generalize b.secret = bs at *
  generalize b.rights = br at *
  generalize b.fuel = bf at *
  go_enter Try.func7, Try.ntmps7
  go_wp2_with fail
  rw [show w.alloc (.cells #[.string ⟨#[]⟩, .string ⟨#[]⟩, .int .i64 0, .int .i64 0, .int .i64 0] 27) = w0 from HW.out.symm]
  refine (unhide HNm).mono ?_
  rintro e w2 ⟨g, rfl, m2, k2⟩
  have hrs := hide ((unhide hRun) w2 g m2)
  have K2 := hide k2
  clear m2 k2 HNm hRun HW
  go_wp2_with fail
  refine (unhide hrs).mono ?_
  rintro e w3 ⟨rfl, m3, k3⟩
  have K3 := hide k3
  have hrt := hide (result_any m3 R.1)
  clear m3 k3 hrs
  unfold resCells at hrt
  go_wp2_with fail
  refine (unhide hrt).mono ?_
  rintro e w4 ⟨rfl, k4⟩
  have hkk : Kept P1 w0 w4 := (K2.out.trans K3.out).trans k4
  have hb6 := hkk.at' HB.out hP1r.out
  have hlt6 := lt_of_block hb6
  have hfin : Hid ((set5 w4 w.heap.size (.string (mkB R.2.out)) (.string (mkB R.2.image)) (.int .i64 R.2.mark) (.int .i64 R.2.used) (.int .i64 R.1)).heap[w.heap.size]? = some (.cells #[.string (mkB R.2.out), .string (mkB R.2.image), .int .i64 R.2.mark, .int .i64 R.2.used, .int .i64 R.1] 27 (0, 0)) ∧ Kept P w (set5 w4 w.heap.size (.string (mkB R.2.out)) (.string (mkB R.2.image)) (.int .i64 R.2.mark) (.int .i64 R.2.used) (.int .i64 R.1))) :=
    ⟨set5_box hb6 _ _ _ _ _, (HK.out.trans (hkk.mono hP1i.out)).trans (set5_kept (show ¬ P w.heap.size from fun hp => by have := HP.out _ hp; omega) _ _ _ _ _)⟩
  obtain ⟨⟨c0, c1, c2, c3, c4⟩, fr⟩ := set5_cells hb6
  have f0 := fr 0
  have f1 := fr 1
  have f2 := fr 2
  have f3 := fr 3
  have f4 := fr 4
  clear hrt hb6 hkk fr k4 K2 K3
  unfold set5 at hfin
  go_wp2
  obtain ⟨hb5, hk5⟩ := hfin.out
  obtain ⟨⟨d0, d1, d2, d3, d4⟩, _⟩ := set5_cells hb5
  refine bodyPost_ret (v := .agg (resCells R.2 R.1)) ?_ rfl ⟨rfl, hk5⟩
  clear c0 c1 c2 c3 c4 hfin hb5 hk5 f0 f1 f2 f3 f4
  revert d0 d1 d2 d3 d4
  generalize World.setCell _ _ _ = W2
  intro d0 d1 d2 d3 d4
  simp [results, Try.results7, go_sem, d0, d1, d2, d3, d4, resCells]
theorem exec_any (hP : ∀ k, P k → k < w.heap.size) (hs : s.size ≤ maxLen) (hin : b.inp.size ≤ maxLen) (hsi : b.image.size ≤ maxLen) :
    Calls Try.prog 7 #[.string s, .string b.inp, .string b.image, .int .i64 b.kernel, .int .i64 b.secret, .int .i64 b.rights, .int .i64 b.fuel] w (RunPost P (execCells s b) w) := by
  unfold execCells
  by_cases h : 1024 < s.size ∨ 256 < b.image.size ∨ 10000 < b.fuel
  · rw [if_pos h]; exact exec_long s b w P hP hs hsi h
  · rw [if_neg h]; exact exec_ok s b w P hP (by omega) hin (by omega) (by omega)
end

section
variable {s : ByteArray} {b : BoxV} {w : World} {P : Nat → Prop}
set_option maxRecDepth 100000 in
set_option maxHeartbeats 1600000 in
/-- graderlaw's exec. -/
theorem lawExec_any (hP : ∀ k, P k → k < w.heap.size) (hs : s.size ≤ maxLen) (hin : b.inp.size ≤ maxLen) (hsi : b.image.size ≤ maxLen) :
    Calls Try.prog 5 #[.string s, b.val] w (RunPost P (execCells s b) w) := by
  obtain ⟨w0, hw0⟩ : ∃ w0, w0 = (w.alloc (.cells #[.string b.inp, .string b.image, .int .i64 b.kernel, .int .i64 b.secret, .int .i64 b.rights, .int .i64 b.fuel] 23)).alloc (.cells #[.string ⟨#[]⟩, .string ⟨#[]⟩, .int .i64 0, .int .i64 0, .int .i64 0] 27) := ⟨_, rfl⟩
  have hk0 : Kept P w w0 := by rw [hw0]; exact ((Kept.refl P w).alloc _).alloc _
  have hbox : w0.heap[w.heap.size + 1]? = some (.cells #[.string ⟨#[]⟩, .string ⟨#[]⟩, .int .i64 0, .int .i64 0, .int .i64 0] 27 (0, 0)) := by
    rw [hw0]
    have e : (w.alloc (.cells #[.string b.inp, .string b.image, .int .i64 b.kernel, .int .i64 b.secret, .int .i64 b.rights, .int .i64 b.fuel] 23)).heap.size = w.heap.size + 1 := by simp
    rw [← e]; exact heap_alloc_new _ _
  have hsz0 : w0.heap.size = w.heap.size + 2 := by rw [hw0]; simp
  have hPb : ∀ k, P k ∨ k = w.heap.size + 1 → k < w0.heap.size := by
    intro k hk
    rcases hk with hk | hk
    · have := hP k hk; omega
    · omega
  have hck := hide (exec_any s b w0 (fun k => P k ∨ k = w.heap.size + 1) hPb hs hin hsi)
  obtain ⟨x, y, a, c, d, h5⟩ := execCells_five s b
  rw [h5] at hck ⊢
  have HP := hide hP
  have HK := hide hk0
  have HB := hide hbox
  clear hP hk0 hbox hPb h5
  unfold BoxV.val
  unfold RunPost at hck
  go_enter Try.func5, Try.ntmps5
  go_wp2_with fail
  rw [show (w.alloc (.cells #[.string b.inp, .string b.image, .int .i64 b.kernel, .int .i64 b.secret, .int .i64 b.rights, .int .i64 b.fuel] 23)).alloc (.cells #[.string ⟨#[]⟩, .string ⟨#[]⟩, .int .i64 0, .int .i64 0, .int .i64 0] 27) = w0 from hw0.symm]
  refine (unhide hck).mono ?_
  rintro e w1 ⟨rfl, k1⟩
  have hbox1 := k1.at' HB.out (.inr rfl)
  have hfin : Hid ((set5 w1 (w.heap.size + 1) (.string x) (.string y) (.int .i64 a) (.int .i64 c) (.int .i64 d)).heap[w.heap.size + 1]? = some (.cells #[.string x, .string y, .int .i64 a, .int .i64 c, .int .i64 d] 27 (0, 0)) ∧ Kept P w (set5 w1 (w.heap.size + 1) (.string x) (.string y) (.int .i64 a) (.int .i64 c) (.int .i64 d))) :=
    ⟨set5_box hbox1 _ _ _ _ _, (HK.out.trans (k1.mono fun k hk => .inl hk)).trans (set5_kept (show ¬ P (w.heap.size + 1) from fun hp => by have := HP.out _ hp; omega) _ _ _ _ _)⟩
  have hlt1 := lt_of_block hbox1
  obtain ⟨⟨c0, c1, c2, c3, c4⟩, fr⟩ := set5_cells hbox1
  have f0 := fr 0
  have f1 := fr 1
  have f2 := fr 2
  have f3 := fr 3
  have f4 := fr 4
  clear hck k1 HB HK HP hw0 hbox1 fr
  unfold set5 at hfin
  go_wp2
  obtain ⟨hb5, hk5⟩ := hfin.out
  obtain ⟨⟨d0, d1, d2, d3, d4⟩, _⟩ := set5_cells hb5
  refine bodyPost_ret (v := .agg #[.string x, .string y, .int .i64 a, .int .i64 c, .int .i64 d]) ?_ rfl ⟨rfl, hk5⟩
  clear c0 c1 c2 c3 c4 hfin hb5 hk5 f0 f1 f2 f3 f4
  revert d0 d1 d2 d3 d4
  generalize World.setCell _ _ _ = W2
  intro d0 d1 d2 d3 d4
  simp [results, Try.results5, go_sem, d0, d1, d2, d3, d4]
end
end Go.Proofs.Ytnanjomnldfidab
