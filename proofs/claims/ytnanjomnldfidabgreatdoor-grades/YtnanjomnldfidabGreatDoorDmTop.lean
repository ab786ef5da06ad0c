/-
  Package grader: Run.
-/
import Derived.Test.YtnanjomnldfidabGreatDoorDmRun
import Derived.Test.YtnanjomnldfidabGreatDoorDmNew
import Derived.Test.YtnanjomnldfidabGreatDoorRmWordToRmRun2
import Derived.Test.YtnanjomnldfidabGreatDoorRdWordsToReadProg
import Derived.BigRegion
set_option linter.unusedSimpArgs false
set_option linter.unusedVariables false
set_option linter.unusedSectionVars false
namespace Go.Proofs.YtnanjomnldfidabGreatDoor
open Go.RowKit

section
variable (s inp image : ByteArray) (kernel secret rights fuel : Int) (w : World) (P : Nat → Prop)

set_option maxRecDepth 100000 in
set_option maxHeartbeats 3200000 in
theorem run_err (hP : ∀ k, P k → k < w.heap.size) (hs : s.size ≤ maxLen) (hT : WordsAt w 2 listedL) (hPT : P 2) (he : (readM s).1 ≠ 0) :
    Calls Tryz.prog 23 #[.string s, .string inp, .string image, .int .i64 kernel, .int .i64 secret, .int .i64 rights, .int .i64 fuel] w (RunPost P (errCells (readM s).1) w) := by
  obtain ⟨r, hr⟩ : ∃ r, r = readM s := ⟨_, rfl⟩
  obtain ⟨w0, hw0⟩ : ∃ w0, w0 = w.alloc (.cells #[.string ⟨#[]⟩, .string ⟨#[]⟩, .int .i64 0, .int .i64 0, .int .i64 0] 69) := ⟨_, rfl⟩
  have hk0 : Kept P w w0 := by rw [hw0]; exact (Kept.refl P w).alloc _
  have hbox : w0.heap[w.heap.size]? = some (.cells #[.string ⟨#[]⟩, .string ⟨#[]⟩, .int .i64 0, .int .i64 0, .int .i64 0] 69 (0, 0)) := by rw [hw0]; exact heap_alloc_new w _
  have hsz0 : w0.heap.size = w.heap.size + 1 := by rw [hw0]; simp
  have hPb : ∀ k, P k ∨ k = w.heap.size → k < w0.heap.size := by
    intro k hk
    rcases hk with hk | hk
    · have := hP k hk; omega
    · omega
  have hck := hide (readProgram_any s w0 (fun k => P k ∨ k = w.heap.size) hPb hs (hT.kept hk0 (hP _ hPT) hPT) (.inl hPT))
  rw [← hr] at hck he ⊢
  have hb2 : (r.1 != 0) = true := by simpa using he
  have HP := hide hP
  have HK := hide hk0
  have HB := hide hbox
  clear hr hP hT he hk0 hbox hPb
  go_enter Tryz.func23, Tryz.ntmps23
  go_wp2_with fail
  rw [show w.alloc (.cells #[.string ⟨#[]⟩, .string ⟨#[]⟩, .int .i64 0, .int .i64 0, .int .i64 0] 69) = w0 from hw0.symm]
  refine (unhide hck).mono ?_
  rintro e w1 ⟨v, rfl, hrow, k1⟩
  have hbox1 := k1.at' HB.out (.inr rfl)
  have hfin : Hid ((set5 w1 w.heap.size (.string ⟨#[]⟩) (.string ⟨#[]⟩) (.int .i64 0) (.int .i64 0) (.int .i64 r.1)).heap[w.heap.size]? = some (.cells #[.string ⟨#[]⟩, .string ⟨#[]⟩, .int .i64 0, .int .i64 0, .int .i64 r.1] 69 (0, 0)) ∧ Kept P w (set5 w1 w.heap.size (.string ⟨#[]⟩) (.string ⟨#[]⟩) (.int .i64 0) (.int .i64 0) (.int .i64 r.1))) :=
    ⟨set5_box hbox1 _ _ _ _ _, (HK.out.trans (k1.mono fun k hk => .inl hk)).trans (set5_kept (show ¬ P w.heap.size from fun hp => by have := HP.out _ hp; omega) _ _ _ _ _)⟩
  have hlt1 := lt_of_block hbox1
  obtain ⟨⟨c0, c1, c2, c3, c4⟩, fr⟩ := set5_cells hbox1
  have f0 := fr 0
  have f1 := fr 1
  have f2 := fr 2
  have f3 := fr 3
  have f4 := fr 4
  clear hck k1 HB HK HP hw0 hbox1 fr hrow
  unfold set5 at hfin
  go_wp2
  obtain ⟨hb5, hk5⟩ := hfin.out
  obtain ⟨⟨d0, d1, d2, d3, d4⟩, _⟩ := set5_cells hb5
  refine bodyPost_ret (v := .agg (errCells r.1)) ?_ rfl ⟨rfl, hk5⟩
  clear c0 c1 c2 c3 c4 hfin hb5 hk5 f0 f1 f2 f3 f4
  revert d0 d1 d2 d3 d4
  generalize World.setCell _ _ _ = W2
  intro d0 d1 d2 d3 d4
  simp [results, Tryz.results23, go_sem, d0, d1, d2, d3, d4, errCells]

set_option maxRecDepth 100000 in
set_option maxHeartbeats 3200000 in
theorem run_long (hP : ∀ k, P k → k < w.heap.size) (hs : s.size ≤ maxLen) (hsi : image.size ≤ maxLen) (hT : WordsAt w 2 listedL) (hPT : P 2) (he : (readM s).1 = 0) (hlim : 256 < image.size ∨ 10000 < fuel) :
    Calls Tryz.prog 23 #[.string s, .string inp, .string image, .int .i64 kernel, .int .i64 secret, .int .i64 rights, .int .i64 fuel] w (RunPost P (errCells 1) w) := by
  obtain ⟨r, hr⟩ : ∃ r, r = readM s := ⟨_, rfl⟩
  obtain ⟨w0, hw0⟩ : ∃ w0, w0 = w.alloc (.cells #[.string ⟨#[]⟩, .string ⟨#[]⟩, .int .i64 0, .int .i64 0, .int .i64 0] 69) := ⟨_, rfl⟩
  have hk0 : Kept P w w0 := by rw [hw0]; exact (Kept.refl P w).alloc _
  have hbox : w0.heap[w.heap.size]? = some (.cells #[.string ⟨#[]⟩, .string ⟨#[]⟩, .int .i64 0, .int .i64 0, .int .i64 0] 69 (0, 0)) := by rw [hw0]; exact heap_alloc_new w _
  have hsz0 : w0.heap.size = w.heap.size + 1 := by rw [hw0]; simp
  have hPb : ∀ k, P k ∨ k = w.heap.size → k < w0.heap.size := by
    intro k hk
    rcases hk with hk | hk
    · have := hP k hk; omega
    · omega
  have hck := hide (readProgram_any s w0 (fun k => P k ∨ k = w.heap.size) hPb hs (hT.kept hk0 (hP _ hPT) hPT) (.inl hPT))
  rw [← hr] at hck he
  have hb2 : (r.1 != 0) = false := by simpa using he
  have HP := hide hP
  have HK := hide hk0
  have HB := hide hbox
  have hlim' : 256 < image.size ∨ (image.size ≤ 256 ∧ 10000 < fuel) := by
    by_cases q : 256 < image.size
    · exact .inl q
    · exact .inr ⟨by omega, hlim.elim (fun h => absurd h q) id⟩
  unfold maxLen at hsi
  clear hr hP hT he hk0 hbox hlim hPb
  rcases hlim' with q1 | ⟨q1, q2⟩
  all_goals
    go_enter Tryz.func23, Tryz.ntmps23
    go_wp2_with fail
    rw [show w.alloc (.cells #[.string ⟨#[]⟩, .string ⟨#[]⟩, .int .i64 0, .int .i64 0, .int .i64 0] 69) = w0 from hw0.symm]
    refine (unhide hck).mono ?_
    rintro e w1 ⟨v, rfl, hrow, k1⟩
    have hbox1 := k1.at' HB.out (.inr rfl)
    have hfin : Hid ((set5 w1 w.heap.size (.string ⟨#[]⟩) (.string ⟨#[]⟩) (.int .i64 0) (.int .i64 0) (.int .i64 1)).heap[w.heap.size]? = some (.cells #[.string ⟨#[]⟩, .string ⟨#[]⟩, .int .i64 0, .int .i64 0, .int .i64 1] 69 (0, 0)) ∧ Kept P w (set5 w1 w.heap.size (.string ⟨#[]⟩) (.string ⟨#[]⟩) (.int .i64 0) (.int .i64 0) (.int .i64 1))) :=
      ⟨set5_box hbox1 _ _ _ _ _, (HK.out.trans (k1.mono fun k hk => .inl hk)).trans (set5_kept (show ¬ P w.heap.size from fun hp => by have := HP.out _ hp; omega) _ _ _ _ _)⟩
    have hlt1 := lt_of_block hbox1
    obtain ⟨⟨c0, c1, c2, c3, c4⟩, fr⟩ := set5_cells hbox1
    have f0 := fr 0
    have f1 := fr 1
    have f2 := fr 2
    have f3 := fr 3
    have f4 := fr 4
    clear hck k1 HB HK HP hw0 hbox1 fr hrow
    unfold set5 at hfin
    go_wp2
    obtain ⟨hb5, hk5⟩ := hfin.out
    obtain ⟨⟨d0, d1, d2, d3, d4⟩, _⟩ := set5_cells hb5
    refine bodyPost_ret (v := .agg (errCells 1)) ?_ rfl ⟨rfl, hk5⟩
    clear c0 c1 c2 c3 c4 hfin hb5 hk5 f0 f1 f2 f3 f4
    revert d0 d1 d2 d3 d4
    generalize World.setCell _ _ _ = W2
    intro d0 d1 d2 d3 d4
    simp [results, Tryz.results23, go_sem, d0, d1, d2, d3, d4, errCells]

set_option maxRecDepth 100000 in
set_option maxHeartbeats 6400000 in
theorem run_ok (hP : ∀ k, P k → k < w.heap.size) (hs : s.size ≤ maxLen) (hsi : image.size ≤ 256) (hfu : fuel ≤ 10000) (hT : WordsAt w 2 listedL) (hPT : P 2) (he : (readM s).1 = 0) (hlS : (readM s).2.2.steps.length ≤ 10000)
    (Inv : Int → Ma → Prop) (hI : StepInv (readM s).2.2.steps Inv) (hI0 : Inv 0 (Ma.start inp image.toList kernel secret rights fuel)) (N : Nat) (hN : measN (readM s).2.2.steps.length 0 0 ≤ N) :
    Calls Tryz.prog 23 #[.string s, .string inp, .string image, .int .i64 kernel, .int .i64 secret, .int .i64 rights, .int .i64 fuel] w
      (RunPost P (resCells (runS (readM s).2.2.steps N 0 (Ma.start inp image.toList kernel secret rights fuel)).2 (runS (readM s).2.2.steps N 0 (Ma.start inp image.toList kernel secret rights fuel)).1) w) := by
  obtain ⟨r, hr⟩ : ∃ r, r = readM s := ⟨_, rfl⟩
  obtain ⟨w0, hw0⟩ : ∃ w0, w0 = w.alloc (.cells #[.string ⟨#[]⟩, .string ⟨#[]⟩, .int .i64 0, .int .i64 0, .int .i64 0] 69) := ⟨_, rfl⟩
  have hk0 : Kept P w w0 := by rw [hw0]; exact (Kept.refl P w).alloc _
  have hbox : w0.heap[w.heap.size]? = some (.cells #[.string ⟨#[]⟩, .string ⟨#[]⟩, .int .i64 0, .int .i64 0, .int .i64 0] 69 (0, 0)) := by rw [hw0]; exact heap_alloc_new w _
  have hsz0 : w0.heap.size = w.heap.size + 1 := by rw [hw0]; simp
  obtain ⟨P1, hP1⟩ : ∃ P1 : Nat → Prop, P1 = fun k => P k ∨ k = w.heap.size := ⟨_, rfl⟩
  have hP1b : ∀ k, P1 k → k < w0.heap.size := by
    intro k hk
    rw [hP1] at hk
    rcases hk with hk | hk
    · have := hP k hk; omega
    · omega
  have hP1i : Hid (∀ k, P k → P1 k) := by intro k hk; rw [hP1]; exact .inl hk
  have hP1r : Hid (P1 w.heap.size) := by unfold Hid; rw [hP1]; exact .inr rfl
  have hck := hide (readProgram_any s w0 P1 hP1b hs (hT.kept hk0 (hP _ hPT) hPT) (hP1i.out _ hPT))
  rw [← hr] at hck he hlS hI hN ⊢
  have hb1 : (r.1 != 0) = false := by simpa using he
  obtain ⟨M0, hM0⟩ : ∃ M0, M0 = Ma.start inp image.toList kernel secret rights fuel := ⟨_, rfl⟩
  have HNm := hide (fun w' Q hq => newMachine_any inp image kernel secret rights fuel w' Q hq hsi)
  rw [← hM0] at hI0 HNm ⊢
  have hu0 : M0.used = 0 := by rw [hM0]; rfl
  rw [← hu0] at hN
  obtain ⟨S, hS⟩ : ∃ S, S = r.2.2.steps := ⟨_, rfl⟩
  rw [← hS] at hlS hI hN ⊢
  have HP := hide hP
  have HK := hide hk0
  have HB := hide hbox
  have HP1b := hide hP1b
  have HI := hide hI
  have HI0 := hide hI0
  have HN := hide hN
  have HE := hide he
  have HSS := hide hS
  have hRun := hide (fun w' b (v : Value) (Q : Nat → Prop) (hm : DmIs w' Q b M0) (hs : StepsIs w' v (withH S)) (hv : ∀ k, v.ownBlock = some k → Q k) => runSteps_any hm v S hs hv hlS Inv HI.out HI0.out N HN.out)
  obtain ⟨R, hR⟩ : ∃ R, R = runS S N 0 M0 := ⟨_, rfl⟩
  rw [← hR] at hRun ⊢
  unfold DPost at hRun
  clear hr hP hT he hk0 hbox hP1b hS hM0 hI hI0 hN hR
  have hi2 : ((image.size : Int) ≤ 256) := by omega
  go_enter Tryz.func23, Tryz.ntmps23
  go_wp2_with fail
  rw [show w.alloc (.cells #[.string ⟨#[]⟩, .string ⟨#[]⟩, .int .i64 0, .int .i64 0, .int .i64 0] 69) = w0 from hw0.symm]
  refine (unhide hck).mono ?_
  rintro e w1 ⟨v, rfl, hrow, k1⟩
  have hrow' := hrow HE.out
  rw [← HSS.out] at hrow'
  have K1 := hide k1
  obtain ⟨P2, hP2⟩ : ∃ P2 : Nat → Prop, P2 = fun k => P1 k ∨ v.ownBlock = some k := ⟨_, rfl⟩
  have hP2i : Hid (∀ k, P1 k → P2 k) := by intro k hk; rw [hP2]; exact .inl hk
  have hP2t : Hid (∀ k, v.ownBlock = some k → P2 k) := by intro k hk; rw [hP2]; exact .inr hk
  have hP2b : Hid (∀ k, P2 k → k < w1.heap.size) := by
    intro k hk; rw [hP2] at hk
    rcases hk with hk | hk
    · exact Nat.lt_of_lt_of_le (HP1b.out k hk) k1.size
    · exact hrow'.lt hk
  have hSt : Hid (StepsIs w1 v (withH S)) := hrow'.own
  obtain ⟨va, vc, hv⟩ := own_slice hrow'.own
  rw [hv] at hP2t hSt ⊢
  clear hP2 hrow' hrow k1 hck hv hw0 HP1b HE HSS
  go_wp2_with fail
  refine ((unhide HNm) w1 P2 hP2b.out).mono ?_
  rintro e w2 ⟨b, rfl, m2, k2⟩
  have hrs := hide ((unhide hRun) w2 b _ P2 m2 ((unhide hSt).kept k2 hP2t.out) hP2t.out)
  have K2 := hide k2
  clear m2 k2 HNm hRun hSt
  go_wp2_with fail
  refine (unhide hrs).mono ?_
  rintro e w3 ⟨rfl, m3, k3⟩
  have K3 := hide k3
  have hrt := hide (result_any m3 R.1)
  clear m3 k3 hrs
  unfold resCells at hrt
  go_wp2_with fail
  refine (unhide hrt).mono ?_
  rintro e w4 ⟨rfl, k4⟩
  have hkk : Kept P1 w0 w4 := K1.out.trans (((K2.out.trans K3.out).trans k4).mono hP2i.out)
  have hb6 := hkk.at' HB.out hP1r.out
  have hlt6 := lt_of_block hb6
  have hfin : Hid ((set5 w4 w.heap.size (.string (mkB R.2.out)) (.string (mkB R.2.image)) (.int .i64 R.2.mark) (.int .i64 R.2.used) (.int .i64 R.1)).heap[w.heap.size]? = some (.cells #[.string (mkB R.2.out), .string (mkB R.2.image), .int .i64 R.2.mark, .int .i64 R.2.used, .int .i64 R.1] 69 (0, 0)) ∧ Kept P w (set5 w4 w.heap.size (.string (mkB R.2.out)) (.string (mkB R.2.image)) (.int .i64 R.2.mark) (.int .i64 R.2.used) (.int .i64 R.1))) :=
    ⟨set5_box hb6 _ _ _ _ _, (HK.out.trans (hkk.mono hP1i.out)).trans (set5_kept (show ¬ P w.heap.size from fun hp => by have := HP.out _ hp; omega) _ _ _ _ _)⟩
  obtain ⟨⟨c0, c1, c2, c3, c4⟩, fr⟩ := set5_cells hb6
  have f0 := fr 0
  have f1 := fr 1
  have f2 := fr 2
  have f3 := fr 3
  have f4 := fr 4
  clear hrt hb6 hkk fr k4 K1 K2 K3
  unfold set5 at hfin
  go_wp2
  obtain ⟨hb5, hk5⟩ := hfin.out
  obtain ⟨⟨d0, d1, d2, d3, d4⟩, _⟩ := set5_cells hb5
  refine bodyPost_ret (v := .agg (resCells R.2 R.1)) ?_ rfl ⟨rfl, hk5⟩
  clear c0 c1 c2 c3 c4 hfin hb5 hk5 f0 f1 f2 f3 f4
  revert d0 d1 d2 d3 d4
  generalize World.setCell _ _ _ = W2
  intro d0 d1 d2 d3 d4
  simp [results, Tryz.results23, go_sem, d0, d1, d2, d3, d4, resCells]
end
end Go.Proofs.YtnanjomnldfidabGreatDoor
