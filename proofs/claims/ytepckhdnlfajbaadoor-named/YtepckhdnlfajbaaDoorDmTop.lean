/-
  Package grader: newMachine, result, Run.
-/
import Derived.Test.YtepckhdnlfajbaaDoorDmRun
import Derived.Test.YtepckhdnlfajbaaDoorRmWordToRmRun2
import Derived.Test.YtepckhdnlfajbaaDoorRdWordsToReadProg
import Derived.BigRegion
set_option linter.unusedSimpArgs false
set_option linter.unusedVariables false
set_option linter.unusedSectionVars false
namespace Go.Proofs.YtepckhdnlfajbaaDoor
open Go.RowKit

set_option maxRecDepth 100000 in
set_option maxHeartbeats 1600000 in
theorem newMachine_any (inp image : ByteArray) (kernel secret rights fuel : Int) (w : World) (P : Nat → Prop) (hP : ∀ k, P k → k < w.heap.size) (hi : image.size ≤ 256) :
    Calls Tryd.prog 32 #[.string inp, .string image, .int .i64 kernel, .int .i64 secret, .int .i64 rights, .int .i64 fuel] w fun e w' =>
      ∃ b, e = .returned (.pointer (some ⟨b, 0, none⟩)) ∧ DmIs w' P b (Ma.start inp image.toList kernel secret rights fuel) ∧ Kept P w w' := by
  have hl : image.toList.length = image.size := toList_len image
  have hc1 := hide (fun w' => clamp_any kernel (image.size : Int) w')
  have hc2 := hide (fun w' => clamp_any secret ((image.size : Int) - clampN kernel image.size) w')
  have hc3 := hide (fun w' => clamp_any fuel 10000 w')
  obtain ⟨b1, b2⟩ := clampN_bd kernel image.size (by omega)
  obtain ⟨b3, b4⟩ := clampN_bd secret ((image.size : Int) - clampN kernel image.size) (by omega)
  have hcv := run_bytes_of_string (P := Tryd.prog) w 9 80 5 image Tryd.underlying9 Tryd.underlying80 Tryd.underlying5
  obtain ⟨cap, hcap⟩ : ∃ cap, cap = grownCap w image.size 0 5 := ⟨_, rfl⟩
  rw [← hcap] at hcv
  clear hcap
  obtain ⟨W1, hW1⟩ : ∃ W1, W1 = (w.alloc (.cells (bytesRow image cap) 5 ((bytesRow image cap).size, (bytesRow image cap).size + 1))).drew := ⟨_, rfl⟩
  have himg : Hid (ImgIs W1 P (.slice (some ⟨w.heap.size, 0, none⟩) image.size cap) image.toList) := by
    have hat : W1.heap[w.heap.size]? = some (.cells (bytesRow image cap) 5 ((bytesRow image cap).size, (bytesRow image cap).size + 1)) := by rw [hW1]; exact heap_alloc_new w _
    refine ⟨w.heap.size, cap, _, _, by rw [hl], fun hp => by have := hP _ hp; omega, hat, ?_, ?_⟩
    · intro j hj
      have hj' : j < image.data.size := by rw [hl] at hj; exact hj
      rw [bytesRow_at image cap j hj']
      congr 4
      rw [List.getElem_of_eq (ByteArray.toList_eq image)]
      rfl
    · rw [hl]; unfold bytesRow; simp
  have hW1s : W1.heap.size = w.heap.size + 1 := by rw [hW1]; simp
  have hW1k : Kept P w W1 := by rw [hW1]; exact ((Kept.refl P w).alloc _).drew
  have fin : Hid (∀ o, o = Obj.cells #[.string inp, .int .i64 0, .slice (some ⟨w.heap.size, 0, none⟩) image.size cap, .int .i64 (clampN kernel image.size), .int .i64 (clampN kernel image.size + clampN secret ((image.size : Int) - clampN kernel image.size)), .int .i64 rights, .int .i64 (clampN fuel 10000), .int .i64 0, .slice none 0 0, .slice none 0 0, .slice none 0 0, .int .i64 0] 83 →
      DmIs (W1.alloc o) P (w.heap.size + 1) (Ma.start inp image.toList kernel secret rights fuel) ∧ Kept P w (W1.alloc o)) := by
    intro o ho
    subst ho
    rw [← hW1s]
    refine ⟨⟨_, .slice none 0 0, .slice none 0 0, .slice none 0 0, (fun k hk => by have := hP k hk; simp; omega), (fun hp => by have := hP _ hp; omega), ?_, himg.out.alloc _, Row.nil _ _ _ _, Row.nil _ _ _ _, Row.nil _ _ _ _, (fun k hk => by cases hk), (fun k hk => by cases hk)⟩, hW1k.alloc _⟩
    rw [heap_alloc_new]
    simp only [Ma.start, hl]
  generalize Ma.start inp image.toList kernel secret rights fuel = MM at fin ⊢
  have HW := hide hW1
  generalize clampN kernel image.size = ck at hc1 hc2 b1 b2 b3 b4 fin
  generalize clampN secret ((image.size : Int) - ck) = cs at hc2 b3 b4 fin
  generalize clampN fuel 10000 = cf at hc3 fin
  clear hP hW1 himg hW1k hl
  go_enter Tryd.func32, Tryd.ntmps32
  go_wp2_with fail
  refine ((unhide hc1) _).mono ?_
  rintro e w1 ⟨rfl, rfl⟩
  go_wp2_with fail
  refine ((unhide hc2) _).mono ?_
  rintro e w2 ⟨rfl, rfl⟩
  go_wp2_with fail
  rw [show (w2.alloc (.cells (bytesRow image cap) 5 ((bytesRow image cap).size, (bytesRow image cap).size + 1))).drew = W1 from HW.out.symm]
  refine ((unhide hc3) _).mono ?_
  rintro e w3 ⟨rfl, rfl⟩
  clear HW hcv
  go_wp2
  go_ret
  exact ⟨_, rfl, fin.out _ rfl⟩

set_option maxRecDepth 100000 in
set_option maxHeartbeats 3200000 in
theorem result_any {w : World} {P : Nat → Prop} {b : Nat} {M : Ma} (h : DmIs w P b M) (n : Int) :
    Calls Tryd.prog 34 #[.pointer (some ⟨b, 0, none⟩), .int .i64 n] w fun e w' => e = .returned (.agg (resCells M n)) ∧ Kept P w w' := by
  obtain ⟨W0, hW0⟩ : ∃ W0, W0 = w.alloc (.cells #[.string ⟨#[]⟩, .string ⟨#[]⟩, .int .i64 0, .int .i64 0, .int .i64 0] 32) := ⟨_, rfl⟩
  have hbox : W0.heap[w.heap.size]? = some (.cells #[.string ⟨#[]⟩, .string ⟨#[]⟩, .int .i64 0, .int .i64 0, .int .i64 0] 32 (0, 0)) := by rw [hW0]; exact heap_alloc_new w _
  have hkW : Kept P w W0 := by rw [hW0]; exact (Kept.refl P w).alloc _
  have hnp : ¬ P w.heap.size := fun hp => by have := h.bound _ hp; omega
  have h' : DmIs W0 P b M := by rw [hW0]; exact h.alloc _
  obtain ⟨vi, vs, vc, vo, hat⟩ := h'
  obtain ⟨gi, ki, cs, fr, hi⟩ := hat.image
  obtain ⟨ao, ko, hvo⟩ := own_slice hat.outp.own
  have hlt := hat.lt
  have hlt0 := lt_of_block hbox
  have c2 : W0.cell? ⟨b, 2, none⟩ = some vi := hat.cell 2 _ rfl
  rw [hi.val] at c2
  have c10 : W0.cell? ⟨b, 10, none⟩ = some vo := hat.cell 10 _ rfl
  rw [hvo] at c10
  have c7 : W0.cell? ⟨b, 7, none⟩ = some (.int .i64 M.used) := hat.cell 7 _ rfl
  have c11 : W0.cell? ⟨b, 11, none⟩ = some (.int .i64 M.mark) := hat.cell 11 _ rfl
  have kc1 : (convert 80 9 (.slice (some ⟨gi, 0, none⟩) M.image.length ki)).run Tryd.prog W0.drew = .ok (.string (mkB M.image)) W0.drew := by
    refine run_convert_bytes_back W0.drew 80 9 5 ⟨gi, 0, none⟩ ki M.image Tryd.underlying80 Tryd.underlying5 Tryd.underlying9 fun j hj => ?_
    have e : (⟨gi, 0, none⟩ : Addr).add j = ⟨gi, j, none⟩ := by unfold Addr.add; split <;> simp_all
    rw [e]
    exact cell_of_block (w := W0.drew) hi.at' j _ (hi.cells j hj)
  have kc2 : (convert 80 9 (.slice ao M.out.length ko)).run Tryd.prog W0.drew = .ok (.string (mkB M.out)) W0.drew := by
    by_cases hz : M.out = []
    · rw [hz] at hvo ⊢
      cases ao with
      | none => exact run_convert_bytes_nil W0.drew 80 5 Tryd.underlying80 Tryd.underlying5 _ _ 9 Tryd.underlying9
      | some a => exact run_convert_bytes_back W0.drew 80 9 5 a ko [] Tryd.underlying80 Tryd.underlying5 Tryd.underlying9 (fun j hj => by simp at hj)
    · have hpos : 0 < M.out.length := List.length_pos_iff.2 hz
      obtain ⟨g, cap, hv2⟩ := own_form hat.outp.own hpos
      rw [hvo] at hv2
      cases hv2
      refine run_convert_bytes_back W0.drew 80 9 5 ⟨g, 0, none⟩ ko M.out Tryd.underlying80 Tryd.underlying5 Tryd.underlying9 fun j hj => ?_
      have e : (⟨g, 0, none⟩ : Addr).add j = ⟨g, j, none⟩ := by unfold Addr.add; split <;> simp_all
      rw [e]
      have hc := World.ownsRow.cellAt (g := g) (cap := ko) (by rw [← hvo]; exact hat.outp.own) j (by omega)
      show W0.cell? ⟨g, j, none⟩ = _
      rw [hc]
      unfold byteCells
      rw [List.getElem?_map, List.getElem?_eq_getElem hj]
      rfl
  have hfin : Hid ((set5 W0 w.heap.size (.string (mkB M.out)) (.string (mkB M.image)) (.int .i64 M.mark) (.int .i64 M.used) (.int .i64 n)).heap[w.heap.size]? = some (.cells #[.string (mkB M.out), .string (mkB M.image), .int .i64 M.mark, .int .i64 M.used, .int .i64 n] 32 (0, 0)) ∧ Kept P w (set5 W0 w.heap.size (.string (mkB M.out)) (.string (mkB M.image)) (.int .i64 M.mark) (.int .i64 M.used) (.int .i64 n)).drew) :=
    ⟨set5_box (w := W0) hbox _ _ _ _ _, (hkW.trans (set5_kept hnp _ _ _ _ _)).drew⟩
  obtain ⟨⟨d0, d1, d2, d3, d4⟩, fr5⟩ := set5_cells hbox
  have f0 := fr5 0
  have f1 := fr5 1
  have f2 := fr5 2
  have f3 := fr5 3
  have f4 := fr5 4
  have HW := hide hW0
  unfold set5 at hfin
  clear hat hi hbox hkW hW0 fr5 hvo h
  go_enter Tryd.func34, Tryd.ntmps34
  go_wp2
  rw [show w.alloc (.cells #[.string ⟨#[]⟩, .string ⟨#[]⟩, .int .i64 0, .int .i64 0, .int .i64 0] 32) = W0 from HW.out.symm]
  clear HW
  go_region
  go_wp2
  obtain ⟨hb5, hk5⟩ := hfin.out
  obtain ⟨⟨e0, e1, e2, e3, e4⟩, _⟩ := set5_cells hb5
  refine bodyPost_ret (v := .agg (resCells M n)) ?_ rfl ⟨rfl, hk5⟩
  clear d0 d1 d2 d3 d4 hfin hb5 hk5 f0 f1 f2 f3 f4 c2 c7 c10 c11 kc1 kc2
  revert e0 e1 e2 e3 e4
  generalize World.setCell _ _ _ = W2
  intro e0 e1 e2 e3 e4
  simp [results, Tryd.results34, go_sem, e0, e1, e2, e3, e4, resCells]

section
variable (s inp image : ByteArray) (kernel secret rights fuel : Int) (w : World) (P : Nat → Prop)

set_option maxRecDepth 100000 in
set_option maxHeartbeats 3200000 in
theorem run_err (hP : ∀ k, P k → k < w.heap.size) (hs : s.size ≤ maxLen) (hT : WordsAt w 2 listedL) (hPT : P 2) (he : (readM s).1 ≠ 0) :
    Calls Tryd.prog 21 #[.string s, .string inp, .string image, .int .i64 kernel, .int .i64 secret, .int .i64 rights, .int .i64 fuel] w (RunPost P (errCells (readM s).1) w) := by
  obtain ⟨r, hr⟩ : ∃ r, r = readM s := ⟨_, rfl⟩
  obtain ⟨w0, hw0⟩ : ∃ w0, w0 = w.alloc (.cells #[.string ⟨#[]⟩, .string ⟨#[]⟩, .int .i64 0, .int .i64 0, .int .i64 0] 32) := ⟨_, rfl⟩
  have hk0 : Kept P w w0 := by rw [hw0]; exact (Kept.refl P w).alloc _
  have hbox : w0.heap[w.heap.size]? = some (.cells #[.string ⟨#[]⟩, .string ⟨#[]⟩, .int .i64 0, .int .i64 0, .int .i64 0] 32 (0, 0)) := by rw [hw0]; exact heap_alloc_new w _
  have hsz0 : w0.heap.size = w.heap.size + 1 := by rw [hw0]; simp
  have hPb : ∀ k, P k ∨ k = w.heap.size → k < w0.heap.size := by
    intro k hk
    rcases hk with hk | hk
    · have := hP k hk; omega
    · omega
  have hck := hide (readProgram_any s w0 (fun k => P k ∨ k = w.heap.size) hPb hs (hT.kept hk0 (hP _ hPT) hPT) (.inl hPT))
  rw [← hr] at hck he ⊢
  have hb2 : (r.1 != 0) = true := by simpa using he
  have HP := hide hP
  have HK := hide hk0
  have HB := hide hbox
  clear hr hP hT he hk0 hbox hPb
  go_enter Tryd.func21, Tryd.ntmps21
  go_wp2_with fail
  rw [show w.alloc (.cells #[.string ⟨#[]⟩, .string ⟨#[]⟩, .int .i64 0, .int .i64 0, .int .i64 0] 32) = w0 from hw0.symm]
  refine (unhide hck).mono ?_
  rintro e w1 ⟨v, rfl, hrow, k1⟩
  have hbox1 := k1.at' HB.out (.inr rfl)
  have hfin : Hid ((set5 w1 w.heap.size (.string ⟨#[]⟩) (.string ⟨#[]⟩) (.int .i64 0) (.int .i64 0) (.int .i64 r.1)).heap[w.heap.size]? = some (.cells #[.string ⟨#[]⟩, .string ⟨#[]⟩, .int .i64 0, .int .i64 0, .int .i64 r.1] 32 (0, 0)) ∧ Kept P w (set5 w1 w.heap.size (.string ⟨#[]⟩) (.string ⟨#[]⟩) (.int .i64 0) (.int .i64 0) (.int .i64 r.1))) :=
    ⟨set5_box hbox1 _ _ _ _ _, (HK.out.trans (k1.mono fun k hk => .inl hk)).trans (set5_kept (show ¬ P w.heap.size from fun hp => by have := HP.out _ hp; omega) _ _ _ _ _)⟩
  have hlt1 := lt_of_block hbox1
  obtain ⟨⟨c0, c1, c2, c3, c4⟩, fr⟩ := set5_cells hbox1
  have f0 := fr 0
  have f1 := fr 1
  have f2 := fr 2
  have f3 := fr 3
  have f4 := fr 4
  clear hck k1 HB HK HP hw0 hbox1 fr hrow
  unfold set5 at hfin
  go_wp2
  obtain ⟨hb5, hk5⟩ := hfin.out
  obtain ⟨⟨d0, d1, d2, d3, d4⟩, _⟩ := set5_cells hb5
  refine bodyPost_ret (v := .agg (errCells r.1)) ?_ rfl ⟨rfl, hk5⟩
  clear c0 c1 c2 c3 c4 hfin hb5 hk5 f0 f1 f2 f3 f4
  revert d0 d1 d2 d3 d4
  generalize World.setCell _ _ _ = W2
  intro d0 d1 d2 d3 d4
  simp [results, Tryd.results21, go_sem, d0, d1, d2, d3, d4, errCells]

set_option maxRecDepth 100000 in
set_option maxHeartbeats 3200000 in
theorem run_long (hP : ∀ k, P k → k < w.heap.size) (hs : s.size ≤ maxLen) (hsi : image.size ≤ maxLen) (hT : WordsAt w 2 listedL) (hPT : P 2) (he : (readM s).1 = 0) (hlim : 256 < image.size ∨ 10000 < fuel) :
    Calls Tryd.prog 21 #[.string s, .string inp, .string image, .int .i64 kernel, .int .i64 secret, .int .i64 rights, .int .i64 fuel] w (RunPost P (errCells 1) w) := by
  obtain ⟨r, hr⟩ : ∃ r, r = readM s := ⟨_, rfl⟩
  obtain ⟨w0, hw0⟩ : ∃ w0, w0 = w.alloc (.cells #[.string ⟨#[]⟩, .string ⟨#[]⟩, .int .i64 0, .int .i64 0, .int .i64 0] 32) := ⟨_, rfl⟩
  have hk0 : Kept P w w0 := by rw [hw0]; exact (Kept.refl P w).alloc _
  have hbox : w0.heap[w.heap.size]? = some (.cells #[.string ⟨#[]⟩, .string ⟨#[]⟩, .int .i64 0, .int .i64 0, .int .i64 0] 32 (0, 0)) := by rw [hw0]; exact heap_alloc_new w _
  have hsz0 : w0.heap.size = w.heap.size + 1 := by rw [hw0]; simp
  have hPb : ∀ k, P k ∨ k = w.heap.size → k < w0.heap.size := by
    intro k hk
    rcases hk with hk | hk
    · have := hP k hk; omega
    · omega
  have hck := hide (readProgram_any s w0 (fun k => P k ∨ k = w.heap.size) hPb hs (hT.kept hk0 (hP _ hPT) hPT) (.inl hPT))
  rw [← hr] at hck he
  have hb2 : (r.1 != 0) = false := by simpa using he
  have HP := hide hP
  have HK := hide hk0
  have HB := hide hbox
  have hlim' : 256 < image.size ∨ (image.size ≤ 256 ∧ 10000 < fuel) := by
    by_cases q : 256 < image.size
    · exact .inl q
    · exact .inr ⟨by omega, hlim.elim (fun h => absurd h q) id⟩
  unfold maxLen at hsi
  clear hr hP hT he hk0 hbox hlim hPb
  rcases hlim' with q1 | ⟨q1, q2⟩
  all_goals
    go_enter Tryd.func21, Tryd.ntmps21
    go_wp2_with fail
    rw [show w.alloc (.cells #[.string ⟨#[]⟩, .string ⟨#[]⟩, .int .i64 0, .int .i64 0, .int .i64 0] 32) = w0 from hw0.symm]
    refine (unhide hck).mono ?_
    rintro e w1 ⟨v, rfl, hrow, k1⟩
    have hbox1 := k1.at' HB.out (.inr rfl)
    have hfin : Hid ((set5 w1 w.heap.size (.string ⟨#[]⟩) (.string ⟨#[]⟩) (.int .i64 0) (.int .i64 0) (.int .i64 1)).heap[w.heap.size]? = some (.cells #[.string ⟨#[]⟩, .string ⟨#[]⟩, .int .i64 0, .int .i64 0, .int .i64 1] 32 (0, 0)) ∧ Kept P w (set5 w1 w.heap.size (.string ⟨#[]⟩) (.string ⟨#[]⟩) (.int .i64 0) (.int .i64 0) (.int .i64 1))) :=
      ⟨set5_box hbox1 _ _ _ _ _, (HK.out.trans (k1.mono fun k hk => .inl hk)).trans (set5_kept (show ¬ P w.heap.size from fun hp => by have := HP.out _ hp; omega) _ _ _ _ _)⟩
    have hlt1 := lt_of_block hbox1
    obtain ⟨⟨c0, c1, c2, c3, c4⟩, fr⟩ := set5_cells hbox1
    have f0 := fr 0
    have f1 := fr 1
    have f2 := fr 2
    have f3 := fr 3
    have f4 := fr 4
    clear hck k1 HB HK HP hw0 hbox1 fr hrow
    unfold set5 at hfin
    go_wp2
    obtain ⟨hb5, hk5⟩ := hfin.out
    obtain ⟨⟨d0, d1, d2, d3, d4⟩, _⟩ := set5_cells hb5
    refine bodyPost_ret (v := .agg (errCells 1)) ?_ rfl ⟨rfl, hk5⟩
    clear c0 c1 c2 c3 c4 hfin hb5 hk5 f0 f1 f2 f3 f4
    revert d0 d1 d2 d3 d4
    generalize World.setCell _ _ _ = W2
    intro d0 d1 d2 d3 d4
    simp [results, Tryd.results21, go_sem, d0, d1, d2, d3, d4, errCells]

set_option maxRecDepth 100000 in
set_option maxHeartbeats 6400000 in
theorem run_ok (hP : ∀ k, P k → k < w.heap.size) (hs : s.size ≤ maxLen) (hsi : image.size ≤ 256) (hfu : fuel ≤ 10000) (hT : WordsAt w 2 listedL) (hPT : P 2) (he : (readM s).1 = 0) (hlS : (readM s).2.2.steps.length ≤ 100000)
    (Inv : Int → Ma → Prop) (hI : StepInv (readM s).2.2.steps Inv) (hI0 : Inv 0 (Ma.start inp image.toList kernel secret rights fuel)) (N : Nat) (hN : measN (readM s).2.2.steps.length 0 0 ≤ N) :
    Calls Tryd.prog 21 #[.string s, .string inp, .string image, .int .i64 kernel, .int .i64 secret, .int .i64 rights, .int .i64 fuel] w
      (RunPost P (resCells (runS (readM s).2.2.steps N 0 (Ma.start inp image.toList kernel secret rights fuel)).2 (runS (readM s).2.2.steps N 0 (Ma.start inp image.toList kernel secret rights fuel)).1) w) := by
  obtain ⟨r, hr⟩ : ∃ r, r = readM s := ⟨_, rfl⟩
  obtain ⟨w0, hw0⟩ : ∃ w0, w0 = w.alloc (.cells #[.string ⟨#[]⟩, .string ⟨#[]⟩, .int .i64 0, .int .i64 0, .int .i64 0] 32) := ⟨_, rfl⟩
  have hk0 : Kept P w w0 := by rw [hw0]; exact (Kept.refl P w).alloc _
  have hbox : w0.heap[w.heap.size]? = some (.cells #[.string ⟨#[]⟩, .string ⟨#[]⟩, .int .i64 0, .int .i64 0, .int .i64 0] 32 (0, 0)) := by rw [hw0]; exact heap_alloc_new w _
  have hsz0 : w0.heap.size = w.heap.size + 1 := by rw [hw0]; simp
  obtain ⟨P1, hP1⟩ : ∃ P1 : Nat → Prop, P1 = fun k => P k ∨ k = w.heap.size := ⟨_, rfl⟩
  have hP1b : ∀ k, P1 k → k < w0.heap.size := by
    intro k hk
    rw [hP1] at hk
    rcases hk with hk | hk
    · have := hP k hk; omega
    · omega
  have hP1i : Hid (∀ k, P k → P1 k) := by intro k hk; rw [hP1]; exact .inl hk
  have hP1r : Hid (P1 w.heap.size) := by unfold Hid; rw [hP1]; exact .inr rfl
  have hck := hide (readProgram_any s w0 P1 hP1b hs (hT.kept hk0 (hP _ hPT) hPT) (hP1i.out _ hPT))
  rw [← hr] at hck he hlS hI hN ⊢
  have hb1 : (r.1 != 0) = false := by simpa using he
  obtain ⟨M0, hM0⟩ : ∃ M0, M0 = Ma.start inp image.toList kernel secret rights fuel := ⟨_, rfl⟩
  have HNm := hide (fun w' Q hq => newMachine_any inp image kernel secret rights fuel w' Q hq hsi)
  rw [← hM0] at hI0 HNm ⊢
  have hu0 : M0.used = 0 := by rw [hM0]; rfl
  rw [← hu0] at hN
  obtain ⟨S, hS⟩ : ∃ S, S = r.2.2.steps := ⟨_, rfl⟩
  rw [← hS] at hlS hI hN ⊢
  have HP := hide hP
  have HK := hide hk0
  have HB := hide hbox
  have HP1b := hide hP1b
  have HI := hide hI
  have HI0 := hide hI0
  have HN := hide hN
  have HE := hide he
  have HSS := hide hS
  have hRun := hide (fun w' b (v : Value) (Q : Nat → Prop) (hm : DmIs w' Q b M0) (hs : StepsIs w' v S) (hv : ∀ k, v.ownBlock = some k → Q k) => runSteps_any hm v S hs hv hlS Inv HI.out HI0.out N HN.out)
  obtain ⟨R, hR⟩ : ∃ R, R = runS S N 0 M0 := ⟨_, rfl⟩
  rw [← hR] at hRun ⊢
  unfold DPost at hRun
  clear hr hP hT he hk0 hbox hP1b hS hM0 hI hI0 hN hR
  have hi2 : ((image.size : Int) ≤ 256) := by omega
  go_enter Tryd.func21, Tryd.ntmps21
  go_wp2_with fail
  rw [show w.alloc (.cells #[.string ⟨#[]⟩, .string ⟨#[]⟩, .int .i64 0, .int .i64 0, .int .i64 0] 32) = w0 from hw0.symm]
  refine (unhide hck).mono ?_
  rintro e w1 ⟨v, rfl, hrow, k1⟩
  have hrow' := hrow HE.out
  rw [← HSS.out] at hrow'
  have K1 := hide k1
  obtain ⟨P2, hP2⟩ : ∃ P2 : Nat → Prop, P2 = fun k => P1 k ∨ v.ownBlock = some k := ⟨_, rfl⟩
  have hP2i : Hid (∀ k, P1 k → P2 k) := by intro k hk; rw [hP2]; exact .inl hk
  have hP2t : Hid (∀ k, v.ownBlock = some k → P2 k) := by intro k hk; rw [hP2]; exact .inr hk
  have hP2b : Hid (∀ k, P2 k → k < w1.heap.size) := by
    intro k hk; rw [hP2] at hk
    rcases hk with hk | hk
    · exact Nat.lt_of_lt_of_le (HP1b.out k hk) k1.size
    · exact hrow'.lt hk
  have hSt : Hid (StepsIs w1 v S) := hrow'.own
  obtain ⟨va, vc, hv⟩ := own_slice hrow'.own
  rw [hv] at hP2t hSt ⊢
  clear hP2 hrow' hrow k1 hck hv hw0 HP1b HE HSS
  go_wp2_with fail
  refine ((unhide HNm) w1 P2 hP2b.out).mono ?_
  rintro e w2 ⟨b, rfl, m2, k2⟩
  have hrs := hide ((unhide hRun) w2 b _ P2 m2 ((unhide hSt).kept k2 hP2t.out) hP2t.out)
  have K2 := hide k2
  clear m2 k2 HNm hRun hSt
  go_wp2_with fail
  refine (unhide hrs).mono ?_
  rintro e w3 ⟨rfl, m3, k3⟩
  have K3 := hide k3
  have hrt := hide (result_any m3 R.1)
  clear m3 k3 hrs
  unfold resCells at hrt
  go_wp2_with fail
  refine (unhide hrt).mono ?_
  rintro e w4 ⟨rfl, k4⟩
  have hkk : Kept P1 w0 w4 := K1.out.trans (((K2.out.trans K3.out).trans k4).mono hP2i.out)
  have hb6 := hkk.at' HB.out hP1r.out
  have hlt6 := lt_of_block hb6
  have hfin : Hid ((set5 w4 w.heap.size (.string (mkB R.2.out)) (.string (mkB R.2.image)) (.int .i64 R.2.mark) (.int .i64 R.2.used) (.int .i64 R.1)).heap[w.heap.size]? = some (.cells #[.string (mkB R.2.out), .string (mkB R.2.image), .int .i64 R.2.mark, .int .i64 R.2.used, .int .i64 R.1] 32 (0, 0)) ∧ Kept P w (set5 w4 w.heap.size (.string (mkB R.2.out)) (.string (mkB R.2.image)) (.int .i64 R.2.mark) (.int .i64 R.2.used) (.int .i64 R.1))) :=
    ⟨set5_box hb6 _ _ _ _ _, (HK.out.trans (hkk.mono hP1i.out)).trans (set5_kept (show ¬ P w.heap.size from fun hp => by have := HP.out _ hp; omega) _ _ _ _ _)⟩
  obtain ⟨⟨c0, c1, c2, c3, c4⟩, fr⟩ := set5_cells hb6
  have f0 := fr 0
  have f1 := fr 1
  have f2 := fr 2
  have f3 := fr 3
  have f4 := fr 4
  clear hrt hb6 hkk fr k4 K1 K2 K3
  unfold set5 at hfin
  go_wp2
  obtain ⟨hb5, hk5⟩ := hfin.out
  obtain ⟨⟨d0, d1, d2, d3, d4⟩, _⟩ := set5_cells hb5
  refine bodyPost_ret (v := .agg (resCells R.2 R.1)) ?_ rfl ⟨rfl, hk5⟩
  clear c0 c1 c2 c3 c4 hfin hb5 hk5 f0 f1 f2 f3 f4
  revert d0 d1 d2 d3 d4
  generalize World.setCell _ _ _ = W2
  intro d0 d1 d2 d3 d4
  simp [results, Tryd.results21, go_sem, d0, d1, d2, d3, d4, resCells]
end
end Go.Proofs.YtepckhdnlfajbaaDoor
