/-
  The law Once.
-/
import Derived.Test.YtnanjomnldfidaaDoorNamed
import Derived.Test.YtnanjomnldfidaaDoorOncePure
set_option linter.unusedSimpArgs false
set_option linter.unusedVariables false
set_option linter.unusedSectionVars false
namespace Go.Proofs.YtnanjomnldfidaaDoor
open Go.ChangeShapes Go.WideShapes Go.ChangeAt Go.RowKit
open Go.ChangeMaps (open_string shut_string)

theorem once_cells {s : ByteArray} (h : Fit s) {b : BoxV} (hb : FitB b) : ∃ x y a c d x2 y2 a2 c2 d2 y3 a3, runCells s b = five x y a c d ∧ (c ≤ b.fuel) ∧ (0 ≤ c ∧ c ≤ 100000) ∧ runCells (textU s) { b with fuel := b.fuel + 4 } = five x2 y2 a2 c2 d2 ∧
    runCells (textW s) { b with fuel := b.fuel + 4 } = five ⟨#[]⟩ y3 a3 2 0 ∧ (d = 0 → d2 = 8 ∨ (x2 = x ∧ y2 = y ∧ a2 = a ∧ c2 = c + 2 ∧ d2 = d)) := by
  have f1 := hb.fuel
  have f2 := hb.fuel'
  have h1 := runCells_dev s b h.ok hb.image (by omega) hb.inp
  obtain ⟨n1, _, hP⟩ := until_read h
  obtain ⟨k1, _⟩ := while_read h
  have h2 := runCells_dev (textU s) { b with fuel := b.fuel + 4 } n1 hb.image (by show b.fuel + 4 ≤ 10000; omega) hb.inp
  have h3 := runCells_dev (textW s) { b with fuel := b.fuel + 4 } k1 hb.image (by show b.fuel + 4 ≤ 10000; omega) hb.inp
  obtain ⟨p1, p2⟩ := until_pure h hb
  obtain ⟨t1, t2, t3⟩ := while_pure h hb
  obtain ⟨g1, _, _, _⟩ := plain_run (stepInv_dev h.laid) hP (measN (stepsOf s).length 0 0) (startB b) (h.dev hb) hb.fine (Nat.le_refl _)
  have hr : runD s b = runS (stepsOf s) (measN (stepsOf s).length 0 0) 0 (startB b) := rfl
  rw [← hr] at g1
  generalize runD s b = r at *
  generalize runD (textU s) { b with fuel := b.fuel + 4 } = q at *
  generalize runD (textW s) { b with fuel := b.fuel + 4 } = t at *
  have hu0 := g1.ok.used
  refine ⟨mkB r.2.out, mkB r.2.image, r.2.mark, r.2.used, r.1, mkB q.2.out, mkB q.2.image, q.2.mark, q.2.used, q.1, mkB t.2.image, t.2.mark, h1, p1, ⟨by omega, by omega⟩, h2, ?_, fun h0 => ?_⟩
  · rw [h3]
    unfold resCells five
    rw [t1, t2, t3]
    rfl
  · rcases p2 h0 with hh | hh
    · exact .inl hh
    · exact .inr ⟨by rw [hh.out], by rw [hh.image], hh.mark, hh.used, hh.err⟩

set_option maxRecDepth 100000 in
set_option maxHeartbeats 6400000 in
theorem once_walk (s : ByteArray) (b : BoxV) (w : World) (hs : s.size ≤ maxLen) (hin : b.inp.size ≤ maxLen) (hsi : b.image.size ≤ maxLen) (hT : WordsAt w 2 listedL) :
    Calls Tryd.prog 8 #[.string s, b.val] w fun e w' => e = .returned (.bool true) ∧ Below w.heap.size w w' := by
  have l1 := words_lt hT (by decide)
  have HR := hide (fun w1 (hk : Kept (fun k => k < w.heap.size) w w1) => run_of (u := s) (b := b) (w1 := w1) hs hin hsi hT hk)
  have HQ := hide (fun (h : s.size ≤ 368) w1 (hk : Kept (fun k => k < w.heap.size) w w1) => run_of (u := textU s) (b := { b with fuel := b.fuel + 4 }) (w1 := w1) (by rw [textU_size]; unfold maxLen; omega) hin hsi hT hk)
  have HS := hide (fun (h : s.size ≤ 368) w1 (hk : Kept (fun k => k < w.heap.size) w w1) => run_of (u := textW s) (b := { b with fuel := b.fuel + 4 }) (w1 := w1) (by rw [textW_size]; unfold maxLen; omega) hin hsi hT hk)
  have HC := hide (fun (h : Fit s) (h1 : b.image.size ≤ 256) (h2 : 0 ≤ b.fuel) (h3 : b.fuel ≤ 9992) => once_cells h ⟨hin, h1, h2, h3⟩)
  have hbs : b.val = .agg #[.string b.inp, .string b.image, .int .i64 b.kernel, .int .i64 b.secret, .int .i64 b.rights, .int .i64 b.fuel] := rfl
  have hbs2 : ({ b with fuel := b.fuel + 4 } : BoxV).val = .agg #[.string b.inp, .string b.image, .int .i64 b.kernel, .int .i64 b.secret, .int .i64 b.rights, .int .i64 (b.fuel + 4)] := rfl
  obtain ⟨w0, hw0⟩ : ∃ w0, w0 = w.alloc (.cells #[.string b.inp, .string b.image, .int .i64 b.kernel, .int .i64 b.secret, .int .i64 b.rights, .int .i64 b.fuel] 30) := ⟨_, rfl⟩
  have hk0 : Kept (fun k => k < w.heap.size) w w0 := by rw [hw0]; exact (Kept.refl _ w).alloc _
  have hb0 : w0.heap[w.heap.size]? = some (.cells #[.string b.inp, .string b.image, .int .i64 b.kernel, .int .i64 b.secret, .int .i64 b.rights, .int .i64 b.fuel] 30 (0, 0)) := by rw [hw0]; exact heap_alloc_new w _
  have hs0 : w0.heap.size = w.heap.size + 1 := by rw [hw0]; simp
  have HF := hide (fits_any s b w0 (fun k => k < w0.heap.size) (fun k hk => hk) hs hsi (hT.kept hk0 l1 l1) (by show _ < w0.heap.size; omega))
  rw [hbs] at HR HF ⊢
  rw [hbs2] at HQ HS
  generalize runCells s b = rc at HR HC
  generalize runCells (textU s) { b with fuel := b.fuel + 4 } = qc at HQ HC
  generalize runCells (textW s) { b with fuel := b.fuel + 4 } = tc at HS HC
  unfold FitsPost at HF
  unfold RunPost at HR HQ HS
  unfold textU at HQ
  unfold textW at HS
  generalize b.inp = bi at *
  generalize b.image = bm at *
  generalize b.kernel = bk at *
  generalize b.secret = bs at *
  generalize b.rights = br at *
  generalize b.fuel = bf at *
  have HK0 := hide hk0
  have HB0 := hide hb0
  have HW := hide hw0
  clear hT hk0 hb0 hw0 hbs hbs2
  go_enter Tryd.func8, Tryd.ntmps8
  go_wp2_with fail
  rw [show w.alloc (.cells #[.string bi, .string bm, .int .i64 bk, .int .i64 bs, .int .i64 br, .int .i64 bf] 30) = w0 from HW.out.symm]
  refine (unhide HF).mono ?_
  rintro e w1 ⟨v, rfl, hv, k1⟩
  have hb1 := k1.at' HB0.out (by show _ < w0.heap.size; omega)
  have hlt1 := lt_of_block hb1
  obtain ⟨⟨e0, e1, e2, e3, e4, e5⟩, _⟩ := six_cells hb1
  have kk1 : Kept (fun k => k < w.heap.size) w w1 := HK0.out.trans (k1.mono fun k hk => by show k < w0.heap.size; omega)
  have HV := hide hv
  have HB1 := hide hb1
  have HK1 := hide kk1
  clear HF HW HB0 HK0 k1 hv hb1 kk1 hs0
  cases v with
  | false =>
    clear HR HQ HS HC HV HB1
    have hbel := hide (HK1.out.below (Nat.le_refl _))
    clear HK1
    go_wp2
    go_ret
    exact ⟨rfl, hbel.out⟩
  | true =>
    obtain ⟨hfit, q1, q2, q3⟩ := HV.out rfl
    obtain ⟨x, y, a, c, d, x2, y2, a2, c2, d2, y3, a3, h1, h6, hc, hq, ht, hdd⟩ := (unhide HC) hfit q1 q2 q3
    have hsz := hfit.size
    subst h1
    subst hq
    subst ht
    have HC1 := hide ((unhide HR) w1 HK1.out)
    have HQ' := hide ((unhide HQ) hsz)
    have HS' := hide ((unhide HS) hsz)
    have H6 := hide h6
    have HDD := hide hdd
    clear HC HR HQ HS HV hfit h6 hdd
    unfold five at HC1 HQ' HS'
    go_wp2_with fail
    refine (unhide HC1).mono ?_
    rintro e w2 ⟨rfl, k2⟩
    obtain ⟨w3, hw3⟩ : ∃ w3, w3 = w2.alloc (.cells #[.string x, .string y, .int .i64 a, .int .i64 c, .int .i64 d] 32) := ⟨_, rfl⟩
    have kk2 : Kept (fun k => k < w.heap.size) w w2 := HK1.out.trans (k2.mono fun k hk => by show k < w1.heap.size; omega)
    have kk3 : Kept (fun k => k < w.heap.size) w w3 := by rw [hw3]; exact kk2.alloc _
    have hb2 := k2.at' HB1.out (by show _ < w1.heap.size; omega)
    have hl2 := lt_of_block hb2
    have hb3 : w3.heap[w.heap.size]? = some (.cells #[.string bi, .string bm, .int .i64 bk, .int .i64 bs, .int .i64 br, .int .i64 bf] 30 (0, 0)) := by rw [hw3]; exact alloc_block hb2
    have hr3 : w3.heap[w2.heap.size]? = some (.cells #[.string x, .string y, .int .i64 a, .int .i64 c, .int .i64 d] 32 (0, 0)) := by rw [hw3]; exact heap_alloc_new w2 _
    have HB3 := hide hb3
    have HR3 := hide hr3
    have HK3 := hide kk3
    have HW3 := hide hw3
    clear HC1 HB1 HK1 k2 kk2 kk3 hb3 hr3 hw3 hb2 e0 e1 e2 e3 e4 e5
    go_wp2_with fail
    rw [show w2.alloc (.cells #[.string x, .string y, .int .i64 a, .int .i64 c, .int .i64 d] 32) = w3 from HW3.out.symm]
    refine (num_any d w3).mono ?_
    rintro e w3' ⟨rfl, rfl⟩
    clear HW3
    obtain ⟨⟨e0, e1, e2, e3, e4, e5⟩, ef⟩ := six_cells HB3.out
    obtain ⟨⟨g0, g1, g2, g3, g4⟩, _⟩ := set5_cells HR3.out
    have hl3 := lt_of_block HB3.out
    have hl3' := lt_of_block HR3.out
    by_cases hd : d = 0
    · have hdb : (d != 0) = false := by rw [hd]; rfl
      have HD2 := hide (HDD.out hd)
      obtain ⟨w4, hw4⟩ : ∃ w4, w4 = w3'.setCell ⟨w.heap.size, 5, none⟩ (.int .i64 (bf + 4)) := ⟨_, rfl⟩
      have hb4 := six_fuel HB3.out (.int .i64 (bf + 4))
      have hr4 := set_other HR3.out (show w2.heap.size ≠ w.heap.size by omega) (.int .i64 (bf + 4))
      have kk4 : Kept (fun k => k < w.heap.size) w w4 := by rw [hw4]; exact HK3.out.setCell (p := ⟨w.heap.size, 5, none⟩) (show ¬ w.heap.size < w.heap.size by omega) _
      rw [← hw4] at hb4 hr4
      have HC2 := hide ((unhide HQ') w4 kk4)
      have HB4 := hide hb4
      have HR4 := hide hr4
      have HK4 := hide kk4
      have HW4 := hide hw4
      have HD := hide hd
      clear HQ' HDD H6 HK3 HB3 HR3 hb4 hr4 kk4 hw4 hd
      go_wp2_with fail
      rw [show w3'.setCell ⟨w.heap.size, 5, none⟩ (.int .i64 (bf + 4)) = w4 from HW4.out.symm]
      refine (unhide HC2).mono ?_
      rintro e w5 ⟨rfl, k5⟩
      obtain ⟨w6, hw6⟩ : ∃ w6, w6 = w5.alloc (.cells #[.string x2, .string y2, .int .i64 a2, .int .i64 c2, .int .i64 d2] 32) := ⟨_, rfl⟩
      have hl4 := lt_of_block HR4.out
      have hl4' := lt_of_block HB4.out
      have hr5 := k5.at' HR4.out (show w2.heap.size < w4.heap.size from hl4)
      have hb5 := k5.at' HB4.out (show w.heap.size < w4.heap.size from hl4')
      have hl5 := lt_of_block hr5
      have hl5' := lt_of_block hb5
      obtain ⟨⟨i0, i1, i2, i3, i4⟩, _⟩ := set5_cells hr5
      obtain ⟨⟨o0, o1, o2, o3, o4, o5⟩, _⟩ := six_cells hb5
      have kk5 : Kept (fun k => k < w.heap.size) w w5 := HK4.out.trans (k5.mono fun k hk => by show k < w4.heap.size; omega)
      have kk6 : Kept (fun k => k < w.heap.size) w w6 := by rw [hw6]; exact kk5.alloc _
      have hs6 : w6.heap.size = w5.heap.size + 1 := by rw [hw6]; simp
      have hr6 : w6.heap[w2.heap.size]? = some (.cells #[.string x, .string y, .int .i64 a, .int .i64 c, .int .i64 d] 32 (0, 0)) := by rw [hw6]; exact alloc_block hr5
      have hq6 : w6.heap[w5.heap.size]? = some (.cells #[.string x2, .string y2, .int .i64 a2, .int .i64 c2, .int .i64 d2] 32 (0, 0)) := by rw [hw6]; exact heap_alloc_new w5 _
      have HC3 := hide ((unhide HS') w6 kk6)
      have HR6 := hide hr6
      have HQ6 := hide hq6
      have HK6 := hide kk6
      have HW6 := hide hw6
      clear HC2 HS' HB4 HR4 HK4 HW4 k5 hr5 hb5 kk5 kk6 hw6 hr6 hq6 e0 e1 e2 e3 e4 e5 ef g0 g1 g2 g3 g4
      go_wp2_with fail
      rw [show w5.alloc (.cells #[.string x2, .string y2, .int .i64 a2, .int .i64 c2, .int .i64 d2] 32) = w6 from HW6.out.symm]
      refine (unhide HC3).mono ?_
      rintro e w7 ⟨rfl, k7⟩
      obtain ⟨w8, hw8⟩ : ∃ w8, w8 = w7.alloc (.cells #[.string ⟨#[]⟩, .string y3, .int .i64 a3, .int .i64 2, .int .i64 0] 32) := ⟨_, rfl⟩
      have hr7 := k7.at' HR6.out (show w2.heap.size < w6.heap.size by omega)
      have hq7 := k7.at' HQ6.out (show w5.heap.size < w6.heap.size by omega)
      have hr8 : w8.heap[w2.heap.size]? = some (.cells #[.string x, .string y, .int .i64 a, .int .i64 c, .int .i64 d] 32 (0, 0)) := by rw [hw8]; exact alloc_block hr7
      have hq8 : w8.heap[w5.heap.size]? = some (.cells #[.string x2, .string y2, .int .i64 a2, .int .i64 c2, .int .i64 d2] 32 (0, 0)) := by rw [hw8]; exact alloc_block hq7
      have ht8 : w8.heap[w7.heap.size]? = some (.cells #[.string ⟨#[]⟩, .string y3, .int .i64 a3, .int .i64 2, .int .i64 0] 32 (0, 0)) := by rw [hw8]; exact heap_alloc_new w7 _
      have hl7 := lt_of_block hr7
      have hl7' := lt_of_block hq7
      obtain ⟨⟨m0, m1, m2, m3, m4⟩, _⟩ := set5_cells hq7
      have kk7 : Kept (fun k => k < w.heap.size) w w7 := HK6.out.trans (k7.mono fun k hk => by show k < w6.heap.size; omega)
      have kk8 : Kept (fun k => k < w.heap.size) w w8 := by rw [hw8]; exact kk7.alloc _
      have HK8 := hide kk8
      have HW8 := hide hw8
      have HR8 := hide hr8
      have HQ8 := hide hq8
      have HT8 := hide ht8
      clear HC3 HR6 HQ6 HK6 HW6 k7 hr7 hq7 kk7 kk8 hw8 hr8 ht8 hq8 i0 i1 i2 i3 i4 o0 o1 o2 o3 o4 o5
      go_wp2_with fail
      rw [show w7.alloc (.cells #[.string ⟨#[]⟩, .string y3, .int .i64 a3, .int .i64 2, .int .i64 0] 32) = w8 from HW8.out.symm]
      refine (num_any d2 w8).mono ?_
      rintro e w8' ⟨rfl, rfl⟩
      clear HW8 m0 m1 m2 m3 m4
      obtain ⟨⟨j0, j1, j2, j3, j4⟩, _⟩ := set5_cells HR8.out
      obtain ⟨⟨m0, m1, m2, m3, m4⟩, _⟩ := set5_cells HQ8.out
      have hl8 := lt_of_block HR8.out
      have hl8' := lt_of_block HQ8.out
      have hl8'' := lt_of_block HT8.out
      rcases HD2.out with h8 | ⟨hx, hy, ha, hcc, hd2⟩
      · have b1 : (d2 != 0) = true := by rw [h8]; rfl
        have b2 : (d2 == 8) = true := by rw [h8]; rfl
        have hbel := hide (HK8.out.below (Nat.le_refl _))
        have hnum := hide (fun w' => num_any d2 w')
        clear HK8 HR8 HQ8 HT8 HD2 h8 hc HD
        go_wp2_with (go_at_call 11; refine ((unhide hnum) _).mono ?_; rintro e w9 ⟨rfl, rfl⟩)
        go_ret
        exact ⟨rfl, hbel.out⟩
      · subst hx
        subst hy
        subst ha
        subst hd2
        have HG := hide (grown_yes x2 y2 a2 c c2 d2 0 2 2 w8' (fun k => k < w8'.heap.size) (by rw [if_pos HD.out]; rfl) hcc (by decide) (by decide) hc)
        have hnum := hide (fun w' => num_any 0 w')
        have HK8' := hide HK8.out
        clear HD2 hc HD hcc
        go_wp2_with fail
        refine (unhide HG).mono ?_
        rintro e w9 ⟨rfl, k9⟩
        have ht9 := k9.at' HT8.out hl8''
        have hl9 := lt_of_block ht9
        obtain ⟨⟨y0, y1, y2', y3', y4⟩, _⟩ := set5_cells ht9
        have hbel := hide ((HK8.out.trans (k9.mono fun k hk => by have := HK8.out.size; show k < w8'.heap.size; omega)).below (Nat.le_refl _))
        clear HG HK8 HK8' HR8 HQ8 HT8 k9 ht9 j0 j1 j2 j3 j4 m0 m1 m2 m3 m4
        go_wp2_with (go_at_call 11; refine ((unhide hnum) _).mono ?_; rintro e w10 ⟨rfl, rfl⟩)
        go_ret
        exact ⟨rfl, hbel.out⟩
    · have hdb : (d != 0) = true := by simpa using hd
      have hcb : c ≤ bf := H6.out
      have hbel := hide (HK3.out.below (Nat.le_refl _))
      clear HK3 HB3 HR3 H6 HDD HQ' HS' hd
      go_wp2
      go_ret
      exact ⟨rfl, hbel.out⟩

theorem table_once {W : World} (h : laidMetH Tryd.prog Rows.onceRow.laid W) : WordsAt W 2 listedL := by
  have h' : laidMet Tryd.prog Rows.onceRow.laid W := h
  obtain ⟨ps, hv, _⟩ := h'
  exact words_of_laid gListed gListedT Tryd.underlying80 Tryd.underlying9 cellsStr cellsArr19 _ ps hv List.mem_cons_self

set_option maxRecDepth 100000 in
theorem once_contract (H : Type) (enc : TypeId × Value → H) (W : World) (base : Nat) (args : Array Value) (ds gs : List (DataW H)) (before : List MemPlace)
    (hval : ∀ (j : Nat) t v, Tryd.f8.params[j]? = some t → args[j]? = some v → Value.okWide Tryd.prog W .any base t v)
    (hW : DataW.Whole enc Tryd.prog Tryd.f8.params.toList Rows.onceSpec.vars false W args.toList ds gs before) (hL : laidMetH Tryd.prog Rows.onceRow.laid W) :
    Calls Tryd.prog 8 args W fun e W' => ∃ v, e = .returned v ∧ Rows.onceSpec.post enc Tryd.prog Tryd.f8 false true false false W args v W' := by
  have hW' := hW
  obtain ⟨p, q, hA0, hV, rfl, hfz, hnd⟩ := hW
  have hA : DataW.TrodAll enc Tryd.prog W 0 (fun _ => true) true Tryd.f8.params.toList args.toList ds p := hA0
  rw [Tryd.params8] at hA hval
  obtain ⟨v0, vs0, d0, ds0, p0, q0, hargs, rfl, rfl, h0, r0⟩ := trodAll_cons hA
  obtain ⟨v1, vs1, d1, ds1, p1, q1, hargs1, rfl, rfl, h1, r1⟩ := trodAll_cons r0
  obtain ⟨rfl, rfl, rfl⟩ := trodAll_nil r1
  obtain rfl : args = #[v0, v1] := by cases args; simp_all
  obtain ⟨rfl, rfl⟩ := trodVars_none hV
  obtain ⟨s, rfl, rfl, rfl, hs⟩ := open_string Tryd.underlying9 (hval 0 9 v0 rfl rfl) h0
  obtain ⟨b, rfl, rfl, rfl, hb⟩ := open_box (hval 1 30 v1 rfl rfl) h1
  clear hA0
  simp only [List.append_nil] at hW'
  refine (once_walk s b W hs hb.inp hb.image (table_once hL)).mono fun e W' ⟨he, hg⟩ => ?_
  subst he
  refine ⟨_, rfl, _, _, _, [], [], [], hW', ?_, ?_, rfl, hg.frame _, fun h => by cases h⟩
  · exact trodAll_cons_mk (shut_bool Tryd.underlying4 _) trodAll_mk0
  · exact trodAll_cons_mk (shut_string Tryd.underlying9 hs) (trodAll_cons_mk (shut_box b hb) trodAll_mk0)
end Go.Proofs.YtnanjomnldfidaaDoor
