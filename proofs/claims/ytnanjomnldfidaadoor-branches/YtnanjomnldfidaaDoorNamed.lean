/-
  The law Named.
-/
import Derived.Test.YtnanjomnldfidaaDoorOutright
set_option linter.unusedSimpArgs false
set_option linter.unusedVariables false
set_option linter.unusedSectionVars false
namespace Go.Proofs.YtnanjomnldfidaaDoor
open Go.ChangeShapes Go.WideShapes Go.ChangeAt Go.RowKit
open Go.ChangeMaps (open_string shut_string)

/-- A result's cells. -/
def five (x y : ByteArray) (a c d : Int) : Array Value := #[.string x, .string y, .int .i64 a, .int .i64 c, .int .i64 d]
theorem six_cells {w : World} {g : Nat} {a b c d e f : Value} {t : TypeId} (h : w.heap[g]? = some (.cells #[a, b, c, d, e, f] t (0, 0))) :
    (w.cell? ⟨g, 0, none⟩ = some a ∧ w.cell? ⟨g, 1, none⟩ = some b ∧ w.cell? ⟨g, 2, none⟩ = some c ∧ w.cell? ⟨g, 3, none⟩ = some d ∧ w.cell? ⟨g, 4, none⟩ = some e ∧ w.cell? ⟨g, 5, none⟩ = some f) ∧ w.frozen? ⟨g, 5, none⟩ = false :=
  ⟨⟨cell_of_block h 0 _ rfl, cell_of_block h 1 _ rfl, cell_of_block h 2 _ rfl, cell_of_block h 3 _ rfl, cell_of_block h 4 _ rfl, cell_of_block h 5 _ rfl⟩, frozen_of_row _ _ _ _ _ h⟩
theorem six_fuel {w : World} {g : Nat} {a b c d e f : Value} {t : TypeId} (h : w.heap[g]? = some (.cells #[a, b, c, d, e, f] t (0, 0))) (v : Value) : (w.setCell ⟨g, 5, none⟩ v).heap[g]? = some (.cells #[a, b, c, d, e, v] t (0, 0)) := by
  rw [heap_setCell_same _ _ _ _ _ _ h]; rfl
theorem set_other {w : World} {g k : Nat} {o : Obj} (h : w.heap[k]? = some o) (hk : k ≠ g) (v : Value) : (w.setCell ⟨g, 5, none⟩ v).heap[k]? = some o :=
  ((Kept.refl (fun j => j ≠ g) w).setCell (p := ⟨g, 5, none⟩) (fun hh => hh rfl) v).at' h hk

/-- A run of a program that is read well, within the limits. -/
theorem run_of {u : ByteArray} {b : BoxV} {w w1 : World} (hu : u.size ≤ maxLen) (hin : b.inp.size ≤ maxLen) (hsi : b.image.size ≤ maxLen) (hT : WordsAt w 2 listedL) (hk : Kept (fun k => k < w.heap.size) w w1) :
    Calls Tryd.prog 12 #[.string u, b.val] w1 (RunPost (fun k => k < w1.heap.size) (runCells u b) w1) := by
  have l1 := words_lt hT (by decide)
  exact lawRun_any (P := fun k => k < w1.heap.size) (fun k hk => hk) hu hin hsi (hT.kept hk l1 l1) (show 2 < w1.heap.size from Nat.lt_of_lt_of_le l1 hk.size)

theorem named_cells {s : ByteArray} (h : Fit s) {b : BoxV} (hb : FitB b) : ∃ x y a c d c2 n, runCells s b = five x y a c d ∧ (d = 6 → c = b.fuel) ∧ (0 ≤ c ∧ c ≤ 100000) ∧
    (d ≠ 6 → runCells (textN s) { b with fuel := b.fuel + 2 } = five x y a c2 d ∧ n = (if d = 0 then (1 : Int) + 1 else 1) ∧ c2 = c + n) := by
  have f1 := hb.fuel
  have f2 := hb.fuel'
  have h1 := runCells_dev s b h.ok hb.image (by omega) hb.inp
  have hn := (named_read h).1
  have h2 := runCells_dev (textN s) { b with fuel := b.fuel + 2 } hn hb.image (by show b.fuel + 2 ≤ 10000; omega) hb.inp
  obtain ⟨p1, p2⟩ := named_pure h hb
  obtain ⟨g1, g2, _, _⟩ := plain_run (stepInv_dev h.laid) (named_read h).2.2 (measN (stepsOf s).length 0 0) (startB b) (h.dev hb) hb.fine (Nat.le_refl _)
  have hr : runD s b = runS (stepsOf s) (measN (stepsOf s).length 0 0) 0 (startB b) := rfl
  rw [← hr] at g1 g2
  have hfu := fuel_is hb
  generalize runD s b = r at *
  generalize runD (textN s) { b with fuel := b.fuel + 2 } = q at *
  have hu := g1.used
  have hu0 := g1.ok.used
  refine ⟨mkB r.2.out, mkB r.2.image, r.2.mark, r.2.used, r.1, q.2.used, (if r.1 = 0 then (1 : Int) + 1 else 1), h1, p1, ⟨by omega, by omega⟩, fun h6 => ⟨?_, rfl, ?_⟩⟩
  · have := p2 h6
    rw [h2]
    unfold resCells five
    rw [this.err, this.out, this.image, this.mark]
  · exact (p2 h6).used

set_option maxRecDepth 100000 in
set_option maxHeartbeats 3200000 in
theorem named_walk (s : ByteArray) (b : BoxV) (w : World) (hs : s.size ≤ maxLen) (hin : b.inp.size ≤ maxLen) (hsi : b.image.size ≤ maxLen) (hT : WordsAt w 2 listedL) :
    Calls Tryd.prog 6 #[.string s, b.val] w fun e w' => e = .returned (.bool true) ∧ Below w.heap.size w w' := by
  have l1 := words_lt hT (by decide)
  have HR := hide (fun w1 (hk : Kept (fun k => k < w.heap.size) w w1) => run_of (u := s) (b := b) (w1 := w1) hs hin hsi hT hk)
  have HQ := hide (fun (h : s.size ≤ 368) w1 (hk : Kept (fun k => k < w.heap.size) w w1) => run_of (u := textN s) (b := { b with fuel := b.fuel + 2 }) (w1 := w1) (by rw [textN_size]; unfold maxLen; omega) hin hsi hT hk)
  have HC := hide (fun (h : Fit s) (h1 : b.image.size ≤ 256) (h2 : 0 ≤ b.fuel) (h3 : b.fuel ≤ 9992) => named_cells h ⟨hin, h1, h2, h3⟩)
  have hbs : b.val = .agg #[.string b.inp, .string b.image, .int .i64 b.kernel, .int .i64 b.secret, .int .i64 b.rights, .int .i64 b.fuel] := rfl
  have hbs2 : ({ b with fuel := b.fuel + 2 } : BoxV).val = .agg #[.string b.inp, .string b.image, .int .i64 b.kernel, .int .i64 b.secret, .int .i64 b.rights, .int .i64 (b.fuel + 2)] := rfl
  obtain ⟨w0, hw0⟩ : ∃ w0, w0 = w.alloc (.cells #[.string b.inp, .string b.image, .int .i64 b.kernel, .int .i64 b.secret, .int .i64 b.rights, .int .i64 b.fuel] 30) := ⟨_, rfl⟩
  have hk0 : Kept (fun k => k < w.heap.size) w w0 := by rw [hw0]; exact (Kept.refl _ w).alloc _
  have hb0 : w0.heap[w.heap.size]? = some (.cells #[.string b.inp, .string b.image, .int .i64 b.kernel, .int .i64 b.secret, .int .i64 b.rights, .int .i64 b.fuel] 30 (0, 0)) := by rw [hw0]; exact heap_alloc_new w _
  have hs0 : w0.heap.size = w.heap.size + 1 := by rw [hw0]; simp
  have HF := hide (fits_any s b w0 (fun k => k < w0.heap.size) (fun k hk => hk) hs hsi (hT.kept hk0 l1 l1) (by show _ < w0.heap.size; omega))
  rw [hbs] at HR HF ⊢
  rw [hbs2] at HQ
  generalize runCells s b = rc at HR HC
  generalize runCells (textN s) { b with fuel := b.fuel + 2 } = qc at HQ HC
  unfold FitsPost at HF
  unfold RunPost at HR HQ
  unfold textN at HQ
  generalize b.inp = bi at *
  generalize b.image = bm at *
  generalize b.kernel = bk at *
  generalize b.secret = bs at *
  generalize b.rights = br at *
  generalize b.fuel = bf at *
  have HK0 := hide hk0
  have HB0 := hide hb0
  have HW := hide hw0
  clear hT hk0 hb0 hw0 hbs hbs2
  go_enter Tryd.func6, Tryd.ntmps6
  go_wp2_with fail
  rw [show w.alloc (.cells #[.string bi, .string bm, .int .i64 bk, .int .i64 bs, .int .i64 br, .int .i64 bf] 30) = w0 from HW.out.symm]
  refine (unhide HF).mono ?_
  rintro e w1 ⟨v, rfl, hv, k1⟩
  have hb1 := k1.at' HB0.out (by show _ < w0.heap.size; omega)
  have hlt1 := lt_of_block hb1
  obtain ⟨⟨e0, e1, e2, e3, e4, e5⟩, _⟩ := six_cells hb1
  have kk1 : Kept (fun k => k < w.heap.size) w w1 := HK0.out.trans (k1.mono fun k hk => by show k < w0.heap.size; omega)
  have HV := hide hv
  have HB1 := hide hb1
  have HK1 := hide kk1
  clear HF HW HB0 HK0 k1 hv hb1 kk1 hs0
  cases v with
  | false =>
    clear HR HQ HC HV HB1
    have hbel := hide (HK1.out.below (Nat.le_refl _))
    clear HK1
    go_wp2
    go_ret
    exact ⟨rfl, hbel.out⟩
  | true =>
    obtain ⟨hfit, q1, q2, q3⟩ := HV.out rfl
    obtain ⟨x, y, a, c, d, c2, n, h1, h6, hc, hq⟩ := (unhide HC) hfit q1 q2 q3
    have hsz := hfit.size
    subst h1
    have HC1 := hide ((unhide HR) w1 HK1.out)
    have HQ' := hide ((unhide HQ) hsz)
    have HFIT := hide hfit
    have H6 := hide h6
    have HQQ := hide hq
    clear HC HR HQ HV hfit h6 hq HFIT
    unfold five at HC1
    go_wp2_with fail
    refine (unhide HC1).mono ?_
    rintro e w2 ⟨rfl, k2⟩
    obtain ⟨w3, hw3⟩ : ∃ w3, w3 = w2.alloc (.cells #[.string x, .string y, .int .i64 a, .int .i64 c, .int .i64 d] 32) := ⟨_, rfl⟩
    have kk2 : Kept (fun k => k < w.heap.size) w w2 := HK1.out.trans (k2.mono fun k hk => by show k < w1.heap.size; omega)
    have kk3 : Kept (fun k => k < w.heap.size) w w3 := by rw [hw3]; exact kk2.alloc _
    have hb2 := k2.at' HB1.out (by show _ < w1.heap.size; omega)
    have hl2 := lt_of_block hb2
    have hb3 : w3.heap[w.heap.size]? = some (.cells #[.string bi, .string bm, .int .i64 bk, .int .i64 bs, .int .i64 br, .int .i64 bf] 30 (0, 0)) := by rw [hw3]; exact alloc_block hb2
    have hr3 : w3.heap[w2.heap.size]? = some (.cells #[.string x, .string y, .int .i64 a, .int .i64 c, .int .i64 d] 32 (0, 0)) := by rw [hw3]; exact heap_alloc_new w2 _
    have HB3 := hide hb3
    have HR3 := hide hr3
    have HK3 := hide kk3
    have HW3 := hide hw3
    have HK2 := hide kk2
    clear HC1 HB1 HK1 k2 kk2 kk3 hb3 hr3 hw3 hb2 e0 e1 e2 e3 e4 e5
    go_wp2_with fail
    rw [show w2.alloc (.cells #[.string x, .string y, .int .i64 a, .int .i64 c, .int .i64 d] 32) = w3 from HW3.out.symm]
    refine (num_any d w3).mono ?_
    rintro e w3' ⟨rfl, rfl⟩
    clear HW3 HK2
    obtain ⟨⟨e0, e1, e2, e3, e4, e5⟩, ef⟩ := six_cells HB3.out
    obtain ⟨⟨g0, g1, g2, g3, g4⟩, _⟩ := set5_cells HR3.out
    have hl3 := lt_of_block HB3.out
    have hl3' := lt_of_block HR3.out
    by_cases hd : d = 6
    · have hdb : (d == 6) = true := by rw [hd]; rfl
      have hcb : (c == bf) = true := by rw [H6.out hd]; simp
      have hbel := hide (HK3.out.below (Nat.le_refl _))
      clear HK3 HB3 HR3 H6 HQQ HQ' hd
      go_wp2
      go_ret
      exact ⟨rfl, hbel.out⟩
    · have hdb : (d == 6) = false := by simpa using hd
      obtain ⟨hq1, hq2, hq3⟩ := HQQ.out hd
      subst hq1
      obtain ⟨w4, hw4⟩ : ∃ w4, w4 = w3'.setCell ⟨w.heap.size, 5, none⟩ (.int .i64 (bf + 2)) := ⟨_, rfl⟩
      have hb4 := six_fuel HB3.out (.int .i64 (bf + 2))
      have hr4 := set_other HR3.out (show w2.heap.size ≠ w.heap.size by omega) (.int .i64 (bf + 2))
      have kk4 : Kept (fun k => k < w.heap.size) w w4 := by rw [hw4]; exact HK3.out.setCell (p := ⟨w.heap.size, 5, none⟩) (show ¬ w.heap.size < w.heap.size by omega) _
      rw [← hw4] at hb4 hr4
      have HC2 := hide ((unhide HQ') w4 kk4)
      have HB4 := hide hb4
      have HR4 := hide hr4
      have HK4 := hide kk4
      have HW4 := hide hw4
      clear HQ' HQQ H6 HK3 HB3 HR3 hb4 hr4 kk4 hw4 hd
      unfold five at HC2
      go_wp2_with fail
      rw [show w3'.setCell ⟨w.heap.size, 5, none⟩ (.int .i64 (bf + 2)) = w4 from HW4.out.symm]
      refine (unhide HC2).mono ?_
      rintro e w5 ⟨rfl, k5⟩
      obtain ⟨w6, hw6⟩ : ∃ w6, w6 = w5.alloc (.cells #[.string x, .string y, .int .i64 a, .int .i64 c2, .int .i64 d] 32) := ⟨_, rfl⟩
      have hl4 := lt_of_block HR4.out
      have hr5 := k5.at' HR4.out (show w2.heap.size < w4.heap.size from hl4)
      have hl5 := lt_of_block hr5
      obtain ⟨⟨i0, i1, i2, i3, i4⟩, _⟩ := set5_cells hr5
      have kk5 : Kept (fun k => k < w.heap.size) w w5 := HK4.out.trans (k5.mono fun k hk => by show k < w4.heap.size; omega)
      have kk6 : Kept (fun k => k < w.heap.size) w w6 := by rw [hw6]; exact kk5.alloc _
      have HG := hide (grown_yes x y a c c2 d 1 1 n w6 (fun k => k < w.heap.size) hq2 hq3 (by decide) (by decide) hc)
      have HK6 := hide kk6
      have HW6 := hide hw6
      clear HC2 HB4 HR4 HK4 HW4 k5 hr5 kk5 kk6 hw6 e0 e1 e2 e3 e4 e5 ef g0 g1 g2 g3 g4 hq2 hq3 hc
      go_wp2_with fail
      rw [show w5.alloc (.cells #[.string x, .string y, .int .i64 a, .int .i64 c2, .int .i64 d] 32) = w6 from HW6.out.symm]
      refine (unhide HG).mono ?_
      rintro e w7 ⟨rfl, k7⟩
      have hbel := (HK6.out.trans k7).below (Nat.le_refl _)
      clear HG HW6 HK6 k7
      go_wp2
      go_ret
      exact ⟨rfl, hbel⟩

theorem table_named {W : World} (h : laidMetH Tryd.prog Rows.namedRow.laid W) : WordsAt W 2 listedL := by
  have h' : laidMet Tryd.prog Rows.namedRow.laid W := h
  obtain ⟨ps, hv, _⟩ := h'
  exact words_of_laid gListed gListedT Tryd.underlying80 Tryd.underlying9 cellsStr cellsArr19 _ ps hv List.mem_cons_self

set_option maxRecDepth 100000 in
theorem named_contract (H : Type) (enc : TypeId × Value → H) (W : World) (base : Nat) (args : Array Value) (ds gs : List (DataW H)) (before : List MemPlace)
    (hval : ∀ (j : Nat) t v, Tryd.f6.params[j]? = some t → args[j]? = some v → Value.okWide Tryd.prog W .any base t v)
    (hW : DataW.Whole enc Tryd.prog Tryd.f6.params.toList Rows.namedSpec.vars false W args.toList ds gs before) (hL : laidMetH Tryd.prog Rows.namedRow.laid W) :
    Calls Tryd.prog 6 args W fun e W' => ∃ v, e = .returned v ∧ Rows.namedSpec.post enc Tryd.prog Tryd.f6 false true false false W args v W' := by
  have hW' := hW
  obtain ⟨p, q, hA0, hV, rfl, hfz, hnd⟩ := hW
  have hA : DataW.TrodAll enc Tryd.prog W 0 (fun _ => true) true Tryd.f6.params.toList args.toList ds p := hA0
  rw [Tryd.params6] at hA hval
  obtain ⟨v0, vs0, d0, ds0, p0, q0, hargs, rfl, rfl, h0, r0⟩ := trodAll_cons hA
  obtain ⟨v1, vs1, d1, ds1, p1, q1, hargs1, rfl, rfl, h1, r1⟩ := trodAll_cons r0
  obtain ⟨rfl, rfl, rfl⟩ := trodAll_nil r1
  obtain rfl : args = #[v0, v1] := by cases args; simp_all
  obtain ⟨rfl, rfl⟩ := trodVars_none hV
  obtain ⟨s, rfl, rfl, rfl, hs⟩ := open_string Tryd.underlying9 (hval 0 9 v0 rfl rfl) h0
  obtain ⟨b, rfl, rfl, rfl, hb⟩ := open_box (hval 1 30 v1 rfl rfl) h1
  clear hA0
  simp only [List.append_nil] at hW'
  refine (named_walk s b W hs hb.inp hb.image (table_named hL)).mono fun e W' ⟨he, hg⟩ => ?_
  subst he
  refine ⟨_, rfl, _, _, _, [], [], [], hW', ?_, ?_, rfl, hg.frame _, fun h => by cases h⟩
  · exact trodAll_cons_mk (shut_bool Tryd.underlying4 _) trodAll_mk0
  · exact trodAll_cons_mk (shut_string Tryd.underlying9 hs) (trodAll_cons_mk (shut_box b hb) trodAll_mk0)
end Go.Proofs.YtnanjomnldfidaaDoor
