/-
  The law Compiles.
-/
import Derived.Test.YtnanjomnldfidabDoorCompEq
import Derived.Test.YtnanjomnldfidabDoorCoOrderToCoWrite
import Derived.Test.YtnanjomnldfidabDoorRcExec
import Derived.Test.YtnanjomnldfidabDoorChecks
set_option linter.unusedSimpArgs false
set_option linter.unusedVariables false
set_option linter.unusedSectionVars false
namespace Go.Proofs.YtnanjomnldfidabDoor
open Go.ChangeShapes Go.WideShapes Go.ChangeAt Go.RowKit
open Go.ChangeMaps (open_string shut_string)

theorem tablesC {W : World} (h : laidMetH Tryd.prog Rows.compilesRow.laid W) : WordsAt W 2 listedL ∧ WordsAt W 1 listedL ∧ WordsAt W 0 formsL := by
  have h' : laidMet Tryd.prog Rows.compilesRow.laid W := h
  obtain ⟨ps, hv, _⟩ := h'
  refine ⟨words_of_laid gListed gListedT Tryd.underlying117 Tryd.underlying9 cellsStr cellsArr19 _ ps hv ?_, words_of_laid gRefListed gRefListedT Tryd.underlying117 Tryd.underlying9 cellsStr cellsArr19 _ ps hv ?_, words_of_laid gRefForms gRefFormsT Tryd.underlying115 Tryd.underlying9 cellsStr cellsArr11 _ ps hv ?_⟩
  all_goals (first | exact List.mem_cons_self | exact List.mem_cons_of_mem _ List.mem_cons_self | exact List.mem_cons_of_mem _ (List.mem_cons_of_mem _ List.mem_cons_self) | exact List.mem_cons_of_mem _ (List.mem_cons_of_mem _ (List.mem_cons_of_mem _ List.mem_cons_self)) | exact List.mem_cons_of_mem _ (List.mem_cons_of_mem _ (List.mem_cons_of_mem _ (List.mem_cons_of_mem _ List.mem_cons_self))) | exact List.mem_cons_of_mem _ (List.mem_cons_of_mem _ (List.mem_cons_of_mem _ (List.mem_cons_of_mem _ (List.mem_cons_of_mem _ List.mem_cons_self)))))

set_option maxRecDepth 100000 in
set_option maxHeartbeats 1600000 in
theorem compiles_walk (s : ByteArray) (b : BoxV) (w : World) (hs : s.size ≤ maxLen) (hin : b.inp.size ≤ maxLen) (hsi : b.image.size ≤ maxLen) (hT : WordsAt w 2 listedL) (hL : WordsAt w 1 listedL) (hF : WordsAt w 0 formsL) :
    Calls Tryd.prog 3 #[.string s, b.val] w fun e w' => e = .returned (.bool true) ∧ Below w.heap.size w w' := by
  have l1 := words_lt hT (by decide)
  have l2 := words_lt hL (by decide)
  have l3 := words_lt hF (by decide)
  have HCo := hide (fun w1 (hk : Kept (fun k => k < w.heap.size) w w1) => compile_any s w1 (fun k => k < w1.heap.size) (fun k hk => hk) hs (hT.kept hk l1 l1) (Nat.lt_of_lt_of_le l1 hk.size))
  have HCh := hide (fun w1 (hk : Kept (fun k => k < w.heap.size) w w1) => refCheck_any s w1 (fun k => k < w1.heap.size) (fun k h => h) hs (hF.kept hk l3 l3) (hL.kept hk l2 l2) (Nat.lt_of_lt_of_le l3 hk.size) (Nat.lt_of_lt_of_le l2 hk.size))
  have HRu := hide (fun w1 (hk : Kept (fun k => k < w.heap.size) w w1) => lawRefRun_any (s := s) (b := b) (w := w1) (P := fun k => k < w1.heap.size) (fun k hk => hk) hs hin hsi (hF.kept hk l3 l3) (hL.kept hk l2 l2) (Nat.lt_of_lt_of_le l3 hk.size) (Nat.lt_of_lt_of_le l2 hk.size))
  have heq := check_eq s
  rw [← heq] at HCh
  unfold ChkPost at HCh
  unfold RunPost at HRu
  have hbs : b.val = .agg #[.string b.inp, .string b.image, .int .i64 b.kernel, .int .i64 b.secret, .int .i64 b.rights, .int .i64 b.fuel] := rfl
  obtain ⟨w0, hw0⟩ : ∃ w0, w0 = w.alloc (.cells #[.string b.inp, .string b.image, .int .i64 b.kernel, .int .i64 b.secret, .int .i64 b.rights, .int .i64 b.fuel] 23) := ⟨_, rfl⟩
  have hk0 : Kept (fun k => k < w.heap.size) w w0 := by rw [hw0]; exact (Kept.refl _ w).alloc _
  have hb0 : w0.heap[w.heap.size]? = some (.cells #[.string b.inp, .string b.image, .int .i64 b.kernel, .int .i64 b.secret, .int .i64 b.rights, .int .i64 b.fuel] 23 (0, 0)) := by rw [hw0]; exact heap_alloc_new w _
  have hs0 : w0.heap.size = w.heap.size + 1 := by rw [hw0]; simp
  have hlt0 : w.heap.size < w0.heap.size := by omega
  have hc1 := hide ((unhide HCo) w0 hk0)
  have HK0 := hide hk0
  have HB0 := hide hb0
  have HW := hide hw0
  clear HCo hk0 hb0 hw0 heq hT hL hF hs0
  have hp1 : ((readM s).2.1 : Int) = ((readM s).2.1 : Int) := rfl
  by_cases h0 : (readM s).1 = 0
  · rw [if_pos h0] at hc1
    have hce := codeOf_few h0
    have hcr := code_runs h0 b hin
    have hcw := codeOf_whole h0
    have hcc : mkB (codeI (withH (readM s).2.2.steps)) = codeOf s := rfl
    rw [hcc] at hc1
    have HVe := hide (fun w1 => refVerify_any (codeOf s) (by unfold maxLen; omega) w1)
    have HEx := hide (fun w1 => lawRefExec_any (s := codeOf s) (b := b) (w := w1) (P := fun k => k < w1.heap.size) (fun k hk => hk) (by unfold maxLen; omega) hin hsi)
    unfold VerPost at HVe
    unfold RunPost at HEx
    rw [hcw] at HVe
    rw [hcr] at HEx
    obtain ⟨x, y, a, c, d, h5⟩ := runCells_five s b
    rw [h5] at HEx HRu
    rw [hbs] at HEx HRu ⊢
    have hb1 : ((readM s).1 != (readM s).1) = false := by simp
    have hb2 : (((readM s).2.1 : Int) != ((readM s).2.1 : Int)) = false := by simp
    have hb3 : ((readM s).1 != 0) = false := by rw [h0]; rfl
    clear hcc hcr hcw h5 hce h0 hbs hp1
    generalize codeOf s = co at *
    generalize (readM s).1 = re at *
    generalize ((readM s).2.1 : Int) = rp at *
    generalize b.inp = bi at *
    generalize b.image = bm at *
    generalize b.kernel = bk at *
    generalize b.secret = bs at *
    generalize b.rights = br at *
    generalize b.fuel = bf at *
    have u0 : (x.toList == x.toList) = true := by simp
    have u1 : (y.toList == y.toList) = true := by simp
    have u2 : (a == a) = true := by simp
    have u3 : (c == c) = true := by simp
    have u4 : (d == d) = true := by simp
    go_enter Tryd.func3, Tryd.ntmps3
    go_wp2_with fail
    rw [show w.alloc (.cells #[.string bi, .string bm, .int .i64 bk, .int .i64 bs, .int .i64 br, .int .i64 bf] 23) = w0 from HW.out.symm]
    refine (unhide hc1).mono ?_
    rintro e w1 ⟨rfl, k1⟩
    have kk1 : Kept (fun k => k < w.heap.size) w w1 := HK0.out.trans k1.all
    have HB1 := hide (k1.at' HB0.out hlt0)
    have hlt1 := lt_of_block HB1.out
    have hc2 := hide ((unhide HCh) w1 kk1)
    have KK1 := hide kk1
    clear hc1 HCh HK0 HB0 HW k1 kk1
    go_wp2_with fail
    refine (unhide hc2).mono ?_
    rintro e w2 ⟨rfl, k2⟩
    have kk2 : Kept (fun k => k < w.heap.size) w w2 := KK1.out.trans k2.all
    have HB2 := hide (k2.at' HB1.out hlt1)
    have hlt2 := lt_of_block HB2.out
    have hc3 := hide ((unhide HVe) w2)
    have KK2 := hide kk2
    clear hc2 KK1 HB1 k2 kk2 HVe
    go_wp2_with (go_at_call 10; refine (num_any _ _).mono ?_; rintro e w9 ⟨rfl, rfl⟩)
    refine (unhide hc3).mono ?_
    rintro e w3 ⟨rfl, k3⟩
    have kk3 : Kept (fun k => k < w.heap.size) w w3 := KK2.out.trans k3.all
    have HB3 := hide (k3.at' HB2.out hlt2)
    have hlt3 := lt_of_block HB3.out
    have e0 : w3.cell? ⟨w.heap.size, 0, none⟩ = some (.string bi) := cell_of_block HB3.out 0 _ rfl
    have e1 : w3.cell? ⟨w.heap.size, 1, none⟩ = some (.string bm) := cell_of_block HB3.out 1 _ rfl
    have e2 : w3.cell? ⟨w.heap.size, 2, none⟩ = some (.int .i64 bk) := cell_of_block HB3.out 2 _ rfl
    have e3 : w3.cell? ⟨w.heap.size, 3, none⟩ = some (.int .i64 bs) := cell_of_block HB3.out 3 _ rfl
    have e4 : w3.cell? ⟨w.heap.size, 4, none⟩ = some (.int .i64 br) := cell_of_block HB3.out 4 _ rfl
    have e5 : w3.cell? ⟨w.heap.size, 5, none⟩ = some (.int .i64 bf) := cell_of_block HB3.out 5 _ rfl
    have hc4 := hide ((unhide HRu) w3 kk3)
    have KK3 := hide kk3
    clear hc3 KK2 HB2 k3 kk3 HRu
    go_wp2_with fail
    refine (unhide hc4).mono ?_
    rintro e w4 ⟨rfl, k4⟩
    have HB4 := hide (k4.at' HB3.out hlt3)
    have hlt4 := lt_of_block HB4.out
    have g0 : w4.cell? ⟨w.heap.size, 0, none⟩ = some (.string bi) := cell_of_block HB4.out 0 _ rfl
    have g1 : w4.cell? ⟨w.heap.size, 1, none⟩ = some (.string bm) := cell_of_block HB4.out 1 _ rfl
    have g2 : w4.cell? ⟨w.heap.size, 2, none⟩ = some (.int .i64 bk) := cell_of_block HB4.out 2 _ rfl
    have g3 : w4.cell? ⟨w.heap.size, 3, none⟩ = some (.int .i64 bs) := cell_of_block HB4.out 3 _ rfl
    have g4 : w4.cell? ⟨w.heap.size, 4, none⟩ = some (.int .i64 br) := cell_of_block HB4.out 4 _ rfl
    have g5 : w4.cell? ⟨w.heap.size, 5, none⟩ = some (.int .i64 bf) := cell_of_block HB4.out 5 _ rfl
    obtain ⟨w5, hw5⟩ : ∃ w5, w5 = w4.alloc (.cells #[.string x, .string y, .int .i64 a, .int .i64 c, .int .i64 d] 31) := ⟨_, rfl⟩
    have hr5 : w5.heap[w4.heap.size]? = some (.cells #[.string x, .string y, .int .i64 a, .int .i64 c, .int .i64 d] 31 (0, 0)) := by rw [hw5]; exact heap_alloc_new w4 _
    have KK5 : Hid (Kept (fun k => k < w.heap.size) w w5) := by unfold Hid; rw [hw5]; exact (KK3.out.trans k4.all).alloc _
    have HR5 := hide hr5
    have hltr := lt_of_block hr5
    have hc6 := hide ((unhide HEx) w5)
    have HW5 := hide hw5
    clear hc4 KK3 HB3 HB4 k4 HEx hr5 hw5 e0 e1 e2 e3 e4 e5
    go_wp2_with fail
    rw [show w4.alloc (.cells #[.string x, .string y, .int .i64 a, .int .i64 c, .int .i64 d] 31) = w5 from HW5.out.symm]
    refine (unhide hc6).mono ?_
    rintro e w6 ⟨rfl, k6⟩
    have hr6 := k6.at' HR5.out hltr
    have hltr6 := lt_of_block hr6
    obtain ⟨⟨j0, j1, j2, j3, j4⟩, _⟩ := set5_cells hr6
    have KK6 : Hid (Kept (fun k => k < w.heap.size) w (w6.alloc (.cells #[.string x, .string y, .int .i64 a, .int .i64 c, .int .i64 d] 31))) := (KK5.out.trans k6.all).alloc _
    clear hc6 KK5 HR5 HW5 k6 hr6 g0 g1 g2 g3 g4 g5
    go_wp2
    go_ret
    exact ⟨by simp, KK6.out.below (Nat.le_refl _)⟩
  · rw [if_neg h0] at hc1
    have hb1 : ((readM s).1 != (readM s).1) = false := by simp
    have hb2 : (((readM s).2.1 : Int) != ((readM s).2.1 : Int)) = false := by simp
    have hb3 : ((readM s).1 != 0) = true := bne_iff_ne.2 h0
    rw [hbs]
    clear HRu h0 hbs hp1
    generalize (readM s).1 = re at *
    generalize ((readM s).2.1 : Int) = rp at *
    generalize b.inp = bi at *
    generalize b.image = bm at *
    generalize b.kernel = bk at *
    generalize b.secret = bs at *
    generalize b.rights = br at *
    generalize b.fuel = bf at *
    go_enter Tryd.func3, Tryd.ntmps3
    go_wp2_with fail
    rw [show w.alloc (.cells #[.string bi, .string bm, .int .i64 bk, .int .i64 bs, .int .i64 br, .int .i64 bf] 23) = w0 from HW.out.symm]
    refine (unhide hc1).mono ?_
    rintro e w1 ⟨rfl, k1⟩
    have kk1 : Kept (fun k => k < w.heap.size) w w1 := HK0.out.trans k1.all
    have hc2 := hide ((unhide HCh) w1 kk1)
    have KK1 := hide kk1
    clear hc1 HCh HK0 HB0 HW k1 kk1
    go_wp2_with fail
    refine (unhide hc2).mono ?_
    rintro e w2 ⟨rfl, k2⟩
    have kk2 : Kept (fun k => k < w.heap.size) w w2 := KK1.out.trans k2.all
    have KK2 := hide kk2
    clear hc2 KK1 k2 kk2
    go_wp2_with (go_at_call 10; refine (num_any _ _).mono ?_; rintro e w9 ⟨rfl, rfl⟩)
    go_ret
    exact ⟨rfl, KK2.out.below (Nat.le_refl _)⟩

set_option maxRecDepth 100000 in
/-- What the walk gives, for every argument and every world that holds the tables. -/
theorem compiles_contract (H : Type) (enc : TypeId × Value → H) (W : World) (base : Nat) (args : Array Value) (ds gs : List (DataW H)) (before : List MemPlace)
    (hval : ∀ (j : Nat) t v, Tryd.f3.params[j]? = some t → args[j]? = some v → Value.okWide Tryd.prog W .any base t v)
    (hW : DataW.Whole enc Tryd.prog Tryd.f3.params.toList Rows.compilesSpec.vars false W args.toList ds gs before) (hL : laidMetH Tryd.prog Rows.compilesRow.laid W) :
    Calls Tryd.prog 3 args W fun e W' => ∃ v, e = .returned v ∧ Rows.compilesSpec.post enc Tryd.prog Tryd.f3 false true false false W args v W' := by
  have hW' := hW
  obtain ⟨p, q, hA0, hV, rfl, hfz, hnd⟩ := hW
  have hA : DataW.TrodAll enc Tryd.prog W 0 (fun _ => true) true Tryd.f3.params.toList args.toList ds p := hA0
  rw [Tryd.params3] at hA hval
  obtain ⟨v0, vs0, d0, ds0, p0, q0, hargs, rfl, rfl, h0, r0⟩ := trodAll_cons hA
  obtain ⟨v1, vs1, d1, ds1, p1, q1, hargs1, rfl, rfl, h1, r1⟩ := trodAll_cons r0
  obtain ⟨rfl, rfl, rfl⟩ := trodAll_nil r1
  obtain rfl : args = #[v0, v1] := by cases args; simp_all
  obtain ⟨rfl, rfl⟩ := trodVars_none hV
  obtain ⟨s, rfl, rfl, rfl, hs⟩ := open_string Tryd.underlying9 (hval 0 9 v0 rfl rfl) h0
  obtain ⟨b, rfl, rfl, rfl, hb⟩ := open_box (hval 1 23 v1 rfl rfl) h1
  clear hA0
  simp only [List.append_nil] at hW'
  obtain ⟨t1, t2, t3⟩ := tablesC hL
  refine (compiles_walk s b W hs hb.inp hb.image t1 t2 t3).mono fun e W' ⟨he, hg⟩ => ?_
  subst he
  refine ⟨_, rfl, _, _, _, [], [], [], hW', ?_, ?_, rfl, hg.frame _, fun h => by cases h⟩
  · exact trodAll_cons_mk (shut_bool Tryd.underlying4 _) trodAll_mk0
  · exact trodAll_cons_mk (shut_string Tryd.underlying9 hs) (trodAll_cons_mk (shut_box b hb) trodAll_mk0)
end Go.Proofs.YtnanjomnldfidabDoor
