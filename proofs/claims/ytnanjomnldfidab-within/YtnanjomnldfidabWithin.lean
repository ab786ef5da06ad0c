/-
  The law Within.
-/
import Derived.Test.YtnanjomnldfidabLawExec
set_option linter.unusedSimpArgs false
set_option linter.unusedVariables false
set_option linter.unusedSectionVars false
namespace Go.Proofs.Ytnanjomnldfidab
open Go.ChangeShapes Go.WideShapes Go.ChangeAt Go.RowKit
open Go.ChangeMaps (open_string shut_string)

theorem within_cells {s : ByteArray} {b : BoxV} (hin : b.inp.size ≤ maxLen) (h : cleanB s b = true) : ∃ x y a c d, execCells s b = #[.string x, .string y, .int .i64 a, .int .i64 c, .int .i64 d] ∧ 0 ≤ c ∧ c ≤ clampN b.fuel 10000 ∧ x.size ≤ 64 ∧ 0 ≤ a ∧ a < 65536 ∧
    (noRight b.rights 1 = true → x.toList = []) ∧ (noRight b.rights 8 = true → a = 0) ∧ y.size = b.image.size ∧ (x.size : Int) ≤ c := by
  have hc := of_decide_eq_true h
  have hB := exec_within s b hc.2.1 hin
  have hok := hB.fine.ok
  have hf : (execR s b).2.fuel = clampN b.fuel 10000 := by rw [hB.fuel]; rfl
  refine ⟨_, _, _, _, _, clean_cells h, hok.used, by rw [← hf]; exact hB.fine.used, by rw [mkB_size]; exact hok.out, hok.mark, hok.mark', fun hr => by rw [mkB_toList]; exact hB.emit hr, fun hr => hB.mark hr, ?_, by rw [mkB_size]; exact hB.out⟩
  rw [mkB_size, hB.len]; exact toList_len b.image

set_option maxRecDepth 100000 in
set_option maxHeartbeats 1600000 in
theorem within_walk (s : ByteArray) (b : BoxV) (w : World) (hs : s.size ≤ maxLen) (hin : b.inp.size ≤ maxLen) (hsi : b.image.size ≤ maxLen) :
    Calls Try.prog 3 #[.string s, b.val] w fun e w' => e = .returned (.bool true) ∧ Below w.heap.size w w' := by
  have HX := hide (fun w1 (Q : Nat → Prop) (hq : ∀ k, Q k → k < w1.heap.size) => lawExec_any (s := s) (b := b) (w := w1) (P := Q) hq hs hin hsi)
  have HC := hide (fun w1 => clean_any s b w1 hs hsi)
  have HFe := hide (fun w1 => lclamp_any b.fuel 10000 w1)
  have hsc := hide (within_cells (s := s) (b := b) hin)
  unfold RunPost at HX
  generalize cleanB s b = cl at *
  have hbs : b.val = .agg #[.string b.inp, .string b.image, .int .i64 b.kernel, .int .i64 b.secret, .int .i64 b.rights, .int .i64 b.fuel] := rfl
  rw [hbs] at HX HC ⊢
  generalize execCells s b = cells at *
  generalize b.inp = bi at *
  generalize b.image = bm at *
  generalize b.kernel = bk at *
  generalize b.secret = bs at *
  generalize b.rights = br at *
  generalize b.fuel = bf at *
  unfold maxLen at hsi
  obtain ⟨w0, hw0⟩ : ∃ w0, w0 = w.alloc (.cells #[.string bi, .string bm, .int .i64 bk, .int .i64 bs, .int .i64 br, .int .i64 bf] 23) := ⟨_, rfl⟩
  have hk0 : Kept (fun k => k < w.heap.size) w w0 := by rw [hw0]; exact (Kept.refl _ w).alloc _
  have hb0 : w0.heap[w.heap.size]? = some (.cells #[.string bi, .string bm, .int .i64 bk, .int .i64 bs, .int .i64 br, .int .i64 bf] 23 (0, 0)) := by rw [hw0]; exact heap_alloc_new w _
  have hs0 : w0.heap.size = w.heap.size + 1 := by rw [hw0]; simp
  have hc1 := hide ((unhide HC) w0)
  have HK0 := hide hk0
  have HB0 := hide hb0
  have HW := hide hw0
  have HS0 := hide hs0
  clear HC hk0 hb0 hw0 hbs hs0
  cases cl with
  | false =>
    clear hsc HX HFe
    go_enter Try.func3, Try.ntmps3
    go_wp2_with fail
    rw [show w.alloc (.cells #[.string bi, .string bm, .int .i64 bk, .int .i64 bs, .int .i64 br, .int .i64 bf] 23) = w0 from HW.out.symm]
    refine (unhide hc1).mono ?_
    rintro e w1 ⟨rfl, k1⟩
    have hb := (HK0.out.trans k1.all).below (Nat.le_refl _)
    clear hc1 k1 HB0 HK0 HW
    go_wp2
    go_ret
    exact ⟨rfl, hb⟩
  | true =>
    obtain ⟨x, y, a, c, d, h5, hc0, hcf, hxo, ha0, ha1, hem, hmk, hsz, hxc⟩ := (unhide hsc) rfl
    rw [h5] at HX
    generalize clampN bf 10000 = fu at *
    have hqs : ((y.size : Int) == (bm.size : Int)) = true := by rw [hsz]; simp
    have HEM := hide hem
    have HMK := hide hmk
    clear hsc h5 hem hmk hsz
    go_enter Try.func3, Try.ntmps3
    go_wp2_with fail
    rw [show w.alloc (.cells #[.string bi, .string bm, .int .i64 bk, .int .i64 bs, .int .i64 br, .int .i64 bf] 23) = w0 from HW.out.symm]
    refine (unhide hc1).mono ?_
    rintro e w1 ⟨rfl, k1⟩
    have hb1 := k1.at' HB0.out (by show _ < w0.heap.size; have := HS0.out; omega)
    have HB1 := hide hb1
    have hlt1 := lt_of_block hb1
    have e0 : w1.cell? ⟨w.heap.size, 0, none⟩ = some (.string bi) := cell_of_block hb1 0 _ rfl
    have e1 : w1.cell? ⟨w.heap.size, 1, none⟩ = some (.string bm) := cell_of_block hb1 1 _ rfl
    have e2 : w1.cell? ⟨w.heap.size, 2, none⟩ = some (.int .i64 bk) := cell_of_block hb1 2 _ rfl
    have e3 : w1.cell? ⟨w.heap.size, 3, none⟩ = some (.int .i64 bs) := cell_of_block hb1 3 _ rfl
    have e4 : w1.cell? ⟨w.heap.size, 4, none⟩ = some (.int .i64 br) := cell_of_block hb1 4 _ rfl
    have e5 : w1.cell? ⟨w.heap.size, 5, none⟩ = some (.int .i64 bf) := cell_of_block hb1 5 _ rfl
    have kk1 : Kept (fun k => k < w.heap.size) w w1 := HK0.out.trans k1.all
    have hc2 := hide ((unhide HX) w1 (fun k => k < w1.heap.size) (fun k hk => hk))
    have KK1 := hide kk1
    clear hc1 k1 HB0 HK0 HW hb1 kk1 HX
    go_wp2_with fail
    refine (unhide hc2).mono ?_
    rintro e w2 ⟨rfl, k2⟩
    obtain ⟨w3, hw3⟩ : ∃ w3, w3 = w2.alloc (.cells #[.string x, .string y, .int .i64 a, .int .i64 c, .int .i64 d] 27) := ⟨_, rfl⟩
    have hb3 : w3.heap[w.heap.size]? = some (.cells #[.string bi, .string bm, .int .i64 bk, .int .i64 bs, .int .i64 br, .int .i64 bf] 23 (0, 0)) := by rw [hw3]; exact alloc_block (k2.at' HB1.out hlt1)
    have hr3 : w3.heap[w2.heap.size]? = some (.cells #[.string x, .string y, .int .i64 a, .int .i64 c, .int .i64 d] 27 (0, 0)) := by rw [hw3]; exact heap_alloc_new w2 _
    have hb2 := k2.at' HB1.out hlt1
    have hlt2 := lt_of_block hb2
    have hlt3 := lt_of_block hb3
    have hltr := lt_of_block hr3
    have g0 : w2.cell? ⟨w.heap.size, 0, none⟩ = some (.string bi) := cell_of_block hb2 0 _ rfl
    have g1 : w2.cell? ⟨w.heap.size, 1, none⟩ = some (.string bm) := cell_of_block hb2 1 _ rfl
    have g2 : w2.cell? ⟨w.heap.size, 2, none⟩ = some (.int .i64 bk) := cell_of_block hb2 2 _ rfl
    have g3 : w2.cell? ⟨w.heap.size, 3, none⟩ = some (.int .i64 bs) := cell_of_block hb2 3 _ rfl
    have g4 : w2.cell? ⟨w.heap.size, 4, none⟩ = some (.int .i64 br) := cell_of_block hb2 4 _ rfl
    have g5 : w2.cell? ⟨w.heap.size, 5, none⟩ = some (.int .i64 bf) := cell_of_block hb2 5 _ rfl
    have kk3 : Kept (fun k => k < w.heap.size) w w3 := by rw [hw3]; exact (KK1.out.trans k2.all).alloc _
    have KK3 := hide kk3
    have HB3 := hide hb3
    have HR3 := hide hr3
    have hc4 := hide ((unhide HFe) w3)
    have HW3 := hide hw3
    clear hc2 k2 HB1 KK1 hb3 hr3 kk3 hw3 HFe e0 e1 e2 e3 e4 e5 hb2
    go_wp2_with fail
    rw [show w2.alloc (.cells #[.string x, .string y, .int .i64 a, .int .i64 c, .int .i64 d] 27) = w3 from HW3.out.symm]
    refine (unhide hc4).mono ?_
    rintro e w4 ⟨rfl, rfl⟩
    obtain ⟨⟨j0, j1, j2, j3, j4⟩, _⟩ := set5_cells HR3.out
    have i1 : w4.cell? ⟨w.heap.size, 1, none⟩ = some (.string bm) := cell_of_block HB3.out 1 _ rfl
    have i4 : w4.cell? ⟨w.heap.size, 4, none⟩ = some (.int .i64 br) := cell_of_block HB3.out 4 _ rfl
    clear hc4 HB3 HR3 HW3 g0 g1 g2 g3 g4 g5
    by_cases r1 : noRight br 1 = true
    · have hxe : x = ⟨#[]⟩ := eq_mk (HEM.out r1)
      subst hxe
      have b1 : (bits BinOp.and IntKind.i64 br 1 == 0) = true := r1
      by_cases r8 : noRight br 8 = true
      · have hm0 : (a != 0) = false := by rw [HMK.out r8]; rfl
        have b8 : (bits BinOp.and IntKind.i64 br 8 == 0) = true := r8
        clear HEM HMK r1 r8
        go_wp2
        go_ret
        exact ⟨by simp [hqs, hxc], KK3.out.below (Nat.le_refl _)⟩
      · have b8 : (bits BinOp.and IntKind.i64 br 8 == 0) = false := by unfold noRight at r8; simpa using r8
        clear HEM HMK r1 r8
        go_wp2
        go_ret
        exact ⟨by simp [hqs, hxc], KK3.out.below (Nat.le_refl _)⟩
    · have b1 : (bits BinOp.and IntKind.i64 br 1 == 0) = false := by unfold noRight at r1; simpa using r1
      by_cases r8 : noRight br 8 = true
      · have hm0 : (a != 0) = false := by rw [HMK.out r8]; rfl
        have b8 : (bits BinOp.and IntKind.i64 br 8 == 0) = true := r8
        clear HEM HMK r1 r8
        go_wp2
        go_ret
        exact ⟨by simp [hqs, hxc], KK3.out.below (Nat.le_refl _)⟩
      · have b8 : (bits BinOp.and IntKind.i64 br 8 == 0) = false := by unfold noRight at r8; simpa using r8
        clear HEM HMK r1 r8
        go_wp2
        go_ret
        exact ⟨by simp [hqs, hxc], KK3.out.below (Nat.le_refl _)⟩

set_option maxRecDepth 100000 in
theorem within_lifted (os : Os) (started : os.Started) (H : Type) (enc : TypeId × Value → H) :
    ReturnsInHanded {} Try.checked os 3 .any (Rows.withinSpec.pre6 enc Try.prog Try.f3 Rows.withinRow.domain false) (Rows.withinSpec.post enc Try.prog Try.f3 false true false false) := by
  refine returnsInHanded_of_change (C := Try.checked) own2 started (by kernel_rfl) Try.func3
    (ChangeSpec.witness6 (enc := enc) (C := Try.checked) false ⟨#[], #[.string ⟨#[97]⟩, .agg #[.string ⟨#[]⟩, .string ⟨#[]⟩, .int .i64 0, .int .i64 0, .int .i64 0, .int .i64 0]], []⟩ 8 (by kernel_rfl) (by kernel_rfl) (by kernel_rfl) (by kernel_rfl)) ?_
  intro W base args ds gs before hval0 hW _ _
  have hval : ∀ (j : Nat) t v, Try.f3.params[j]? = some t → args[j]? = some v → Value.okWide Try.prog W .any base t v := hval0
  have hW' := hW
  obtain ⟨p, q, hA0, hV, rfl, _, _⟩ := hW
  have hA : DataW.TrodAll enc Try.prog W 0 (fun _ => true) true Try.f3.params.toList args.toList ds p := hA0
  rw [Try.params3] at hA hval
  obtain ⟨v0, vs0, d0, ds0, p0, q0, hargs, rfl, rfl, h0, r0⟩ := trodAll_cons hA
  obtain ⟨v1, vs1, d1, ds1, p1, q1, hargs1, rfl, rfl, h1, r1⟩ := trodAll_cons r0
  obtain ⟨rfl, rfl, rfl⟩ := trodAll_nil r1
  obtain rfl : args = #[v0, v1] := by cases args; simp_all
  obtain ⟨rfl, rfl⟩ := trodVars_none hV
  obtain ⟨s, rfl, rfl, rfl, hs⟩ := open_string Try.underlying9 (hval 0 9 v0 rfl rfl) h0
  obtain ⟨b, rfl, rfl, rfl, hb⟩ := open_box (hval 1 23 v1 rfl rfl) h1
  clear hA0 hval0
  simp only [List.append_nil] at hW'
  refine (within_walk s b W hs hb.inp hb.image).mono fun e W' ⟨he, hg⟩ => ?_
  subst he
  refine ⟨_, rfl, _, _, _, [], [], [], hW', ?_, ?_, rfl, hg.frame _, fun h => by cases h⟩
  · exact trodAll_cons_mk (shut_bool Try.underlying4 _) trodAll_mk0
  · exact trodAll_cons_mk (shut_string Try.underlying9 hs) (trodAll_cons_mk (shut_box b hb) trodAll_mk0)

theorem within_holds : Rows.WithinSaid :=
  OpenClaim.holds_of_wide 3 Try.f3 rfl rfl rfl rfl rfl rfl rfl ⟨rfl, rfl, rfl, rfl, rfl⟩ rfl rfl rfl rfl rfl (by kernel_rfl) Try.func3 (by kernel_rfl)
    (of_decide_eq_true (by kernel_rfl)) (by unfold Func.isWrapper; first | (rw [if_pos (by decide +kernel)]; kernel_rfl) | (rw [if_neg (by decide +kernel)]; exact ⟨rfl, rfl⟩))
    (fun os started H enc _ => within_lifted os started H enc)
end Go.Proofs.Ytnanjomnldfidab
