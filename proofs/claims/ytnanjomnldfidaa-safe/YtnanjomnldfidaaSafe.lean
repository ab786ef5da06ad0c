/-
  The law Safe.
-/
import Derived.Test.YtnanjomnldfidaaLawExec
import Derived.Test.YtnanjomnldfidaaDcVer
set_option linter.unusedSimpArgs false
set_option linter.unusedVariables false
set_option linter.unusedSectionVars false
namespace Go.Proofs.Ytnanjomnldfidaa
open Go.ChangeShapes Go.WideShapes Go.ChangeAt Go.RowKit
open Go.ChangeMaps (open_string shut_string)

theorem safe_cells {s : ByteArray} {b : BoxV} (hv : (verifyC s.toList).1 = 0) : ∃ x y a c d, execCells s b = #[.string x, .string y, .int .i64 a, .int .i64 c, .int .i64 d] ∧ d ≠ 5 ∧ 0 < s.size := by
  have hW := verify_whole hv
  have hpos : 0 < s.size := by rw [← toList_len]; exact List.length_pos_iff.2 hW.ne
  unfold execCells
  by_cases h : 1024 < s.size ∨ 256 < b.image.size ∨ 10000 < b.fuel
  · rw [if_pos h]; exact ⟨_, _, _, _, _, rfl, by decide, hpos⟩
  · rw [if_neg h]
    exact ⟨_, _, _, _, _, rfl, exec_safe hW 10002 0 (startM b) hW.zero (fun c hc => by cases hc), hpos⟩

set_option maxRecDepth 100000 in
set_option maxHeartbeats 1600000 in
theorem safe_walk (s : ByteArray) (b : BoxV) (w : World) (hs : s.size ≤ maxLen) (hin : b.inp.size ≤ maxLen) (hsi : b.image.size ≤ maxLen) :
    Calls Try.prog 5 #[.string s, b.val] w fun e w' => e = .returned (.bool true) ∧ Below w.heap.size w w' := by
  have HX := hide (fun w1 (Q : Nat → Prop) (hq : ∀ k, Q k → k < w1.heap.size) => lawExec_any (s := s) (b := b) (w := w1) (P := Q) hq hs hin hsi)
  have HV := hide (fun w1 => verify_any s hs w1)
  have hsc := hide (safe_cells (s := s) (b := b))
  unfold VerPost at HV
  unfold RunPost at HX
  generalize verifyC s.toList = r at *
  have hbs : b.val = .agg #[.string b.inp, .string b.image, .int .i64 b.kernel, .int .i64 b.secret, .int .i64 b.rights, .int .i64 b.fuel] := rfl
  rw [hbs] at HX ⊢
  generalize execCells s b = cells at *
  generalize b.inp = bi at *
  generalize b.image = bm at *
  generalize b.kernel = bk at *
  generalize b.secret = bs at *
  generalize b.rights = br at *
  generalize b.fuel = bf at *
  obtain ⟨w0, hw0⟩ : ∃ w0, w0 = w.alloc (.cells #[.string bi, .string bm, .int .i64 bk, .int .i64 bs, .int .i64 br, .int .i64 bf] 30) := ⟨_, rfl⟩
  have hk0 : Kept (fun k => k < w.heap.size) w w0 := by rw [hw0]; exact (Kept.refl _ w).alloc _
  have hb0 : w0.heap[w.heap.size]? = some (.cells #[.string bi, .string bm, .int .i64 bk, .int .i64 bs, .int .i64 br, .int .i64 bf] 30 (0, 0)) := by rw [hw0]; exact heap_alloc_new w _
  have hs0 : w0.heap.size = w.heap.size + 1 := by rw [hw0]; simp
  have hc1 := hide ((unhide HV) w0)
  have HK0 := hide hk0
  have HB0 := hide hb0
  have HW := hide hw0
  have HS0 := hide hs0
  clear HV hk0 hb0 hw0 hbs hs0
  by_cases hr : r.1 = 0
  · obtain ⟨x, y, a, c, d, h5, hd5, hpos⟩ := (unhide hsc) hr
    rw [h5] at HX
    have hrb : (r.1 != 0) = false := by rw [hr]; rfl
    have hdb : (d != 5) = true := bne_iff_ne.2 hd5
    have hpb : (0 : Int) < (s.size : Int) := by omega
    clear hsc h5 hr hd5
    go_enter Try.func5, Try.ntmps5
    go_wp2_with fail
    rw [show w.alloc (.cells #[.string bi, .string bm, .int .i64 bk, .int .i64 bs, .int .i64 br, .int .i64 bf] 30) = w0 from HW.out.symm]
    refine (unhide hc1).mono ?_
    rintro e w1 ⟨rfl, k1⟩
    have hb1 := k1.at' HB0.out (by show _ < w0.heap.size; have := HS0.out; omega)
    have hlt1 := lt_of_block hb1
    have e0 : w1.cell? ⟨w.heap.size, 0, none⟩ = some (.string bi) := cell_of_block hb1 0 _ rfl
    have e1 : w1.cell? ⟨w.heap.size, 1, none⟩ = some (.string bm) := cell_of_block hb1 1 _ rfl
    have e2 : w1.cell? ⟨w.heap.size, 2, none⟩ = some (.int .i64 bk) := cell_of_block hb1 2 _ rfl
    have e3 : w1.cell? ⟨w.heap.size, 3, none⟩ = some (.int .i64 bs) := cell_of_block hb1 3 _ rfl
    have e4 : w1.cell? ⟨w.heap.size, 4, none⟩ = some (.int .i64 br) := cell_of_block hb1 4 _ rfl
    have e5 : w1.cell? ⟨w.heap.size, 5, none⟩ = some (.int .i64 bf) := cell_of_block hb1 5 _ rfl
    have kk1 : Kept (fun k => k < w.heap.size) w w1 := HK0.out.trans k1.all
    have hc2 := hide ((unhide HX) w1 (fun k => k < w1.heap.size) (fun k hk => hk))
    have KK1 := hide kk1
    clear hc1 k1 HB0 HK0 HW hb1 kk1 HX
    go_wp2_with (first | (go_at_call 11; refine (num2_any _ _).mono ?_; rintro e w3 ⟨rfl, rfl⟩) | (go_at_call 12; refine (unhide hc2).mono ?_; rintro e w2 ⟨rfl, k2⟩))
    have hb := ((KK1.out.trans k2.all).alloc (.cells #[.string x, .string y, .int .i64 a, .int .i64 c, .int .i64 d] 32)).below (Nat.le_refl _)
    go_ret
    exact ⟨rfl, hb⟩
  · have hrb : (r.1 != 0) = true := bne_iff_ne.2 hr
    clear hsc hr HX
    go_enter Try.func5, Try.ntmps5
    go_wp2_with fail
    rw [show w.alloc (.cells #[.string bi, .string bm, .int .i64 bk, .int .i64 bs, .int .i64 br, .int .i64 bf] 30) = w0 from HW.out.symm]
    refine (unhide hc1).mono ?_
    rintro e w1 ⟨rfl, k1⟩
    have hb := (HK0.out.trans k1.all).below (Nat.le_refl _)
    clear hc1 k1 HB0 HK0 HW
    go_wp2_with (go_at_call 11; refine (num2_any _ _).mono ?_; rintro e w3 ⟨rfl, rfl⟩)
    go_ret
    exact ⟨rfl, hb⟩

set_option maxRecDepth 100000 in
theorem safe_lifted (os : Os) (started : os.Started) (H : Type) (enc : TypeId × Value → H) :
    ReturnsInHanded {} Try.checked os 5 .any (Rows.safeSpec.pre6 enc Try.prog Try.f5 Rows.safeRow.domain false) (Rows.safeSpec.post enc Try.prog Try.f5 false true false false) := by
  refine returnsInHanded_of_change (C := Try.checked) own2 started (by kernel_rfl) Try.func5
    (ChangeSpec.witness6 (enc := enc) (C := Try.checked) false ⟨#[], #[.string ⟨#[97]⟩, .agg #[.string ⟨#[]⟩, .string ⟨#[]⟩, .int .i64 0, .int .i64 0, .int .i64 0, .int .i64 0]], []⟩ 8 (by kernel_rfl) (by kernel_rfl) (by kernel_rfl) (by kernel_rfl)) ?_
  intro W base args ds gs before hval0 hW _ _
  have hval : ∀ (j : Nat) t v, Try.f5.params[j]? = some t → args[j]? = some v → Value.okWide Try.prog W .any base t v := hval0
  have hW' := hW
  obtain ⟨p, q, hA0, hV, rfl, _, _⟩ := hW
  have hA : DataW.TrodAll enc Try.prog W 0 (fun _ => true) true Try.f5.params.toList args.toList ds p := hA0
  rw [Try.params5] at hA hval
  obtain ⟨v0, vs0, d0, ds0, p0, q0, hargs, rfl, rfl, h0, r0⟩ := trodAll_cons hA
  obtain ⟨v1, vs1, d1, ds1, p1, q1, hargs1, rfl, rfl, h1, r1⟩ := trodAll_cons r0
  obtain ⟨rfl, rfl, rfl⟩ := trodAll_nil r1
  obtain rfl : args = #[v0, v1] := by cases args; simp_all
  obtain ⟨rfl, rfl⟩ := trodVars_none hV
  obtain ⟨s, rfl, rfl, rfl, hs⟩ := open_string Try.underlying9 (hval 0 9 v0 rfl rfl) h0
  obtain ⟨b, rfl, rfl, rfl, hb⟩ := open_box (hval 1 30 v1 rfl rfl) h1
  clear hA0 hval0
  simp only [List.append_nil] at hW'
  refine (safe_walk s b W hs hb.inp hb.image).mono fun e W' ⟨he, hg⟩ => ?_
  subst he
  refine ⟨_, rfl, _, _, _, [], [], [], hW', ?_, ?_, rfl, hg.frame _, fun h => by cases h⟩
  · exact trodAll_cons_mk (shut_bool Try.underlying4 _) trodAll_mk0
  · exact trodAll_cons_mk (shut_string Try.underlying9 hs) (trodAll_cons_mk (shut_box b hb) trodAll_mk0)

theorem safe_holds : Rows.SafeSaid :=
  OpenClaim.holds_of_wide 5 Try.f5 rfl rfl rfl rfl rfl rfl rfl ⟨rfl, rfl, rfl, rfl, rfl⟩ rfl rfl rfl rfl rfl (by kernel_rfl) Try.func5 (by kernel_rfl)
    (of_decide_eq_true (by kernel_rfl)) (by unfold Func.isWrapper; first | (rw [if_pos (by decide +kernel)]; kernel_rfl) | (rw [if_neg (by decide +kernel)]; exact ⟨rfl, rfl⟩))
    (fun os started H enc _ => safe_lifted os started H enc)
end Go.Proofs.Ytnanjomnldfidaa
