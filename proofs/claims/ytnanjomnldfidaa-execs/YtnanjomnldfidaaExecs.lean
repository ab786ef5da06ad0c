/-
  The law Execs.
-/
import Derived.Test.YtnanjomnldfidaaRcExec
set_option linter.unusedSimpArgs false
set_option linter.unusedVariables false
set_option linter.unusedSectionVars false
namespace Go.Proofs.Ytnanjomnldfidaa
open Go.ChangeShapes Go.WideShapes Go.ChangeAt Go.RowKit
open Go.ChangeMaps (open_string shut_string)

set_option maxRecDepth 100000 in
set_option maxHeartbeats 3200000 in
/-- graderlaw's as, of two results that are the same. -/
theorem as2_same (x y : ByteArray) (a c d : Int) (w : World) (P : Nat → Prop) :
    Calls Try.prog 14 #[.agg #[.string x, .string y, .int .i64 a, .int .i64 c, .int .i64 d], .agg #[.string x, .string y, .int .i64 a, .int .i64 c, .int .i64 d]] w fun e w' => e = .returned (.bool true) ∧ Kept P w w' := by
  have q1 : (x.toList == x.toList) = true := by simp
  have q2 : (y.toList == y.toList) = true := by simp
  have q3 : (a == a) = true := by simp
  have q4 : (c == c) = true := by simp
  have q5 : (d == d) = true := by simp
  have hnum := hide (fun w' => num2_any d w')
  obtain ⟨w0, hw0⟩ : ∃ w0, w0 = (w.alloc (.cells #[.string x, .string y, .int .i64 a, .int .i64 c, .int .i64 d] 32)).alloc (.cells #[.string x, .string y, .int .i64 a, .int .i64 c, .int .i64 d] 35) := ⟨_, rfl⟩
  have hk0 : Kept P w w0 := by rw [hw0]; exact ((Kept.refl P w).alloc _).alloc _
  have hsz0 : w0.heap.size = w.heap.size + 2 := by rw [hw0]; simp
  have b1 : w0.heap[w.heap.size]? = some (.cells #[.string x, .string y, .int .i64 a, .int .i64 c, .int .i64 d] 32 (0, 0)) := by
    rw [hw0]; exact alloc_block (heap_alloc_new w _)
  have b2 : w0.heap[w.heap.size + 1]? = some (.cells #[.string x, .string y, .int .i64 a, .int .i64 c, .int .i64 d] 35 (0, 0)) := by
    rw [hw0]
    have e : (w.alloc (.cells #[.string x, .string y, .int .i64 a, .int .i64 c, .int .i64 d] 32)).heap.size = w.heap.size + 1 := by simp
    rw [← e]; exact heap_alloc_new _ _
  obtain ⟨⟨c0, c1, c2, c3, c4⟩, _⟩ := set5_cells b1
  obtain ⟨⟨d0, d1, d2, d3, d4⟩, _⟩ := set5_cells b2
  have l1 := lt_of_block b1
  have l2 := lt_of_block b2
  have HW := hide hw0
  clear b1 b2 hw0
  go_enter Try.func14, Try.ntmps14
  go_wp2
  rw [show (w.alloc (.cells #[.string x, .string y, .int .i64 a, .int .i64 c, .int .i64 d] 32)).alloc (.cells #[.string x, .string y, .int .i64 a, .int .i64 c, .int .i64 d] 35) = w0 from HW.out.symm]
  clear HW
  go_quiet (first | (go_at_call 11; refine Calls.quiet_of_same ((unhide hnum) _)))
  go_wp2
  go_ret
  exact ⟨rfl, hk0.trans (Kept.drewN _ _ _)⟩

set_option maxRecDepth 100000 in
set_option maxHeartbeats 1600000 in
theorem execs_walk (s : ByteArray) (b : BoxV) (w : World) (hs : s.size ≤ maxLen) (hin : b.inp.size ≤ maxLen) (hsi : b.image.size ≤ maxLen) :
    Calls Try.prog 4 #[.string s, b.val] w fun e w' => e = .returned (.bool true) ∧ Below w.heap.size w w' := by
  have HR := hide (fun w1 (Q : Nat → Prop) (hq : ∀ k, Q k → k < w1.heap.size) => lawExec_any (s := s) (b := b) (w := w1) (P := Q) hq hs hin hsi)
  have HF := hide (fun w1 (Q : Nat → Prop) (hq : ∀ k, Q k → k < w1.heap.size) => lawRefExec_any (s := s) (b := b) (w := w1) (P := Q) hq hs hin hsi)
  obtain ⟨x, y, a, c, d, h5⟩ := execCells_five s b
  rw [h5] at HR HF
  unfold RunPost at HR HF
  clear h5
  have HA := hide (fun w' => as2_same x y a c d w' (fun k => k < w.heap.size))
  have hbs : b.val = .agg #[.string b.inp, .string b.image, .int .i64 b.kernel, .int .i64 b.secret, .int .i64 b.rights, .int .i64 b.fuel] := rfl
  rw [hbs] at HR HF ⊢
  generalize b.inp = bi at *
  generalize b.image = bm at *
  generalize b.kernel = bk at *
  generalize b.secret = bs at *
  generalize b.rights = br at *
  generalize b.fuel = bf at *
  obtain ⟨w0, hw0⟩ : ∃ w0, w0 = w.alloc (.cells #[.string bi, .string bm, .int .i64 bk, .int .i64 bs, .int .i64 br, .int .i64 bf] 30) := ⟨_, rfl⟩
  have hk0 : Kept (fun k => k < w.heap.size) w w0 := by rw [hw0]; exact (Kept.refl _ w).alloc _
  have hb0 : w0.heap[w.heap.size]? = some (.cells #[.string bi, .string bm, .int .i64 bk, .int .i64 bs, .int .i64 br, .int .i64 bf] 30 (0, 0)) := by rw [hw0]; exact heap_alloc_new w _
  have hs0 : w0.heap.size = w.heap.size + 1 := by rw [hw0]; simp
  have hc1 := hide ((unhide HR) w0 (fun k => k < w0.heap.size) (fun k hk => hk))
  have HK0 := hide hk0
  have HB0 := hide hb0
  have HW := hide hw0
  clear HR hk0 hb0 hw0 hbs
  go_enter Try.func4, Try.ntmps4
  go_wp2_with fail
  rw [show w.alloc (.cells #[.string bi, .string bm, .int .i64 bk, .int .i64 bs, .int .i64 br, .int .i64 bf] 30) = w0 from HW.out.symm]
  refine (unhide hc1).mono ?_
  rintro e w1 ⟨rfl, k1⟩
  obtain ⟨w2, hw2⟩ : ∃ w2, w2 = w1.alloc (.cells #[.string x, .string y, .int .i64 a, .int .i64 c, .int .i64 d] 32) := ⟨_, rfl⟩
  have hb1 := k1.at' HB0.out (by show _ < w0.heap.size; omega)
  have hlt1 := lt_of_block hb1
  have e0 : w1.cell? ⟨w.heap.size, 0, none⟩ = some (.string bi) := cell_of_block hb1 0 _ rfl
  have e1 : w1.cell? ⟨w.heap.size, 1, none⟩ = some (.string bm) := cell_of_block hb1 1 _ rfl
  have e2 : w1.cell? ⟨w.heap.size, 2, none⟩ = some (.int .i64 bk) := cell_of_block hb1 2 _ rfl
  have e3 : w1.cell? ⟨w.heap.size, 3, none⟩ = some (.int .i64 bs) := cell_of_block hb1 3 _ rfl
  have e4 : w1.cell? ⟨w.heap.size, 4, none⟩ = some (.int .i64 br) := cell_of_block hb1 4 _ rfl
  have e5 : w1.cell? ⟨w.heap.size, 5, none⟩ = some (.int .i64 bf) := cell_of_block hb1 5 _ rfl
  have kk1 : Kept (fun k => k < w.heap.size) w w1 := HK0.out.trans (k1.mono fun k hk => by show k < w0.heap.size; omega)
  have kk2 : Kept (fun k => k < w.heap.size) w w2 := by rw [hw2]; exact kk1.alloc _
  have hs2 : w2.heap.size = w1.heap.size + 1 := by rw [hw2]; simp
  have hc2 := hide ((unhide HF) w2 (fun k => k < w2.heap.size) (fun k hk => hk))
  have hb2 : w2.heap[w1.heap.size]? = some (.cells #[.string x, .string y, .int .i64 a, .int .i64 c, .int .i64 d] 32 (0, 0)) := by rw [hw2]; exact heap_alloc_new w1 _
  have HB2 := hide hb2
  have HW2 := hide hw2
  clear hc1 k1 HB0 HK0 HW hb1 kk1 hb2 hw2
  go_wp2_with fail
  rw [show w1.alloc (.cells #[.string x, .string y, .int .i64 a, .int .i64 c, .int .i64 d] 32) = w2 from HW2.out.symm]
  refine (unhide hc2).mono ?_
  rintro e w3 ⟨rfl, k3⟩
  have hb3 := k3.at' HB2.out (by show _ < w2.heap.size; omega)
  have hlt3 := lt_of_block hb3
  obtain ⟨⟨g0, g1, g2, g3, g4⟩, _⟩ := set5_cells hb3
  have kk3 : Kept (fun k => k < w.heap.size) w w3 := kk2.trans (k3.mono fun k hk => by have := kk2.size; show k < w2.heap.size; omega)
  obtain ⟨w4, hw4⟩ : ∃ w4, w4 = w3.alloc (.cells #[.string x, .string y, .int .i64 a, .int .i64 c, .int .i64 d] 35) := ⟨_, rfl⟩
  have kk4 : Kept (fun k => k < w.heap.size) w w4 := by rw [hw4]; exact kk3.alloc _
  have HW4 := hide hw4
  clear hc2 k3 HB2 HW2 hb3 hw4 kk3 kk2
  go_wp2_with fail
  rw [show w3.alloc (.cells #[.string x, .string y, .int .i64 a, .int .i64 c, .int .i64 d] 35) = w4 from HW4.out.symm]
  refine ((unhide HA) w4).mono ?_
  rintro e w5 ⟨rfl, k5⟩
  have hb := (kk4.trans k5).below (Nat.le_refl _)
  clear kk4 k5 HW4
  go_wp2
  go_ret
  exact ⟨rfl, hb⟩

set_option maxRecDepth 100000 in
theorem execs_lifted (os : Os) (started : os.Started) (H : Type) (enc : TypeId × Value → H) :
    ReturnsInHanded {} Try.checked os 4 .any (Rows.execsSpec.pre6 enc Try.prog Try.f4 Rows.execsRow.domain false) (Rows.execsSpec.post enc Try.prog Try.f4 false true false false) := by
  refine returnsInHanded_of_change (C := Try.checked) own2 started (by kernel_rfl) Try.func4
    (ChangeSpec.witness6 (enc := enc) (C := Try.checked) false ⟨#[], #[.string ⟨#[97]⟩, .agg #[.string ⟨#[]⟩, .string ⟨#[]⟩, .int .i64 0, .int .i64 0, .int .i64 0, .int .i64 0]], []⟩ 8 (by kernel_rfl) (by kernel_rfl) (by kernel_rfl) (by kernel_rfl)) ?_
  intro W base args ds gs before hval0 hW _ _
  have hval : ∀ (j : Nat) t v, Try.f4.params[j]? = some t → args[j]? = some v → Value.okWide Try.prog W .any base t v := hval0
  have hW' := hW
  obtain ⟨p, q, hA0, hV, rfl, _, _⟩ := hW
  have hA : DataW.TrodAll enc Try.prog W 0 (fun _ => true) true Try.f4.params.toList args.toList ds p := hA0
  rw [Try.params4] at hA hval
  obtain ⟨v0, vs0, d0, ds0, p0, q0, hargs, rfl, rfl, h0, r0⟩ := trodAll_cons hA
  obtain ⟨v1, vs1, d1, ds1, p1, q1, hargs1, rfl, rfl, h1, r1⟩ := trodAll_cons r0
  obtain ⟨rfl, rfl, rfl⟩ := trodAll_nil r1
  obtain rfl : args = #[v0, v1] := by cases args; simp_all
  obtain ⟨rfl, rfl⟩ := trodVars_none hV
  obtain ⟨s, rfl, rfl, rfl, hs⟩ := open_string Try.underlying9 (hval 0 9 v0 rfl rfl) h0
  obtain ⟨b, rfl, rfl, rfl, hb⟩ := open_box (hval 1 30 v1 rfl rfl) h1
  clear hA0 hval0
  simp only [List.append_nil] at hW'
  refine (execs_walk s b W hs hb.inp hb.image).mono fun e W' ⟨he, hg⟩ => ?_
  subst he
  refine ⟨_, rfl, _, _, _, [], [], [], hW', ?_, ?_, rfl, hg.frame _, fun h => by cases h⟩
  · exact trodAll_cons_mk (shut_bool Try.underlying4 _) trodAll_mk0
  · exact trodAll_cons_mk (shut_string Try.underlying9 hs) (trodAll_cons_mk (shut_box b hb) trodAll_mk0)

theorem execs_holds : Rows.ExecsSaid :=
  OpenClaim.holds_of_wide 4 Try.f4 rfl rfl rfl rfl rfl rfl rfl ⟨rfl, rfl, rfl, rfl, rfl⟩ rfl rfl rfl rfl rfl (by kernel_rfl) Try.func4 (by kernel_rfl)
    (of_decide_eq_true (by kernel_rfl)) (by unfold Func.isWrapper; first | (rw [if_pos (by decide +kernel)]; kernel_rfl) | (rw [if_neg (by decide +kernel)]; exact ⟨rfl, rfl⟩))
    (fun os started H enc _ => execs_lifted os started H enc)
end Go.Proofs.Ytnanjomnldfidaa
