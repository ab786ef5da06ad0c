/-
  Package grader's machine where the world grows; newMachine, result.
-/
import Derived.Test.YtnanjomnldfidabGreatDoorDmFaultAnyToStepPure
import Derived.Test.YtnanjomnldfidabGreatDoorBase5
import Derived.BigRegion
set_option linter.unusedSimpArgs false
set_option linter.unusedVariables false
set_option linter.unusedSectionVars false
namespace Go.Proofs.YtnanjomnldfidabGreatDoor
open Go.RowKit

theorem Kept.all {P : Nat → Prop} {w w' : World} (h : Kept (fun k => k < w.heap.size) w w') : Kept P w w' := ⟨h.os, h.tape, h.output, h.size, fun k hk _ => h.block k hk hk⟩
/-- Where the old blocks are as they were. -/
theorem Row.ext {w w' : World} {P : Nat → Prop} {e : TypeId} {size : Nat} {v : Value} {n : Nat} {xs : List Value} (h : Row w P e size v n xs) (hb : ∀ k, k < w.heap.size → w'.heap[k]? = w.heap[k]?) : Row w' P e size v n xs := by
  refine ⟨⟨h.own.1, ?_⟩, h.out⟩
  rcases h.own.2 with hn | ⟨g, cap, cur, rfl, hg0, hg, rest⟩
  · exact .inl hn
  · exact .inr ⟨g, cap, cur, rfl, hg0, (hb g (lt_of_block hg)).trans hg, rest⟩
theorem DmIs.ext {w w' : World} {P : Nat → Prop} {b : Nat} {M : Ma} (h : DmIs w P b M) (hs : w.heap.size ≤ w'.heap.size) (hb : ∀ k, k < w.heap.size → w'.heap[k]? = w.heap[k]?) : DmIs w' P b M := by
  obtain ⟨vi, vs, vc, vo, h⟩ := h
  refine ⟨vi, vs, vc, vo, fun k hk => Nat.lt_of_lt_of_le (h.bound k hk) hs, h.out, (hb b h.lt).trans h.box, h.image.moved ?_, h.stack.ext hb, h.calls.ext hb, h.outp.ext hb, h.sep, h.sepo⟩
  intro g hg
  obtain ⟨g', cs, fr, h1, h2⟩ := h.image.own
  rw [h1] at hg
  cases hg
  exact hb g (lt_of_block h2)

theorem DmIs.protect {w : World} {P : Nat → Prop} {b : Nat} {M : Ma} (h : DmIs w P b M) (o : Obj) : DmIs (w.alloc o) (fun k => P k ∨ k = w.heap.size) b M := by
  obtain ⟨vi, vs, vc, vo, h⟩ := h
  have hb := h.lt
  refine ⟨vi, vs, vc, vo, ?_, fun hp => hp.elim h.out (fun e => by omega), alloc_block h.box, ?_, h.stack.protect o, h.calls.protect o, h.outp.protect o, h.sep, h.sepo⟩
  · intro k hk
    rcases hk with hk | hk
    · have := h.bound k hk; simp; omega
    · simp; omega
  · obtain ⟨g, cap, cs, fr, hi⟩ := h.image.alloc o
    obtain ⟨g', cs', fr', h1, h2⟩ := h.image.own
    rw [hi.val] at h1
    cases h1
    have hg3 : g < w.heap.size := lt_of_block h2
    exact ⟨_, cap, cs, fr, hi.val, fun hp => hp.elim hi.out (fun e => by omega), hi.at', hi.cells, hi.mark⟩
theorem DmIs.mono {w : World} {P Q : Nat → Prop} {b : Nat} {M : Ma} (h : DmIs w P b M) (hq : ∀ k, Q k → P k) : DmIs w Q b M := by
  obtain ⟨vi, vs, vc, vo, h⟩ := h
  obtain ⟨g, cap, cs, fr, hi⟩ := h.image
  exact ⟨vi, vs, vc, vo, fun k hk => h.bound k (hq k hk), fun hp => h.out (hq _ hp), h.box, ⟨g, cap, cs, fr, hi.val, fun hp => hi.out (hq _ hp), hi.at', hi.cells, hi.mark⟩, h.stack.mono hq, h.calls.mono hq, h.outp.mono hq, h.sep, h.sepo⟩

def usedD (w : World) (b : Nat) : Int := match w.cell? ⟨b, 7, none⟩ with | some (.int _ n) => n | _ => 0
theorem usedD_is {w : World} {P : Nat → Prop} {b : Nat} {M : Ma} (h : DmIs w P b M) : usedD w b = M.used := by
  obtain ⟨gi, ki, sa, ks, ac, kc, ao, ko, hlt, c0, c1, c2, c3, c4, c5, c6, c7, c8, c9, c10, c11, fr⟩ := h.view
  unfold usedD; rw [c7]

set_option maxRecDepth 100000 in
set_option maxHeartbeats 1600000 in
theorem newMachine_any (inp image : ByteArray) (kernel secret rights fuel : Int) (w : World) (P : Nat → Prop) (hP : ∀ k, P k → k < w.heap.size) (hi : image.size ≤ 256) :
    Calls Tryz.prog 40 #[.string inp, .string image, .int .i64 kernel, .int .i64 secret, .int .i64 rights, .int .i64 fuel] w fun e w' =>
      ∃ b, e = .returned (.pointer (some ⟨b, 0, none⟩)) ∧ DmIs w' P b (Ma.start inp image.toList kernel secret rights fuel) ∧ Kept P w w' := by
  have hl : image.toList.length = image.size := toList_len image
  have hc1 := hide (fun w' => clamp_any kernel (image.size : Int) w')
  have hc2 := hide (fun w' => clamp_any secret ((image.size : Int) - clampN kernel image.size) w')
  have hc3 := hide (fun w' => clamp_any fuel 10000 w')
  obtain ⟨b1, b2⟩ := clampN_bd kernel image.size (by omega)
  obtain ⟨b3, b4⟩ := clampN_bd secret ((image.size : Int) - clampN kernel image.size) (by omega)
  have hcv := run_bytes_of_string (P := Tryz.prog) w 9 89 5 image Tryz.underlying9 Tryz.underlying89 Tryz.underlying5
  obtain ⟨cap, hcap⟩ : ∃ cap, cap = grownCap w image.size 0 5 := ⟨_, rfl⟩
  rw [← hcap] at hcv
  clear hcap
  obtain ⟨W1, hW1⟩ : ∃ W1, W1 = (w.alloc (.cells (bytesRow image cap) 5 ((bytesRow image cap).size, (bytesRow image cap).size + 1))).drew := ⟨_, rfl⟩
  have himg : Hid (ImgIs W1 P (.slice (some ⟨w.heap.size, 0, none⟩) image.size cap) image.toList) := by
    have hat : W1.heap[w.heap.size]? = some (.cells (bytesRow image cap) 5 ((bytesRow image cap).size, (bytesRow image cap).size + 1)) := by rw [hW1]; exact heap_alloc_new w _
    refine ⟨w.heap.size, cap, _, _, by rw [hl], fun hp => by have := hP _ hp; omega, hat, ?_, ?_⟩
    · intro j hj
      have hj' : j < image.data.size := by rw [hl] at hj; exact hj
      rw [bytesRow_at image cap j hj']
      congr 4
      rw [List.getElem_of_eq (ByteArray.toList_eq image)]
      rfl
    · rw [hl]; unfold bytesRow; simp
  have hW1s : W1.heap.size = w.heap.size + 1 := by rw [hW1]; simp
  have hW1k : Kept P w W1 := by rw [hW1]; exact ((Kept.refl P w).alloc _).drew
  have fin : Hid (∀ o, o = Obj.cells #[.string inp, .int .i64 0, .slice (some ⟨w.heap.size, 0, none⟩) image.size cap, .int .i64 (clampN kernel image.size), .int .i64 (clampN kernel image.size + clampN secret ((image.size : Int) - clampN kernel image.size)), .int .i64 rights, .int .i64 (clampN fuel 10000), .int .i64 0, .slice none 0 0, .slice none 0 0, .slice none 0 0, .int .i64 0] 109 →
      DmIs (W1.alloc o) P (w.heap.size + 1) (Ma.start inp image.toList kernel secret rights fuel) ∧ Kept P w (W1.alloc o)) := by
    intro o ho
    subst ho
    rw [← hW1s]
    refine ⟨⟨_, .slice none 0 0, .slice none 0 0, .slice none 0 0, (fun k hk => by have := hP k hk; simp; omega), (fun hp => by have := hP _ hp; omega), ?_, himg.out.alloc _, Row.nil _ _ _ _, Row.nil _ _ _ _, Row.nil _ _ _ _, (fun k hk => by cases hk), (fun k hk => by cases hk)⟩, hW1k.alloc _⟩
    rw [heap_alloc_new]
    simp only [Ma.start, hl]
  generalize Ma.start inp image.toList kernel secret rights fuel = MM at fin ⊢
  have HW := hide hW1
  generalize clampN kernel image.size = ck at hc1 hc2 b1 b2 b3 b4 fin
  generalize clampN secret ((image.size : Int) - ck) = cs at hc2 b3 b4 fin
  generalize clampN fuel 10000 = cf at hc3 fin
  clear hP hW1 himg hW1k hl
  go_enter Tryz.func40, Tryz.ntmps40
  go_wp2_with fail
  refine ((unhide hc1) _).mono ?_
  rintro e w1 ⟨rfl, rfl⟩
  go_wp2_with fail
  refine ((unhide hc2) _).mono ?_
  rintro e w2 ⟨rfl, rfl⟩
  go_wp2_with fail
  rw [show (w2.alloc (.cells (bytesRow image cap) 5 ((bytesRow image cap).size, (bytesRow image cap).size + 1))).drew = W1 from HW.out.symm]
  refine ((unhide hc3) _).mono ?_
  rintro e w3 ⟨rfl, rfl⟩
  clear HW hcv
  go_wp2
  go_ret
  exact ⟨_, rfl, fin.out _ rfl⟩

set_option maxRecDepth 100000 in
set_option maxHeartbeats 3200000 in
theorem result_any {w : World} {P : Nat → Prop} {b : Nat} {M : Ma} (h : DmIs w P b M) (n : Int) :
    Calls Tryz.prog 42 #[.pointer (some ⟨b, 0, none⟩), .int .i64 n] w fun e w' => e = .returned (.agg (resCells M n)) ∧ Kept P w w' := by
  obtain ⟨W0, hW0⟩ : ∃ W0, W0 = w.alloc (.cells #[.string ⟨#[]⟩, .string ⟨#[]⟩, .int .i64 0, .int .i64 0, .int .i64 0] 69) := ⟨_, rfl⟩
  have hbox : W0.heap[w.heap.size]? = some (.cells #[.string ⟨#[]⟩, .string ⟨#[]⟩, .int .i64 0, .int .i64 0, .int .i64 0] 69 (0, 0)) := by rw [hW0]; exact heap_alloc_new w _
  have hkW : Kept P w W0 := by rw [hW0]; exact (Kept.refl P w).alloc _
  have hnp : ¬ P w.heap.size := fun hp => by have := h.bound _ hp; omega
  have h' : DmIs W0 P b M := by rw [hW0]; exact h.alloc _
  obtain ⟨vi, vs, vc, vo, hat⟩ := h'
  obtain ⟨gi, ki, cs, fr, hi⟩ := hat.image
  obtain ⟨ao, ko, hvo⟩ := own_slice hat.outp.own
  have hlt := hat.lt
  have hlt0 := lt_of_block hbox
  have c2 : W0.cell? ⟨b, 2, none⟩ = some vi := hat.cell 2 _ rfl
  rw [hi.val] at c2
  have c10 : W0.cell? ⟨b, 10, none⟩ = some vo := hat.cell 10 _ rfl
  rw [hvo] at c10
  have c7 : W0.cell? ⟨b, 7, none⟩ = some (.int .i64 M.used) := hat.cell 7 _ rfl
  have c11 : W0.cell? ⟨b, 11, none⟩ = some (.int .i64 M.mark) := hat.cell 11 _ rfl
  have kc1 : (convert 89 9 (.slice (some ⟨gi, 0, none⟩) M.image.length ki)).run Tryz.prog W0.drew = .ok (.string (mkB M.image)) W0.drew := by
    refine run_convert_bytes_back W0.drew 89 9 5 ⟨gi, 0, none⟩ ki M.image Tryz.underlying89 Tryz.underlying5 Tryz.underlying9 fun j hj => ?_
    have e : (⟨gi, 0, none⟩ : Addr).add j = ⟨gi, j, none⟩ := by unfold Addr.add; split <;> simp_all
    rw [e]
    exact cell_of_block (w := W0.drew) hi.at' j _ (hi.cells j hj)
  have kc2 : (convert 89 9 (.slice ao M.out.length ko)).run Tryz.prog W0.drew = .ok (.string (mkB M.out)) W0.drew := by
    by_cases hz : M.out = []
    · rw [hz] at hvo ⊢
      cases ao with
      | none => exact run_convert_bytes_nil W0.drew 89 5 Tryz.underlying89 Tryz.underlying5 _ _ 9 Tryz.underlying9
      | some a => exact run_convert_bytes_back W0.drew 89 9 5 a ko [] Tryz.underlying89 Tryz.underlying5 Tryz.underlying9 (fun j hj => by simp at hj)
    · have hpos : 0 < M.out.length := List.length_pos_iff.2 hz
      obtain ⟨g, cap, hv2⟩ := own_form hat.outp.own hpos
      rw [hvo] at hv2
      cases hv2
      refine run_convert_bytes_back W0.drew 89 9 5 ⟨g, 0, none⟩ ko M.out Tryz.underlying89 Tryz.underlying5 Tryz.underlying9 fun j hj => ?_
      have e : (⟨g, 0, none⟩ : Addr).add j = ⟨g, j, none⟩ := by unfold Addr.add; split <;> simp_all
      rw [e]
      have hc := World.ownsRow.cellAt (g := g) (cap := ko) (by rw [← hvo]; exact hat.outp.own) j (by omega)
      show W0.cell? ⟨g, j, none⟩ = _
      rw [hc]
      unfold byteCells
      rw [List.getElem?_map, List.getElem?_eq_getElem hj]
      rfl
  have hfin : Hid ((set5 W0 w.heap.size (.string (mkB M.out)) (.string (mkB M.image)) (.int .i64 M.mark) (.int .i64 M.used) (.int .i64 n)).heap[w.heap.size]? = some (.cells #[.string (mkB M.out), .string (mkB M.image), .int .i64 M.mark, .int .i64 M.used, .int .i64 n] 69 (0, 0)) ∧ Kept P w (set5 W0 w.heap.size (.string (mkB M.out)) (.string (mkB M.image)) (.int .i64 M.mark) (.int .i64 M.used) (.int .i64 n)).drew) :=
    ⟨set5_box (w := W0) hbox _ _ _ _ _, (hkW.trans (set5_kept hnp _ _ _ _ _)).drew⟩
  obtain ⟨⟨d0, d1, d2, d3, d4⟩, fr5⟩ := set5_cells hbox
  have f0 := fr5 0
  have f1 := fr5 1
  have f2 := fr5 2
  have f3 := fr5 3
  have f4 := fr5 4
  have HW := hide hW0
  unfold set5 at hfin
  clear hat hi hbox hkW hW0 fr5 hvo h
  go_enter Tryz.func42, Tryz.ntmps42
  go_wp2
  rw [show w.alloc (.cells #[.string ⟨#[]⟩, .string ⟨#[]⟩, .int .i64 0, .int .i64 0, .int .i64 0] 69) = W0 from HW.out.symm]
  clear HW
  go_region
  go_wp2
  obtain ⟨hb5, hk5⟩ := hfin.out
  obtain ⟨⟨e0, e1, e2, e3, e4⟩, _⟩ := set5_cells hb5
  refine bodyPost_ret (v := .agg (resCells M n)) ?_ rfl ⟨rfl, hk5⟩
  clear d0 d1 d2 d3 d4 hfin hb5 hk5 f0 f1 f2 f3 f4 c2 c7 c10 c11 kc1 kc2
  revert e0 e1 e2 e3 e4
  generalize World.setCell _ _ _ = W2
  intro e0 e1 e2 e3 e4
  simp [results, Tryz.results42, go_sem, e0, e1, e2, e3, e4, resCells]
end Go.Proofs.YtnanjomnldfidabGreatDoor
