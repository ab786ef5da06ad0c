/-
  The law Secret.
-/
import Derived.Test.YtnanjomnldfidaaLawExec
import Derived.SizedLaws
set_option linter.unusedSimpArgs false
set_option linter.unusedVariables false
set_option linter.unusedSectionVars false
namespace Go.Proofs.Ytnanjomnldfidaa
open Go.ChangeShapes Go.WideShapes Go.ChangeAt Go.RowKit
open Go.ChangeMaps (open_string shut_string)

theorem ofInt_wrap (v : BitVec 64) : BitVec.ofInt 64 (IntKind.i64.wrap ((v.toNat : Nat) : Int)) = v := by
  apply BitVec.eq_of_toNat_eq
  rw [BitVec.toNat_ofInt, IntKind.wrap_i64]
  have := v.isLt
  rw [show ((2 : Nat) ^ 64 : Nat) = 18446744073709551616 from rfl] at *
  omega
theorem noLook (r : Int) : noRight (bits BinOp.andNot IntKind.i64 r 4) 4 = true := by
  unfold noRight
  have e1 : bits BinOp.andNot IntKind.i64 r 4 = IntKind.i64.wrap (((BitVec.ofInt 64 r &&& ~~~ BitVec.ofInt 64 4).toNat : Nat) : Int) := rfl
  have e2 : ∀ a : Int, bits BinOp.and IntKind.i64 a 4 = IntKind.i64.wrap (((BitVec.ofInt 64 a &&& BitVec.ofInt 64 4).toNat : Nat) : Int) := fun _ => rfl
  rw [e1, e2, ofInt_wrap, BitVec.and_assoc, show (~~~ BitVec.ofInt 64 4 &&& BitVec.ofInt 64 4 : BitVec 64) = 0#64 from by decide, BitVec.and_zero]
  rfl

/-- The box of an image in three pieces. -/
def boxS (bi : ByteArray) (head one tail : ByteArray) (rt bf : Int) : BoxV := ⟨bi, head ++ one ++ tail, (head.size : Int), (one.size : Int), rt, bf⟩
theorem size_app (a b : ByteArray) : (a ++ b).size = a.size + b.size := by rw [← toList_len, toList_append, List.length_append, toList_len, toList_len]
theorem boxS_start (bi head one tail : ByteArray) (rt bf : Int) : (startM (boxS bi head one tail rt bf)).kernel = head.size ∧ (startM (boxS bi head one tail rt bf)).fence = head.size + one.size := by
  have hl : ((head ++ one ++ tail).toList.length : Int) = head.size + one.size + tail.size := by rw [toList_len, size_app, size_app]; omega
  unfold startM boxS Ma.start
  show clampN (head.size : Int) ((head ++ one ++ tail).toList.length : Int) = _ ∧ clampN (head.size : Int) ((head ++ one ++ tail).toList.length : Int) + clampN (one.size : Int) (((head ++ one ++ tail).toList.length : Int) - clampN (head.size : Int) ((head ++ one ++ tail).toList.length : Int)) = _
  rw [hl]
  have e1 : clampN (head.size : Int) (head.size + one.size + tail.size) = head.size := by
    unfold clampN; rw [if_neg (by omega), if_neg (by omega)]
  rw [e1]
  have e2 : clampN (one.size : Int) (head.size + one.size + tail.size - head.size) = one.size := by
    unfold clampN; rw [if_neg (by omega), if_neg (by omega)]
  rw [e2]
  exact ⟨rfl, rfl⟩
theorem boxS_with (bi head one two tail : ByteArray) (rt bf : Int) (h : one.size = two.size) : startM (boxS bi head two tail rt bf) = withI (startM (boxS bi head one tail rt bf)) (head ++ two ++ tail).toList := by
  have h1 := boxS_start bi head one tail rt bf
  have h2 := boxS_start bi head two tail rt bf
  have hk : (startM (boxS bi head two tail rt bf)).kernel = (startM (boxS bi head one tail rt bf)).kernel := by rw [h1.1, h2.1]
  have hf : (startM (boxS bi head two tail rt bf)).fence = (startM (boxS bi head one tail rt bf)).fence := by rw [h1.2, h2.2, h]
  have : startM (boxS bi head two tail rt bf) = { withI (startM (boxS bi head one tail rt bf)) (head ++ two ++ tail).toList with kernel := (startM (boxS bi head two tail rt bf)).kernel, fence := (startM (boxS bi head two tail rt bf)).fence } := rfl
  rw [this, hk, hf]
  rfl
theorem boxS_sec (bi head one two tail : ByteArray) (rt bf : Int) (h : one.size = two.size) (hl : noRight rt 4 = true) : SecR (startM (boxS bi head one tail rt bf)) (head ++ two ++ tail).toList := by
  obtain ⟨h1, h2⟩ := boxS_start bi head one tail rt bf
  have hi : (startM (boxS bi head one tail rt bf)).image = (head ++ one ++ tail).toList := rfl
  refine ⟨?_, fun i hh => ?_, hl⟩
  · rw [hi, toList_len, toList_len, size_app, size_app, size_app, size_app, h]
  · rw [h1, h2] at hh
    rw [hi, toList_append, toList_append, toList_append, toList_append]
    have l1 : head.toList.length = head.size := toList_len _
    have l2 : one.toList.length = one.size := toList_len _
    have l3 : two.toList.length = two.size := toList_len _
    simp only [List.getD]
    rcases hh with hh | hh
    · rw [List.getElem?_append_left (by rw [List.length_append]; omega), List.getElem?_append_left (by omega), List.getElem?_append_left (by rw [List.length_append]; omega), List.getElem?_append_left (by omega)]
    · rw [List.getElem?_append_right (by rw [List.length_append]; omega), List.getElem?_append_right (by rw [List.length_append]; omega), List.length_append, List.length_append, l1, l2, l3, h]

theorem secret_cells {s : ByteArray} {bi head one two tail : ByteArray} {rt bf : Int} (hin : bi.size ≤ maxLen) (hs : s.size ≤ 1024) (hf : bf ≤ 10000) (h : one.size = two.size) (hsz : head.size + one.size + tail.size ≤ 256) (hl : noRight rt 4 = true) :
    ∃ x y y2 a c d, execCells s (boxS bi head one tail rt bf) = #[.string x, .string y, .int .i64 a, .int .i64 c, .int .i64 d] ∧ execCells s (boxS bi head two tail rt bf) = #[.string x, .string y2, .int .i64 a, .int .i64 c, .int .i64 d] ∧
      y.size = head.size + one.size + tail.size ∧ y2.size = head.size + one.size + tail.size ∧ (y.extract (head.size + one.size) y.size).toList = (y2.extract (head.size + one.size) y2.size).toList := by
  have hi1 : (boxS bi head one tail rt bf).image.size = head.size + one.size + tail.size := by show (head ++ one ++ tail).size = _; rw [size_app, size_app]
  have hi2 : (boxS bi head two tail rt bf).image.size = head.size + one.size + tail.size := by show (head ++ two ++ tail).size = _; rw [size_app, size_app, h]
  have c1 : cleanB s (boxS bi head one tail rt bf) = true := decide_eq_true ⟨hs, by omega, hf⟩
  have c2 : cleanB s (boxS bi head two tail rt bf) = true := decide_eq_true ⟨hs, by omega, hf⟩
  have hB := exec_within s (boxS bi head one tail rt bf) (by omega) hin
  obtain ⟨hf0, _⟩ := start_fine (boxS bi head one tail rt bf) (by omega) hin
  obtain ⟨J, hJ, hS⟩ := exec_sec s.toList 10002 0 _ _ (boxS_sec bi head one two tail rt bf h hl) hf0.ok
  rw [← boxS_with bi head one two tail rt bf h] at hJ
  have e2 : execR s (boxS bi head two tail rt bf) = ((execR s (boxS bi head one tail rt bf)).1, withI (execR s (boxS bi head one tail rt bf)).2 J) := hJ
  have hS' : SecR (execR s (boxS bi head one tail rt bf)).2 J := hS
  have hlen : (execR s (boxS bi head one tail rt bf)).2.image.length = head.size + one.size + tail.size := by
    rw [hB.len]
    show (head ++ one ++ tail).toList.length = _
    rw [toList_len]; exact hi1
  have hfe : (execR s (boxS bi head one tail rt bf)).2.fence = head.size + one.size := by rw [hB.fence]; exact (boxS_start bi head one tail rt bf).2
  refine ⟨_, _, mkB J, _, _, _, clean_cells c1, ?_, by rw [mkB_size, hlen], by rw [mkB_size, hS'.len, hlen], ?_⟩
  · rw [clean_cells c2, e2]; rfl
  · have hJl : J.length = head.size + one.size + tail.size := by rw [hS'.len, hlen]
    rw [toList_extract, toList_extract, mkB_toList, mkB_toList, mkB_size, mkB_size, List.take_length, List.take_length]
    apply List.ext_getElem?
    intro i
    rw [List.getElem?_drop, List.getElem?_drop]
    have := hS'.same (head.size + one.size + i) (.inr (by rw [hfe]; omega))
    by_cases hlt : head.size + one.size + i < J.length
    · simp only [List.getD] at this
      rw [List.getElem?_eq_getElem hlt, List.getElem?_eq_getElem (by omega)] at this ⊢
      simp at this
      rw [this]
    · rw [List.getElem?_eq_none (by omega), List.getElem?_eq_none (by omega)]

set_option maxRecDepth 100000 in
set_option maxHeartbeats 1600000 in
theorem secret_walk (s : ByteArray) (b : BoxV) (head one two tail : ByteArray) (w : World) (hs : s.size ≤ maxLen) (hin : b.inp.size ≤ maxLen) (hsi : b.image.size ≤ maxLen)
    (hh : head.size ≤ 140737488355328) (ho : one.size ≤ 140737488355328) (ht : two.size ≤ 140737488355328) (hta : tail.size ≤ 140737488355328) :
    Calls Try.prog 7 #[.string s, b.val, .string head, .string one, .string two, .string tail] w fun e w' => e = .returned (.bool true) ∧ Below w.heap.size w w' := by
  have HC := hide (fun w1 => clean_any s b w1 hs hsi)
  obtain ⟨cl, hcl⟩ : ∃ cl, cl = cleanB s b := ⟨_, rfl⟩
  rw [← hcl] at HC
  have hcl2 : Hid (cl = true → s.size ≤ 1024 ∧ b.fuel ≤ 10000) := fun h => by have := of_decide_eq_true (hcl.symm.trans h); exact ⟨this.1, this.2.2⟩
  have hbs : b.val = .agg #[.string b.inp, .string b.image, .int .i64 b.kernel, .int .i64 b.secret, .int .i64 b.rights, .int .i64 b.fuel] := rfl
  rw [hbs] at HC ⊢
  clear hcl hbs
  generalize b.inp = bi at *
  generalize b.image = bm at *
  generalize b.kernel = bk at *
  generalize b.secret = bs at *
  generalize b.rights = br at *
  generalize b.fuel = bf at *
  have HX := hide (fun (p : ByteArray) w1 (Q : Nat → Prop) (hq : ∀ k, Q k → k < w1.heap.size) (hm : (head ++ p ++ tail).size ≤ maxLen) => exec_any s (boxS bi head p tail (bits BinOp.andNot IntKind.i64 br 4) bf) w1 Q hq hs hin hm)
  unfold boxS RunPost at HX
  have hsc := hide (fun h1 h2 h3 h4 => secret_cells (s := s) (bi := bi) (head := head) (one := one) (two := two) (tail := tail) (rt := bits BinOp.andNot IntKind.i64 br 4) (bf := bf) hin h1 h2 h3 h4 (noLook br))
  unfold boxS at hsc
  unfold maxLen at hsi hs
  obtain ⟨w0, hw0⟩ : ∃ w0, w0 = w.alloc (.cells #[.string bi, .string bm, .int .i64 bk, .int .i64 bs, .int .i64 br, .int .i64 bf] 30) := ⟨_, rfl⟩
  have hk0 : Kept (fun k => k < w.heap.size) w w0 := by rw [hw0]; exact (Kept.refl _ w).alloc _
  have hb0 : w0.heap[w.heap.size]? = some (.cells #[.string bi, .string bm, .int .i64 bk, .int .i64 bs, .int .i64 br, .int .i64 bf] 30 (0, 0)) := by rw [hw0]; exact heap_alloc_new w _
  have hs0 : w0.heap.size = w.heap.size + 1 := by rw [hw0]; simp
  have hc1 := hide ((unhide HC) w0)
  have HK0 := hide hk0
  have HB0 := hide hb0
  have HW := hide hw0
  have HS0 := hide hs0
  have hw1 : Hid (∀ w1, Kept (fun k => k < w0.heap.size) w0 w1 → w1.heap[w.heap.size]? = some (.cells #[.string bi, .string bm, .int .i64 bk, .int .i64 bs, .int .i64 br, .int .i64 bf] 30 (0, 0))) := fun w1 k1 => k1.at' HB0.out (by show _ < w0.heap.size; have := HS0.out; omega)
  clear HC hk0 hb0 hs0
  by_cases hd : one.size = two.size
  · have hdb : ((one.size : Int) != (two.size : Int)) = false := by rw [hd]; simp
    by_cases hsum : 256 < head.size + one.size + tail.size
    · have hsb : (256 : Int) < (head.size : Int) + (one.size : Int) + (tail.size : Int) := by omega
      have hb : Below w.heap.size w w0 := HK0.out.below (Nat.le_refl _)
      rw [hw0] at hb
      clear hc1 hsc HX HW hw0 hd
      go_enter Try.func7, Try.ntmps7
      go_wp2
      go_ret
      exact ⟨rfl, hb⟩
    · have hsb : (head.size : Int) + (one.size : Int) + (tail.size : Int) ≤ 256 := by omega
      clear hw0
      cases cl with
      | false =>
        clear hsc HX hd
        go_enter Try.func7, Try.ntmps7
        go_wp2_with fail
        rw [show w.alloc (.cells #[.string bi, .string bm, .int .i64 bk, .int .i64 bs, .int .i64 br, .int .i64 bf] 30) = w0 from HW.out.symm]
        refine (unhide hc1).mono ?_
        rintro e w1 ⟨rfl, k1⟩
        have hb := (HK0.out.trans k1.all).below (Nat.le_refl _)
        clear hc1 k1 HB0 HK0 HW
        go_wp2
        go_ret
        exact ⟨rfl, hb⟩
      | true =>
        obtain ⟨q1, q2⟩ := hcl2.out rfl
        obtain ⟨x, y, y2, a, c, d, h5, h52, z1, z2, z3⟩ := (unhide hsc) q1 q2 hd (by omega)
        have hX1 := hide (fun w1 Q hq => (unhide HX) one w1 Q hq (by rw [size_app, size_app]; unfold maxLen; omega))
        have hX2 := hide (fun w1 Q hq => (unhide HX) two w1 Q hq (by rw [size_app, size_app]; unfold maxLen; omega))
        rw [h5] at hX1
        rw [h52] at hX2
        have zz : Hid ((y.extract (head.size + one.size) y.size).toList = (y2.extract (head.size + one.size) y2.size).toList) := z3
        have hl1 : (head ++ one).size = head.size + one.size := size_app _ _
        have hl2 : (head ++ two).size = head.size + two.size := size_app _ _
        have HD := hide hd
        have Z1 := hide z1
        have Z2 := hide z2
        clear hsc HX h5 h52 z3 hcl2 hd z1 z2
        go_enter Try.func7, Try.ntmps7
        go_wp2_with fail
        rw [show w.alloc (.cells #[.string bi, .string bm, .int .i64 bk, .int .i64 bs, .int .i64 br, .int .i64 bf] 30) = w0 from HW.out.symm]
        refine (unhide hc1).mono ?_
        rintro e w1 ⟨rfl, k1⟩
        have hb1 := hw1.out w1 k1
        have HB1 := hide hb1
        have hlt1 := lt_of_block hb1
        have e0 : w1.cell? ⟨w.heap.size, 0, none⟩ = some (.string bi) := cell_of_block hb1 0 _ rfl
        have e4 : w1.cell? ⟨w.heap.size, 4, none⟩ = some (.int .i64 br) := cell_of_block hb1 4 _ rfl
        have e5 : w1.cell? ⟨w.heap.size, 5, none⟩ = some (.int .i64 bf) := cell_of_block hb1 5 _ rfl
        have KK1 : Hid (Kept (fun k => k < w.heap.size) w w1) := HK0.out.trans k1.all
        have hc2 := hide ((unhide hX1) w1 (fun k => k < w1.heap.size) (fun k hk => hk))
        clear hc1 k1 HB0 HK0 HW hb1 hX1 hw1 HS0
        go_wp2_with fail
        refine (unhide hc2).mono ?_
        rintro e w2 ⟨rfl, k2⟩
        obtain ⟨w3, hw3⟩ : ∃ w3, w3 = w2.alloc (.cells #[.string x, .string y, .int .i64 a, .int .i64 c, .int .i64 d] 32) := ⟨_, rfl⟩
        have hb2 := k2.at' HB1.out hlt1
        have hlt2 := lt_of_block hb2
        have g0 : w2.cell? ⟨w.heap.size, 0, none⟩ = some (.string bi) := cell_of_block hb2 0 _ rfl
        have g5 : w2.cell? ⟨w.heap.size, 5, none⟩ = some (.int .i64 bf) := cell_of_block hb2 5 _ rfl
        have hr3 : w3.heap[w2.heap.size]? = some (.cells #[.string x, .string y, .int .i64 a, .int .i64 c, .int .i64 d] 32 (0, 0)) := by rw [hw3]; exact heap_alloc_new w2 _
        have KK3 : Hid (Kept (fun k => k < w.heap.size) w w3) := by unfold Hid; rw [hw3]; exact (KK1.out.trans k2.all).alloc _
        have HR3 := hide hr3
        have hltr := lt_of_block hr3
        have hc4 := hide ((unhide hX2) w3 (fun k => k < w3.heap.size) (fun k hk => hk))
        have HW3 := hide hw3
        clear hc2 k2 HB1 KK1 hb2 hr3 hw3 e0 e4 e5 hX2
        go_wp2_with fail
        rw [show w2.alloc (.cells #[.string x, .string y, .int .i64 a, .int .i64 c, .int .i64 d] 32) = w3 from HW3.out.symm]
        refine (unhide hc4).mono ?_
        rintro e w4 ⟨rfl, k4⟩
        have hr4 := k4.at' HR3.out hltr
        have hltr4 := lt_of_block hr4
        obtain ⟨⟨j0, j1, j2, j3, j4⟩, _⟩ := set5_cells hr4
        have KK5 : Hid (Kept (fun k => k < w.heap.size) w (w4.alloc (.cells #[.string x, .string y2, .int .i64 a, .int .i64 c, .int .i64 d] 32))) := (KK3.out.trans k4.all).alloc _
        have z1 : ((y.size : Int) != (head.size : Int) + (one.size : Int) + (tail.size : Int)) = false := by rw [Z1.out]; simp
        have z2 : ((y2.size : Int) != (head.size : Int) + (one.size : Int) + (tail.size : Int)) = false := by rw [Z2.out]; simp
        have z4 : head.size + one.size ≤ y.size := by rw [Z1.out]; omega
        have z5 : head.size + one.size ≤ y2.size := by rw [Z2.out]; omega
        have u0 : (x.toList == x.toList) = true := by simp
        have u1 : (a == a) = true := by simp
        have u2 : (c == c) = true := by simp
        have u3 : (d == d) = true := by simp
        have u4 : ((y.extract (head.size + one.size) y.size).toList == (y2.extract (head.size + one.size) y2.size).toList) = true := by rw [zz.out]; simp
        clear hc4 k4 HR3 HW3 KK3 hr4 g0 g5 hltr Z1 Z2 zz HD
        go_wp2
        go_quiet (fail)
        go_wp2
        go_ret
        exact ⟨rfl, (KK5.out.trans (Kept.drewN _ _ _)).below (Nat.le_refl _)⟩
  · have hdb : ((one.size : Int) != (two.size : Int)) = true := bne_iff_ne.2 (by omega)
    have hb : Below w.heap.size w w0 := HK0.out.below (Nat.le_refl _)
    rw [hw0] at hb
    clear hc1 hsc HX HW hw0 hd
    go_enter Try.func7, Try.ntmps7
    go_wp2
    go_ret
    exact ⟨rfl, hb⟩

set_option maxRecDepth 100000 in
theorem secret_lifted (os : Os) (started : os.Started) (H : Type) (enc : TypeId × Value → H) :
    ReturnsInHanded {} Try.checked os 7 .any (Rows.secretSpec.pre6 enc Try.prog Try.f7 Rows.secretRow.domain false) (Rows.secretSpec.post enc Try.prog Try.f7 false true false false) := by
  refine returnsInHanded_of_change_sized (C := Try.checked) own2 started (by kernel_rfl) Try.func7
    (ChangeSpec.witness6 (enc := enc) (C := Try.checked) false ⟨#[], #[.string ⟨#[97]⟩, .agg #[.string ⟨#[]⟩, .string ⟨#[]⟩, .int .i64 0, .int .i64 0, .int .i64 0, .int .i64 0], .string ⟨#[]⟩, .string ⟨#[]⟩, .string ⟨#[]⟩, .string ⟨#[]⟩], []⟩ 8 (by kernel_rfl) (by kernel_rfl) (by kernel_rfl) (by kernel_rfl)) ?_
  intro W base args ds gs before hval0 hW _ hsz0 _
  have hsz : (DataW.weightsEach Try.prog (Try.f7.params.toList ++ Rows.secretSpec.plain.varTypes Try.prog) (ds ++ gs)).all (· ≤ reachBytes) = true := hsz0
  have hval : ∀ (j : Nat) t v, Try.f7.params[j]? = some t → args[j]? = some v → Value.okWide Try.prog W .any base t v := hval0
  have hW' := hW
  obtain ⟨p, q, hA0, hV, rfl, _, _⟩ := hW
  have hA : DataW.TrodAll enc Try.prog W 0 (fun _ => true) true Try.f7.params.toList args.toList ds p := hA0
  rw [Try.params7] at hA hval hsz
  obtain ⟨v0, vs0, d0, ds0, p0, q0, hargs, rfl, rfl, h0, r0⟩ := trodAll_cons hA
  obtain ⟨v1, vs1, d1, ds1, p1, q1, hargs1, rfl, rfl, h1, r1⟩ := trodAll_cons r0
  obtain ⟨v2, vs2, d2, ds2, p2, q2, hargs2, rfl, rfl, h2, r2⟩ := trodAll_cons r1
  obtain ⟨v3, vs3, d3, ds3, p3, q3, hargs3, rfl, rfl, h3, r3⟩ := trodAll_cons r2
  obtain ⟨v4, vs4, d4, ds4, p4, q4, hargs4, rfl, rfl, h4, r4⟩ := trodAll_cons r3
  obtain ⟨v5, vs5, d5, ds5, p5, q5, hargs5, rfl, rfl, h5, r5⟩ := trodAll_cons r4
  obtain ⟨rfl, rfl, rfl⟩ := trodAll_nil r5
  obtain rfl : args = #[v0, v1, v2, v3, v4, v5] := by cases args; simp_all
  obtain ⟨rfl, rfl⟩ := trodVars_none hV
  obtain ⟨s, rfl, rfl, rfl, hs⟩ := open_string Try.underlying9 (hval 0 9 v0 rfl rfl) h0
  obtain ⟨b, rfl, rfl, rfl, hb⟩ := open_box (hval 1 30 v1 rfl rfl) h1
  obtain ⟨t2, rfl, rfl, rfl, hs2⟩ := open_string Try.underlying9 (hval 2 9 v2 rfl rfl) h2
  obtain ⟨t3, rfl, rfl, rfl, hs3⟩ := open_string Try.underlying9 (hval 3 9 v3 rfl rfl) h3
  obtain ⟨t4, rfl, rfl, rfl, hs4⟩ := open_string Try.underlying9 (hval 4 9 v4 rfl rfl) h4
  obtain ⟨t5, rfl, rfl, rfl, hs5⟩ := open_string Try.underlying9 (hval 5 9 v5 rfl rfl) h5
  have z2 : t2.size ≤ 140737488355328 := by have := sized_string hsz (j := 2) (t := 9) rfl rfl; rw [← len_data]; unfold reachBytes at this; omega
  have z3 : t3.size ≤ 140737488355328 := by have := sized_string hsz (j := 3) (t := 9) rfl rfl; rw [← len_data]; unfold reachBytes at this; omega
  have z4 : t4.size ≤ 140737488355328 := by have := sized_string hsz (j := 4) (t := 9) rfl rfl; rw [← len_data]; unfold reachBytes at this; omega
  have z5 : t5.size ≤ 140737488355328 := by have := sized_string hsz (j := 5) (t := 9) rfl rfl; rw [← len_data]; unfold reachBytes at this; omega
  clear hA0 hval0 hsz hsz0
  simp only [List.append_nil] at hW'
  refine (secret_walk s b t2 t3 t4 t5 W hs hb.inp hb.image z2 z3 z4 z5).mono fun e W' ⟨he, hg⟩ => ?_
  subst he
  refine ⟨_, rfl, _, _, _, [], [], [], hW', ?_, ?_, rfl, hg.frame _, fun h => by cases h⟩
  · exact trodAll_cons_mk (shut_bool Try.underlying4 _) trodAll_mk0
  · exact trodAll_cons_mk (shut_string Try.underlying9 hs) (trodAll_cons_mk (shut_box b hb) (trodAll_cons_mk (shut_string Try.underlying9 hs2) (trodAll_cons_mk (shut_string Try.underlying9 hs3) (trodAll_cons_mk (shut_string Try.underlying9 hs4) (trodAll_cons_mk (shut_string Try.underlying9 hs5) trodAll_mk0)))))

theorem secret_holds : Rows.SecretSaid :=
  OpenClaim.holds_of_wide 7 Try.f7 rfl rfl rfl rfl rfl rfl rfl ⟨rfl, rfl, rfl, rfl, rfl⟩ rfl rfl rfl rfl rfl (by kernel_rfl) Try.func7 (by kernel_rfl)
    (of_decide_eq_true (by kernel_rfl)) (by unfold Func.isWrapper; first | (rw [if_pos (by decide +kernel)]; kernel_rfl) | (rw [if_neg (by decide +kernel)]; exact ⟨rfl, rfl⟩))
    (fun os started H enc _ => secret_lifted os started H enc)
end Go.Proofs.Ytnanjomnldfidaa
