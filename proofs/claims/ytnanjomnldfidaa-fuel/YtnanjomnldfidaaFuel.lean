/-
  The law Fuel.
-/
import Derived.Test.YtnanjomnldfidaaLawExec
set_option linter.unusedSimpArgs false
set_option linter.unusedVariables false
set_option linter.unusedSectionVars false
namespace Go.Proofs.Ytnanjomnldfidaa
open Go.ChangeShapes Go.WideShapes Go.ChangeAt Go.RowKit
open Go.ChangeMaps (open_string shut_string)

def fullN (f : Int) : Int := if f < 0 then 0 else f
def BoxV.more (b : BoxV) (n : Int) : BoxV := { b with fuel := n }
theorem start_more (b : BoxV) (n : Int) : startM (b.more n) = moreF (clampN n 10000 - clampN b.fuel 10000) (startM b) := by
  unfold startM BoxV.more Ma.start moreF
  congr 1
  show clampN n 10000 = clampN b.fuel 10000 + (clampN n 10000 - clampN b.fuel 10000)
  omega
theorem fuel_cells {s : ByteArray} {b : BoxV} (hin : b.inp.size ≤ maxLen) (h : cleanB s b = true) (n : Int) (h1 : b.fuel ≤ n) (h2 : n ≤ 10000) :
    ∃ x y a c d x2 y2 a2 c2 d2, execCells s b = #[.string x, .string y, .int .i64 a, .int .i64 c, .int .i64 d] ∧ execCells s (b.more n) = #[.string x2, .string y2, .int .i64 a2, .int .i64 c2, .int .i64 d2] ∧
      (d = 0 → (0 : UInt8) ∈ s.toList) ∧ (d ≠ 6 → x2 = x ∧ y2 = y ∧ a2 = a ∧ c2 = c ∧ d2 = d) ∧ (d = 6 → c = fullN b.fuel ∧ fullN b.fuel ≤ c2 ∧ x.size ≤ x2.size ∧ (x2.extract 0 x.size).toList = x.toList) ∧ (0 ≤ c ∧ c ≤ 10000) ∧ (0 ≤ c2 ∧ c2 ≤ 10000) := by
  have hc := of_decide_eq_true h
  have hB := exec_within s b hc.2.1 hin
  have h' : cleanB s (b.more n) = true := decide_eq_true ⟨hc.1, hc.2.1, h2⟩
  have hB2 := exec_within s (b.more n) hc.2.1 hin
  have hd : 0 ≤ clampN n 10000 - clampN b.fuel 10000 := by
    unfold clampN
    repeat' split
    all_goals omega
  have e2 : execR s (b.more n) = execC s.toList 10002 0 (moreF (clampN n 10000 - clampN b.fuel 10000) (startM b)) := by unfold execR; rw [start_more]
  obtain ⟨hf0, hN0⟩ := start_fine b hc.2.1 hin
  have hfu : (execR s b).2.fuel = clampN b.fuel 10000 := by rw [hB.fuel]; rfl
  have hfull : clampN b.fuel 10000 = fullN b.fuel := by
    unfold clampN fullN
    repeat' split
    all_goals omega
  refine ⟨_, _, _, _, _, _, _, _, _, _, clean_cells h, clean_cells h', fun h0 => ?_, fun h6 => ?_, fun h6 => ?_, ?_, ?_⟩
  · obtain ⟨q, _, hq⟩ := exec_halt s.toList 10002 0 (startM b) hf0 hN0 h0
    exact List.mem_of_getElem? hq
  · have := exec_more s.toList hd 10002 0 (startM b) h6
    rw [← e2] at this
    rw [this]
    exact ⟨rfl, rfl, rfl, rfl, rfl⟩
  · obtain ⟨hg, hle⟩ := exec_six s.toList hd 10002 10002 0 (startM b) (Nat.le_refl _) h6
    rw [← e2] at hg
    have hu := hB.fine.used
    have hcu : (execR s b).2.used = fullN b.fuel := by
      have hle' : (execR s b).2.fuel ≤ (execR s b).2.used := hle
      rw [← hfull, ← hfu]; omega
    refine ⟨hcu, by rw [← hcu]; exact hg.used, by rw [mkB_size, mkB_size]; exact hg.out.length_le, ?_⟩
    rw [mkB_extract, mkB_toList, mkB_size]
    exact (List.prefix_iff_eq_take.1 hg.out).symm
  · exact ⟨hB.fine.ok.used, hB.fine.ok.used'⟩
  · exact ⟨hB2.fine.ok.used, hB2.fine.ok.used'⟩

set_option maxRecDepth 100000 in
set_option maxHeartbeats 1600000 in
theorem fuel_walk (s : ByteArray) (b : BoxV) (more : Int) (w : World) (hs : s.size ≤ maxLen) (hin : b.inp.size ≤ maxLen) (hsi : b.image.size ≤ maxLen) :
    Calls Try.prog 8 #[.string s, b.val, .int .i64 more] w fun e w' => e = .returned (.bool true) ∧ Below w.heap.size w w' := by
  have HX := hide (fun w1 (Q : Nat → Prop) (hq : ∀ k, Q k → k < w1.heap.size) => lawExec_any (s := s) (b := b) (w := w1) (P := Q) hq hs hin hsi)
  have HX2 := hide (fun w1 (Q : Nat → Prop) (hq : ∀ k, Q k → k < w1.heap.size) => lawExec_any (s := s) (b := b.more more) (w := w1) (P := Q) hq hs hin hsi)
  have HC := hide (fun w1 => clean_any s b w1 hs hsi)
  have hsc := hide (fuel_cells (s := s) (b := b) hin)
  unfold RunPost at HX HX2
  have hbs2 : (b.more more).val = .agg #[.string b.inp, .string b.image, .int .i64 b.kernel, .int .i64 b.secret, .int .i64 b.rights, .int .i64 more] := rfl
  have hbs : b.val = .agg #[.string b.inp, .string b.image, .int .i64 b.kernel, .int .i64 b.secret, .int .i64 b.rights, .int .i64 b.fuel] := rfl
  rw [hbs2] at HX2
  rw [hbs] at HX HC ⊢
  obtain ⟨cl, hcl⟩ : ∃ cl, cl = cleanB s b := ⟨_, rfl⟩
  rw [← hcl] at HC hsc
  have hsc2 := hide (fun h => (unhide hsc) h more)
  clear hsc
  generalize execCells s b = cells at *
  generalize execCells s (b.more more) = cells2 at *
  generalize b.inp = bi at *
  generalize b.image = bm at *
  generalize b.kernel = bk at *
  generalize b.secret = bs at *
  generalize b.rights = br at *
  generalize b.fuel = bf at *
  unfold maxLen at hsi hs
  obtain ⟨w0, hw0⟩ : ∃ w0, w0 = w.alloc (.cells #[.string bi, .string bm, .int .i64 bk, .int .i64 bs, .int .i64 br, .int .i64 bf] 30) := ⟨_, rfl⟩
  have hk0 : Kept (fun k => k < w.heap.size) w w0 := by rw [hw0]; exact (Kept.refl _ w).alloc _
  have hb0 : w0.heap[w.heap.size]? = some (.cells #[.string bi, .string bm, .int .i64 bk, .int .i64 bs, .int .i64 br, .int .i64 bf] 30 (0, 0)) := by rw [hw0]; exact heap_alloc_new w _
  have hs0 : w0.heap.size = w.heap.size + 1 := by rw [hw0]; simp
  have hc1 := hide ((unhide HC) w0)
  have HK0 := hide hk0
  have HB0 := hide hb0
  have HW := hide hw0
  have HS0 := hide hs0
  clear HC hk0 hb0 hw0 hbs hbs2 hs0 hcl
  have hw1 : Hid (∀ w1, Kept (fun k => k < w0.heap.size) w0 w1 → w1.heap[w.heap.size]? = some (.cells #[.string bi, .string bm, .int .i64 bk, .int .i64 bs, .int .i64 br, .int .i64 bf] 30 (0, 0))) := fun w1 k1 => k1.at' HB0.out (by show _ < w0.heap.size; have := HS0.out; omega)
  cases cl with
  | false =>
    clear hsc2 HX HX2
    go_enter Try.func8, Try.ntmps8
    go_wp2_with fail
    rw [show w.alloc (.cells #[.string bi, .string bm, .int .i64 bk, .int .i64 bs, .int .i64 br, .int .i64 bf] 30) = w0 from HW.out.symm]
    refine (unhide hc1).mono ?_
    rintro e w1 ⟨rfl, k1⟩
    have hb := (HK0.out.trans k1.all).below (Nat.le_refl _)
    clear hc1 k1 HB0 HK0 HW
    go_wp2
    go_ret
    exact ⟨rfl, hb⟩
  | true =>
    by_cases q1 : more < bf
    · clear hsc2 HX HX2
      go_enter Try.func8, Try.ntmps8
      go_wp2_with fail
      rw [show w.alloc (.cells #[.string bi, .string bm, .int .i64 bk, .int .i64 bs, .int .i64 br, .int .i64 bf] 30) = w0 from HW.out.symm]
      refine (unhide hc1).mono ?_
      rintro e w1 ⟨rfl, k1⟩
      have hb := (HK0.out.trans k1.all).below (Nat.le_refl _)
      have hb1 := hw1.out w1 k1
      have hlt1 := lt_of_block hb1
      have e5 : w1.cell? ⟨w.heap.size, 5, none⟩ = some (.int .i64 bf) := cell_of_block hb1 5 _ rfl
      clear hc1 k1 HB0 HK0 HW hb1
      go_wp2
      go_ret
      exact ⟨rfl, hb⟩
    by_cases q2 : 10000 < more
    · clear hsc2 HX HX2
      go_enter Try.func8, Try.ntmps8
      go_wp2_with fail
      rw [show w.alloc (.cells #[.string bi, .string bm, .int .i64 bk, .int .i64 bs, .int .i64 br, .int .i64 bf] 30) = w0 from HW.out.symm]
      refine (unhide hc1).mono ?_
      rintro e w1 ⟨rfl, k1⟩
      have hb := (HK0.out.trans k1.all).below (Nat.le_refl _)
      have hb1 := hw1.out w1 k1
      have hlt1 := lt_of_block hb1
      have e5 : w1.cell? ⟨w.heap.size, 5, none⟩ = some (.int .i64 bf) := cell_of_block hb1 5 _ rfl
      clear hc1 k1 HB0 HK0 HW hb1
      go_wp2
      go_ret
      exact ⟨rfl, hb⟩
    obtain ⟨x, y, a, c, d, x2, y2, a2, c2, d2, h5, h52, p0, p1, p6, pc, pc2⟩ := (unhide hsc2) rfl (by omega) (by omega)
    rw [h5] at HX
    rw [h52] at HX2
    have P0 := hide p0
    have P1 := hide p1
    have P6 := hide p6
    clear hsc2 h5 h52 p0 p1 p6
    go_enter Try.func8, Try.ntmps8
    go_wp2_with fail
    rw [show w.alloc (.cells #[.string bi, .string bm, .int .i64 bk, .int .i64 bs, .int .i64 br, .int .i64 bf] 30) = w0 from HW.out.symm]
    refine (unhide hc1).mono ?_
    rintro e w1 ⟨rfl, k1⟩
    have hb1 := hw1.out w1 k1
    have HB1 := hide hb1
    have hlt1 := lt_of_block hb1
    have e0 : w1.cell? ⟨w.heap.size, 0, none⟩ = some (.string bi) := cell_of_block hb1 0 _ rfl
    have e1 : w1.cell? ⟨w.heap.size, 1, none⟩ = some (.string bm) := cell_of_block hb1 1 _ rfl
    have e2 : w1.cell? ⟨w.heap.size, 2, none⟩ = some (.int .i64 bk) := cell_of_block hb1 2 _ rfl
    have e3 : w1.cell? ⟨w.heap.size, 3, none⟩ = some (.int .i64 bs) := cell_of_block hb1 3 _ rfl
    have e4 : w1.cell? ⟨w.heap.size, 4, none⟩ = some (.int .i64 br) := cell_of_block hb1 4 _ rfl
    have e5 : w1.cell? ⟨w.heap.size, 5, none⟩ = some (.int .i64 bf) := cell_of_block hb1 5 _ rfl
    have KK1 : Hid (Kept (fun k => k < w.heap.size) w w1) := HK0.out.trans k1.all
    have hc2 := hide ((unhide HX) w1 (fun k => k < w1.heap.size) (fun k hk => hk))
    clear hc1 k1 HB0 HK0 HW hb1 HX hw1 HS0
    go_wp2_with fail
    refine (unhide hc2).mono ?_
    rintro e w2 ⟨rfl, k2⟩
    have hb2 := k2.at' HB1.out hlt1
    have HB2 := hide hb2
    have hlt2 := lt_of_block hb2
    have g0 : w2.cell? ⟨w.heap.size, 0, none⟩ = some (.string bi) := cell_of_block hb2 0 _ rfl
    have g1 : w2.cell? ⟨w.heap.size, 1, none⟩ = some (.string bm) := cell_of_block hb2 1 _ rfl
    have g2 : w2.cell? ⟨w.heap.size, 2, none⟩ = some (.int .i64 bk) := cell_of_block hb2 2 _ rfl
    have g3 : w2.cell? ⟨w.heap.size, 3, none⟩ = some (.int .i64 bs) := cell_of_block hb2 3 _ rfl
    have g4 : w2.cell? ⟨w.heap.size, 4, none⟩ = some (.int .i64 br) := cell_of_block hb2 4 _ rfl
    have g5 : w2.cell? ⟨w.heap.size, 5, none⟩ = some (.int .i64 bf) := cell_of_block hb2 5 _ rfl
    have KK2 : Hid (Kept (fun k => k < w.heap.size) w w2) := KK1.out.trans k2.all
    clear hc2 k2 HB1 KK1 hb2 e0 e1 e2 e3 e4 e5
    obtain ⟨w3, hw3⟩ : ∃ w3, w3 = (w2.alloc (.cells #[.string x, .string y, .int .i64 a, .int .i64 c, .int .i64 d] 32)).alloc (.cells #[.string bi, .string bm, .int .i64 bk, .int .i64 bs, .int .i64 br, .int .i64 more] 30) := ⟨_, rfl⟩
    have hb3 : w3.heap[w.heap.size]? = some (.cells #[.string bi, .string bm, .int .i64 bk, .int .i64 bs, .int .i64 br, .int .i64 bf] 30 (0, 0)) := by rw [hw3]; exact alloc_block (alloc_block HB2.out)
    have hr3 : w3.heap[w2.heap.size]? = some (.cells #[.string x, .string y, .int .i64 a, .int .i64 c, .int .i64 d] 32 (0, 0)) := by rw [hw3]; exact alloc_block (heap_alloc_new w2 _)
    have KK3 : Hid (Kept (fun k => k < w.heap.size) w w3) := by unfold Hid; rw [hw3]; exact (KK2.out.alloc _).alloc _
    have HB3 := hide hb3
    have HR3 := hide hr3
    have hlt3 := lt_of_block hb3
    have hltr := lt_of_block hr3
    have hc4 := hide ((unhide HX2) w3 (fun k => k < w3.heap.size) (fun k hk => hk))
    have HW3 := hide hw3
    clear HX2 KK2 HB2 hb3 hr3 hw3
    go_wp2_with fail
    rw [show (w2.alloc (.cells #[.string x, .string y, .int .i64 a, .int .i64 c, .int .i64 d] 32)).alloc (.cells #[.string bi, .string bm, .int .i64 bk, .int .i64 bs, .int .i64 br, .int .i64 more] 30) = w3 from HW3.out.symm]
    refine (unhide hc4).mono ?_
    rintro e w4 ⟨rfl, k4⟩
    have hb4 := k4.at' HB3.out hlt3
    have hr4 := k4.at' HR3.out hltr
    have hlt4 := lt_of_block hb4
    have hltr4 := lt_of_block hr4
    have f5 : w4.cell? ⟨w.heap.size, 5, none⟩ = some (.int .i64 bf) := cell_of_block hb4 5 _ rfl
    obtain ⟨⟨j0, j1, j2, j3, j4⟩, _⟩ := set5_cells hr4
    have KK4 : Hid (Kept (fun k => k < w.heap.size) w (w4.alloc (.cells #[.string x2, .string y2, .int .i64 a2, .int .i64 c2, .int .i64 d2] 32))) := (KK3.out.trans k4.all).alloc _
    clear hc4 k4 HB3 HR3 HW3 KK3 hb4 hr4 g0 g1 g2 g3 g4 g5 hlt3 hltr
    by_cases d6 : d = 6
    · obtain ⟨s1, s2, s3, s4⟩ := P6.out d6
      subst d6
      have u1 : (c == fullN bf) = true := by rw [s1]; simp
      have u4 : ((x2.extract 0 x.size).toList == x.toList) = true := by rw [s4]; simp
      clear P0 P1 P6 s4 s1
      unfold fullN at u1 s2
      by_cases hneg : bf < 0
      · rw [if_pos hneg] at u1 s2
        go_wp2_with (go_at_call 11; refine (num2_any _ _).mono ?_; rintro e w3 ⟨rfl, rfl⟩)
        go_quiet (fail)
        go_wp2
        go_ret
        exact ⟨rfl, (KK4.out.trans (Kept.drewN _ _ _)).below (Nat.le_refl _)⟩
      · rw [if_neg hneg] at u1 s2
        go_wp2_with (go_at_call 11; refine (num2_any _ _).mono ?_; rintro e w3 ⟨rfl, rfl⟩)
        go_quiet (fail)
        go_wp2
        go_ret
        exact ⟨rfl, (KK4.out.trans (Kept.drewN _ _ _)).below (Nat.le_refl _)⟩
    · obtain ⟨rfl, rfl, rfl, rfl, rfl⟩ := P1.out d6
      have hd6 : (d2 != 6) = true := bne_iff_ne.2 d6
      have HSm := hide (fun w' => same_same x2 y2 a2 c2 d2 w' (fun k => k < w.heap.size))
      clear P1 P6 d6
      by_cases d0 : d2 = 0
      · have hmem := P0.out d0
        have HM := hide hmem
        have hd0 : (d2 == 0) = true := by rw [d0]; rfl
        clear P0 d0 hmem
        go_wp2_with (go_at_call 11; refine (num2_any _ _).mono ?_; rintro e w3 ⟨rfl, rfl⟩)
        go_loop [10, 11] (fun h i => ∃ k : Nat, k ≤ s.size ∧ i = .int .i64 k ∧ h = .bool (decide ((0 : UInt8) ∈ s.toList.take k))) (fun _ i => s.size - (intOf i).toNat)
        case atStart => exact ⟨0, Nat.zero_le _, rfl, by simp⟩
        case round =>
          obtain ⟨k, hk, rfl, rfl⟩ := hrel
          by_cases hlt : k < s.size
          · have htk : Hid (decide ((0 : UInt8) ∈ s.toList.take (k + 1)) = (decide ((0 : UInt8) ∈ s.toList.take k) || decide ((s[k].toNat : Int) = 0))) := by
              have hg : s.toList[k]? = some s[k] := by
                rw [ByteArray.toList_eq]
                have h' : k < s.data.toList.length := by simpa using hlt
                rw [List.getElem?_eq_getElem h']; rfl
              unfold Hid
              rw [List.take_add_one, hg]
              by_cases hz : s[k] = 0
              · have : ((s[k].toNat : Int)) = 0 := by rw [hz]; rfl
                rw [decide_eq_true this, Bool.or_true]; simp [hz]
              · have hz2 : ¬ ((s[k].toNat : Int)) = 0 := fun e => hz (UInt8.toNat_inj.1 (by show _ = 0; omega))
                have hz3 : ¬ (0 : UInt8) = s[k] := fun e => hz e.symm
                rw [decide_eq_false hz2, Bool.or_false]; simp [hz3]
            by_cases hz : (s[k].toNat : Int) = 0
            · rw [decide_eq_true hz, Bool.or_true] at htk
              have hzb : ((s[k].toNat : Int) == 0) = true := by rw [hz]; rfl
              generalize decide ((0 : UInt8) ∈ s.toList.take k) = fl at *
              go_wp2
              go_round
              case rel => exact ⟨k + 1, by omega, by go_num, by rw [htk.out]⟩
              case measure => simp [intOf]; omega
            · rw [decide_eq_false hz, Bool.or_false] at htk
              have hzb : ((s[k].toNat : Int) == 0) = false := beq_eq_false_iff_ne.2 hz
              generalize decide ((0 : UInt8) ∈ s.toList.take k) = fl at *
              go_wp2
              go_round
              case rel => exact ⟨k + 1, by omega, by go_num, by rw [htk.out]⟩
              case measure => simp [intOf]; omega
          · have hke : k = s.size := by omega
            have hfl : decide ((0 : UInt8) ∈ s.toList.take k) = true := by
              rw [hke, ← toList_len, List.take_length]; exact decide_eq_true HM.out
            rw [hfl]
            clear hfl HM
            go_wp2_with (first | (go_at_call 11; refine (num2_any _ _).mono ?_; rintro e w3 ⟨rfl, rfl⟩) | (go_at_call 18; refine ((unhide HSm) _).mono ?_; rintro e w5 ⟨rfl, k5⟩))
            go_ret
            exact ⟨rfl, (KK4.out.trans k5).below (Nat.le_refl _)⟩
      · have hd0 : (d2 == 0) = false := beq_eq_false_iff_ne.2 d0
        clear P0 d0
        go_wp2_with (first | (go_at_call 11; refine (num2_any _ _).mono ?_; rintro e w3 ⟨rfl, rfl⟩) | (go_at_call 18; refine ((unhide HSm) _).mono ?_; rintro e w5 ⟨rfl, k5⟩))
        go_ret
        exact ⟨rfl, (KK4.out.trans k5).below (Nat.le_refl _)⟩

set_option maxRecDepth 100000 in
theorem fuel_lifted (os : Os) (started : os.Started) (H : Type) (enc : TypeId × Value → H) :
    ReturnsInHanded {} Try.checked os 8 .any (Rows.fuelSpec.pre6 enc Try.prog Try.f8 Rows.fuelRow.domain false) (Rows.fuelSpec.post enc Try.prog Try.f8 false true false false) := by
  refine returnsInHanded_of_change (C := Try.checked) own2 started (by kernel_rfl) Try.func8
    (ChangeSpec.witness6 (enc := enc) (C := Try.checked) false ⟨#[], #[.string ⟨#[97]⟩, .agg #[.string ⟨#[]⟩, .string ⟨#[]⟩, .int .i64 0, .int .i64 0, .int .i64 0, .int .i64 0], .int .i64 0], []⟩ 8 (by kernel_rfl) (by kernel_rfl) (by kernel_rfl) (by kernel_rfl)) ?_
  intro W base args ds gs before hval0 hW _ _
  have hval : ∀ (j : Nat) t v, Try.f8.params[j]? = some t → args[j]? = some v → Value.okWide Try.prog W .any base t v := hval0
  have hW' := hW
  obtain ⟨p, q, hA0, hV, rfl, _, _⟩ := hW
  have hA : DataW.TrodAll enc Try.prog W 0 (fun _ => true) true Try.f8.params.toList args.toList ds p := hA0
  rw [Try.params8] at hA hval
  obtain ⟨v0, vs0, d0, ds0, p0, q0, hargs, rfl, rfl, h0, r0⟩ := trodAll_cons hA
  obtain ⟨v1, vs1, d1, ds1, p1, q1, hargs1, rfl, rfl, h1, r1⟩ := trodAll_cons r0
  obtain ⟨v2, vs2, d2, ds2, p2, q2, hargs2, rfl, rfl, h2, r2⟩ := trodAll_cons r1
  obtain ⟨rfl, rfl, rfl⟩ := trodAll_nil r2
  obtain rfl : args = #[v0, v1, v2] := by cases args; simp_all
  obtain ⟨rfl, rfl⟩ := trodVars_none hV
  obtain ⟨s, rfl, rfl, rfl, hs⟩ := open_string Try.underlying9 (hval 0 9 v0 rfl rfl) h0
  obtain ⟨b, rfl, rfl, rfl, hb⟩ := open_box (hval 1 30 v1 rfl rfl) h1
  obtain ⟨more, rfl, rfl, rfl, hmore⟩ := open_int Try.underlying3 (hval 2 3 v2 rfl rfl) h2
  clear hA0 hval0
  simp only [List.append_nil] at hW'
  refine (fuel_walk s b more W hs hb.inp hb.image).mono fun e W' ⟨he, hg⟩ => ?_
  subst he
  refine ⟨_, rfl, _, _, _, [], [], [], hW', ?_, ?_, rfl, hg.frame _, fun h => by cases h⟩
  · exact trodAll_cons_mk (shut_bool Try.underlying4 _) trodAll_mk0
  · exact trodAll_cons_mk (shut_string Try.underlying9 hs) (trodAll_cons_mk (shut_box b hb) (trodAll_cons_mk (shut_int Try.underlying3 hmore) trodAll_mk0))

theorem fuel_holds : Rows.FuelSaid :=
  OpenClaim.holds_of_wide 8 Try.f8 rfl rfl rfl rfl rfl rfl rfl ⟨rfl, rfl, rfl, rfl, rfl⟩ rfl rfl rfl rfl rfl (by kernel_rfl) Try.func8 (by kernel_rfl)
    (of_decide_eq_true (by kernel_rfl)) (by unfold Func.isWrapper; first | (rw [if_pos (by decide +kernel)]; kernel_rfl) | (rw [if_neg (by decide +kernel)]; exact ⟨rfl, rfl⟩))
    (fun os started H enc _ => fuel_lifted os started H enc)
end Go.Proofs.Ytnanjomnldfidaa
