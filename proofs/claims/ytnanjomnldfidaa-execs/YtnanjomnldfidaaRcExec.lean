/-
  graderref's code: step, Exec; graderlaw's refExec, as.
-/
import Derived.Test.YtnanjomnldfidaaRcVer
import Derived.Test.YtnanjomnldfidaaExecTop
import Derived.BigQuiet
set_option linter.unusedSimpArgs false
set_option linter.unusedVariables false
set_option linter.unusedSectionVars false
namespace Go.Proofs.Ytnanjomnldfidaa
open Go.ChangeShapes Go.WideShapes Go.ChangeAt Go.RowKit

section
variable {w : World} {P : Nat → Prop} {b : Nat} {M : Ma}
set_option maxRecDepth 100000 in
set_option maxHeartbeats 3200000 in
theorem refStep_any (h : RmIs w P b M) (hok : M.Ok) (s : ByteArray) (hs : s.size ≤ 1024) (k : Nat) (hw : wholeC s.toList (k : Int)) (h0 : (atC s.toList (k : Int)).toNat ≠ 0) :
    Calls Try.prog 35 #[.pointer (some ⟨b, 0, none⟩), .string s, .int .i64 (k : Int)] w (Step2Post P b (stepC s.toList (k : Int) M) w) := by
  have hl : s.toList.length = s.size := toList_len s
  have hk : k < s.size := by have := hw.2.1; rw [hl] at this; omega
  have hc := atC_is s k hk
  have hz := hw.2.2.2
  have hopk := sizeC_op hw.2.2.1 (fun e => h0 (by rw [e]; rfl))
  rw [hl] at hz
  have hc0 : 0 ≤ (s[k].toNat : Int) := by omega
  have hc1 : (s[k].toNat : Int) < 256 := by have := s[k].toNat_lt; omega
  have hk4 : (k : Int) < 1024 := by omega
  have h3 : (1 ≤ s[k].toNat ∧ s[k].toNat ≤ 4) → k + 2 < s.size := fun q => by
    have : sizeC (atC s.toList (k : Int)) = 3 := sizeC_three.2 (by rw [hc]; exact q)
    rw [this] at hz; omega
  have hsize : sizeC (atC s.toList (k : Int)) = szI (s[k].toNat : Int) := by rw [hc]; exact sizeC_szI _ _ rfl
  have HO := hide (fun (hk : k + 2 < s.size) w' => refOperand_any s hs k hk w')
  unfold stepC
  rw [hsize]
  rw [hc] at hopk ⊢
  generalize operC s.toList (k : Int) = t at *
  clear hw h0 hz hsize hc
  have hcases : s[k].toNat = 1 ∨ s[k].toNat = 2 ∨ s[k].toNat = 3 ∨ s[k].toNat = 4 ∨ s[k].toNat = 5 ∨ (16 ≤ s[k].toNat ∧ s[k].toNat ≤ 34) := by unfold opOk at hopk; omega
  have hmm : ∀ n : Nat, s[k].toNat = n → (s[k].toNat : Int) = (n : Int) := fun n e => by rw [e]
  rcases hcases with e | e | e | e | e | e
  · have h32 := h3 (by omega)
    have hcc : (s[k].toNat : Int) = 1 := hmm 1 e
    rw [hcc]
    have hst : stepM 1 t ((k : Int) + (szI 1 : Nat)) M = ((k : Int) + 3, M.number t) := rfl
    rw [hst]
    have hop := hide ((unhide HO) h32 w)
    have hn := hide (number_any h.drew hok t)
    unfold StepPost at hn
    unfold Step2Post
    generalize M.number t = r at *
    clear hst e h3 HO hopk hmm h
    go_enter Try.func35, Try.ntmps35
    go_wp2_with fail
    refine (unhide hop).mono ?_
    rintro e w1 ⟨rfl, rfl⟩
    clear hop
    go_wp2_with fail
    refine (unhide hn).mono ?_
    rintro e w1 ⟨rfl, m1, k1⟩
    have k2 : Kept P w w1 := ((Kept.refl P w).drew).trans k1
    clear hn k1
    go_wp2
    go_ret2
    exact ⟨rfl, m1, k2⟩
  · have h32 := h3 (by omega)
    have hcc : (s[k].toNat : Int) = 2 := hmm 2 e
    rw [hcc]
    have hst : stepM 2 t ((k : Int) + (szI 2 : Nat)) M = (t, M.pass) := rfl
    rw [hst]
    have hop := hide ((unhide HO) h32)
    have hn := hide (pass_any h hok)
    unfold StepPost at hn
    unfold Step2Post
    generalize M.pass = r at *
    clear hst e h3 HO hopk hmm h
    go_enter Try.func35, Try.ntmps35
    go_wp2_with fail
    refine (unhide hn).mono ?_
    rintro e w1 ⟨rfl, m1, k1⟩
    clear hn
    go_wp2_with fail
    refine ((unhide hop) w1).mono ?_
    rintro e w2 ⟨rfl, rfl⟩
    clear hop
    go_wp2
    go_ret2
    exact ⟨rfl, m1.drew, k1.drew⟩
  · have h32 := h3 (by omega)
    have hcc : (s[k].toNat : Int) = 3 := hmm 3 e
    rw [hcc]
    have hst : stepM 3 t ((k : Int) + (szI 3 : Nat)) M = (if M.takeN.1 = 0 then t else (k : Int) + 3, M.takeN.2) := rfl
    rw [hst]
    have hop := hide ((unhide HO) h32)
    have hn := hide (takeN_any h hok)
    unfold Step2Post at hn ⊢
    generalize M.takeN = r at *
    clear hst e h3 HO hopk hmm h
    by_cases hr : r.1 = 0
    · rw [if_pos hr]
      have hrb : (r.1 == 0) = true := by rw [hr]; rfl
      clear hr
      go_enter Try.func35, Try.ntmps35
      go_wp2_with fail
      refine (unhide hn).mono ?_
      rintro e w1 ⟨rfl, m1, k1⟩
      clear hn
      go_wp2_with fail
      refine ((unhide hop) w1).mono ?_
      rintro e w2 ⟨rfl, rfl⟩
      clear hop
      go_wp2
      go_ret2
      exact ⟨rfl, m1.drew, k1.drew⟩
    · rw [if_neg hr]
      have hrb : (r.1 == 0) = false := beq_eq_false_iff_ne.2 hr
      clear hr
      go_enter Try.func35, Try.ntmps35
      go_wp2_with fail
      refine (unhide hn).mono ?_
      rintro e w1 ⟨rfl, m1, k1⟩
      clear hn
      go_wp2
      go_ret2
      exact ⟨rfl, m1, k1⟩
  · have h32 := h3 (by omega)
    have hcc : (s[k].toNat : Int) = 4 := hmm 4 e
    rw [hcc]
    have hst : stepM 4 t ((k : Int) + (szI 4 : Nat)) M = (t, M.call ((k : Int) + 3)) := rfl
    rw [hst]
    have hop := hide ((unhide HO) h32)
    have hn := hide (call_any h hok ((k : Int) + 3))
    unfold StepPost at hn
    unfold Step2Post
    generalize M.call ((k : Int) + 3) = r at *
    clear hst e h3 HO hopk hmm h
    go_enter Try.func35, Try.ntmps35
    go_wp2_with fail
    refine (unhide hn).mono ?_
    rintro e w1 ⟨rfl, m1, k1⟩
    clear hn
    go_wp2_with fail
    refine ((unhide hop) w1).mono ?_
    rintro e w2 ⟨rfl, rfl⟩
    clear hop
    go_wp2
    go_ret2
    exact ⟨rfl, m1.drew, k1.drew⟩
  · have hcc : (s[k].toNat : Int) = 5 := hmm 5 e
    rw [hcc]
    have hst : stepM 5 t ((k : Int) + (szI 5 : Nat)) M = M.ret := rfl
    rw [hst]
    have hn := hide (ret_any h hok)
    unfold Step2Post at hn ⊢
    generalize M.ret = r at *
    clear hst e h3 HO hopk hmm h
    go_enter Try.func35, Try.ntmps35
    go_wp2_with fail
    refine (unhide hn).mono ?_
    rintro e w1 ⟨rfl, m1, k1⟩
    clear hn
    go_wp2
    go_ret2
    exact ⟨rfl, m1, k1⟩
  · have e1 : 16 ≤ (s[k].toNat : Int) := by omega
    have e2 : (s[k].toNat : Int) ≤ 34 := by omega
    have hsz : szI (s[k].toNat : Int) = 1 := by
      have q1 : ¬ ((s[k].toNat : Int) = 1 ∨ (s[k].toNat : Int) = 2 ∨ (s[k].toNat : Int) = 3 ∨ (s[k].toNat : Int) = 4) := by omega
      have q2 : (s[k].toNat : Int) = 0 ∨ (s[k].toNat : Int) = 5 ∨ (16 ≤ (s[k].toNat : Int) ∧ (s[k].toNat : Int) ≤ 34) := by omega
      unfold szI; rw [if_neg q1, if_pos q2]
    have hst : stepM (s[k].toNat : Int) t ((k : Int) + (szI (s[k].toNat : Int) : Nat)) M = ((k : Int) + 1, M.doN ((s[k].toNat : Int) - 16)) := by
      rw [hsz]
      unfold stepM
      rw [if_neg (show ¬ (s[k].toNat : Int) = 1 by omega), if_neg (show ¬ (s[k].toNat : Int) = 2 by omega), if_neg (show ¬ (s[k].toNat : Int) = 3 by omega), if_neg (show ¬ (s[k].toNat : Int) = 4 by omega), if_neg (show ¬ (s[k].toNat : Int) = 5 by omega)]
      rfl
    rw [hst]
    have hn := hide (do_any h hok ((s[k].toNat : Int) - 16) (by omega) (by omega))
    unfold StepPost at hn
    unfold Step2Post
    generalize M.doN ((s[k].toNat : Int) - 16) = r at *
    clear hst e h3 HO hopk hmm h hsz
    generalize hcc : (s[k].toNat : Int) = c at *
    have b1 : (c == 1) = false := beq_eq_false_iff_ne.2 (by omega)
    have b2 : (c == 2) = false := beq_eq_false_iff_ne.2 (by omega)
    have b3 : (c == 3) = false := beq_eq_false_iff_ne.2 (by omega)
    have b4 : (c == 4) = false := beq_eq_false_iff_ne.2 (by omega)
    have b5 : (c == 5) = false := beq_eq_false_iff_ne.2 (by omega)
    go_enter Try.func35, Try.ntmps35
    go_wp2_with fail
    refine (unhide hn).mono ?_
    rintro e w1 ⟨rfl, m1, k1⟩
    clear hn
    go_wp2
    go_ret2
    exact ⟨rfl, m1, k1⟩
end

section
variable (s : ByteArray) (b : BoxV) (w : World) (P : Nat → Prop)
set_option maxRecDepth 100000 in
set_option maxHeartbeats 3200000 in
theorem refExec_long (hP : ∀ k, P k → k < w.heap.size) (hs : s.size ≤ maxLen) (hsi : b.image.size ≤ maxLen) (hlim : 1024 < s.size ∨ 256 < b.image.size ∨ 10000 < b.fuel) :
    Calls Try.prog 22 #[.string s, .string b.inp, .string b.image, .int .i64 b.kernel, .int .i64 b.secret, .int .i64 b.rights, .int .i64 b.fuel] w (RunPost P (errCells 1) w) := by
  have hk : Kept P w (w.alloc (.cells #[.string ⟨#[]⟩, .string ⟨#[]⟩, .int .i64 0, .int .i64 0, .int .i64 1] 35)) := (Kept.refl P w).alloc _
  by_cases q1 : 1024 < s.size
  · unfold maxLen at hs
    generalize b.inp = bi at *
    generalize b.image = bm at *
    generalize b.kernel = bk at *
    generalize b.secret = bs at *
    generalize b.rights = br at *
    generalize b.fuel = bf at *
    clear hlim hP hsi
    go_enter Try.func22, Try.ntmps22
    go_wp2
    exact bodyPost_ret (v := .agg (errCells 1)) (by simp [results, Try.results22, go_sem, errCells]) rfl ⟨rfl, hk⟩
  · have hlim2 : 256 < b.image.size ∨ 10000 < b.fuel := by omega
    have hlm := hide (fun w' => limits_any b.image b.fuel w' hsi)
    rw [if_pos hlim2] at hlm
    unfold maxLen at hs
    generalize b.inp = bi at *
    generalize b.image = bm at *
    generalize b.kernel = bk at *
    generalize b.secret = bs at *
    generalize b.rights = br at *
    generalize b.fuel = bf at *
    clear hlim hP hsi hlim2
    go_enter Try.func22, Try.ntmps22
    go_wp2_with fail
    refine ((unhide hlm) _).mono ?_
    rintro e w1 ⟨rfl, rfl⟩
    clear hlm
    go_wp2
    exact bodyPost_ret (v := .agg (errCells 1)) (by simp [results, Try.results22, go_sem, errCells]) rfl ⟨rfl, hk⟩

set_option maxRecDepth 100000 in
set_option maxHeartbeats 1000000 in
theorem refExec_ok (hP : ∀ k, P k → k < w.heap.size) (hs : s.size ≤ 1024) (hin : b.inp.size ≤ maxLen) (hsi : b.image.size ≤ 256) (hfu : b.fuel ≤ 10000) :
    Calls Try.prog 22 #[.string s, .string b.inp, .string b.image, .int .i64 b.kernel, .int .i64 b.secret, .int .i64 b.rights, .int .i64 b.fuel] w (RunPost P (resCells (execR s b).2 (execR s b).1) w) := by
  have hl : s.toList.length = s.size := toList_len s
  obtain ⟨hf0, hN0⟩ := start_fine b hsi hin
  have HF0 := hide hf0
  have HN0 := hide hN0
  obtain ⟨w0, hw0⟩ : ∃ w0, w0 = w.alloc (.cells #[.string ⟨#[]⟩, .string ⟨#[]⟩, .int .i64 0, .int .i64 0, .int .i64 0] 35) := ⟨_, rfl⟩
  have hk0 : Kept P w w0 := by rw [hw0]; exact (Kept.refl P w).alloc _
  have hbox : w0.heap[w.heap.size]? = some (.cells #[.string ⟨#[]⟩, .string ⟨#[]⟩, .int .i64 0, .int .i64 0, .int .i64 0] 35 (0, 0)) := by rw [hw0]; exact heap_alloc_new w _
  have hsz0 : w0.heap.size = w.heap.size + 1 := by rw [hw0]; simp
  obtain ⟨P1, hP1⟩ : ∃ P1 : Nat → Prop, P1 = fun k => P k ∨ k = w.heap.size := ⟨_, rfl⟩
  have hP1b : ∀ k, P1 k → k < w0.heap.size := by
    intro k hk
    rw [hP1] at hk
    rcases hk with hk | hk
    · have := hP k hk; omega
    · omega
  have hP1i : Hid (∀ k, P k → P1 k) := by intro k hk; rw [hP1]; exact .inl hk
  have hP1r : Hid (P1 w.heap.size) := by unfold Hid; rw [hP1]; exact .inr rfl
  have hlm := hide (fun w' => limits_any b.image b.fuel w' (by unfold maxLen; omega))
  rw [if_neg (show ¬ (256 < b.image.size ∨ 10000 < b.fuel) by omega)] at hlm
  have HNm := hide (newMach_any b.inp b.image b.kernel b.secret b.rights b.fuel w0 P1 hP1b hsi)
  have HWh := hide (fun p w' => refWhole_any s hs p w')
  have HSt := hide (fun w' (M : Ma) (h : RmIs w' P1 w0.heap.size M) (hok : M.Ok) (k : Nat) => refStep_any h hok s hs k)
  have hM0 : Ma.start b.inp b.image.toList b.kernel b.secret b.rights b.fuel = startM b := rfl
  rw [hM0] at HNm
  have HR0 : Hid (execC s.toList 10002 0 (startM b) = execR s b) := rfl
  generalize execR s b = R at *
  generalize startM b = M0 at *
  have hi2 : ((b.image.size : Int) ≤ 256) := by omega
  have hs2 : ((s.size : Int) ≤ 1024) := by omega
  have HP := hide hP
  have HK := hide hk0
  have HB := hide hbox
  have HW := hide hw0
  clear hP hk0 hbox hP1 hP1b hM0 hf0 hN0 hw0 hsz0
  generalize b.inp = bi at *
  generalize b.image = bm at *
  generalize b.kernel = bk at *
  generalize b.secret = bs at *
  generalize b.rights = br at *
  generalize b.fuel = bf at *
  go_enter Try.func22, Try.ntmps22
  go_wp2_with fail
  rw [show w.alloc (.cells #[.string ⟨#[]⟩, .string ⟨#[]⟩, .int .i64 0, .int .i64 0, .int .i64 0] 35) = w0 from HW.out.symm]
  refine ((unhide hlm) w0).mono ?_
  rintro e w1 ⟨rfl, rfl⟩
  clear hlm HW
  go_wp2_with fail
  refine (unhide HNm).mono ?_
  rintro e w2 ⟨rfl, m2, k2⟩
  have hg2 : w1.heap.size < w2.heap.size := by obtain ⟨vs, vc, h⟩ := m2; exact h.lt
  have K2 := hide k2
  have HM2 := hide m2
  clear m2 k2 HNm
  have hfinal : Hid (∀ wr M n, RmIs wr P1 w1.heap.size M → Kept P1 w2 wr → R = (n, M) → Calls Try.prog 34 #[.pointer (some ⟨w1.heap.size, 0, none⟩), .int .i64 n] wr fun e w' => e = .returned (.agg #[.string (mkB M.out), .string (mkB M.image), .int .i64 M.mark, .int .i64 M.used, .int .i64 n]) ∧ ((w'.heap[w.heap.size]? = some (.cells #[.string ⟨#[]⟩, .string ⟨#[]⟩, .int .i64 0, .int .i64 0, .int .i64 0] 35 (0, 0)) ∧ w.heap.size < w'.heap.size) ∧ Hid (∀ e2, e2 = Ending.returned (.agg (resCells M n)) → RunPost P (resCells R.2 R.1) w e2 (set5 w' w.heap.size (.string (mkB M.out)) (.string (mkB M.image)) (.int .i64 M.mark) (.int .i64 M.used) (.int .i64 n))))) := by
    intro wr M n hm hk hR
    refine (end_any hm n).mono ?_
    rintro e w' ⟨he, hk'⟩
    have hkk : Kept P1 w1 w' := (K2.out.trans hk).trans hk'
    have hb' := hkk.at' HB.out hP1r.out
    refine ⟨he, ⟨hb', lt_of_block hb'⟩, fun e2 h2 => ?_⟩
    rw [hR]
    exact ⟨h2, (HK.out.trans (hkk.mono hP1i.out)).trans (set5_kept (fun hp => by have := HP.out _ hp; omega) _ _ _ _ _)⟩
  clear HP HK
  go_wp2
  go_loopw [17] (fun i wr => ∃ (p : Int) (M : Ma) (n : Nat), i = .int .i64 p ∧ RmIs wr P1 w1.heap.size M ∧ Kept P1 w2 wr ∧ Hid (Fine M) ∧ Hid ((M.fuel - M.used).toNat < n) ∧ Hid (execC s.toList n p M = R)) (fun i wr => (10001 - usedOf wr w1.heap.size).toNat)
  case atStart => exact ⟨0, M0, 10002, rfl, HM2.out, Kept.refl _ _, HF0, HN0, HR0⟩
  case round =>
    obtain ⟨p, M, n, rfl, hm, hk, hfine, hms, hrun⟩ := hrel
    clear HM2 HF0 HN0 HR0
    have hnp : 0 < n := by have := hms.out; omega
    have hwh := hide ((unhide HWh) p wr)
    have hgr : w1.heap.size < wr.heap.size := by obtain ⟨vs, vc, h⟩ := hm; exact h.lt
    by_cases hw : wholeC s.toList p
    · rw [decide_eq_true hw] at hwh
      obtain ⟨k, rfl⟩ := Int.eq_ofNat_of_zero_le hw.1
      have hkk : k < s.size := by have := hw.2.1; rw [hl] at this; omega
      have hc := atC_is s k hkk
      by_cases hc0 : (atC s.toList (k : Int)).toNat = 0
      · have hR2 : R = (0, M) := by rw [← hrun.out]; exact exec_stop hnp hw hc0
        have hend := hide (hfinal.out wr M 0 hm hk hR2)
        have hcb : ((s[k].toNat : Int) == 0) = true := by rw [← hc, hc0]; rfl
        clear hw hc hc0 hR2 hfinal hrun hms hfine hm hk HSt HWh K2
        go_wp2_with fail
        refine (unhide hwh).mono ?_
        rintro e w3 ⟨rfl, rfl⟩
        clear hwh
        go_wp2_with fail
        refine (unhide hend).mono ?_
        rintro e w6 ⟨rfl, ⟨hb6, hlt6⟩, hpost⟩
        have hfin : Hid ((set5 w6 w.heap.size (.string (mkB M.out)) (.string (mkB M.image)) (.int .i64 M.mark) (.int .i64 M.used) (.int .i64 0)).heap[w.heap.size]? = some (.cells #[.string (mkB M.out), .string (mkB M.image), .int .i64 M.mark, .int .i64 M.used, .int .i64 0] 35 (0, 0))) := set5_box hb6 _ _ _ _ _
        obtain ⟨⟨c0, c1, c2, c3, c4⟩, fr⟩ := set5_cells hb6
        have f0 := fr 0
        have f1 := fr 1
        have f2 := fr 2
        have f3 := fr 3
        have f4 := fr 4
        clear hend hb6 fr
        unfold set5 at hfin hpost
        go_wp2
        obtain ⟨⟨d0, d1, d2, d3, d4⟩, _⟩ := set5_cells hfin.out
        refine bodyPost_ret (v := .agg (resCells M 0)) ?_ rfl (hpost.out _ rfl)
        clear c0 c1 c2 c3 c4 hfin hpost f0 f1 f2 f3 f4
        revert d0 d1 d2 d3 d4
        generalize World.setCell _ _ _ = W2
        intro d0 d1 d2 d3 d4
        simp [results, Try.results22, go_sem, d0, d1, d2, d3, d4, resCells]
      · have hst := hide ((unhide HSt) wr M hm hfine.out.ok k hw hc0)
        unfold Step2Post at hst
        have herr := hide (exec_err (M := M) hnp hw hc0)
        have hon := hide (fun m => exec_on (n := m) (M := M) hw hc0)
        have hfs := hide (fine_step hfine.out hw hc0)
        have hsame : Hid ((stepC s.toList (k : Int) M).2.1 ≠ 0 → (stepC s.toList (k : Int) M).2.2 = M) := fun h => stepM_same _ _ _ M h
        generalize stepC s.toList (k : Int) M = q at *
        have hcb : ((s[k].toNat : Int) == 0) = false := beq_eq_false_iff_ne.2 (by rw [hc] at hc0; omega)
        have hou := hfine.out.ok.used'
        have hmu := hide (usedOf_is hm)
        clear hw hc hc0
        by_cases h0 : q.2.1 = 0
        · have hb0 : (q.2.1 != 0) = false := by rw [h0]; rfl
          obtain ⟨n', hn'⟩ : ∃ n', n = n' + 1 := ⟨n - 1, by omega⟩
          subst hn'
          obtain ⟨g1, g2, g3, g4⟩ := (unhide hfs) h0
          have hfine2 : Hid (Fine q.2.2) := g1
          have hrun2 : Hid (execC s.toList n' q.1 q.2.2 = R) := by unfold Hid; rw [← hrun.out]; exact ((unhide hon) n' h0).symm
          have hms2 : Hid ((q.2.2.fuel - q.2.2.used).toNat < n') := by have := hms.out; unfold Hid; omega
          have hmeas : Hid ((10001 - q.2.2.used).toNat < (10001 - M.used).toNat) := by unfold Hid; omega
          clear hfs hon herr hsame h0 g1 g2 g3 g4 hrun hms hfine hm hfinal HSt HWh K2
          go_wp2_with fail
          refine (unhide hwh).mono ?_
          rintro e w3 ⟨rfl, rfl⟩
          clear hwh
          go_wp2_with fail
          refine (unhide hst).mono ?_
          rintro e w4 ⟨rfl, m4, k4⟩
          have hmu2 := hide (usedOf_is m4)
          clear hst
          go_wp2
          refine ⟨⟨q.1, q.2.2, n', rfl, m4, hk.trans k4, hfine2, hms2, hrun2⟩, ?_⟩
          rw [hmu2.out, hmu.out]
          exact hmeas.out
        · have hb0 : (q.2.1 != 0) = true := bne_iff_ne.2 h0
          have hR2 : R = (q.2.1, M) := by rw [← hrun.out]; exact (unhide herr) h0
          have hqm : q.2.2 = M := hsame.out h0
          rw [hqm] at hst
          have hend := hide (fun w' hm' hk' => hfinal.out w' M q.2.1 hm' hk' hR2)
          generalize q.2.1 = er at *
          generalize q.1 = qq at *
          clear hfs hon herr hsame h0 hrun hms hfine hm hfinal HSt HWh K2 hqm hR2
          go_wp2_with fail
          refine (unhide hwh).mono ?_
          rintro e w3 ⟨rfl, rfl⟩
          clear hwh
          go_wp2_with fail
          refine (unhide hst).mono ?_
          rintro e w4 ⟨rfl, m4, k4⟩
          have hend2 := hide ((unhide hend) w4 m4 (hk.trans k4))
          have hg4 : w1.heap.size < w4.heap.size := by obtain ⟨vs, vc, h⟩ := m4; exact h.lt
          clear hst hend m4 k4 hk
          go_wp2_with fail
          refine (unhide hend2).mono ?_
          rintro e w6 ⟨rfl, ⟨hb6, hlt6⟩, hpost⟩
          have hfin : Hid ((set5 w6 w.heap.size (.string (mkB M.out)) (.string (mkB M.image)) (.int .i64 M.mark) (.int .i64 M.used) (.int .i64 er)).heap[w.heap.size]? = some (.cells #[.string (mkB M.out), .string (mkB M.image), .int .i64 M.mark, .int .i64 M.used, .int .i64 er] 35 (0, 0))) := set5_box hb6 _ _ _ _ _
          obtain ⟨⟨c0, c1, c2, c3, c4⟩, fr⟩ := set5_cells hb6
          have f0 := fr 0
          have f1 := fr 1
          have f2 := fr 2
          have f3 := fr 3
          have f4 := fr 4
          clear hend2 hb6 fr
          unfold set5 at hfin hpost
          go_wp2
          obtain ⟨⟨d0, d1, d2, d3, d4⟩, _⟩ := set5_cells hfin.out
          refine bodyPost_ret (v := .agg (resCells M er)) ?_ rfl (hpost.out _ rfl)
          clear c0 c1 c2 c3 c4 hfin hpost f0 f1 f2 f3 f4
          revert d0 d1 d2 d3 d4
          generalize World.setCell _ _ _ = W2
          intro d0 d1 d2 d3 d4
          simp [results, Try.results22, go_sem, d0, d1, d2, d3, d4, resCells]
    · rw [decide_eq_false hw] at hwh
      have hR2 : R = (5, M) := by rw [← hrun.out]; exact exec_none hnp hw
      have hend := hide (hfinal.out wr M 5 hm hk hR2)
      clear hw hR2 hfinal hrun hms hfine hm hk HSt HWh K2
      go_wp2_with fail
      refine (unhide hwh).mono ?_
      rintro e w3 ⟨rfl, rfl⟩
      clear hwh
      go_wp2_with fail
      refine (unhide hend).mono ?_
      rintro e w6 ⟨rfl, ⟨hb6, hlt6⟩, hpost⟩
      have hfin : Hid ((set5 w6 w.heap.size (.string (mkB M.out)) (.string (mkB M.image)) (.int .i64 M.mark) (.int .i64 M.used) (.int .i64 5)).heap[w.heap.size]? = some (.cells #[.string (mkB M.out), .string (mkB M.image), .int .i64 M.mark, .int .i64 M.used, .int .i64 5] 35 (0, 0))) := set5_box hb6 _ _ _ _ _
      obtain ⟨⟨c0, c1, c2, c3, c4⟩, fr⟩ := set5_cells hb6
      have f0 := fr 0
      have f1 := fr 1
      have f2 := fr 2
      have f3 := fr 3
      have f4 := fr 4
      clear hend hb6 fr
      unfold set5 at hfin hpost
      go_wp2
      obtain ⟨⟨d0, d1, d2, d3, d4⟩, _⟩ := set5_cells hfin.out
      refine bodyPost_ret (v := .agg (resCells M 5)) ?_ rfl (hpost.out _ rfl)
      clear c0 c1 c2 c3 c4 hfin hpost f0 f1 f2 f3 f4
      revert d0 d1 d2 d3 d4
      generalize World.setCell _ _ _ = W2
      intro d0 d1 d2 d3 d4
      simp [results, Try.results22, go_sem, d0, d1, d2, d3, d4, resCells]
theorem refExec_any (hP : ∀ k, P k → k < w.heap.size) (hs : s.size ≤ maxLen) (hin : b.inp.size ≤ maxLen) (hsi : b.image.size ≤ maxLen) :
    Calls Try.prog 22 #[.string s, .string b.inp, .string b.image, .int .i64 b.kernel, .int .i64 b.secret, .int .i64 b.rights, .int .i64 b.fuel] w (RunPost P (execCells s b) w) := by
  unfold execCells
  by_cases h : 1024 < s.size ∨ 256 < b.image.size ∨ 10000 < b.fuel
  · rw [if_pos h]; exact refExec_long s b w P hP hs hsi h
  · rw [if_neg h]; exact refExec_ok s b w P hP (by omega) hin (by omega) (by omega)
end

section
variable {s : ByteArray} {b : BoxV} {w : World} {P : Nat → Prop}
set_option maxRecDepth 100000 in
set_option maxHeartbeats 1600000 in
/-- graderlaw's refExec. -/
theorem lawRefExec_any (hP : ∀ k, P k → k < w.heap.size) (hs : s.size ≤ maxLen) (hin : b.inp.size ≤ maxLen) (hsi : b.image.size ≤ maxLen) :
    Calls Try.prog 13 #[.string s, b.val] w (RunPost P (execCells s b) w) := by
  obtain ⟨w0, hw0⟩ : ∃ w0, w0 = (w.alloc (.cells #[.string b.inp, .string b.image, .int .i64 b.kernel, .int .i64 b.secret, .int .i64 b.rights, .int .i64 b.fuel] 30)).alloc (.cells #[.string ⟨#[]⟩, .string ⟨#[]⟩, .int .i64 0, .int .i64 0, .int .i64 0] 35) := ⟨_, rfl⟩
  have hk0 : Kept P w w0 := by rw [hw0]; exact ((Kept.refl P w).alloc _).alloc _
  have hbox : w0.heap[w.heap.size + 1]? = some (.cells #[.string ⟨#[]⟩, .string ⟨#[]⟩, .int .i64 0, .int .i64 0, .int .i64 0] 35 (0, 0)) := by
    rw [hw0]
    have e : (w.alloc (.cells #[.string b.inp, .string b.image, .int .i64 b.kernel, .int .i64 b.secret, .int .i64 b.rights, .int .i64 b.fuel] 30)).heap.size = w.heap.size + 1 := by simp
    rw [← e]; exact heap_alloc_new _ _
  have hsz0 : w0.heap.size = w.heap.size + 2 := by rw [hw0]; simp
  have hPb : ∀ k, P k ∨ k = w.heap.size + 1 → k < w0.heap.size := by
    intro k hk
    rcases hk with hk | hk
    · have := hP k hk; omega
    · omega
  have hck := hide (refExec_any s b w0 (fun k => P k ∨ k = w.heap.size + 1) hPb hs hin hsi)
  obtain ⟨x, y, a, c, d, h5⟩ := execCells_five s b
  rw [h5] at hck ⊢
  have HP := hide hP
  have HK := hide hk0
  have HB := hide hbox
  clear hP hk0 hbox hPb h5
  unfold BoxV.val
  unfold RunPost at hck
  go_enter Try.func13, Try.ntmps13
  go_wp2_with fail
  rw [show (w.alloc (.cells #[.string b.inp, .string b.image, .int .i64 b.kernel, .int .i64 b.secret, .int .i64 b.rights, .int .i64 b.fuel] 30)).alloc (.cells #[.string ⟨#[]⟩, .string ⟨#[]⟩, .int .i64 0, .int .i64 0, .int .i64 0] 35) = w0 from hw0.symm]
  refine (unhide hck).mono ?_
  rintro e w1 ⟨rfl, k1⟩
  have hbox1 := k1.at' HB.out (.inr rfl)
  have hfin : Hid ((set5 w1 (w.heap.size + 1) (.string x) (.string y) (.int .i64 a) (.int .i64 c) (.int .i64 d)).heap[w.heap.size + 1]? = some (.cells #[.string x, .string y, .int .i64 a, .int .i64 c, .int .i64 d] 35 (0, 0)) ∧ Kept P w (set5 w1 (w.heap.size + 1) (.string x) (.string y) (.int .i64 a) (.int .i64 c) (.int .i64 d))) :=
    ⟨set5_box hbox1 _ _ _ _ _, (HK.out.trans (k1.mono fun k hk => .inl hk)).trans (set5_kept (show ¬ P (w.heap.size + 1) from fun hp => by have := HP.out _ hp; omega) _ _ _ _ _)⟩
  have hlt1 := lt_of_block hbox1
  obtain ⟨⟨c0, c1, c2, c3, c4⟩, fr⟩ := set5_cells hbox1
  have f0 := fr 0
  have f1 := fr 1
  have f2 := fr 2
  have f3 := fr 3
  have f4 := fr 4
  clear hck k1 HB HK HP hw0 hbox1 fr
  unfold set5 at hfin
  go_wp2
  obtain ⟨hb5, hk5⟩ := hfin.out
  obtain ⟨⟨d0, d1, d2, d3, d4⟩, _⟩ := set5_cells hb5
  refine bodyPost_ret (v := .agg #[.string x, .string y, .int .i64 a, .int .i64 c, .int .i64 d]) ?_ rfl ⟨rfl, hk5⟩
  clear c0 c1 c2 c3 c4 hfin hb5 hk5 f0 f1 f2 f3 f4
  revert d0 d1 d2 d3 d4
  generalize World.setCell _ _ _ = W2
  intro d0 d1 d2 d3 d4
  simp [results, Try.results13, go_sem, d0, d1, d2, d3, d4]
end
end Go.Proofs.Ytnanjomnldfidaa
