/-
  Package grader's code: runCode, Exec.
-/
import Derived.Test.YtnanjomnldfidabDcOps
set_option linter.unusedSimpArgs false
set_option linter.unusedVariables false
set_option linter.unusedSectionVars false
namespace Go.Proofs.Ytnanjomnldfidab
open Go.RowKit

/-- What belongs to a step matters to four of them alone. -/
theorem stepM_arg (op a a' b : Int) (M : Ma) (h : ¬ (1 ≤ op ∧ op ≤ 4)) : stepM op a b M = stepM op a' b M := by
  unfold stepM
  rw [if_neg (show ¬ op = 1 by omega), if_neg (show ¬ op = 2 by omega), if_neg (show ¬ op = 3 by omega), if_neg (show ¬ op = 4 by omega), if_neg (show ¬ op = 1 by omega), if_neg (show ¬ op = 2 by omega), if_neg (show ¬ op = 3 by omega), if_neg (show ¬ op = 4 by omega)]
theorem stepC_ins (l : List UInt8) (p : Int) (M : Ma) (hw : wholeC l p) : stepC l p M = stepM ((atC l p).toNat : Int) (if sizeC (atC l p) = 3 then operC l p else 0) (p + sizeC (atC l p)) M := by
  unfold stepC
  by_cases c : sizeC (atC l p) = 3
  · rw [if_pos c]
  · rw [if_neg c]
    exact stepM_arg _ _ _ _ _ (fun h => c (sizeC_three.2 (by omega)))
theorem exec_none {l : List UInt8} {n : Nat} {p : Int} {M : Ma} (hn : 0 < n) (h : ¬ wholeC l p) : execC l n p M = (5, M) := by
  obtain ⟨m, rfl⟩ : ∃ m, n = m + 1 := ⟨n - 1, by omega⟩
  unfold execC; rw [if_neg h]
theorem exec_stop {l : List UInt8} {n : Nat} {p : Int} {M : Ma} (hn : 0 < n) (h : wholeC l p) (h0 : (atC l p).toNat = 0) : execC l n p M = (0, M) := by
  obtain ⟨m, rfl⟩ : ∃ m, n = m + 1 := ⟨n - 1, by omega⟩
  unfold execC; rw [if_pos h, if_pos (UInt8.toNat_inj.1 h0)]
theorem exec_err {l : List UInt8} {n : Nat} {p : Int} {M : Ma} (hn : 0 < n) (h : wholeC l p) (h0 : (atC l p).toNat ≠ 0) (he : (stepC l p M).2.1 ≠ 0) : execC l n p M = ((stepC l p M).2.1, M) := by
  obtain ⟨m, rfl⟩ : ∃ m, n = m + 1 := ⟨n - 1, by omega⟩
  unfold execC; rw [if_pos h, if_neg (fun e => h0 (by rw [e]; rfl)), if_pos he]
theorem exec_on {l : List UInt8} {n : Nat} {p : Int} {M : Ma} (h : wholeC l p) (h0 : (atC l p).toNat ≠ 0) (he : (stepC l p M).2.1 = 0) : execC l (n + 1) p M = execC l n (stepC l p M).1 (stepC l p M).2.2 := by
  conv => lhs; unfold execC
  rw [if_pos h, if_neg (fun e => h0 (by rw [e]; rfl)), if_neg (by simp [he])]
theorem fine_step {l : List UInt8} {p : Int} {M : Ma} (hf : Fine M) (h : wholeC l p) (h0 : (atC l p).toNat ≠ 0) (he : (stepC l p M).2.1 = 0) : Fine (stepC l p M).2.2 ∧ (stepC l p M).2.2.used = M.used + 1 ∧ (stepC l p M).2.2.fuel = M.fuel ∧ M.used < M.fuel := by
  have hc : atC l p ≠ 0 := fun e => h0 (by rw [e]; rfl)
  have hu := step_used _ _ _ M he (sizeC_op h.2.2.1 hc) hf.ok (fun _ => operC_bd l p)
  have hr := step_room _ _ _ M he
  have hfu := step_fuel ((atC l p).toNat : Int) (operC l p) (p + sizeC (atC l p)) M
  have hu1 : (stepC l p M).2.2.used = M.used + 1 := hu.1
  have hf1 : (stepC l p M).2.2.fuel = M.fuel := hfu
  exact ⟨⟨hu.2, by omega⟩, hu1, hf1, hr⟩

set_option maxRecDepth 100000 in
set_option maxHeartbeats 6400000 in
theorem runCode_any {w : World} {P : Nat → Prop} {b : Nat} {M0 : Ma} (h : DmIs w P b M0) (s : ByteArray) (hs : s.size ≤ 1024) (hf : Fine M0) (N : Nat) (hN : (M0.fuel - M0.used).toNat < N) :
    Calls Try.prog 9 #[.pointer (some ⟨b, 0, none⟩), .string s] w (DPost P b (.int .i64 (execC s.toList N 0 M0).1) (execC s.toList N 0 M0).2 w) := by
  have hl : s.toList.length = s.size := toList_len s
  have HIn := hide (fun p w' => insAt_any s hs p w')
  unfold InsPost at HIn
  have HF := hide hf
  have HN := hide hN
  have H0 := hide h
  clear hf hN h
  obtain ⟨R, hR⟩ : ∃ R, R = execC s.toList N 0 M0 := ⟨_, rfl⟩
  rw [← hR]
  have HR := hide hR
  clear hR
  go_enter Try.func9, Try.ntmps9
  go_wp2
  go_loopw [5] (fun i wr => ∃ (p : Int) (M : Ma) (n : Nat), i = .int .i64 p ∧ DmIs wr P b M ∧ Kept P w wr ∧ Hid (Fine M) ∧ Hid ((M.fuel - M.used).toNat < n) ∧ Hid (execC s.toList n p M = R)) (fun i wr => (10001 - usedD wr b).toNat)
  case atStart => exact ⟨0, M0, N, rfl, H0.out, Kept.refl _ _, HF, HN, HR.out.symm⟩
  case round =>
    obtain ⟨p, M, n, rfl, hm, hk, hfine, hms, hrun⟩ := hrel
    clear H0 HF HN HR
    have hmu := hide (usedD_is hm)
    have hsa := hide ((unhide HIn) p wr)
    have hlt : b < wr.heap.size := by obtain ⟨vi, vs, vc, vo, h⟩ := hm; exact h.lt
    have hnp : 0 < n := by have := hms.out; omega
    by_cases hw : wholeC s.toList p
    · rw [insA_whole hw] at hsa
      have hz1 : 0 < sizeC (atC s.toList p) := hw.2.2.1
      have hz3 : sizeC (atC s.toList p) ≤ 3 := by rw [sizeC_szI _ _ rfl]; exact szI_le _
      have hp0 : 0 ≤ p := hw.1
      have hp1 : p < 1024 := by have := hw.2.1; rw [hl] at this; omega
      have hst := hide (stepC_ins s.toList p M hw)
      have hstop := hide (exec_stop (M := M) hnp hw)
      have herr := hide (exec_err (M := M) hnp hw)
      have hon := hide (fun m => exec_on (n := m) (M := M) hw)
      have hfs := hide (fine_step hfine.out hw)
      have hok := hfine.out.ok
      have hopk : Hid ((atC s.toList p).toNat ≠ 0 → opOk ((atC s.toList p).toNat : Int)) := fun h0 => sizeC_op hz1 (fun e => h0 (by rw [e]; rfl))
      generalize sizeC (atC s.toList p) = z at *
      obtain ⟨c, hc⟩ : ∃ c, c = (atC s.toList p).toNat := ⟨_, rfl⟩
      rw [← hc] at hsa hst hstop herr hon hfs hopk
      generalize (if z = 3 then operC s.toList p else 0) = arg at *
      have hzb : ((z : Int) == 0) = false := beq_eq_false_iff_ne.2 (by omega)
      clear hw hc hnp
      by_cases hc0 : c = 0
      · subst hc0
        have hR2 : Hid (R = (0, M)) := by unfold Hid; rw [← hrun.out]; exact hstop.out rfl
        clear hstop herr hon hfs hopk hst hrun hms hfine
        go_wp2_with fail
        refine (unhide hsa).mono ?_
        rintro e w0 ⟨rfl, k0⟩
        have hm0 : DmIs (w0.alloc (.cells #[.int .i64 0, .int .i64 arg] 40)) P b M := (hm.ext k0.size (fun k hk => k0.block k hk hk)).alloc _
        have hk0 : Kept P w (w0.alloc (.cells #[.int .i64 0, .int .i64 arg] 40)) := (hk.trans k0.all).alloc _
        have post : Hid (DPost P b (.int .i64 R.1) R.2 w (.returned (.int .i64 0)) (w0.alloc (.cells #[.int .i64 0, .int .i64 arg] 40))) := by unfold Hid; rw [hR2.out]; exact ⟨rfl, hm0, hk0⟩
        clear hm hk k0 hsa hm0 hk0
        go_wp2
        go_ret
        exact post.out
      · have ho' : opOk (c : Int) := hopk.out hc0
        have hcb : ((c : Int) == 0) = false := beq_eq_false_iff_ne.2 (by omega)
        have hfe := faultD_step M hok (c : Int) arg (p + z) ho'
        have herr2 := hide (herr.out hc0)
        have hon2 := hide (fun m => hon.out m hc0)
        have hfs2 := hide (hfs.out hc0)
        have hsame := hide (stepM_same (c : Int) arg (p + z) M)
        rw [hst.out] at herr2 hon2 hfs2
        have hmk := hide (fun w' (h' : DmIs w' P b M) => make_any h' hok (c : Int) arg (p + z) ho')
        unfold DPost at hmk
        obtain ⟨q, hq⟩ : ∃ q, q = stepM (c : Int) arg (p + z) M := ⟨_, rfl⟩
        rw [← hq] at hfe herr2 hon2 hfs2 hmk hsame
        clear hq hstop herr hon hfs hopk hst
        go_wp2_with fail
        refine (unhide hsa).mono ?_
        rintro e w0 ⟨rfl, k0⟩
        have hm0 : DmIs w0 P b M := hm.ext k0.size (fun k hk => k0.block k hk hk)
        have hk0 : Kept P w w0 := hk.trans k0.all
        have hkA : Kept P w (w0.alloc (.cells #[.int .i64 (c : Int), .int .i64 arg] 40)) := hk0.alloc _
        have hfl := hide (dFault_any (hm0.protect (.cells #[.int .i64 (c : Int), .int .i64 arg] 40)) hok (c : Int) ho')
        unfold DPost at hfl
        rw [hfe] at hfl
        have hltA : w0.heap.size < (w0.alloc (.cells #[.int .i64 (c : Int), .int .i64 arg] 40)).heap.size := by simp
        have HBA : Hid ((w0.alloc (.cells #[.int .i64 (c : Int), .int .i64 arg] 40)).heap[w0.heap.size]? = some (.cells #[.int .i64 (c : Int), .int .i64 arg] 40 (0, 0))) := heap_alloc_new w0 _
        clear hsa k0 hm hk hm0 hfe
        by_cases h0 : q.2.1 = 0
        · have hb0 : (q.2.1 != 0) = false := by rw [h0]; rfl
          obtain ⟨n', hn'⟩ : ∃ n', n = n' + 1 := ⟨n - 1, by have := hms.out; omega⟩
          subst hn'
          obtain ⟨g1, g2, g3, g4⟩ := (unhide hfs2) h0
          have hfine2 : Hid (Fine q.2.2) := g1
          have hrun2 : Hid (execC s.toList n' q.1 q.2.2 = R) := by unfold Hid; rw [← hrun.out]; exact ((unhide hon2) n' h0).symm
          have hms2 : Hid ((q.2.2.fuel - q.2.2.used).toNat < n') := by have := hms.out; unfold Hid; omega
          have hmeas : Hid ((10001 - q.2.2.used).toNat < (10001 - M.used).toNat) := by have := hok.used'; unfold Hid; omega
          have H00 := hide h0
          clear hfs2 hon2 herr2 hsame h0 g1 g2 g3 g4 hrun hms hfine
          go_wp2_with fail
          refine (unhide hfl).mono ?_
          rintro e w2 ⟨rfl, m2, k2⟩
          have hb2 := k2.at' HBA.out (.inr rfl)
          have s0 : w2.cell? ⟨w0.heap.size, 0, none⟩ = some (.int .i64 (c : Int)) := cell_of_block hb2 0 _ rfl
          have s1 : w2.cell? ⟨w0.heap.size, 1, none⟩ = some (.int .i64 arg) := cell_of_block hb2 1 _ rfl
          have hlt2 := lt_of_block hb2
          have hmk2 := hide ((unhide hmk) w2 (m2.mono fun k hk => .inl hk) H00.out)
          have kk2 : Kept P w w2 := hkA.trans (k2.mono fun k hk => .inl hk)
          clear hb2 m2 k2 hfl hmk HBA
          go_wp2_with fail
          refine (unhide hmk2).mono ?_
          rintro e w3 ⟨rfl, m3, k3⟩
          have hmu2 := hide (usedD_is m3)
          clear hmk2
          go_wp2
          refine ⟨⟨q.1, q.2.2, n', rfl, m3, kk2.trans k3, hfine2, hms2, hrun2⟩, ?_⟩
          rw [hmu2.out, hmu.out]
          exact hmeas.out
        · have hb0 : (q.2.1 != 0) = true := bne_iff_ne.2 h0
          have hrun2 : Hid (R = (q.2.1, M)) := by unfold Hid; rw [← hrun.out]; exact (unhide herr2) h0
          clear hfs2 hon2 herr2 hsame h0 hrun hms hfine hmk
          go_wp2_with fail
          refine (unhide hfl).mono ?_
          rintro e w2 ⟨rfl, m2, k2⟩
          have post : Hid (DPost P b (.int .i64 R.1) R.2 w (.returned (.int .i64 q.2.1)) w2) := by
            unfold Hid; rw [hrun2.out]
            exact ⟨rfl, m2.mono fun k hk => .inl hk, hkA.trans (k2.mono fun k hk => .inl hk)⟩
          have hb2 := k2.at' HBA.out (.inr rfl)
          have s0 : w2.cell? ⟨w0.heap.size, 0, none⟩ = some (.int .i64 (c : Int)) := cell_of_block hb2 0 _ rfl
          clear m2 k2 hfl HBA hb2
          go_wp2
          go_ret
          exact post.out
    · have hz := insA_none hw
      have hR2 : Hid (R = (5, M)) := by unfold Hid; rw [← hrun.out]; exact exec_none hnp hw
      obtain ⟨x, hx⟩ : ∃ x, x = insA s.toList p := ⟨_, rfl⟩
      rw [← hx] at hsa hz
      obtain ⟨op, arg, z⟩ := x
      have hz' : z = 0 := hz
      subst hz'
      clear hw hx hz hrun hms hfine hnp
      go_wp2_with fail
      refine (unhide hsa).mono ?_
      rintro e w0 ⟨rfl, k0⟩
      have hm0 : DmIs (w0.alloc (.cells #[.int .i64 op, .int .i64 arg] 40)) P b M := (hm.ext k0.size (fun k hk => k0.block k hk hk)).alloc _
      have hk0 : Kept P w (w0.alloc (.cells #[.int .i64 op, .int .i64 arg] 40)) := (hk.trans k0.all).alloc _
      have post : Hid (DPost P b (.int .i64 R.1) R.2 w (.returned (.int .i64 5)) (w0.alloc (.cells #[.int .i64 op, .int .i64 arg] 40))) := by unfold Hid; rw [hR2.out]; exact ⟨rfl, hm0, hk0⟩
      clear hm hk k0 hsa hm0 hk0
      go_wp2
      go_ret
      exact post.out
end Go.Proofs.Ytnanjomnldfidab
