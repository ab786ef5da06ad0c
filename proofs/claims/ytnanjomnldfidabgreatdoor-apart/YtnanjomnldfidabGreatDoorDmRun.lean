/-
  Package grader's machine: runSteps.
-/
import Derived.Test.YtnanjomnldfidabGreatDoorDmNew
import Derived.Test.YtnanjomnldfidabGreatDoorRmWordToRmRun2
import Derived.Test.YtnanjomnldfidabGreatDoorRdWordsToReadProg
set_option linter.unusedSimpArgs false
set_option linter.unusedVariables false
set_option linter.unusedSectionVars false
namespace Go.Proofs.YtnanjomnldfidabGreatDoor
open Go.RowKit

/-- The steps in memory. -/
def StepsIs (w : World) (v : Value) (S : List (Int × Int)) : Prop := w.ownsRow 0 105 2 v S.length (stepCells S)
theorem stepCells_at (l : List (Int × Int)) : ∀ k, k < l.length → (stepCells l)[k * 2]? = some (.int .i64 (l.getD k (0, 0)).1) ∧ (stepCells l)[k * 2 + 1]? = some (.int .i64 (l.getD k (0, 0)).2) := by
  induction l with
  | nil => intro k hk; simp at hk
  | cons a l ih =>
    intro k hk
    cases k with
    | zero => simp [stepCells]
    | succ k =>
      have := ih k (by simpa using hk)
      have e1 : (k + 1) * 2 = k * 2 + 2 := by omega
      have e : stepCells (a :: l) = [.int .i64 a.1, .int .i64 a.2] ++ stepCells l := by simp [stepCells]
      rw [e, e1]
      constructor
      · rw [List.getElem?_append_right (by simp)]
        simpa using this.1
      · rw [List.getElem?_append_right (by simp)]
        simpa using this.2
theorem StepsIs.cells {w : World} {v : Value} {S : List (Int × Int)} (h : StepsIs w v S) {k : Nat} (hk : k < S.length) : ∃ f cp, v = .slice (some ⟨f, 0, none⟩) S.length cp ∧ f < w.heap.size ∧
    w.cell? ⟨f, k * 2, none⟩ = some (.int .i64 (S.getD k (0, 0)).1) ∧ w.cell? ⟨f, k * 2 + 1, none⟩ = some (.int .i64 (S.getD k (0, 0)).2) := by
  obtain ⟨f, cp, rfl⟩ := own_form h (by omega)
  obtain ⟨h0, h1⟩ := stepCells_at S k hk
  exact ⟨f, cp, rfl, (World.ownsRow.lt h f rfl).2, by rw [World.ownsRow.cellAt h _ (by omega)]; exact h0, by rw [World.ownsRow.cellAt h _ (by omega)]; exact h1⟩
theorem StepsIs.kept {w w' : World} {v : Value} {S : List (Int × Int)} {Q : Nat → Prop} (h : StepsIs w v S) (hk : Kept Q w w') (hq : ∀ k, v.ownBlock = some k → Q k) : StepsIs w' v S := by
  refine ⟨h.1, ?_⟩
  rcases h.2 with hn | ⟨g, cap, cur, rfl, hb, hg, rest⟩
  · exact .inl hn
  · exact .inr ⟨g, cap, cur, rfl, hb, hk.at' hg (hq g rfl), rest⟩

structure StepInv (S : List (Int × Int)) (Inv : Int → Ma → Prop) : Prop where
  ok : ∀ p M, Inv p M → M.Ok
  ops : ∀ i, i < S.length → (S.getD i (0, 0)).1 = -1 ∨ opOk (S.getD i (0, 0)).1
  next : ∀ p M, Inv p M → 0 ≤ p ∧ p < S.length → (nextS S p M).2.1 = 0 → Inv (nextS S p M).1 (nextS S p M).2.2
  used : ∀ p M, Inv p M → 0 ≤ p ∧ p < S.length → (nextS S p M).2.1 = 0 → M.used + 1 ≤ (nextS S p M).2.2.used ∨ ((nextS S p M).2.2.used = M.used ∧ p + 1 ≤ (nextS S p M).1)
/-- What stepAt answers. -/
def atS (S : List (Int × Int)) (p : Int) : Int × Int := if 0 ≤ p ∧ p < S.length then S.getD p.toNat (0, 0) else (0, 0)
set_option maxRecDepth 100000 in
set_option maxHeartbeats 800000 in
theorem stepAt_any {w : World} (v : Value) (S : List (Int × Int)) (hS : StepsIs w v S) (hl : S.length ≤ 100000) (p : Int) :
    Calls Tryz.prog 59 #[v, .int .i64 p] w fun e w' => e = .returned (.agg #[.int .i64 (atS S p).1, .int .i64 (atS S p).2]) ∧ Kept (fun k => k < w.heap.size) w w' := by
  have hkA : ∀ o, Kept (fun k => k < w.heap.size) w (w.alloc o) := fun o => (Kept.refl _ w).alloc o
  by_cases hin : 0 ≤ p ∧ p < S.length
  · obtain ⟨k, rfl⟩ := Int.eq_ofNat_of_zero_le hin.1
    have hkl : k < S.length := by omega
    obtain ⟨f, cp, rfl, hf, e0, e1⟩ := hS.cells hkl
    have hat : atS S (k : Int) = S.getD k (0, 0) := by unfold atS; rw [if_pos hin, Int.toNat_natCast]
    rw [hat]
    generalize (S.getD k (0, 0)).1 = op at *
    generalize (S.getD k (0, 0)).2 = arg at *
    have hr2 : Kept (fun k => k < w.heap.size) w (w.alloc (.cells #[.int .i64 op, .int .i64 arg] 105)) := hkA _
    clear hS hat hkA
    go_enter Tryz.func59, Tryz.ntmps59
    go_wp2
    exact bodyPost_ret (v := .agg #[.int .i64 op, .int .i64 arg]) (by simp [results, Tryz.results59, go_sem]) rfl ⟨rfl, hr2⟩
  · have hat : atS S p = (0, 0) := by unfold atS; rw [if_neg hin]
    rw [hat]
    have hr2 := hkA (.cells #[.int .i64 0, .int .i64 0] 105)
    obtain ⟨va, vc, rfl⟩ := own_slice hS
    clear hS hat hkA
    by_cases h0 : p < 0
    · clear hin
      go_enter Tryz.func59, Tryz.ntmps59
      go_wp2
      exact bodyPost_ret (v := .agg #[.int .i64 0, .int .i64 0]) (by simp [results, Tryz.results59, go_sem]) rfl ⟨rfl, hr2⟩
    · have h1 : (S.length : Int) ≤ p := by omega
      clear hin
      go_enter Tryz.func59, Tryz.ntmps59
      go_wp2
      exact bodyPost_ret (v := .agg #[.int .i64 0, .int .i64 0]) (by simp [results, Tryz.results59, go_sem]) rfl ⟨rfl, hr2⟩

theorem atS_in {S : List (Int × Int)} {k : Nat} (h : k < S.length) : atS (withH S) (k : Int) = S.getD k (0, 0) := by
  unfold atS withH
  rw [if_pos ⟨by omega, by rw [List.length_append]; omega⟩, Int.toNat_natCast]
  simp [List.getD, List.getElem?_append_left h]
theorem atS_out {S : List (Int × Int)} {p : Int} (h : ¬ (0 ≤ p ∧ p < S.length)) : atS (withH S) p = (0, 0) := by
  unfold atS withH
  by_cases c : 0 ≤ p ∧ p < ((S ++ [((0 : Int), (0 : Int))]).length : Int)
  · rw [if_pos c]
    rw [List.length_append, List.length_singleton] at c
    have e : p.toNat = S.length := by omega
    rw [e]; simp [List.getD]
  · rw [if_neg c]

set_option maxRecDepth 100000 in
set_option maxHeartbeats 6400000 in
theorem runSteps_any {w : World} {P : Nat → Prop} {b : Nat} {M0 : Ma} (h : DmIs w P b M0) (v : Value) (S : List (Int × Int)) (hS : StepsIs w v (withH S)) (hv : ∀ k, v.ownBlock = some k → P k) (hlS : S.length ≤ 10000)
    (Inv : Int → Ma → Prop) (hI : StepInv S Inv) (hI0 : Inv 0 M0) (N : Nat) (hN : measN S.length M0.used 0 ≤ N) :
    Calls Tryz.prog 41 #[.pointer (some ⟨b, 0, none⟩), v] w (DPost P b (.int .i64 (runS S N 0 M0).1) (runS S N 0 M0).2 w) := by
  have hlH : (withH S).length ≤ 100000 := by unfold withH; rw [List.length_append, List.length_singleton]; omega
  have HSt := hide (fun (w' : World) (p : Int) (hk : Kept P w w') => stepAt_any v (withH S) (hS.kept hk hv) hlH p)
  obtain ⟨va, vc, hvv⟩ := own_slice hS
  have HI := hide hI
  have HI0 := hide hI0
  have HN := hide hN
  have H0 := hide h
  subst hvv
  clear hS hv hI hI0 hN h
  obtain ⟨R, hR⟩ : ∃ R, R = runS S N 0 M0 := ⟨_, rfl⟩
  rw [← hR]
  have HR := hide hR
  clear hR
  obtain ⟨L, hL⟩ : ∃ L, L = (withH S).length := ⟨_, rfl⟩
  rw [← hL] at HSt hlH ⊢
  clear hL
  go_enter Tryz.func41, Tryz.ntmps41
  go_wp2
  go_loopw [5] (fun i wr => ∃ (p : Int) (M : Ma) (n : Nat), i = .int .i64 p ∧ DmIs wr P b M ∧ Kept P w wr ∧ Hid (Inv p M) ∧ Hid (measN S.length M.used p.toNat ≤ n) ∧ Hid (runS S n p M = R)) (fun i wr => measN S.length (usedD wr b) (intOf i).toNat)
  case atStart => exact ⟨0, M0, N, rfl, H0.out, Kept.refl _ _, HI0, HN, HR.out.symm⟩
  case round =>
    obtain ⟨p, M, n, rfl, hm, hk, hinv, hms, hrun⟩ := hrel
    have hmu := hide (usedD_is hm)
    have hsa := hide ((unhide HSt) wr p hk)
    have hlt : b < wr.heap.size := by obtain ⟨vi, vs, vc, vo, h⟩ := hm; exact h.lt
    by_cases hin : 0 ≤ p ∧ p < S.length
    · obtain ⟨k, rfl⟩ := Int.eq_ofNat_of_zero_le hin.1
      have hkl : k < S.length := by omega
      have hops := (unhide HI).ops k hkl
      have hok := (unhide HI).ok _ M hinv.out
      have hst : stepAt S (k : Int) = S.getD k (0, 0) := by unfold stepAt; rw [Int.toNat_natCast]
      have hnx := hide ((unhide HI).next _ M hinv.out hin)
      have hus := hide ((unhide HI).used _ M hinv.out hin)
      have hq : nextS S (k : Int) M = if (S.getD k (0, 0)).1 = -1 then ((S.getD k (0, 0)).2, 0, M) else stepM (S.getD k (0, 0)).1 (S.getD k (0, 0)).2 ((k : Int) + 1) M := by unfold nextS; rw [hst]
      have hrn1 := hide (runS_on S · (k : Int) M hin)
      have hrn2 := hide (runS_err S · (k : Int) M hin)
      rw [hq] at hnx hus hrn1 hrn2
      rw [atS_in hkl] at hsa
      generalize (S.getD k (0, 0)).1 = op at *
      generalize (S.getD k (0, 0)).2 = arg at *
      obtain ⟨n', hn'⟩ : ∃ n', n = n' + 1 := by
        refine ⟨n - 1, ?_⟩
        have := hms.out
        unfold measN at this
        have o3 := hok.used'
        have : 1 ≤ (10001 - M.used).toNat * (S.length + 2) := Nat.mul_pos (by omega) (by omega)
        omega
      subst hn'
      have o2 := hok.used
      have o3 := hok.used'
      have hop0 : (op == 0) = false := by
        have : op ≠ 0 := by unfold opOk at hops; omega
        simpa using this
      clear hq hst
      go_wp2_with fail
      refine (unhide hsa).mono ?_
      rintro e w0 ⟨rfl, k0⟩
      have hm0 : DmIs w0 P b M := hm.ext k0.size (fun k hk => k0.block k hk hk)
      have hk0 : Kept P w w0 := hk.trans k0.all
      have hlt0 : b < w0.heap.size := Nat.lt_of_lt_of_le hlt k0.size
      have hmA : DmIs (w0.alloc (.cells #[.int .i64 op, .int .i64 arg] 105)) P b M := hm0.alloc _
      have hkA : Kept P w (w0.alloc (.cells #[.int .i64 op, .int .i64 arg] 105)) := hk0.alloc _
      clear hsa k0 hm hk
      by_cases ho : op = -1
      · subst ho
        rw [if_pos rfl] at hnx hus hrn1 hrn2
        clear hrn2
        have hinv2 : Hid (Inv arg M) := (unhide hnx) rfl
        have hrun2 : Hid (runS S n' arg M = R) := by
          have := (unhide hrn1) n' rfl
          unfold Hid; rw [← hrun.out, this]
        have hmeas : measN S.length M.used arg.toNat < measN S.length M.used (k : Int).toNat := by
          rcases (unhide hus) rfl with g | g
          · exact absurd g (by show ¬ M.used + 1 ≤ M.used; omega)
          · have g2 : (k : Int) + 1 ≤ arg := g.2
            exact measN_lt _ _ _ _ _ o2 o3 o3 (by rw [Int.toNat_natCast]; exact hkl) (.inr ⟨rfl, by omega⟩)
        have HME := hide hmeas
        have hms2 : Hid (measN S.length M.used arg.toNat ≤ n') := by have := hms.out; unfold Hid; omega
        have hmu2 := hide (usedD_is hmA)
        clear hmeas hnx hus hrn1 hops hin
        go_wp2
        refine ⟨⟨arg, M, n', rfl, hmA, hkA, hinv2, hms2, hrun2⟩, ?_⟩
        rw [hmu2.out, hmu.out]
        exact HME.out
      · rw [if_neg ho] at hnx hus hrn1 hrn2
        have ho' : opOk op := hops.elim (fun h => absurd h ho) id
        have hob : (op == -1) = false := by simpa using ho
        have hfe := faultD_step M hok op arg ((k : Int) + 1) ho'
        have hfl := hide (dFault_any (hm0.protect (.cells #[.int .i64 op, .int .i64 arg] 105)) hok op ho')
        have hmk := hide (fun w' (h' : DmIs w' P b M) => make_any h' hok op arg ((k : Int) + 1) ho')
        have hsame := hide (stepM_same op arg ((k : Int) + 1) M)
        unfold DPost at hfl hmk
        rw [hfe] at hfl
        obtain ⟨q, hq⟩ : ∃ q, q = stepM op arg ((k : Int) + 1) M := ⟨_, rfl⟩
        rw [← hq] at hnx hus hrn1 hrn2 hfl hmk hsame
        have hltA : w0.heap.size < (w0.alloc (.cells #[.int .i64 op, .int .i64 arg] 105)).heap.size := by simp
        have hboxA : (w0.alloc (.cells #[.int .i64 op, .int .i64 arg] 105)).heap[w0.heap.size]? = some (.cells #[.int .i64 op, .int .i64 arg] 105 (0, 0)) := heap_alloc_new w0 _
        have HBA := hide hboxA
        clear hfe hq hops ho hmA
        by_cases h0 : q.2.1 = 0
        · have hb0 : (q.2.1 != 0) = false := by rw [h0]; rfl
          have hinv2 : Hid (Inv q.1 q.2.2) := (unhide hnx) h0
          have hok2 := (unhide HI).ok _ _ hinv2.out
          have hrun2 : Hid (runS S n' q.1 q.2.2 = R) := by
            have := (unhide hrn1) n' h0
            unfold Hid; rw [← hrun.out, this]
          have hmeas : measN S.length q.2.2.used q.1.toNat < measN S.length M.used (k : Int).toNat := by
            refine measN_lt _ _ _ _ _ hok2.used hok2.used' o3 (by rw [Int.toNat_natCast]; exact hkl) ?_
            rcases (unhide hus) h0 with g | g
            · exact .inl g
            · exact .inr ⟨g.1, by have := g.2; omega⟩
          have HME := hide hmeas
          have hms2 : Hid (measN S.length q.2.2.used q.1.toNat ≤ n') := by have := hms.out; unfold Hid; omega
          have H00 := hide h0
          clear hmeas hnx hus hrn1 hrn2 hin hok2 hok hsame h0 hboxA
          go_wp2_with fail
          refine (unhide hfl).mono ?_
          rintro e w2 ⟨rfl, m2, k2⟩
          have hb2 := k2.at' HBA.out (.inr rfl)
          have s0 : w2.cell? ⟨w0.heap.size, 0, none⟩ = some (.int .i64 op) := cell_of_block hb2 0 _ rfl
          have s1 : w2.cell? ⟨w0.heap.size, 1, none⟩ = some (.int .i64 arg) := cell_of_block hb2 1 _ rfl
          have hlt2 := lt_of_block hb2
          have hmk2 := hide ((unhide hmk) w2 (m2.mono fun k hk => .inl hk) H00.out)
          have kk2 : Kept P w w2 := hkA.trans (k2.mono fun k hk => .inl hk)
          clear hb2 m2 k2 hfl hmk HBA
          go_wp2_with fail
          refine (unhide hmk2).mono ?_
          rintro e w3 ⟨rfl, m3, k3⟩
          have hmu2 := hide (usedD_is m3)
          clear hmk2
          go_wp2
          refine ⟨⟨q.1, q.2.2, n', rfl, m3, kk2.trans k3, hinv2, hms2, hrun2⟩, ?_⟩
          rw [hmu2.out, hmu.out]
          exact HME.out
        · have hb0 : (q.2.1 != 0) = true := bne_iff_ne.2 h0
          have hrun2 : Hid (R = (q.2.1, q.2.2)) := by
            have := (unhide hrn2) n' h0
            unfold Hid; rw [← hrun.out, this]
          have hqm : Hid (q.2.2 = M) := (unhide hsame) h0
          clear hnx hus hrn1 hrn2 hin hok hsame h0 hboxA
          go_wp2_with fail
          refine (unhide hfl).mono ?_
          rintro e w2 ⟨rfl, m2, k2⟩
          have post : Hid (DPost P b (.int .i64 R.1) R.2 w (.returned (.int .i64 q.2.1)) w2) := by
            unfold Hid; rw [hrun2.out]
            refine ⟨rfl, ?_, hkA.trans (k2.mono fun k hk => .inl hk)⟩
            show DmIs w2 P b q.2.2
            rw [hqm.out]
            exact m2.mono fun k hk => .inl hk
          have hb2 := k2.at' HBA.out (.inr rfl)
          have s0 : w2.cell? ⟨w0.heap.size, 0, none⟩ = some (.int .i64 op) := cell_of_block hb2 0 _ rfl
          clear m2 k2 hfl hmk HBA hb2
          go_wp2
          go_ret
          exact post.out
    · have hrun2 : Hid (R = (0, M)) := by unfold Hid; rw [← hrun.out, runS_end S n p M hin]
      rw [atS_out hin] at hsa
      clear hin hrun
      go_wp2_with fail
      refine (unhide hsa).mono ?_
      rintro e w0 ⟨rfl, k0⟩
      have hm0 : DmIs (w0.alloc (.cells #[.int .i64 0, .int .i64 0] 105)) P b M := (hm.ext k0.size (fun k hk => k0.block k hk hk)).alloc _
      have hk0 : Kept P w (w0.alloc (.cells #[.int .i64 0, .int .i64 0] 105)) := (hk.trans k0.all).alloc _
      have post : Hid (DPost P b (.int .i64 R.1) R.2 w (.returned (.int .i64 0)) (w0.alloc (.cells #[.int .i64 0, .int .i64 0] 105))) := by unfold Hid; rw [hrun2.out]; exact ⟨rfl, hm0, hk0⟩
      clear hm hk k0 hsa hm0 hk0
      go_wp2
      go_ret
      exact post.out
end Go.Proofs.YtnanjomnldfidabGreatDoor
