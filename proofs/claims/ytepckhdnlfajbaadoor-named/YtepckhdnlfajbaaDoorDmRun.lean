/-
  Package grader's machine: runSteps.
-/
import Derived.Test.YtepckhdnlfajbaaDoorDmFaultAnyToStepPure
import Derived.Test.YtepckhdnlfajbaaDoorRmWordToRmRun2
set_option linter.unusedSimpArgs false
set_option linter.unusedVariables false
set_option linter.unusedSectionVars false
namespace Go.Proofs.YtepckhdnlfajbaaDoor
open Go.RowKit

/-- The steps in memory. -/
def StepsIs (w : World) (v : Value) (S : List (Int × Int)) : Prop := w.ownsRow 0 85 2 v S.length (stepCells S)
theorem stepCells_at (l : List (Int × Int)) : ∀ k, k < l.length → (stepCells l)[k * 2]? = some (.int .i64 (l.getD k (0, 0)).1) ∧ (stepCells l)[k * 2 + 1]? = some (.int .i64 (l.getD k (0, 0)).2) := by
  induction l with
  | nil => intro k hk; simp at hk
  | cons a l ih =>
    intro k hk
    cases k with
    | zero => simp [stepCells]
    | succ k =>
      have := ih k (by simpa using hk)
      have e1 : (k + 1) * 2 = k * 2 + 2 := by omega
      have e : stepCells (a :: l) = [.int .i64 a.1, .int .i64 a.2] ++ stepCells l := by simp [stepCells]
      rw [e, e1]
      constructor
      · rw [List.getElem?_append_right (by simp)]
        simpa using this.1
      · rw [List.getElem?_append_right (by simp)]
        simpa using this.2
theorem StepsIs.cells {w : World} {v : Value} {S : List (Int × Int)} (h : StepsIs w v S) {k : Nat} (hk : k < S.length) : ∃ f cp, v = .slice (some ⟨f, 0, none⟩) S.length cp ∧ f < w.heap.size ∧
    w.cell? ⟨f, k * 2, none⟩ = some (.int .i64 (S.getD k (0, 0)).1) ∧ w.cell? ⟨f, k * 2 + 1, none⟩ = some (.int .i64 (S.getD k (0, 0)).2) := by
  obtain ⟨f, cp, rfl⟩ := own_form h (by omega)
  obtain ⟨h0, h1⟩ := stepCells_at S k hk
  exact ⟨f, cp, rfl, (World.ownsRow.lt h f rfl).2, by rw [World.ownsRow.cellAt h _ (by omega)]; exact h0, by rw [World.ownsRow.cellAt h _ (by omega)]; exact h1⟩
theorem StepsIs.kept {w w' : World} {v : Value} {S : List (Int × Int)} {Q : Nat → Prop} (h : StepsIs w v S) (hk : Kept Q w w') (hq : ∀ k, v.ownBlock = some k → Q k) : StepsIs w' v S := by
  refine ⟨h.1, ?_⟩
  rcases h.2 with hn | ⟨g, cap, cur, rfl, hb, hg, rest⟩
  · exact .inl hn
  · exact .inr ⟨g, cap, cur, rfl, hb, hk.at' hg (hq g rfl), rest⟩

/-- Where the old blocks are as they were. -/
theorem Row.ext {w w' : World} {P : Nat → Prop} {e : TypeId} {size : Nat} {v : Value} {n : Nat} {xs : List Value} (h : Row w P e size v n xs) (hb : ∀ k, k < w.heap.size → w'.heap[k]? = w.heap[k]?) : Row w' P e size v n xs := by
  refine ⟨⟨h.own.1, ?_⟩, h.out⟩
  rcases h.own.2 with hn | ⟨g, cap, cur, rfl, hg0, hg, rest⟩
  · exact .inl hn
  · exact .inr ⟨g, cap, cur, rfl, hg0, (hb g (lt_of_block hg)).trans hg, rest⟩
theorem DmIs.ext {w w' : World} {P : Nat → Prop} {b : Nat} {M : Ma} (h : DmIs w P b M) (hs : w.heap.size ≤ w'.heap.size) (hb : ∀ k, k < w.heap.size → w'.heap[k]? = w.heap[k]?) : DmIs w' P b M := by
  obtain ⟨vi, vs, vc, vo, h⟩ := h
  refine ⟨vi, vs, vc, vo, fun k hk => Nat.lt_of_lt_of_le (h.bound k hk) hs, h.out, (hb b h.lt).trans h.box, h.image.moved ?_, h.stack.ext hb, h.calls.ext hb, h.outp.ext hb, h.sep, h.sepo⟩
  intro g hg
  obtain ⟨g', cs, fr, h1, h2⟩ := h.image.own
  rw [h1] at hg
  cases hg
  exact hb g (lt_of_block h2)

theorem DmIs.protect {w : World} {P : Nat → Prop} {b : Nat} {M : Ma} (h : DmIs w P b M) (o : Obj) : DmIs (w.alloc o) (fun k => P k ∨ k = w.heap.size) b M := by
  obtain ⟨vi, vs, vc, vo, h⟩ := h
  have hb := h.lt
  refine ⟨vi, vs, vc, vo, ?_, fun hp => hp.elim h.out (fun e => by omega), alloc_block h.box, ?_, h.stack.protect o, h.calls.protect o, h.outp.protect o, h.sep, h.sepo⟩
  · intro k hk
    rcases hk with hk | hk
    · have := h.bound k hk; simp; omega
    · simp; omega
  · obtain ⟨g, cap, cs, fr, hi⟩ := h.image.alloc o
    obtain ⟨g', cs', fr', h1, h2⟩ := h.image.own
    rw [hi.val] at h1
    cases h1
    have hg3 : g < w.heap.size := lt_of_block h2
    exact ⟨_, cap, cs, fr, hi.val, fun hp => hp.elim hi.out (fun e => by omega), hi.at', hi.cells, hi.mark⟩
theorem DmIs.mono {w : World} {P Q : Nat → Prop} {b : Nat} {M : Ma} (h : DmIs w P b M) (hq : ∀ k, Q k → P k) : DmIs w Q b M := by
  obtain ⟨vi, vs, vc, vo, h⟩ := h
  obtain ⟨g, cap, cs, fr, hi⟩ := h.image
  exact ⟨vi, vs, vc, vo, fun k hk => h.bound k (hq k hk), fun hp => h.out (hq _ hp), h.box, ⟨g, cap, cs, fr, hi.val, fun hp => hi.out (hq _ hp), hi.at', hi.cells, hi.mark⟩, h.stack.mono hq, h.calls.mono hq, h.outp.mono hq, h.sep, h.sepo⟩

structure StepInv (S : List (Int × Int)) (Inv : Int → Ma → Prop) : Prop where
  ok : ∀ p M, Inv p M → M.Ok
  ops : ∀ i, i < S.length → (S.getD i (0, 0)).1 = -1 ∨ opOk (S.getD i (0, 0)).1
  next : ∀ p M, Inv p M → 0 ≤ p ∧ p < S.length → (nextS S p M).2.1 = 0 → Inv (nextS S p M).1 (nextS S p M).2.2
  used : ∀ p M, Inv p M → 0 ≤ p ∧ p < S.length → (nextS S p M).2.1 = 0 → M.used + 1 ≤ (nextS S p M).2.2.used ∨ ((nextS S p M).2.2.used = M.used ∧ p + 1 ≤ (nextS S p M).1)
def usedD (w : World) (b : Nat) : Int := match w.cell? ⟨b, 7, none⟩ with | some (.int _ n) => n | _ => 0
theorem usedD_is {w : World} {P : Nat → Prop} {b : Nat} {M : Ma} (h : DmIs w P b M) : usedD w b = M.used := by
  obtain ⟨gi, ki, sa, ks, ac, kc, ao, ko, hlt, c0, c1, c2, c3, c4, c5, c6, c7, c8, c9, c10, c11, fr⟩ := h.view
  unfold usedD; rw [c7]
/-- The block of the step that is made. -/
def setStep (w : World) (op arg : Int) : World := w.alloc (.cells #[.int .i64 op, .int .i64 arg] 85)

set_option maxRecDepth 100000 in
set_option maxHeartbeats 6400000 in
theorem runSteps_any {w : World} {P : Nat → Prop} {b : Nat} {M0 : Ma} (h : DmIs w P b M0) (v : Value) (S : List (Int × Int)) (hS : StepsIs w v S) (hv : ∀ k, v.ownBlock = some k → P k) (hlS : S.length ≤ 100000)
    (Inv : Int → Ma → Prop) (hI : StepInv S Inv) (hI0 : Inv 0 M0) (N : Nat) (hN : measN S.length M0.used 0 ≤ N) :
    Calls Tryd.prog 33 #[.pointer (some ⟨b, 0, none⟩), v] w (DPost P b (.int .i64 (runS S N 0 M0).1) (runS S N 0 M0).2 w) := by
  obtain ⟨va, vc, hvv⟩ := own_slice hS
  have HS := hide hS
  have HV := hide hv
  have HI := hide hI
  have HI0 := hide hI0
  have HN := hide hN
  have H0 := hide h
  subst hvv
  clear hS hv hI hI0 hN h
  obtain ⟨R, hR⟩ : ∃ R, R = runS S N 0 M0 := ⟨_, rfl⟩
  rw [← hR]
  have HR := hide hR
  clear hR
  go_enter Tryd.func33, Tryd.ntmps33
  go_wp2
  go_loopw [5] (fun i wr => ∃ (p : Int) (M : Ma) (n : Nat), i = .int .i64 p ∧ DmIs wr P b M ∧ Kept P w wr ∧ Hid (Inv p M) ∧ Hid (measN S.length M.used p.toNat ≤ n) ∧ Hid (runS S n p M = R)) (fun i wr => measN S.length (usedD wr b) (intOf i).toNat)
  case atStart => exact ⟨0, M0, N, rfl, H0.out, Kept.refl _ _, HI0, HN, HR.out.symm⟩
  case round =>
    obtain ⟨p, M, n, rfl, hm, hk, hinv, hms, hrun⟩ := hrel
    by_cases hin : 0 ≤ p ∧ p < S.length
    · obtain ⟨k, rfl⟩ := Int.eq_ofNat_of_zero_le hin.1
      have hkl : k < S.length := by omega
      have hSr := (unhide HS).kept hk HV.out
      obtain ⟨f, cp, hv2, hf, e0, e1⟩ := hSr.cells hkl
      simp only [Value.slice.injEq, true_and] at hv2
      obtain ⟨rfl, rfl⟩ := hv2
      have hops := (unhide HI).ops k hkl
      have hok := (unhide HI).ok _ M hinv.out
      have hlt : b < wr.heap.size := by obtain ⟨vi, vs, vc, vo, h⟩ := hm; exact h.lt
      have hst : stepAt S (k : Int) = S.getD k (0, 0) := by unfold stepAt; rw [Int.toNat_natCast]
      have hnx := hide ((unhide HI).next _ M hinv.out hin)
      have hus := hide ((unhide HI).used _ M hinv.out hin)
      have hq : nextS S (k : Int) M = if (S.getD k (0, 0)).1 = -1 then ((S.getD k (0, 0)).2, 0, M) else stepM (S.getD k (0, 0)).1 (S.getD k (0, 0)).2 ((k : Int) + 1) M := by unfold nextS; rw [hst]
      have hrn1 := hide (runS_on S · (k : Int) M hin)
      have hrn2 := hide (runS_err S · (k : Int) M hin)
      rw [hq] at hnx hus hrn1 hrn2
      generalize (S.getD k (0, 0)).1 = op at *
      generalize (S.getD k (0, 0)).2 = arg at *
      obtain ⟨n', hn'⟩ : ∃ n', n = n' + 1 := by
        refine ⟨n - 1, ?_⟩
        have := hms.out
        unfold measN at this
        have o3 := hok.used'
        have : 1 ≤ (10001 - M.used).toNat * (S.length + 2) := Nat.mul_pos (by omega) (by omega)
        omega
      subst hn'
      have o2 := hok.used
      have o3 := hok.used'
      clear hq hst hSr
      have hmA : DmIs (wr.alloc (.cells #[.int .i64 op, .int .i64 arg] 85)) P b M := hm.alloc _
      have hkA : Kept P w (wr.alloc (.cells #[.int .i64 op, .int .i64 arg] 85)) := hk.alloc _
      have hmu := hide (usedD_is hm)
      by_cases ho : op = -1
      · subst ho
        rw [if_pos rfl] at hnx hus hrn1 hrn2
        clear hrn2
        have hinv2 : Hid (Inv arg M) := (unhide hnx) rfl
        have hrun2 : Hid (runS S n' arg M = R) := by
          have := (unhide hrn1) n' rfl
          unfold Hid; rw [← hrun.out, this]
        have hmeas : measN S.length M.used arg.toNat < measN S.length M.used (k : Int).toNat := by
          rcases (unhide hus) rfl with g | g
          · exact absurd g (by show ¬ M.used + 1 ≤ M.used; omega)
          · have g2 : (k : Int) + 1 ≤ arg := g.2
            exact measN_lt _ _ _ _ _ o2 o3 o3 (by rw [Int.toNat_natCast]; exact hkl) (.inr ⟨rfl, by omega⟩)
        have HME := hide hmeas
        have hms2 : Hid (measN S.length M.used arg.toNat ≤ n') := by have := hms.out; unfold Hid; omega
        have hmu2 := hide (usedD_is hmA)
        clear hmeas hnx hus hrn1 hops hin
        go_wp2
        refine ⟨⟨arg, M, n', rfl, hmA, hkA, hinv2, hms2, hrun2⟩, ?_⟩
        rw [hmu2.out, hmu.out]
        exact HME.out
      · rw [if_neg ho] at hnx hus hrn1 hrn2
        have ho' : opOk op := hops.elim (fun h => absurd h ho) id
        have hob : (op == -1) = false := by simpa using ho
        have hfe := faultD_step M hok op arg ((k : Int) + 1) ho'
        have hfl := hide (dFault_any (hm.protect (.cells #[.int .i64 op, .int .i64 arg] 85)) hok op ho')
        have hmk := hide (fun w' (h' : DmIs w' P b M) => make_any h' hok op arg ((k : Int) + 1) ho')
        have hsame := hide (stepM_same op arg ((k : Int) + 1) M)
        unfold DPost at hfl hmk
        rw [hfe] at hfl
        obtain ⟨q, hq⟩ : ∃ q, q = stepM op arg ((k : Int) + 1) M := ⟨_, rfl⟩
        rw [← hq] at hnx hus hrn1 hrn2 hfl hmk hsame
        have hlt0 : wr.heap.size < (wr.alloc (.cells #[.int .i64 op, .int .i64 arg] 85)).heap.size := by simp
        have hboxA : (wr.alloc (.cells #[.int .i64 op, .int .i64 arg] 85)).heap[wr.heap.size]? = some (.cells #[.int .i64 op, .int .i64 arg] 85 (0, 0)) := heap_alloc_new wr _
        have HBA := hide hboxA
        clear hfe hq hops ho hmA
        by_cases h0 : q.2.1 = 0
        · have hb0 : (q.2.1 != 0) = false := by rw [h0]; rfl
          have hinv2 : Hid (Inv q.1 q.2.2) := (unhide hnx) h0
          have hok2 := (unhide HI).ok _ _ hinv2.out
          have hrun2 : Hid (runS S n' q.1 q.2.2 = R) := by
            have := (unhide hrn1) n' h0
            unfold Hid; rw [← hrun.out, this]
          have hmeas : measN S.length q.2.2.used q.1.toNat < measN S.length M.used (k : Int).toNat := by
            refine measN_lt _ _ _ _ _ hok2.used hok2.used' o3 (by rw [Int.toNat_natCast]; exact hkl) ?_
            rcases (unhide hus) h0 with g | g
            · exact .inl g
            · exact .inr ⟨g.1, by have := g.2; omega⟩
          have HME := hide hmeas
          have hms2 : Hid (measN S.length q.2.2.used q.1.toNat ≤ n') := by have := hms.out; unfold Hid; omega
          have H00 := hide h0
          clear hmeas hnx hus hrn1 hrn2 hin hok2 hok hsame h0 hboxA
          go_wp2_with fail
          refine (unhide hfl).mono ?_
          rintro e w2 ⟨rfl, m2, k2⟩
          have hb2 := k2.at' HBA.out (.inr rfl)
          have s0 : w2.cell? ⟨wr.heap.size, 0, none⟩ = some (.int .i64 op) := cell_of_block hb2 0 _ rfl
          have s1 : w2.cell? ⟨wr.heap.size, 1, none⟩ = some (.int .i64 arg) := cell_of_block hb2 1 _ rfl
          have hlt2 := lt_of_block hb2
          have hmk2 := hide ((unhide hmk) w2 (m2.mono fun k hk => .inl hk) H00.out)
          have kk2 : Kept P w w2 := hkA.trans (k2.mono fun k hk => .inl hk)
          clear hb2 m2 k2 hfl hmk HBA
          go_wp2_with fail
          refine (unhide hmk2).mono ?_
          rintro e w3 ⟨rfl, m3, k3⟩
          have hmu2 := hide (usedD_is m3)
          clear hmk2
          go_wp2
          refine ⟨⟨q.1, q.2.2, n', rfl, m3, kk2.trans k3, hinv2, hms2, hrun2⟩, ?_⟩
          rw [hmu2.out, hmu.out]
          exact HME.out
        · have hb0 : (q.2.1 != 0) = true := bne_iff_ne.2 h0
          have hrun2 : Hid (R = (q.2.1, q.2.2)) := by
            have := (unhide hrn2) n' h0
            unfold Hid; rw [← hrun.out, this]
          have hqm : Hid (q.2.2 = M) := (unhide hsame) h0
          clear hnx hus hrn1 hrn2 hin hok hsame h0 hboxA
          go_wp2_with fail
          refine (unhide hfl).mono ?_
          rintro e w2 ⟨rfl, m2, k2⟩
          have post : Hid (DPost P b (.int .i64 R.1) R.2 w (.returned (.int .i64 q.2.1)) w2) := by
            unfold Hid; rw [hrun2.out]
            refine ⟨rfl, ?_, hkA.trans (k2.mono fun k hk => .inl hk)⟩
            show DmIs w2 P b q.2.2
            rw [hqm.out]
            exact m2.mono fun k hk => .inl hk
          have hb2 := k2.at' HBA.out (.inr rfl)
          have s0 : w2.cell? ⟨wr.heap.size, 0, none⟩ = some (.int .i64 op) := cell_of_block hb2 0 _ rfl
          clear m2 k2 hfl hmk HBA hb2
          go_wp2
          go_ret
          exact post.out
    · have hrun2 : Hid (R = (0, M)) := by unfold Hid; rw [← hrun.out, runS_end S n p M hin]
      have post : Hid (DPost P b (.int .i64 R.1) R.2 w (.returned (.int .i64 0)) wr) := by unfold Hid; rw [hrun2.out]; exact ⟨rfl, hm, hk⟩
      have HP := hide hin
      by_cases h1 : 0 ≤ p
      · have h2 : ¬ p < S.length := fun h => hin ⟨h1, h⟩
        clear hin hrun hm hk
        go_wp2
        go_ret
        exact post.out
      · clear hin hrun hm hk
        go_wp2
        go_ret
        exact post.out
end Go.Proofs.YtepckhdnlfajbaaDoor
