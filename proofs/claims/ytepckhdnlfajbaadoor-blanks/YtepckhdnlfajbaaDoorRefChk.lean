/-
  Package graderref: Check.
-/
import Derived.Test.YtepckhdnlfajbaaDoorRefCheck
import Derived.Test.YtepckhdnlfajbaaDoorReadProg
set_option linter.unusedSimpArgs false
set_option linter.unusedVariables false
set_option linter.unusedSectionVars false
namespace Go.Proofs.YtepckhdnlfajbaaDoor
open Go.RowKit

theorem ToksIs.kept {w w' : World} {v : Value} {T : Words} {Q : Nat → Prop} (h : ToksIs w v T) (hk : Kept Q w w') (hq : ∀ k, v.ownBlock = some k → Q k) : ToksIs w' v T := by
  refine ⟨h.1, ?_⟩
  rcases h.2 with hn | ⟨g, cap, cur, rfl, hb, hg, rest⟩
  · exact .inl hn
  · exact .inr ⟨g, cap, cur, rfl, hb, hk.at' hg (hq g rfl), rest⟩
theorem toksFuel_size (s : ByteArray) : ∀ f k, k ≤ s.size → ∀ x ∈ toksFuel f s k, x.1.size ≤ s.size
  | 0, k, hk, x, hx => by simp [toksFuel] at hx
  | f + 1, k, hk, x, hx => by
    unfold toksFuel at hx
    have a2 := blankEnd_le s.data.toList k (by rw [len_data]; exact hk)
    have a3 := wordEnd_le s.data.toList (blankEnd s.data.toList k) a2
    rw [len_data] at a2 a3
    split at hx
    · rcases List.mem_cons.1 hx with h | h
      · subst h; exact extract_size s _ _ a3
      · exact toksFuel_size s f _ a3 x h
    · simp at hx
theorem toks_size (s : ByteArray) (k : Nat) : ((toksFrom s 0).getD k (ByteArray.empty, 0)).1.size ≤ s.size := by
  by_cases h : k < (toksFrom s 0).length
  · have : (toksFrom s 0).getD k (ByteArray.empty, 0) = (toksFrom s 0)[k] := by simp [List.getD, h]
    rw [this]
    exact toksFuel_size s _ 0 (Nat.zero_le _) _ (List.getElem_mem h)
  · simp [List.getD, h]

/-- A step of the loop. -/
theorem refLoop_err (T : Words) (n k : Nat) (O : List UInt8) (I : Bool) (hk : k < T.length) (he : (wrongM T k O I).1 ≠ 0) : refLoop T n (T.drop k) k O I = ((wrongM T k O I).1, pAt T k) := by
  rw [drop_at T k hk, refLoop_cons, if_pos he]; rfl
theorem refLoop_next (T : Words) (n k : Nat) (O : List UInt8) (I : Bool) (hk : k < T.length) (he : (wrongM T k O I).1 = 0) (hc : wAt T k ≠ [58]) : refLoop T n (T.drop k) k O I = refLoop T n (T.drop (k + 1)) (k + 1) (wrongM T k O I).2.1 (wrongM T k O I).2.2 := by
  rw [drop_at T k hk, refLoop_cons, if_neg (by simp [he]), if_neg (show ¬ (T.getD k (ByteArray.empty, 0)).1.toList = [58] from hc)]
theorem refLoop_last (T : Words) (n k : Nat) (O : List UInt8) (I : Bool) (hk : k < T.length) (he : (wrongM T k O I).1 = 0) (hc : wAt T k = [58]) (hl : k + 1 = T.length) : refLoop T n (T.drop k) k O I = (4, n) := by
  rw [drop_at T k hk, refLoop_cons, if_neg (by simp [he]), if_pos (show (T.getD k (ByteArray.empty, 0)).1.toList = [58] from hc), List.drop_of_length_le (by omega)]
theorem refLoop_bad (T : Words) (n k : Nat) (O : List UInt8) (I : Bool) (hk : k + 1 < T.length) (he : (wrongM T k O I).1 = 0) (hc : wAt T k = [58]) (hn : refName (wAt T (k + 1)) = false) : refLoop T n (T.drop k) k O I = (4, pAt T (k + 1)) := by
  rw [drop_at T k (by omega), refLoop_cons, if_neg (by simp [he]), if_pos (show (T.getD k (ByteArray.empty, 0)).1.toList = [58] from hc), drop_at T (k + 1) hk]
  have : refName (T.getD (k + 1) (ByteArray.empty, 0)).1.toList = false := hn
  simp only [this]
  rfl
theorem refLoop_name (T : Words) (n k : Nat) (O : List UInt8) (I : Bool) (hk : k + 1 < T.length) (he : (wrongM T k O I).1 = 0) (hc : wAt T k = [58]) (hn : refName (wAt T (k + 1)) = true) : refLoop T n (T.drop k) k O I = refLoop T n (T.drop (k + 2)) (k + 2) (wrongM T k O I).2.1 (wrongM T k O I).2.2 := by
  rw [drop_at T k (by omega), refLoop_cons, if_neg (by simp [he]), if_pos (show (T.getD k (ByteArray.empty, 0)).1.toList = [58] from hc), drop_at T (k + 1) hk]
  have : refName (T.getD (k + 1) (ByteArray.empty, 0)).1.toList = true := hn
  simp only [this]
  rfl
theorem refLoop_end (T : Words) (n k : Nat) (O : List UInt8) (I : Bool) (hk : k = T.length) : refLoop T n (T.drop k) k O I = if I = true ∨ O ≠ [] then (3, n) else (0, 0) := by
  rw [List.drop_of_length_le (by omega), refLoop_nil]

/-- What Check leaves. -/
def ChkPost (P : Nat → Prop) (r : Int × Nat) (w : World) (e : Ending) (w' : World) : Prop :=
  e = .returned (.tuple #[.int .i64 r.1, .int .i64 r.2]) ∧ Kept P w w'

set_option maxRecDepth 100000 in
set_option maxHeartbeats 3200000 in
theorem refCheck_any (s : ByteArray) (w : World) (P : Nat → Prop) (hP : ∀ k, P k → k < w.heap.size) (hs : s.size ≤ maxLen) (hF : WordsAt w 0 formsL) (hL : WordsAt w 1 listedL) (hPF : P 0) (hPL : P 1) :
    Calls Tryd.prog 10 #[.string s] w (ChkPost P (refCheckM s) w) := by
  by_cases hlong : 400 < s.size
  · have post : Hid (ChkPost P (refCheckM s) w (.returned (.tuple #[.int .i64 1, .int .i64 0])) w) := by
      unfold refCheckM; rw [if_pos hlong]; exact ⟨rfl, Kept.refl _ _⟩
    unfold maxLen at hs
    clear hF hL
    go_enter Tryd.func10, Tryd.ntmps10
    go_wp2
    go_ret2
    exact post.out
  · have hrc : Hid (refCheckM s = refLoop (toksFrom s 0) s.size (toksFrom s 0) 0 [] false) := by unfold Hid refCheckM; rw [if_neg hlong]
    have HF := hide hF
    have HL := hide hL
    have HP := hide hP
    have hsplit := hide (split_any s w P hP (by omega))
    have htl := toks_length s
    have HZ := hide (fun k => toks_size s k)
    obtain ⟨T, hT⟩ : ∃ T, T = toksFrom s 0 := ⟨_, rfl⟩
    rw [← hT] at hrc hsplit htl HZ
    clear hF hL hP hT
    go_enter Tryd.func10, Tryd.ntmps10
    go_wp2_with fail
    refine (unhide hsplit).mono ?_
    rintro e w1 ⟨v, rfl, hrow, hbd, hk1⟩
    obtain ⟨va, vc, hv⟩ := own_slice hrow.own
    rw [hv] at hrow
    rw [hv]
    clear hv hsplit
    have hTk : ToksIs w1 (.slice va T.length vc) T := hrow.own
    have hPb : Hid (∀ k, P k ∨ (Value.slice va T.length vc).ownBlock = some k → k < w1.heap.size) := by
      intro k hk
      rcases hk with hk | hk
      · exact hbd k hk
      · exact hrow.lt hk
    obtain ⟨P', hP'⟩ : ∃ P' : Nat → Prop, P' = fun k => P k ∨ (Value.slice va T.length vc).ownBlock = some k := ⟨_, rfl⟩
    have hP1 : Hid (∀ k, P k → P' k) := by intro k hk; rw [hP']; exact .inl hk
    have hP2 : Hid (∀ k, (Value.slice va T.length vc).ownBlock = some k → P' k) := by intro k hk; rw [hP']; exact .inr hk
    have hP3 : Hid (∀ k, P' k → k < w1.heap.size) := by intro k hk; rw [hP'] at hk; exact hPb.out k hk
    clear hP' hPb hbd
    have hTk := hide hTk
    have hk1' := hide hk1
    clear hk1 hrow
    have hS0 : ShapeIs (w1.alloc (.cells #[.string ⟨#[]⟩, .bool false] 48)) w1.heap.size [] false := ⟨⟨#[]⟩, toList_mk [], heap_alloc_new w1 _⟩
    have hnb : Hid (¬ P' w1.heap.size) := fun h => by have := hP3.out _ h; omega
    have hka : Kept P' w1 (w1.alloc (.cells #[.string ⟨#[]⟩, .bool false] 48)) := (Kept.refl P' w1).alloc _
    go_wp2
    go_loopw [6] (fun i wr => ∃ (k : Nat) (O : List UInt8) (I : Bool), k ≤ T.length ∧ O.length ≤ k ∧ i = .int .i64 k ∧ ShapeIs wr w1.heap.size O I ∧ Kept P' w1 wr ∧ Hid (refLoop T s.size (T.drop k) k O I = refLoop T s.size T 0 [] false)) (fun i _ => T.length - (intOf i).toNat)
    case atStart => exact ⟨0, [], false, Nat.zero_le _, Nat.le_refl _, rfl, hS0, hka, rfl⟩
    case round =>
      clear hS0 hka
      obtain ⟨k, O, I, hk, hO, rfl, hS, hkk, hd⟩ := hrel
      have HTr := hide ((unhide hTk).kept hkk hP2.out)
      have fin : Hid (∀ w2 r, Kept P' wr w2 → refLoop T s.size (T.drop k) k O I = r → ChkPost P (refCheckM s) w (.returned (.tuple #[.int .i64 r.1, .int .i64 r.2])) w2) := by
        intro w2 r h1 h2
        rw [hrc.out, ← hd.out, h2]
        exact ⟨rfl, (unhide hk1').trans ((hkk.trans h1).mono hP1.out)⟩
      by_cases hlt : k < T.length
      · have hF2 : WordsAt wr 0 formsL := HF.out.kept ((unhide hk1').trans (hkk.mono hP1.out)) (HP.out _ hPF) hPF
        have hL2 : WordsAt wr 1 listedL := HL.out.kept ((unhide hk1').trans (hkk.mono hP1.out)) (HP.out _ hPL) hPL
        have hwr := hide (wrong_any (P := P') hS hnb.out (by omega) _ T HTr.out (by omega) k hlt (Nat.le_trans (HZ.out k) hs) hF2 hL2)
        have hlen := wrongM_len T k O I
        have HF2 := hide hF2
        clear hF2 hL2
        obtain ⟨r, hr⟩ : ∃ r, r = wrongM T k O I := ⟨_, rfl⟩
        rw [← hr] at hwr hlen
        have HR := hide hr
        clear hr
        obtain ⟨u, hu⟩ : ∃ u, u = (T.getD k (ByteArray.empty, 0)).1 := ⟨_, rfl⟩
        obtain ⟨pl, hpl⟩ : ∃ pl, pl = (T.getD k (ByteArray.empty, 0)).2 := ⟨_, rfl⟩
        have HU : Hid (wAt T k = u.toList) := by rw [hu]; rfl
        by_cases h0 : r.1 = 0
        · have hb0 : (r.1 != 0) = false := by rw [h0]; rfl
          by_cases hc : u.toList = [58]
          · have hcb : (u.toList == [58]) = true := by simp [hc]
            by_cases hle : k + 1 = T.length
            · have hfin := hide (fin.out · (4, s.size) · (refLoop_last T s.size k O I hlt (by rw [← HR.out]; exact h0) (by rw [HU.out]; exact hc) hle))
              have hle' : ((k : Int) + 1 == (T.length : Int)) = true := by simp; omega
              clear h0 hc hle
              go_wp2_with fail
              refine (unhide hwr).mono ?_
              rintro e w2 ⟨rfl, hS2, hk2⟩
              obtain ⟨f, cp, hv, hf, e0, e1⟩ := (HTr.out.kept hk2 hP2.out).cells hlt
              simp only [Value.slice.injEq, true_and] at hv
              obtain ⟨rfl, rfl⟩ := hv
              rw [← hu] at e0
              have hfin2 := hide ((unhide hfin) w2 hk2)
              clear hfin fin hu hpl hk2 hS2 e1
              unfold maxLen at hs
              go_wp2
              go_ret2
              exact hfin2.out
            · have hlt2 : k + 1 < T.length := by omega
              obtain ⟨u2, hu2⟩ : ∃ u, u = (T.getD (k + 1) (ByteArray.empty, 0)).1 := ⟨_, rfl⟩
              obtain ⟨pl2, hpl2⟩ : ∃ pl, pl = (T.getD (k + 1) (ByteArray.empty, 0)).2 := ⟨_, rfl⟩
              have HU2 : Hid (wAt T (k + 1) = u2.toList) := by rw [hu2]; rfl
              have hz2 : Hid (u2.size ≤ maxLen) := by rw [hu2]; exact Nat.le_trans (HZ.out (k + 1)) hs
              have hle' : ((k : Int) + 1 == (T.length : Int)) = false := by rw [beq_eq_false_iff_ne]; omega
              have H0 := hide h0
              have HC := hide hc
              clear h0 hc
              go_wp2_with fail
              refine (unhide hwr).mono ?_
              rintro e w2 ⟨rfl, hS2, hk2⟩
              obtain ⟨f, cp, hv, hf, e0, e1⟩ := (HTr.out.kept hk2 hP2.out).cells hlt
              simp only [Value.slice.injEq, true_and] at hv
              obtain ⟨rfl, rfl⟩ := hv
              obtain ⟨f', cp'', hv, _, e2, e3⟩ := (HTr.out.kept hk2 hP2.out).cells hlt2
              simp only [Value.slice.injEq, true_and, Option.some.injEq, Addr.mk.injEq, and_true] at hv
              obtain ⟨rfl, rfl⟩ := hv
              rw [← hu] at e0
              rw [← hu2] at e2
              rw [← hpl2] at e3
              have HF3 := hide (HF2.out.kept hk2 (Nat.lt_of_lt_of_le (Nat.lt_of_lt_of_le (HP.out _ hPF) (unhide hk1').size) hkk.size) (hP1.out _ hPF))
              cases hn : refName u2.toList
              · have hfin := hide (fin.out · (4, pAt T (k + 1)) · (refLoop_bad T s.size k O I hlt2 (by rw [← HR.out]; exact H0.out) (by rw [HU.out]; exact HC.out) (by rw [HU2.out]; exact hn)))
                have hfin2 := hide ((unhide hfin) w2.drew hk2.drew)
                rw [show pAt T (k + 1) = pl2 from hpl2.symm] at hfin2
                clear hfin fin hu hpl hu2 hpl2 hk2 hS2 e1
                have HN := hide hn
                go_wp2_with (go_at_call 20; refine (refIsName_any u2 _ hz2.out HF3.out).mono ?_; rintro e w3 ⟨rfl, rfl⟩)
                go_region
                go_wp2
                go_ret2
                exact hfin2.out
              · have hstep := hide ((refLoop_name T s.size k O I hlt2 (by rw [← HR.out]; exact H0.out) (by rw [HU.out]; exact HC.out) (by rw [HU2.out]; exact hn)).symm.trans hd.out)
                rw [← HR.out] at hstep
                clear fin hu hpl hu2 hpl2 e1 e3
                have HN := hide hn
                go_wp2_with (go_at_call 20; refine (refIsName_any u2 _ hz2.out HF3.out).mono ?_; rintro e w3 ⟨rfl, rfl⟩)
                go_roundw
                case rel => exact ⟨k + 2, r.2.1, r.2.2, by omega, by omega, by go_num, hS2, hkk.trans hk2, hstep.out⟩
                case measure => first | (simp [intOf]; done) | (simp [intOf]; omega)
          · have hcb : (u.toList == [58]) = false := by simp [hc]
            have hstep := hide ((refLoop_next T s.size k O I hlt (by rw [← HR.out]; exact h0) (by rw [HU.out]; exact hc)).symm.trans hd.out)
            rw [← HR.out] at hstep
            clear h0 hc fin
            go_wp2_with fail
            refine (unhide hwr).mono ?_
            rintro e w2 ⟨rfl, hS2, hk2⟩
            obtain ⟨f, cp, hv, hf, e0, e1⟩ := (HTr.out.kept hk2 hP2.out).cells hlt
            simp only [Value.slice.injEq, true_and] at hv
            obtain ⟨rfl, rfl⟩ := hv
            rw [← hu] at e0
            clear hu hpl e1
            go_wp2
            go_roundw
            case rel => exact ⟨k + 1, r.2.1, r.2.2, by omega, by omega, by go_num, hS2, hkk.trans hk2, hstep.out⟩
            case measure => first | (simp [intOf]; done) | (simp [intOf]; omega)
        · have hb0 : (r.1 != 0) = true := bne_iff_ne.2 h0
          have hfin := hide (fin.out · (r.1, pAt T k) · (by rw [HR.out]; exact refLoop_err T s.size k O I hlt (by rw [← HR.out]; exact h0)))
          clear h0
          go_wp2_with fail
          refine (unhide hwr).mono ?_
          rintro e w2 ⟨rfl, hS2, hk2⟩
          obtain ⟨f, cp, hv, hf, e0, e1⟩ := (HTr.out.kept hk2 hP2.out).cells hlt
          simp only [Value.slice.injEq, true_and] at hv
          obtain ⟨rfl, rfl⟩ := hv
          have hfin2 := hide ((unhide hfin) w2.drew hk2.drew)
          rw [show pAt T k = pl from hpl.symm] at hfin2
          rw [← hpl] at e1
          clear hfin fin hu hpl hk2 hS2 e0
          go_wp2
          go_region
          go_wp2
          go_ret2
          exact hfin2.out
      · have hke : k = T.length := by omega
        obtain ⟨o, ho, hbox⟩ := hS
        have hltb := lt_of_block hbox
        have c0 : wr.cell? ⟨w1.heap.size, 0, none⟩ = some (.string o) := cell_of_block hbox 0 _ rfl
        have c1 : wr.cell? ⟨w1.heap.size, 1, none⟩ = some (.bool I) := cell_of_block hbox 1 _ rfl
        have hend := hide (refLoop_end T s.size k O I hke)
        have HO := hide ho
        clear hbox ho
        cases I
        · cases hem : o.toList.isEmpty
          · have hr : refLoop T s.size (T.drop k) k O false = (3, s.size) := by
              rw [hend.out, if_pos (.inr (by rw [← HO.out]; intro h; rw [h] at hem; simp at hem))]
            have hfin := hide (fin.out wr _ (Kept.refl _ _) hr)
            clear fin hr hend
            unfold maxLen at hs
            go_wp2
            go_ret2
            exact hfin.out
          · have hr : refLoop T s.size (T.drop k) k O false = (0, 0) := by
              rw [hend.out, if_neg (by rw [← HO.out]; simp; simpa using hem)]
            have hfin := hide (fin.out wr _ (Kept.refl _ _) hr)
            clear fin hr hend
            go_wp2
            go_ret2
            exact hfin.out
        · have hr : refLoop T s.size (T.drop k) k O true = (3, s.size) := by rw [hend.out, if_pos (.inl rfl)]
          have hfin := hide (fin.out wr _ (Kept.refl _ _) hr)
          clear fin hr hend
          unfold maxLen at hs
          go_wp2
          go_ret2
          exact hfin.out
end Go.Proofs.YtepckhdnlfajbaaDoor
