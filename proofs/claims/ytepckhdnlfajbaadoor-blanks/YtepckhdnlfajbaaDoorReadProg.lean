/-
  The reader of package grader: readProgram, Check.
-/
import Derived.Test.YtepckhdnlfajbaaDoorRead
set_option linter.unusedSimpArgs false
set_option linter.unusedVariables false
set_option linter.unusedSectionVars false
namespace Go.Proofs.YtepckhdnlfajbaaDoor
open Go.RowKit

theorem WordsAt.kept {w w' : World} {P : Nat → Prop} {g : Nat} {l : List (List UInt8)} (h : WordsAt w g l) (hk : Kept P w w') (hg : g < w.heap.size) (hp : P g) : WordsAt w' g l :=
  fun i hi => (hk.cell (p := ⟨g, i, none⟩) hg hp).trans (h i hi)

theorem rd_fresh (w : World) (P : Nat → Prop) (hP : ∀ k, P k → k < w.heap.size) :
    RdIs (w.alloc (.cells #[.slice none 0 0, .slice none 0 0, .slice none 0 0, .string ByteArray.empty, .int .i64 0, .bool false, .bool false] 59)) P w.heap.size Rd.fresh :=
  ⟨_, _, _, fun k hk => by have := hP k hk; simp; omega, fun hp => by have := hP _ hp; omega, heap_alloc_new w _, Row.nil _ _ _ _, Row.nil _ _ _ _, Row.nil _ _ _ _⟩

/-- What readProgram leaves. -/
def ReadPost (P : Nat → Prop) (r : Int × Nat × Rd) (w : World) (e : Ending) (w' : World) : Prop :=
  ∃ v, e = .returned (.tuple #[v, .int .i64 r.1, .int .i64 r.2.1]) ∧ (r.1 = 0 → Row w' P 85 2 v r.2.2.steps.length (stepCells r.2.2.steps)) ∧ Kept P w w'

theorem extract_size (s : ByteArray) (a z : Nat) (h : z ≤ s.size) : (s.extract a z).size ≤ s.size := by
  simp [ByteArray.size_extract]; omega

theorem readM_err {s : ByteArray} {e : Int} {a : Nat} {R : Rd} (hl : ¬ 400 < s.size) (h : Rd.fresh.read (toksFrom s 0) = (e, a, R)) (he : e ≠ 0) : readM s = (e, a, R) := by
  unfold readM
  rw [if_neg hl, h, if_pos he]
theorem readM_fin {s : ByteArray} {R : Rd} (hl : ¬ 400 < s.size) (h : Rd.fresh.read (toksFrom s 0) = (0, 0, R)) (hf : R.fin ≠ 0) : readM s = (R.fin, s.size, Rd.fresh) := by
  unfold readM
  rw [if_neg hl, h, if_neg (by simp), if_pos hf]
theorem readM_ok {s : ByteArray} {R : Rd} (hl : ¬ 400 < s.size) (h : Rd.fresh.read (toksFrom s 0) = (0, 0, R)) (hf : R.fin = 0) : readM s = (0, 0, R) := by
  unfold readM
  rw [if_neg hl, h, if_neg (by simp), if_neg (by simp [hf])]

set_option maxRecDepth 100000 in
set_option maxHeartbeats 1600000 in
theorem readProgram_any (s : ByteArray) (w : World) (P : Nat → Prop) (hP : ∀ k, P k → k < w.heap.size) (hs : s.size ≤ maxLen) (hT : WordsAt w 2 listedL) (hPT : P 2) :
    Calls Tryd.prog 17 #[.string s] w (ReadPost P (readM s) w) := by
  by_cases hlong : 400 < s.size
  · have e0 : Hid (readM s = (1, 0, Rd.fresh)) := by unfold Hid readM; rw [if_pos hlong]
    unfold maxLen at hs
    have post : Hid (∀ e, e = Ending.returned (.tuple #[.slice none 0 0, .int .i64 1, .int .i64 0]) → ReadPost P (readM s) w e w) := by
      intro e he
      rw [e0.out]
      exact ⟨_, he, fun h => (by cases h), Kept.refl _ _⟩
    clear hT e0
    go_enter Tryd.func17, Tryd.ntmps17
    go_wp2
    go_ret3
    exact post.out _ rfl
  · have hT2 : 2 < w.heap.size := hP _ hPT
    have hT' := hide hT
    have hf0 := rd_fresh w P hP
    have hk0 : Kept P w (w.alloc (.cells #[.slice none 0 0, .slice none 0 0, .slice none 0 0, .string ByteArray.empty, .int .i64 0, .bool false, .bool false] 59)) := (Kept.refl P w).alloc _
    have ht0 := hide (toksFrom_eq s 0 (Nat.zero_le _))
    have a2 := blankEnd_le s.data.toList 0 (Nat.zero_le _)
    have a3 := wordEnd_le s.data.toList (blankEnd s.data.toList 0) a2
    have a4 := wordEnd_ge s.data.toList (blankEnd s.data.toList 0)
    rw [len_data] at a2 a3
    clear hT hP
    go_enter Tryd.func17, Tryd.ntmps17
    go_wp2_with fail
    refine (nextWord_any s 0 _ hs (Nat.zero_le _)).mono ?_
    rintro e w1 ⟨rfl, rfl⟩
    generalize blankEnd s.data.toList 0 = k0 at a2 a3 a4 ht0 ⊢
    generalize wordEnd s.data.toList k0 = z0 at a3 a4 ht0 ⊢
    go_wp2
    go_loopw [6, 7] (fun i j wr => ∃ a z : Nat, ∃ R : Rd, a ≤ z ∧ z ≤ s.size ∧ i = .int .i64 a ∧ j = .int .i64 z ∧ RdIs wr P w.heap.size R ∧ R.Le a ∧ Kept P w wr ∧ Hid (R.read (toksAt s a z) = Rd.fresh.read (toksFrom s 0))) (fun i _ _ => s.size - (intOf i).toNat)
    case atStart => exact ⟨k0, z0, Rd.fresh, a4, a3, rfl, rfl, hf0, Rd.Le.fresh.mono (Nat.zero_le _), hk0, by unfold Hid; rw [ht0.out]⟩
    case round =>
      clear ht0 hf0 hk0 a2 a3 a4
      obtain ⟨a, z, R, haz, hz, rfl, rfl, hR, hLe, hk, hrd⟩ := hrel
      by_cases hlt : a < z
      · have htk : Hid (toksAt s a z = (s.extract a z, a) :: toksFrom s z) := by unfold Hid toksAt; rw [if_pos hlt]
        have hle8 : R.Le 80000 := hLe.mono (by omega)
        have hszt : Hid ((s.extract a z).size ≤ maxLen) := Nat.le_trans (extract_size s a z hz) hs
        have hTk : Hid (WordsAt wr 2 listedL) := hT'.out.kept hk hT2 hPT
        have hctr := hide (take_any hR hle8 (s.extract a z) hszt.out hTk.out)
        obtain ⟨r, hr⟩ : ∃ r, r = R.take (s.extract a z) := ⟨_, rfl⟩
        rw [← hr] at hctr
        have hLe2 : r.2.Le (a + 1) := by rw [hr]; exact hLe.take _
        have HR := hide hr
        clear hr
        by_cases h0 : r.1 = 0
        · have hb : (r.1 != 0) = false := by rw [h0]; rfl
          have hstep : Hid (r.2.read (toksFrom s z) = Rd.fresh.read (toksFrom s 0)) := by
            unfold Hid
            rw [← hrd.out, htk.out, HR.out]
            exact (Rd.read_yes R _ a _ (by rw [← HR.out]; exact h0)).symm
          have hte := hide (toksFrom_eq s z hz)
          have a2 := blankEnd_le s.data.toList z (by rw [len_data]; exact hz)
          have a3 := wordEnd_le s.data.toList (blankEnd s.data.toList z) a2
          have a4 := wordEnd_ge s.data.toList (blankEnd s.data.toList z)
          have a5 := blankEnd_ge s.data.toList z
          rw [len_data] at a2 a3
          have H0 := hide h0
          clear h0
          go_wp2_with fail
          refine (unhide hctr).mono ?_
          rintro e w2 ⟨rfl, hR2, hk2⟩
          have hR2' := hR2 H0.out
          clear hR2
          go_wp2_with fail
          refine (nextWord_any s z _ hs hz).mono ?_
          rintro e w1 ⟨rfl, rfl⟩
          generalize blankEnd s.data.toList z = k1 at a2 a3 a4 a5 hte ⊢
          generalize wordEnd s.data.toList k1 = z1 at a3 a4 hte ⊢
          go_wp2
          go_roundw
          case rel => exact ⟨k1, z1, r.2, a4, a3, rfl, rfl, hR2', hLe2.mono (by omega), hk.trans hk2, by unfold Hid; rw [← hte.out]; exact hstep.out⟩
          case measure => simp [intOf]; omega
        · have hb : (r.1 != 0) = true := bne_iff_ne.2 h0
          have hrm : Hid (readM s = (r.1, a, R)) := readM_err hlong (by
            rw [← hrd.out, htk.out, Rd.read_no R _ a _ (by rw [← HR.out]; exact h0), ← HR.out]) h0
          have post : Hid (∀ e w2, Kept P wr w2 → e = Ending.returned (.tuple #[.slice none 0 0, .int .i64 r.1, .int .i64 a]) → ReadPost P (readM s) w e w2) := by
            intro e w2 hk2 he
            rw [hrm.out]
            exact ⟨_, he, fun h => absurd h h0, hk.trans hk2⟩
          have H0 := hide h0
          clear h0 hrm
          go_wp2_with fail
          refine (unhide hctr).mono ?_
          rintro e w2 ⟨rfl, hR2, hk2⟩
          clear hR2
          go_wp2
          go_ret3
          exact post.out _ _ hk2 rfl
      · have htk : Hid (toksAt s a z = []) := by unfold Hid toksAt; rw [if_neg hlt]
        have hrd2 : Hid (Rd.fresh.read (toksFrom s 0) = (0, 0, R)) := by unfold Hid; rw [← hrd.out, htk.out]; rfl
        have hfl : R.forms.length ≤ 90000 := by have := hLe.forms; omega
        by_cases h0 : R.fin = 0
        · have hb : (R.fin != 0) = false := by rw [h0]; rfl
          have hrm : Hid (readM s = (0, 0, R)) := readM_ok hlong hrd2.out h0
          obtain ⟨vs, vf, vd, hRa⟩ := hR
          have c0 : wr.cell? ⟨w.heap.size, 0, none⟩ = some vs := hRa.cell 0 _ rfl
          have hlt3 := hRa.lt
          have hfin := hide (finish_any wr P w.heap.size R ⟨vs, vf, vd, hRa⟩ hfl)
          obtain ⟨a0, cp0, hvs⟩ := own_slice hRa.steps.own
          have post : Hid (∀ e, e = Ending.returned (.tuple #[vs, .int .i64 0, .int .i64 0]) → ReadPost P (readM s) w e wr) := by
            intro e he
            rw [hrm.out]
            exact ⟨_, he, fun _ => hRa.steps, hk⟩
          rw [hvs] at c0 post
          clear h0 hrm hvs
          go_wp2_with fail
          refine (unhide hfin).mono ?_
          rintro e w1 ⟨rfl, rfl⟩
          go_wp2
          go_ret3
          exact post.out _ rfl
        · have hb : (R.fin != 0) = true := bne_iff_ne.2 h0
          have hrm : Hid (readM s = (R.fin, s.size, Rd.fresh)) := readM_fin hlong hrd2.out h0
          have hfin := hide (finish_any wr P w.heap.size R hR hfl)
          have post : Hid (∀ e, e = Ending.returned (.tuple #[.slice none 0 0, .int .i64 R.fin, .int .i64 s.size]) → ReadPost P (readM s) w e wr) := by
            intro e he
            rw [hrm.out]
            exact ⟨_, he, fun h => absurd h h0, hk⟩
          clear h0 hrm
          unfold maxLen at hs
          go_wp2_with fail
          refine (unhide hfin).mono ?_
          rintro e w1 ⟨rfl, rfl⟩
          go_wp2
          go_ret3
          exact post.out _ rfl
end Go.Proofs.YtepckhdnlfajbaaDoor
