/-
  Package graderref: Split.
-/
import Derived.Test.YtepckhdnlfajbaaDoorRefLeaf
set_option linter.unusedSimpArgs false
set_option linter.unusedVariables false
set_option linter.unusedSectionVars false
namespace Go.Proofs.YtepckhdnlfajbaaDoor
open Go.RowKit

def tokCells (l : List (ByteArray × Nat)) : List Value := l.flatMap fun p => [.string p.1, .int .i64 (p.2 : Int)]
theorem tokCells_snoc (l : List (ByteArray × Nat)) (a : ByteArray) (b : Nat) : tokCells (l ++ [(a, b)]) = tokCells l ++ [.string a, .int .i64 (b : Int)] := by simp [tokCells]
theorem tokCells_length (l : List (ByteArray × Nat)) : (tokCells l).length = l.length * 2 := by
  induction l with
  | nil => rfl
  | cons a l ih => simp only [tokCells, List.flatMap_cons, List.length_append, List.length_cons, List.length_nil] at ih ⊢; omega
theorem tokCells_at (l : List (ByteArray × Nat)) : ∀ k (h : k < l.length), (tokCells l)[k * 2]? = some (.string l[k].1) ∧ (tokCells l)[k * 2 + 1]? = some (.int .i64 (l[k].2 : Int)) := by
  induction l with
  | nil => intro k h; simp at h
  | cons p l ih =>
    intro k h
    cases k with
    | zero => simp [tokCells]
    | succ k =>
      have := ih k (by simpa using h)
      simp only [tokCells, List.flatMap_cons, List.cons_append, List.nil_append] at this ⊢
      rw [show (k + 1) * 2 = (k * 2) + 1 + 1 by omega]
      simpa using this
theorem Tryd.infoTok : (Tryd.prog.info? 51).map (fun i => (i.zero, i.size, i.bytes)) = some (some (.agg #[.string ByteArray.empty, .int .i64 0]), 2, 24) := by kernel_rfl

theorem wordEnd_run (s : ByteArray) (i : Nat) (hi : i ≤ s.size) : ∀ n fr, fr + n = i → (∀ j (h : j < s.size), fr ≤ j → j < i → 32 < (s[j].toNat : Int)) → wordEnd s.data.toList fr = wordEnd s.data.toList i
  | 0, fr, h, _ => by rw [show fr = i by omega]
  | n + 1, fr, h, hall => by
    rw [wordEnd_yes s fr (by omega) (hall fr (by omega) (Nat.le_refl _) (by omega))]
    exact wordEnd_run s i hi n (fr + 1) (by omega) fun j hj h1 h2 => hall j hj (by omega) h2
/-- The word from fr to i. -/
theorem toks_word (s : ByteArray) (fr i : Nat) (hfi : fr < i) (hi : i ≤ s.size) (hall : ∀ j (h : j < s.size), fr ≤ j → j < i → 32 < (s[j].toNat : Int)) (hend : ∀ h : i < s.size, (s[i].toNat : Int) ≤ 32) :
    toksFrom s fr = (s.extract fr i, fr) :: toksFrom s i := by
  rw [toksFrom_eq s fr (by omega), blankEnd_no s fr (by omega) (hall fr (by omega) (Nat.le_refl _) hfi), wordEnd_run s i hi (i - fr) fr (by omega) hall]
  have : wordEnd s.data.toList i = i := by
    by_cases h : i < s.size
    · exact wordEnd_no s i h (hend h)
    · exact wordEnd_end s i h
  rw [this]
  unfold toksAt
  rw [if_pos hfi]
theorem toks_blank (s : ByteArray) (i : Nat) (hi : i < s.size) (hb : (s[i].toNat : Int) ≤ 32) : toksFrom s i = toksFrom s (i + 1) := by
  rw [toksFrom_eq s i (by omega), toksFrom_eq s (i + 1) (by omega), blankEnd_yes s i hi hb]
theorem toks_end (s : ByteArray) (k : Nat) (hk : k = s.size) : toksFrom s k = [] := by
  subst hk
  rw [toksFrom_eq s _ (Nat.le_refl _), blankEnd_end s _ (by omega), wordEnd_end s _ (by omega)]
  unfold toksAt
  rw [if_neg (by omega)]
/-- The words are fewer than the bytes. -/
theorem toksFuel_length (s : ByteArray) : ∀ f k, k ≤ s.size → (toksFuel f s k).length + k ≤ s.size
  | 0, k, hk => by simp [toksFuel]; exact hk
  | f + 1, k, hk => by
    unfold toksFuel
    have a1 := blankEnd_ge s.data.toList k
    have a2 := blankEnd_le s.data.toList k (by rw [len_data]; exact hk)
    have a3 := wordEnd_le s.data.toList (blankEnd s.data.toList k) a2
    rw [len_data] at a2 a3
    split
    · have := toksFuel_length s f _ a3
      simp only [List.length_cons]
      omega
    · simp; exact hk
theorem toks_length (s : ByteArray) : (toksFrom s 0).length ≤ s.size := by have := toksFuel_length s (s.size + 1) 0 (Nat.zero_le _); unfold toksFrom; omega
/-- What is left behind fr. -/
def toksRest (s : ByteArray) (fr : Nat) : List (ByteArray × Nat) := if fr ≤ s.size then toksFrom s fr else []

/-- What Split leaves. -/
def SplitPost (P : Nat → Prop) (T : List (ByteArray × Nat)) (w : World) (e : Ending) (w' : World) : Prop :=
  ∃ v, e = .returned v ∧ Row w' P 51 2 v T.length (tokCells T) ∧ (∀ k, P k → k < w'.heap.size) ∧ Kept P w w'

set_option maxRecDepth 100000 in
set_option maxHeartbeats 1600000 in
theorem split_any (s : ByteArray) (w : World) (P : Nat → Prop) (hP : ∀ k, P k → k < w.heap.size) (hs : s.size ≤ 100000) :
    Calls Tryd.prog 18 #[.string s] w (SplitPost P (toksFrom s 0) w) := by
  obtain ⟨i0, hi0, hz0, hz1, hz2⟩ := info_parts Tryd.infoTok
  have hP' := hide hP
  clear hP
  have hlen := toks_length s
  go_enter Tryd.func18, Tryd.ntmps18
  go_wp2
  go_loopw [3, 4, 5] (fun l f i wr => ∃ (fr j : Nat) (T : List (ByteArray × Nat)), fr ≤ j ∧ j ≤ s.size + 1 ∧ (j = s.size + 1 → fr = s.size + 1) ∧ f = .int .i64 fr ∧ i = .int .i64 j ∧ Row wr P 51 2 l T.length (tokCells T) ∧ Hid (T ++ toksRest s fr = toksFrom s 0) ∧
      Hid (∀ x (h : x < s.size), fr ≤ x → x < j → 32 < (s[x].toNat : Int)) ∧ Kept P w wr) (fun _ _ i _ => s.size + 1 - (intOf i).toNat)
  case atStart => exact ⟨0, 0, [], Nat.le_refl _, by omega, by omega, rfl, rfl, Row.nil _ _ _ _, by simp [Hid, toksRest], fun x _ _ h => by omega, Kept.refl _ _⟩
  case round =>
    obtain ⟨fr, j, T, hfj, hj, hje, rfl, rfl, hrow, hT, hall, hk⟩ := hrel
    have hP2 : ∀ k, P k → k < wr.heap.size := fun k hp => Nat.lt_of_lt_of_le (hP'.out k hp) hk.size
    have HP2 := hide hP2
    clear hP2
    by_cases hlt : j ≤ s.size
    · have hTl : T.length ≤ 100000 := by
        have := congrArg List.length hT.out
        rw [List.length_append] at this
        omega
      by_cases hbl : j = s.size ∨ ∃ h : j < s.size, (s[j].toNat : Int) ≤ 32
      · have hend : Hid (∀ h : j < s.size, (s[j].toNat : Int) ≤ 32) := by
          intro h
          rcases hbl with h' | ⟨h', h''⟩
          · omega
          · exact h''
        have hnext : Hid (toksFrom s j = toksRest s (j + 1)) := by
          unfold Hid toksRest
          by_cases h : j < s.size
          · rw [toks_blank s j h (hend.out h), if_pos (by omega)]
          · rw [toks_end s j (by omega), if_neg (by omega)]
        by_cases hfl : fr < j
        · have hw := hide (toks_word s fr j hfl hlt hall.out hend.out)
          have hT2 : Hid ((T ++ [(s.extract fr j, fr)]) ++ toksRest s (j + 1) = toksFrom s 0) := by
            unfold Hid
            rw [← hT.out]
            conv => rhs; unfold toksRest
            rw [if_pos (by omega), hw.out, hnext.out]
            simp
          have CE : Hid (∀ j' u, [Value.string (s.extract fr j), .int .i64 (fr : Int)][j']? = some u → (wr.alloc (.cells #[.string (s.extract fr j), .int .i64 (fr : Int)] 51)).cell? ((⟨wr.heap.size, 0, none⟩ : Addr).add j') = some u) := cell_two_new _ _ _ _
          have HB : Hid (∀ k, P k → k < (wr.alloc (.cells #[.string (s.extract fr j), .int .i64 (fr : Int)] 51)).heap.size) := fun k hp => by have := HP2.out k hp; simp; omega
          by_cases hjs : j = s.size
          · clear hbl hw hnext hT hall hend hje
            subst hjs
            go_wp2_with (at_builtin; refine wpList_append_mine _ rfl _ _ 44 rfl P HB.out 51 i0 _ 2 24 Tryd.underlying44 hi0 hz0 hz1 hz2 rfl (by decide) _ _ _ rfl (hrow.alloc _) ⟨wr.heap.size, 0, none⟩ 1 1 [.string (s.extract fr s.size), .int .i64 (fr : Int)] rfl rfl CE.out (by intro u hu; simp at hu; rcases hu with rfl | rfl <;> rfl) (by unfold maxLen; omega) (by omega) ?_; intro v' w1 hown' hgrow)
            go_roundw
            case rel => exact ⟨s.size + 1, s.size + 1, T ++ [(s.extract fr s.size, fr)], by omega, by omega, fun _ => rfl, by go_num, by go_num, by rw [tokCells_snoc]; simpa using hown', hT2, fun x _ _ h => by omega, (hk.alloc _).grown hgrow hrow.out⟩
            case measure => first | (simp [intOf]; done) | (simp [intOf]; omega)
          · have hj2 : j < s.size := by omega
            have hb2 := hend.out hj2
            clear hbl hw hnext hT hall hend hje hjs
            go_wp2_with (at_builtin; refine wpList_append_mine _ rfl _ _ 44 rfl P HB.out 51 i0 _ 2 24 Tryd.underlying44 hi0 hz0 hz1 hz2 rfl (by decide) _ _ _ rfl (hrow.alloc _) ⟨wr.heap.size, 0, none⟩ 1 1 [.string (s.extract fr j), .int .i64 (fr : Int)] rfl rfl CE.out (by intro u hu; simp at hu; rcases hu with rfl | rfl <;> rfl) (by unfold maxLen; omega) (by omega) ?_; intro v' w1 hown' hgrow)
            go_roundw
            case rel => exact ⟨j + 1, j + 1, T ++ [(s.extract fr j, fr)], by omega, by omega, fun _ => (by omega), by go_num, by go_num, by rw [tokCells_snoc]; simpa using hown', hT2, fun x _ _ h => by omega, (hk.alloc _).grown hgrow hrow.out⟩
            case measure => first | (simp [intOf]; done) | (simp [intOf]; omega)
        · have hfe : fr = j := by omega
          subst hfe
          have hT2 : Hid (T ++ toksRest s (fr + 1) = toksFrom s 0) := by
            unfold Hid
            rw [← hT.out, ← hnext.out]
            unfold toksRest
            rw [if_pos hlt]
          by_cases hjs : fr = s.size
          · clear hbl hnext hT hall hend hje
            subst hjs
            go_wp2
            go_roundw
            case rel => exact ⟨s.size + 1, s.size + 1, T, by omega, by omega, fun _ => rfl, by go_num, by go_num, hrow, hT2, fun x _ _ h => by omega, hk⟩
            case measure => first | (simp [intOf]; done) | (simp [intOf]; omega)
          · have hj2 : fr < s.size := by omega
            have hb2 := hend.out hj2
            clear hbl hnext hT hall hend hje hjs
            go_wp2
            go_roundw
            case rel => exact ⟨fr + 1, fr + 1, T, by omega, by omega, fun _ => (by omega), by go_num, by go_num, hrow, hT2, fun x _ _ h => by omega, hk⟩
            case measure => first | (simp [intOf]; done) | (simp [intOf]; omega)
      · have hj2 : j < s.size := by
          by_cases h : j = s.size
          · exact absurd (.inl h) hbl
          · omega
        have hb2 : 32 < (s[j].toNat : Int) := by
          by_cases h : (s[j].toNat : Int) ≤ 32
          · exact absurd (.inr ⟨hj2, h⟩) hbl
          · omega
        have hall2 : Hid (∀ x (h : x < s.size), fr ≤ x → x < j + 1 → 32 < (s[x].toNat : Int)) := by
          intro x hx h1 h2
          by_cases h : x = j
          · subst h; exact hb2
          · exact hall.out x hx h1 (by omega)
        have hq1 : ((j : Int) == (s.size : Int)) = false := by rw [beq_eq_false_iff_ne]; omega
        have hq2 : decide ((s[j].toNat : Int) ≤ 32) = false := by simp; omega
        clear hbl hje hall
        go_wp2
        go_roundw
        case rel => exact ⟨fr, j + 1, T, by omega, by omega, fun _ => (by omega), rfl, by go_num, hrow, hT, hall2.out, hk⟩
        case measure => first | (simp [intOf]; done) | (simp [intOf]; omega)
    · have hj1 : j = s.size + 1 := by omega
      have hf1 := hje hj1
      have hTe : Hid (T = toksFrom s 0) := by
        unfold Hid
        rw [← hT.out]
        unfold toksRest
        rw [if_neg (by omega)]
        simp
      have post : Hid (∀ e v, Row wr P 51 2 v T.length (tokCells T) → e = Ending.returned v → SplitPost P (toksFrom s 0) w e wr) := by
        intro e v hv he
        rw [← hTe.out]
        exact ⟨v, he, hv, HP2.out, hk⟩
      clear hT hall hje hTe
      subst hj1
      go_wp2
      go_ret
      exact post.out _ _ hrow rfl
end Go.Proofs.YtepckhdnlfajbaaDoor
