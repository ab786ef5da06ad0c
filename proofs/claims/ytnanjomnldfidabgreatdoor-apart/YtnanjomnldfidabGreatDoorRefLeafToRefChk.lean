/-
  Package graderref: digits, Value, isName, Split.
  Package graderref: Split.
  Package graderref: Shape.swap, Shape.place.
  Package graderref: Shape.place.
  Package graderref: ends, meaning.
  Package graderref: wrong, Check.
  Package graderref: Check.
-/
import Derived.Test.YtnanjomnldfidabGreatDoorRdWordsToReadProg
import Derived.Test.YtnanjomnldfidabGreatDoorLeaf
import Derived.Test.YtnanjomnldfidabGreatDoorListed
import Derived.Test.YtnanjomnldfidabGreatDoorRefPure
set_option linter.unusedSimpArgs false
set_option linter.unusedVariables false
set_option linter.unusedSectionVars false
namespace Go.Proofs.YtnanjomnldfidabGreatDoor
open Go.RowKit

set_option maxHeartbeats 400000 in
theorem refDigits_any (s : ByteArray) (w : World) (hs : s.size ≤ maxLen) :
    Calls Tryz.prog 35 #[.string s] w fun e w' => e = .returned (.bool (refDigs s.toList)) ∧ w' = w := by
  unfold maxLen at hs
  have hno : Hid (digs s.data.toList = false → refDigs s.toList = false) := by
    intro h; unfold refDigs; rw [ByteArray.toList_eq, h]; rfl
  have hyes : Hid (digs s.data.toList = true → refDigs s.toList = decide ((0 : Int) < s.size)) := by
    intro h; unfold refDigs; rw [ByteArray.toList_eq, h, Bool.true_and]
    cases hl : s.data.toList with
    | nil => have := len_data s; rw [hl] at this; simp at this; simp [← this]
    | cons a l => have := len_data s; rw [hl] at this; simp at this; simp [← this]
  go_enter Tryz.func35, Tryz.ntmps35
  go_wp2
  go_loop [3] (fun i => ∃ k : Nat, k ≤ s.size ∧ i = .int .i64 k ∧ Hid (digs (s.data.toList.drop k) = digs s.data.toList)) (fun i => s.size - (intOf i).toNat)
  case atStart => exact ⟨0, Nat.zero_le _, rfl, by simp [Hid]⟩
  case round =>
    obtain ⟨k, hk, rfl, hd⟩ := hrel
    by_cases hlt : k < s.size
    · by_cases h1 : 48 ≤ (s[k].toNat : Int)
      · by_cases h2 : (s[k].toNat : Int) ≤ 57
        · have hst : Hid _ := digs_yes s k hlt h1 h2
          go_wp2
          go_round
          case rel => exact ⟨k + 1, by omega, by go_num, hst.out.symm.trans hd.out⟩
          case measure => simp [intOf]; omega
        · have hst : Hid _ := digs_no s k hlt (.inr (by omega))
          go_wp2
          go_ret
          exact ⟨ret_bool (by rw [hno.out (by rw [← hd.out, hst.out])]), rfl⟩
      · have hst : Hid _ := digs_no s k hlt (.inl (by omega))
        go_wp2
        go_ret
        exact ⟨ret_bool (by rw [hno.out (by rw [← hd.out, hst.out])]), rfl⟩
    · have hy : Hid (refDigs s.toList = decide ((0 : Int) < s.size)) := hyes.out (by rw [← hd.out, drop_end s k hlt]; rfl)
      go_wp2
      go_ret
      exact ⟨ret_bool (by rw [hy.out, decide_eq_decide]; omega), rfl⟩

theorem refDigits_is (t : ByteArray) (w : World) (hs : t.size ≤ maxLen) (v : Bool) (h : refDigs t.toList = v) :
    Calls Tryz.prog 35 #[.string t] w fun e w' => e = .returned (.bool v) ∧ w' = w := by
  rw [← h]; exact refDigits_any t w hs

set_option maxRecDepth 100000 in
set_option maxHeartbeats 800000 in
theorem refValue_any (t : ByteArray) (w : World) (hs : t.size ≤ maxLen) :
    Calls Tryz.prog 32 #[.string t] w fun e w' => e = .returned (.int .i64 (refVal t.toList)) ∧ w' = w := by
  cases hg : refDigs t.toList with
  | false =>
    have hv : Hid (refVal t.toList = -1) := by unfold Hid refVal; rw [if_neg (by rw [hg]; decide)]
    have HG := hide hg
    clear hg
    go_enter Tryz.func32, Tryz.ntmps32
    go_wp2_with (go_at_call 35; refine (refDigits_is t _ hs false HG.out).mono ?_; rintro e w1 ⟨rfl, rfl⟩)
    go_ret
    exact ⟨ret_int hv.out.symm, rfl⟩
  | true =>
    have hdg : Hid (digs t.data.toList = true) := by unfold refDigs at hg; rw [ByteArray.toList_eq] at hg; simp at hg; exact hg.1
    by_cases h5 : 5 < t.size
    · have hv : Hid (refVal t.toList = -1) := by unfold Hid refVal numVal; rw [if_pos hg, toList_len, if_pos h5]
      have HG := hide hg
      unfold maxLen at hs
      clear hg
      go_enter Tryz.func32, Tryz.ntmps32
      go_wp2_with (go_at_call 35; refine (refDigits_is t _ hs true HG.out).mono ?_; rintro e w1 ⟨rfl, rfl⟩)
      go_ret
      exact ⟨ret_int hv.out.symm, rfl⟩
    · have hv : Hid (refVal t.toList = if 65535 < numTo t t.size then -1 else numTo t t.size) := by
        unfold Hid refVal numVal; rw [if_pos hg, toList_len, if_neg h5, numTo_all]; by_cases hv : 65535 < numOf t.toList <;> simp [hv]
      have HG := hide hg
      unfold maxLen at hs
      clear hg
      go_enter Tryz.func32, Tryz.ntmps32
      go_wp2_with (go_at_call 35; refine (refDigits_is t _ hs true HG.out).mono ?_; rintro e w1 ⟨rfl, rfl⟩)
      go_loop [4, 5] (fun n i => ∃ k : Nat, k ≤ t.size ∧ i = .int .i64 k ∧ n = .int .i64 (numTo t k)) (fun _ i => t.size - (intOf i).toNat)
      case atStart => exact ⟨0, by omega, rfl, rfl⟩
      case round =>
        obtain ⟨k, hk, rfl, rfl⟩ := hrel
        obtain ⟨b1, b2⟩ := numTo_small hdg.out k hk (by omega)
        by_cases hlt : k < t.size
        · obtain ⟨d1, d2⟩ := digs_at hdg.out k hlt
          have hst := hide (numTo_succ t k hlt)
          go_wp2
          go_round
          case rel => exact ⟨k + 1, by omega, by go_num, by rw [hst.out]⟩
          case measure => simp [intOf]; omega
        · have hks : k = t.size := by omega
          subst hks
          by_cases hb : 65536 ≤ numTo t t.size
          · go_wp2
            go_ret
            exact ⟨ret_int (by rw [hv.out, if_pos (by omega)]), rfl⟩
          · go_wp2
            go_ret
            exact ⟨ret_int (by rw [hv.out, if_neg (by omega)]), rfl⟩

set_option maxRecDepth 100000 in
set_option maxHeartbeats 800000 in
theorem refIsName_any (t : ByteArray) (w : World) (hs : t.size ≤ maxLen) (hF : WordsAt w 0 formsL) :
    Calls Tryz.prog 19 #[.string t] w fun e w' => e = .returned (.bool (refName t.toList)) ∧ w' = w := by
  have HF := hide hF
  clear hF
  cases hg : refDigs t.toList
  · have hv : Hid (refName t.toList = !isForm t.toList) := by unfold Hid refName; rw [hg]; rfl
    have HG := hide hg
    clear hg
    go_enter Tryz.func19, Tryz.ntmps19
    go_wp2_with (first | (go_at_call 35; refine (refDigits_is t _ hs false HG.out).mono ?_; rintro e w1 ⟨rfl, rfl⟩) | (go_at_call 30; refine (refForm_any t _ HF.out).mono ?_; rintro e w1 ⟨rfl, rfl⟩))
    go_ret
    exact ⟨ret_bool (by rw [hv.out]), rfl⟩
  · have hv : Hid (refName t.toList = false) := by unfold Hid refName; rw [hg]; rfl
    have HG := hide hg
    clear hg
    go_enter Tryz.func19, Tryz.ntmps19
    go_wp2_with (first | (go_at_call 35; refine (refDigits_is t _ hs true HG.out).mono ?_; rintro e w1 ⟨rfl, rfl⟩) | (go_at_call 30; refine (refForm_any t _ HF.out).mono ?_; rintro e w1 ⟨rfl, rfl⟩))
    go_ret
    exact ⟨ret_bool (by rw [hv.out]), rfl⟩
end Go.Proofs.YtnanjomnldfidabGreatDoor

set_option linter.unusedSimpArgs false
set_option linter.unusedVariables false
set_option linter.unusedSectionVars false
namespace Go.Proofs.YtnanjomnldfidabGreatDoor
open Go.RowKit

def tokCells (l : List (ByteArray × Nat)) : List Value := l.flatMap fun p => [.string p.1, .int .i64 (p.2 : Int)]
theorem tokCells_snoc (l : List (ByteArray × Nat)) (a : ByteArray) (b : Nat) : tokCells (l ++ [(a, b)]) = tokCells l ++ [.string a, .int .i64 (b : Int)] := by simp [tokCells]
theorem tokCells_length (l : List (ByteArray × Nat)) : (tokCells l).length = l.length * 2 := by
  induction l with
  | nil => rfl
  | cons a l ih => simp only [tokCells, List.flatMap_cons, List.length_append, List.length_cons, List.length_nil] at ih ⊢; omega
theorem tokCells_at (l : List (ByteArray × Nat)) : ∀ k (h : k < l.length), (tokCells l)[k * 2]? = some (.string l[k].1) ∧ (tokCells l)[k * 2 + 1]? = some (.int .i64 (l[k].2 : Int)) := by
  induction l with
  | nil => intro k h; simp at h
  | cons p l ih =>
    intro k h
    cases k with
    | zero => simp [tokCells]
    | succ k =>
      have := ih k (by simpa using h)
      simp only [tokCells, List.flatMap_cons, List.cons_append, List.nil_append] at this ⊢
      rw [show (k + 1) * 2 = (k * 2) + 1 + 1 by omega]
      simpa using this
theorem Tryz.infoTok : (Tryz.prog.info? 61).map (fun i => (i.zero, i.size, i.bytes)) = some (some (.agg #[.string ByteArray.empty, .int .i64 0]), 2, 24) := by kernel_rfl

theorem wordEnd_run (s : ByteArray) (i : Nat) (hi : i ≤ s.size) : ∀ n fr, fr + n = i → (∀ j (h : j < s.size), fr ≤ j → j < i → 32 < (s[j].toNat : Int)) → wordEnd s.data.toList fr = wordEnd s.data.toList i
  | 0, fr, h, _ => by rw [show fr = i by omega]
  | n + 1, fr, h, hall => by
    rw [wordEnd_yes s fr (by omega) (hall fr (by omega) (Nat.le_refl _) (by omega))]
    exact wordEnd_run s i hi n (fr + 1) (by omega) fun j hj h1 h2 => hall j hj (by omega) h2
/-- The word from fr to i. -/
theorem toks_word (s : ByteArray) (fr i : Nat) (hfi : fr < i) (hi : i ≤ s.size) (hall : ∀ j (h : j < s.size), fr ≤ j → j < i → 32 < (s[j].toNat : Int)) (hend : ∀ h : i < s.size, (s[i].toNat : Int) ≤ 32) :
    toksFrom s fr = (s.extract fr i, fr) :: toksFrom s i := by
  rw [toksFrom_eq s fr (by omega), blankEnd_no s fr (by omega) (hall fr (by omega) (Nat.le_refl _) hfi), wordEnd_run s i hi (i - fr) fr (by omega) hall]
  have : wordEnd s.data.toList i = i := by
    by_cases h : i < s.size
    · exact wordEnd_no s i h (hend h)
    · exact wordEnd_end s i h
  rw [this]
  unfold toksAt
  rw [if_pos hfi]
theorem toks_blank (s : ByteArray) (i : Nat) (hi : i < s.size) (hb : (s[i].toNat : Int) ≤ 32) : toksFrom s i = toksFrom s (i + 1) := by
  rw [toksFrom_eq s i (by omega), toksFrom_eq s (i + 1) (by omega), blankEnd_yes s i hi hb]
theorem toks_end (s : ByteArray) (k : Nat) (hk : k = s.size) : toksFrom s k = [] := by
  subst hk
  rw [toksFrom_eq s _ (Nat.le_refl _), blankEnd_end s _ (by omega), wordEnd_end s _ (by omega)]
  unfold toksAt
  rw [if_neg (by omega)]
/-- The words are fewer than the bytes. -/
theorem toksFuel_length (s : ByteArray) : ∀ f k, k ≤ s.size → (toksFuel f s k).length + k ≤ s.size
  | 0, k, hk => by simp [toksFuel]; exact hk
  | f + 1, k, hk => by
    unfold toksFuel
    have a1 := blankEnd_ge s.data.toList k
    have a2 := blankEnd_le s.data.toList k (by rw [len_data]; exact hk)
    have a3 := wordEnd_le s.data.toList (blankEnd s.data.toList k) a2
    rw [len_data] at a2 a3
    split
    · have := toksFuel_length s f _ a3
      simp only [List.length_cons]
      omega
    · simp; exact hk
theorem toks_length (s : ByteArray) : (toksFrom s 0).length ≤ s.size := by have := toksFuel_length s (s.size + 1) 0 (Nat.zero_le _); unfold toksFrom; omega
/-- What is left behind fr. -/
def toksRest (s : ByteArray) (fr : Nat) : List (ByteArray × Nat) := if fr ≤ s.size then toksFrom s fr else []

/-- What Split leaves. -/
def SplitPost (P : Nat → Prop) (T : List (ByteArray × Nat)) (w : World) (e : Ending) (w' : World) : Prop :=
  ∃ v, e = .returned v ∧ Row w' P 61 2 v T.length (tokCells T) ∧ (∀ k, P k → k < w'.heap.size) ∧ Kept P w w'

set_option maxRecDepth 100000 in
set_option maxHeartbeats 1600000 in
theorem split_any (s : ByteArray) (w : World) (P : Nat → Prop) (hP : ∀ k, P k → k < w.heap.size) (hs : s.size ≤ 100000) :
    Calls Tryz.prog 17 #[.string s] w (SplitPost P (toksFrom s 0) w) := by
  obtain ⟨i0, hi0, hz0, hz1, hz2⟩ := info_parts Tryz.infoTok
  have hP' := hide hP
  clear hP
  have hlen := toks_length s
  go_enter Tryz.func17, Tryz.ntmps17
  go_wp2
  go_loopw [3, 4, 5] (fun l f i wr => ∃ (fr j : Nat) (T : List (ByteArray × Nat)), fr ≤ j ∧ j ≤ s.size + 1 ∧ (j = s.size + 1 → fr = s.size + 1) ∧ f = .int .i64 fr ∧ i = .int .i64 j ∧ Row wr P 61 2 l T.length (tokCells T) ∧ Hid (T ++ toksRest s fr = toksFrom s 0) ∧
      Hid (∀ x (h : x < s.size), fr ≤ x → x < j → 32 < (s[x].toNat : Int)) ∧ Kept P w wr) (fun _ _ i _ => s.size + 1 - (intOf i).toNat)
  case atStart => exact ⟨0, 0, [], Nat.le_refl _, by omega, by omega, rfl, rfl, Row.nil _ _ _ _, by simp [Hid, toksRest], fun x _ _ h => by omega, Kept.refl _ _⟩
  case round =>
    obtain ⟨fr, j, T, hfj, hj, hje, rfl, rfl, hrow, hT, hall, hk⟩ := hrel
    have hP2 : ∀ k, P k → k < wr.heap.size := fun k hp => Nat.lt_of_lt_of_le (hP'.out k hp) hk.size
    have HP2 := hide hP2
    clear hP2
    by_cases hlt : j ≤ s.size
    · have hTl : T.length ≤ 100000 := by
        have := congrArg List.length hT.out
        rw [List.length_append] at this
        omega
      by_cases hbl : j = s.size ∨ ∃ h : j < s.size, (s[j].toNat : Int) ≤ 32
      · have hend : Hid (∀ h : j < s.size, (s[j].toNat : Int) ≤ 32) := by
          intro h
          rcases hbl with h' | ⟨h', h''⟩
          · omega
          · exact h''
        have hnext : Hid (toksFrom s j = toksRest s (j + 1)) := by
          unfold Hid toksRest
          by_cases h : j < s.size
          · rw [toks_blank s j h (hend.out h), if_pos (by omega)]
          · rw [toks_end s j (by omega), if_neg (by omega)]
        by_cases hfl : fr < j
        · have hw := hide (toks_word s fr j hfl hlt hall.out hend.out)
          have hT2 : Hid ((T ++ [(s.extract fr j, fr)]) ++ toksRest s (j + 1) = toksFrom s 0) := by
            unfold Hid
            rw [← hT.out]
            conv => rhs; unfold toksRest
            rw [if_pos (by omega), hw.out, hnext.out]
            simp
          have CE : Hid (∀ j' u, [Value.string (s.extract fr j), .int .i64 (fr : Int)][j']? = some u → (wr.alloc (.cells #[.string (s.extract fr j), .int .i64 (fr : Int)] 61)).cell? ((⟨wr.heap.size, 0, none⟩ : Addr).add j') = some u) := cell_two_new _ _ _ _
          have HB : Hid (∀ k, P k → k < (wr.alloc (.cells #[.string (s.extract fr j), .int .i64 (fr : Int)] 61)).heap.size) := fun k hp => by have := HP2.out k hp; simp; omega
          by_cases hjs : j = s.size
          · clear hbl hw hnext hT hall hend hje
            subst hjs
            go_wp2_with (at_builtin; refine wpList_append_mine _ rfl _ _ 54 rfl P HB.out 61 i0 _ 2 24 Tryz.underlying54 hi0 hz0 hz1 hz2 rfl (by decide) _ _ _ rfl (hrow.alloc _) ⟨wr.heap.size, 0, none⟩ 1 1 [.string (s.extract fr s.size), .int .i64 (fr : Int)] rfl rfl CE.out (by intro u hu; simp at hu; rcases hu with rfl | rfl <;> rfl) (by unfold maxLen; omega) (by omega) ?_; intro v' w1 hown' hgrow)
            go_roundw
            case rel => exact ⟨s.size + 1, s.size + 1, T ++ [(s.extract fr s.size, fr)], by omega, by omega, fun _ => rfl, by go_num, by go_num, by rw [tokCells_snoc]; simpa using hown', hT2, fun x _ _ h => by omega, (hk.alloc _).grown hgrow hrow.out⟩
            case measure => first | (simp [intOf]; done) | (simp [intOf]; omega)
          · have hj2 : j < s.size := by omega
            have hb2 := hend.out hj2
            clear hbl hw hnext hT hall hend hje hjs
            go_wp2_with (at_builtin; refine wpList_append_mine _ rfl _ _ 54 rfl P HB.out 61 i0 _ 2 24 Tryz.underlying54 hi0 hz0 hz1 hz2 rfl (by decide) _ _ _ rfl (hrow.alloc _) ⟨wr.heap.size, 0, none⟩ 1 1 [.string (s.extract fr j), .int .i64 (fr : Int)] rfl rfl CE.out (by intro u hu; simp at hu; rcases hu with rfl | rfl <;> rfl) (by unfold maxLen; omega) (by omega) ?_; intro v' w1 hown' hgrow)
            go_roundw
            case rel => exact ⟨j + 1, j + 1, T ++ [(s.extract fr j, fr)], by omega, by omega, fun _ => (by omega), by go_num, by go_num, by rw [tokCells_snoc]; simpa using hown', hT2, fun x _ _ h => by omega, (hk.alloc _).grown hgrow hrow.out⟩
            case measure => first | (simp [intOf]; done) | (simp [intOf]; omega)
        · have hfe : fr = j := by omega
          subst hfe
          have hT2 : Hid (T ++ toksRest s (fr + 1) = toksFrom s 0) := by
            unfold Hid
            rw [← hT.out, ← hnext.out]
            unfold toksRest
            rw [if_pos hlt]
          by_cases hjs : fr = s.size
          · clear hbl hnext hT hall hend hje
            subst hjs
            go_wp2
            go_roundw
            case rel => exact ⟨s.size + 1, s.size + 1, T, by omega, by omega, fun _ => rfl, by go_num, by go_num, hrow, hT2, fun x _ _ h => by omega, hk⟩
            case measure => first | (simp [intOf]; done) | (simp [intOf]; omega)
          · have hj2 : fr < s.size := by omega
            have hb2 := hend.out hj2
            clear hbl hnext hT hall hend hje hjs
            go_wp2
            go_roundw
            case rel => exact ⟨fr + 1, fr + 1, T, by omega, by omega, fun _ => (by omega), by go_num, by go_num, hrow, hT2, fun x _ _ h => by omega, hk⟩
            case measure => first | (simp [intOf]; done) | (simp [intOf]; omega)
      · have hj2 : j < s.size := by
          by_cases h : j = s.size
          · exact absurd (.inl h) hbl
          · omega
        have hb2 : 32 < (s[j].toNat : Int) := by
          by_cases h : (s[j].toNat : Int) ≤ 32
          · exact absurd (.inr ⟨hj2, h⟩) hbl
          · omega
        have hall2 : Hid (∀ x (h : x < s.size), fr ≤ x → x < j + 1 → 32 < (s[x].toNat : Int)) := by
          intro x hx h1 h2
          by_cases h : x = j
          · subst h; exact hb2
          · exact hall.out x hx h1 (by omega)
        have hq1 : ((j : Int) == (s.size : Int)) = false := by rw [beq_eq_false_iff_ne]; omega
        have hq2 : decide ((s[j].toNat : Int) ≤ 32) = false := by simp; omega
        clear hbl hje hall
        go_wp2
        go_roundw
        case rel => exact ⟨fr, j + 1, T, by omega, by omega, fun _ => (by omega), rfl, by go_num, hrow, hT, hall2.out, hk⟩
        case measure => first | (simp [intOf]; done) | (simp [intOf]; omega)
    · have hj1 : j = s.size + 1 := by omega
      have hf1 := hje hj1
      have hTe : Hid (T = toksFrom s 0) := by
        unfold Hid
        rw [← hT.out]
        unfold toksRest
        rw [if_neg (by omega)]
        simp
      have post : Hid (∀ e v, Row wr P 61 2 v T.length (tokCells T) → e = Ending.returned v → SplitPost P (toksFrom s 0) w e wr) := by
        intro e v hv he
        rw [← hTe.out]
        exact ⟨v, he, hv, HP2.out, hk⟩
      clear hT hall hje hTe
      subst hj1
      go_wp2
      go_ret
      exact post.out _ _ hrow rfl
end Go.Proofs.YtnanjomnldfidabGreatDoor

set_option linter.unusedSimpArgs false
set_option linter.unusedVariables false
set_option linter.unusedSectionVars false
namespace Go.Proofs.YtnanjomnldfidabGreatDoor
open Go.RowKit

/-- A shape in memory. -/
def ShapeIs (w : World) (b : Nat) (O : List UInt8) (I : Bool) : Prop := ∃ o : ByteArray, o.toList = O ∧ w.heap[b]? = some (.cells #[.string o, .bool I] 58 (0, 0))

theorem shape_set {w : World} {P : Nat → Prop} {b : Nat} {o o' : ByteArray} {I : Bool} (h : w.heap[b]? = some (.cells #[.string o, .bool I] 58 (0, 0))) (hb : ¬ P b) {O : List UInt8} (ho : o'.toList = O) :
    ShapeIs (w.setCell ⟨b, 0, none⟩ (.string o')) b O I ∧ Kept P w (w.setCell ⟨b, 0, none⟩ (.string o')) :=
  ⟨⟨o', ho, by rw [heap_setCell_same _ _ _ _ _ _ h]; rfl⟩, (Kept.refl P w).setCell hb _⟩
theorem shape_in {w : World} {P : Nat → Prop} {b : Nat} {o : ByteArray} {I : Bool} (h : w.heap[b]? = some (.cells #[.string o, .bool I] 58 (0, 0))) (hb : ¬ P b) (J : Bool) {O : List UInt8} (ho : o.toList = O) :
    ShapeIs (w.setCell ⟨b, 1, none⟩ (.bool J)) b O J ∧ Kept P w (w.setCell ⟨b, 1, none⟩ (.bool J)) :=
  ⟨⟨o, ho, by rw [heap_setCell_same _ _ _ _ _ _ h]; rfl⟩, (Kept.refl P w).setCell hb _⟩

set_option maxRecDepth 100000 in
set_option maxHeartbeats 400000 in
theorem swap_yes (w : World) (P : Nat → Prop) (b : Nat) (l : List UInt8) (a : UInt8) (I : Bool) (t : ByteArray) (hS : ShapeIs w b (l ++ [a]) I) (hb : ¬ P b) (hl : l.length ≤ 100000) (ht : t.size ≤ 100) :
    Calls Tryz.prog 48 #[.pointer (some ⟨b, 0, none⟩), .int .u8 (a.toNat : Int), .string t] w fun e w' =>
      e = .returned (.bool true) ∧ ShapeIs w' b (l ++ t.toList) I ∧ Kept P w w' := by
  obtain ⟨o, ho, hbox⟩ := hS
  have hlt := lt_of_block hbox
  have c0 : w.cell? ⟨b, 0, none⟩ = some (.string o) := cell_of_block hbox 0 _ rfl
  have f0 : w.frozen? ⟨b, 0, none⟩ = false := frozen_of_row _ _ _ _ _ hbox
  have hsz : o.size = l.length + 1 := by rw [← toList_len, ho]; simp
  have hlast : ∀ h : l.length < o.size, o[l.length] = a := by
    intro h
    rw [ByteArray.toList_eq] at ho
    have h2 : l.length < o.data.toList.length := by rw [len_data]; exact h
    have : o.data.toList[l.length] = a := by simp [ho]
    exact this
  obtain ⟨r1, r2⟩ := shape_set (P := P) (o' := o.extract 0 l.length ++ t) (O := l ++ t.toList) hbox hb (by rw [toList_append, toList_extract, ho]; simp)
  have HO := hide ho
  have HX := hide hbox
  clear ho hbox
  go_enter Tryz.func48, Tryz.ntmps48
  go_wp2
  go_ret
  exact ⟨rfl, r1, r2⟩

set_option maxRecDepth 100000 in
set_option maxHeartbeats 400000 in
theorem swap_nil (w : World) (P : Nat → Prop) (b : Nat) (a : UInt8) (I : Bool) (t : ByteArray) (hS : ShapeIs w b [] I) :
    Calls Tryz.prog 48 #[.pointer (some ⟨b, 0, none⟩), .int .u8 (a.toNat : Int), .string t] w fun e w' =>
      e = .returned (.bool false) ∧ w' = w := by
  obtain ⟨o, ho, hbox⟩ := hS
  have hlt := lt_of_block hbox
  have c0 : w.cell? ⟨b, 0, none⟩ = some (.string o) := cell_of_block hbox 0 _ rfl
  have hsz : o.size = 0 := by rw [← toList_len, ho]; simp
  have HO := hide ho
  have HX := hide hbox
  clear ho hbox
  go_enter Tryz.func48, Tryz.ntmps48
  go_wp2
  go_ret
  exact ⟨rfl, rfl⟩

set_option maxRecDepth 100000 in
set_option maxHeartbeats 400000 in
theorem swap_no (w : World) (P : Nat → Prop) (b : Nat) (l : List UInt8) (a c : UInt8) (hac : c ≠ a) (I : Bool) (t : ByteArray) (hS : ShapeIs w b (l ++ [c]) I) (hl : l.length ≤ 100000) :
    Calls Tryz.prog 48 #[.pointer (some ⟨b, 0, none⟩), .int .u8 (a.toNat : Int), .string t] w fun e w' =>
      e = .returned (.bool false) ∧ w' = w := by
  obtain ⟨o, ho, hbox⟩ := hS
  have hlt := lt_of_block hbox
  have c0 : w.cell? ⟨b, 0, none⟩ = some (.string o) := cell_of_block hbox 0 _ rfl
  have hsz : o.size = l.length + 1 := by rw [← toList_len, ho]; simp
  have hlast : ∀ h : l.length < o.size, o[l.length] = c := by
    intro h
    rw [ByteArray.toList_eq] at ho
    have h2 : l.length < o.data.toList.length := by rw [len_data]; exact h
    have : o.data.toList[l.length] = c := by simp [ho]
    exact this
  have hne : ((c.toNat : Int) != (a.toNat : Int)) = true := by
    rw [bne_iff_ne]
    intro h
    exact hac (UInt8.toNat_inj.1 (by omega))
  have HO := hide ho
  have HX := hide hbox
  clear ho hbox hac
  go_enter Tryz.func48, Tryz.ntmps48
  go_wp2
  go_ret
  exact ⟨rfl, rfl⟩

/-- What swap leaves. -/
def SwapPost (P : Nat → Prop) (b : Nat) (O : List UInt8) (r : Option (List UInt8)) (I : Bool) (w : World) (e : Ending) (w' : World) : Prop :=
  e = .returned (.bool r.isSome) ∧ ShapeIs w' b (r.getD O) I ∧ Kept P w w'
theorem swap_any (w : World) (P : Nat → Prop) (b : Nat) (O : List UInt8) (a : UInt8) (I : Bool) (t : ByteArray) (hS : ShapeIs w b O I) (hb : ¬ P b) (hl : O.length ≤ 100000) (ht : t.size ≤ 100) :
    Calls Tryz.prog 48 #[.pointer (some ⟨b, 0, none⟩), .int .u8 (a.toNat : Int), .string t] w (SwapPost P b O (swapM O a t.toList) I w) := by
  rcases List.eq_nil_or_concat O with h | ⟨l, c, h⟩
  · subst h
    refine (swap_nil w P b a I t hS).mono ?_
    rintro e w' ⟨rfl, rfl⟩
    exact ⟨rfl, hS, Kept.refl _ _⟩
  · have h : O = l ++ [c] := by simpa using h
    subst h
    by_cases hac : c = a
    · subst hac
      refine (swap_yes w P b l c I t hS hb (by simp at hl; omega) ht).mono ?_
      rintro e w' ⟨rfl, h1, h2⟩
      have : swapM (l ++ [c]) c t.toList = some (l ++ t.toList) := by unfold swapM; rw [if_pos (by simp)]; simp
      rw [this]
      exact ⟨rfl, h1, h2⟩
    · refine (swap_no w P b l a c hac I t hS (by simp at hl; omega)).mono ?_
      rintro e w' ⟨rfl, rfl⟩
      have : swapM (l ++ [c]) a t.toList = none := by unfold swapM; rw [if_neg (by simpa using hac)]
      rw [this]
      exact ⟨rfl, hS, Kept.refl _ _⟩
end Go.Proofs.YtnanjomnldfidabGreatDoor

set_option linter.unusedSimpArgs false
set_option linter.unusedVariables false
set_option linter.unusedSectionVars false
namespace Go.Proofs.YtnanjomnldfidabGreatDoor
open Go.RowKit

/-- What place leaves. -/
def PlacePost (P : Nat → Prop) (b : Nat) (r : Bool × List UInt8 × Bool) (w : World) (e : Ending) (w' : World) : Prop :=
  e = .returned (.bool r.1) ∧ ShapeIs w' b r.2.1 r.2.2 ∧ Kept P w w'

section
variable {w : World} {P : Nat → Prop} {b : Nat} {O : List UInt8} {I : Bool}

set_option maxRecDepth 100000 in
set_option maxHeartbeats 800000 in
theorem place_up (hS : ShapeIs w b O I) (hb : ¬ P b) (hl : O.length ≤ 90000) (t : ByteArray) (c : UInt8) (ht : (t = ⟨#[105, 102]⟩ ∧ c = 105) ∨ (t = ⟨#[98, 101, 103, 105, 110]⟩ ∧ c = 98)) :
    Calls Tryz.prog 31 #[.pointer (some ⟨b, 0, none⟩), .string t] w (PlacePost P b (true, O ++ [c], I) w) := by
  obtain ⟨o, ho, hbox⟩ := hS
  have hlt := lt_of_block hbox
  have c0 : w.cell? ⟨b, 0, none⟩ = some (.string o) := cell_of_block hbox 0 _ rfl
  have f0 : w.frozen? ⟨b, 0, none⟩ = false := frozen_of_row _ _ _ _ _ hbox
  have hsz : o.size ≤ 90000 := by rw [← toList_len, ho]; exact hl
  obtain ⟨r1, r2⟩ := shape_set (P := P) (o' := o ++ ⟨#[c]⟩) (O := O ++ [c]) hbox hb (by rw [toList_append, ho, toList_mk [c]])
  have HO := hide ho
  have HX := hide hbox
  have post : Hid (∀ e, e = Ending.returned (.bool true) → PlacePost P b (true, O ++ [c], I) w e (w.setCell ⟨b, 0, none⟩ (.string (o ++ ⟨#[c]⟩)))) := fun e he => ⟨he, r1, r2⟩
  clear ho hbox r1 r2
  rcases ht with ⟨rfl, rfl⟩ | ⟨rfl, rfl⟩
  all_goals
    go_enter Tryz.func31, Tryz.ntmps31
    go_wp2
    go_ret
    exact post.out _ rfl

set_option maxRecDepth 100000 in
set_option maxHeartbeats 800000 in
theorem place_swap (hS : ShapeIs w b O I) (hb : ¬ P b) (hl : O.length ≤ 90000) (t : ByteArray) (a : UInt8) (u : ByteArray)
    (ht : (t = ⟨#[101, 108, 115, 101]⟩ ∧ a = 105 ∧ u = ⟨#[101]⟩) ∨ (t = ⟨#[117, 110, 116, 105, 108]⟩ ∧ a = 98 ∧ u = ⟨#[]⟩) ∨ (t = ⟨#[119, 104, 105, 108, 101]⟩ ∧ a = 98 ∧ u = ⟨#[119]⟩) ∨ (t = ⟨#[114, 101, 112, 101, 97, 116]⟩ ∧ a = 119 ∧ u = ⟨#[]⟩)) :
    Calls Tryz.prog 31 #[.pointer (some ⟨b, 0, none⟩), .string t] w (PlacePost P b (swapR O I (swapM O a u.toList)) w) := by
  have hu : u.size ≤ 100 := by rcases ht with ⟨_, _, rfl⟩ | ⟨_, _, rfl⟩ | ⟨_, _, rfl⟩ | ⟨_, _, rfl⟩ <;> decide
  have hc := hide (swap_any w P b O a I u hS hb (by omega) hu)
  clear hS hu
  obtain ⟨r, hr⟩ : ∃ r, r = swapM O a u.toList := ⟨_, rfl⟩
  rw [← hr] at hc ⊢
  clear hr
  rcases ht with ⟨rfl, rfl, rfl⟩ | ⟨rfl, rfl, rfl⟩ | ⟨rfl, rfl, rfl⟩ | ⟨rfl, rfl, rfl⟩
  all_goals
    go_enter Tryz.func31, Tryz.ntmps31
    go_wp2_with fail
    refine (unhide hc).mono ?_
    rintro e w' ⟨rfl, h1, h2⟩
    have post : Hid (PlacePost P b (swapR O I r) w (.returned (.bool r.isSome)) w') := ⟨rfl, h1, h2⟩
    clear h1 h2
    go_wp2
    go_ret
    exact post.out

set_option maxRecDepth 100000 in
set_option maxHeartbeats 800000 in
theorem place_then (hS : ShapeIs w b O I) (hb : ¬ P b) (hl : O.length ≤ 90000) :
    Calls Tryz.prog 31 #[.pointer (some ⟨b, 0, none⟩), .string ⟨#[116, 104, 101, 110]⟩] w (PlacePost P b (if (swapM O 105 []).isSome = true then swapR O I (swapM O 105 []) else swapR O I (swapM O 101 [])) w) := by
  have hc := hide (swap_any w P b O 105 I ⟨#[]⟩ hS hb (by omega) (by decide))
  rw [toList_mk []] at hc
  by_cases hs : (swapM O 105 []).isSome = true
  · rw [if_pos hs]
    obtain ⟨r, hr⟩ : ∃ r, r = swapM O 105 [] := ⟨_, rfl⟩
    rw [← hr] at hc hs ⊢
    clear hr hS
    go_enter Tryz.func31, Tryz.ntmps31
    go_wp2_with fail
    refine (unhide hc).mono ?_
    rintro e w' ⟨rfl, h1, h2⟩
    have post : Hid (PlacePost P b (swapR O I r) w (.returned (.bool true)) w') := ⟨by rw [← hs]; rfl, h1, h2⟩
    clear h1 h2
    go_wp2
    go_ret
    exact post.out
  · rw [if_neg hs]
    have hs' : (swapM O 105 []).isSome = false := by simpa using hs
    have hn : Hid ((swapM O 105 []).getD O = O) := by
      unfold Hid
      cases h : swapM O 105 [] with
      | none => rfl
      | some x => rw [h] at hs; exact absurd rfl hs
    clear hs
    obtain ⟨r, hr⟩ : ∃ r, r = swapM O 105 [] := ⟨_, rfl⟩
    rw [← hr] at hc hs' hn
    clear hr hS
    go_enter Tryz.func31, Tryz.ntmps31
    go_wp2_with fail
    refine (unhide hc).mono ?_
    rintro e w' ⟨rfl, h1, h2⟩
    rw [hn.out] at h1
    have hc2 := hide (swap_any w' P b O 101 I ⟨#[]⟩ h1 hb (by omega) (by decide))
    rw [toList_mk []] at hc2
    clear h1 hc hn
    go_wp2_with fail
    refine (unhide hc2).mono ?_
    rintro e w2 ⟨rfl, h3, h4⟩
    have post : Hid (PlacePost P b (swapR O I (swapM O 101 [])) w (.returned (.bool (swapM O 101 []).isSome)) w2) := ⟨rfl, h3, h2.trans h4⟩
    clear h3 h4 h2
    go_wp2
    go_ret
    exact post.out

set_option maxRecDepth 100000 in
set_option maxHeartbeats 800000 in
theorem place_in (hS : ShapeIs w b O I) (t : ByteArray) (ht : t = ⟨#[101, 120, 105, 116]⟩ ∨ t = ⟨#[114, 101, 99, 117, 114, 115, 101]⟩) :
    Calls Tryz.prog 31 #[.pointer (some ⟨b, 0, none⟩), .string t] w (PlacePost P b (I, O, I) w) := by
  have post : Hid (PlacePost P b (I, O, I) w (.returned (.bool I)) w) := ⟨rfl, hS, Kept.refl _ _⟩
  obtain ⟨o, ho, hbox⟩ := hS
  have hlt := lt_of_block hbox
  have c1 : w.cell? ⟨b, 1, none⟩ = some (.bool I) := cell_of_block hbox 1 _ rfl
  clear ho hbox
  rcases ht with rfl | rfl
  all_goals
    go_enter Tryz.func31, Tryz.ntmps31
    go_wp2
    go_ret
    exact post.out

set_option maxRecDepth 100000 in
set_option maxHeartbeats 800000 in
theorem place_end (hS : ShapeIs w b O I) (hb : ¬ P b) :
    Calls Tryz.prog 31 #[.pointer (some ⟨b, 0, none⟩), .string ⟨#[59]⟩] w (PlacePost P b (I && O.isEmpty, O, false) w) := by
  obtain ⟨o, ho, hbox⟩ := hS
  have hlt := lt_of_block hbox
  have c0 : w.cell? ⟨b, 0, none⟩ = some (.string o) := cell_of_block hbox 0 _ rfl
  have c1 : w.cell? ⟨b, 1, none⟩ = some (.bool I) := cell_of_block hbox 1 _ rfl
  have f1 : w.frozen? ⟨b, 1, none⟩ = false := frozen_of_row _ _ _ _ _ hbox
  obtain ⟨r1, r2⟩ := shape_in (P := P) hbox hb false ho
  have post : Hid (∀ v, v = (I && O.isEmpty) → PlacePost P b (I && O.isEmpty, O, false) w (.returned (.bool v)) (w.setCell ⟨b, 1, none⟩ (.bool false))) := fun v hv => ⟨by rw [hv], r1, r2⟩
  have he : Hid (o.toList.isEmpty = O.isEmpty) := by rw [ho]; rfl
  clear ho hbox r1 r2
  cases I
  · go_enter Tryz.func31, Tryz.ntmps31
    go_wp2
    go_ret
    exact post.out _ rfl
  · cases hem : o.toList.isEmpty
    all_goals
      rw [hem] at he
      go_enter Tryz.func31, Tryz.ntmps31
      go_wp2
      go_ret
      exact post.out _ (by rw [← he.out]; rfl)

set_option maxRecDepth 100000 in
set_option maxHeartbeats 800000 in
theorem place_colon (hS : ShapeIs w b O I) (hb : ¬ P b) :
    Calls Tryz.prog 31 #[.pointer (some ⟨b, 0, none⟩), .string ⟨#[58]⟩] w (PlacePost P b (!I && O.isEmpty, O, true) w) := by
  obtain ⟨o, ho, hbox⟩ := hS
  have hlt := lt_of_block hbox
  have c0 : w.cell? ⟨b, 0, none⟩ = some (.string o) := cell_of_block hbox 0 _ rfl
  have c1 : w.cell? ⟨b, 1, none⟩ = some (.bool I) := cell_of_block hbox 1 _ rfl
  have f1 : w.frozen? ⟨b, 1, none⟩ = false := frozen_of_row _ _ _ _ _ hbox
  obtain ⟨r1, r2⟩ := shape_in (P := P) hbox hb true ho
  have post : Hid (∀ v, v = (!I && O.isEmpty) → PlacePost P b (!I && O.isEmpty, O, true) w (.returned (.bool v)) (w.setCell ⟨b, 1, none⟩ (.bool true))) := fun v hv => ⟨by rw [hv], r1, r2⟩
  have he : Hid (o.toList.isEmpty = O.isEmpty) := by rw [ho]; rfl
  clear ho hbox r1 r2
  cases I
  · cases hem : o.toList.isEmpty
    all_goals
      rw [hem] at he
      go_enter Tryz.func31, Tryz.ntmps31
      go_wp2
      go_ret
      exact post.out _ (by rw [← he.out]; rfl)
  · go_enter Tryz.func31, Tryz.ntmps31
    go_wp2
    go_ret
    exact post.out _ rfl

theorem place_any (hS : ShapeIs w b O I) (hb : ¬ P b) (hl : O.length ≤ 90000) (t : ByteArray) (ht : t.toList ∈ formsL) :
    Calls Tryz.prog 31 #[.pointer (some ⟨b, 0, none⟩), .string t] w (PlacePost P b (placeM O I t.toList) w) := by
  simp only [formsL, List.mem_cons, List.not_mem_nil, or_false] at ht
  rcases ht with h | h | h | h | h | h | h | h | h | h | h <;> (rw [h]; have e := eq_mk h; subst e; clear h)
  · exact place_up hS hb hl _ 105 (.inl ⟨rfl, rfl⟩)
  · exact (place_swap hS hb hl _ 105 ⟨#[101]⟩ (.inl ⟨rfl, rfl, rfl⟩)).mono fun e w' h => by rw [toList_mk [101]] at h; exact h
  · exact place_then hS hb hl
  · exact place_up hS hb hl _ 98 (.inr ⟨rfl, rfl⟩)
  · exact (place_swap hS hb hl _ 98 ⟨#[]⟩ (.inr (.inl ⟨rfl, rfl, rfl⟩))).mono fun e w' h => by rw [toList_mk []] at h; exact h
  · exact (place_swap hS hb hl _ 98 ⟨#[119]⟩ (.inr (.inr (.inl ⟨rfl, rfl, rfl⟩)))).mono fun e w' h => by rw [toList_mk [119]] at h; exact h
  · exact (place_swap hS hb hl _ 119 ⟨#[]⟩ (.inr (.inr (.inr ⟨rfl, rfl, rfl⟩)))).mono fun e w' h => by rw [toList_mk []] at h; exact h
  · exact place_in hS _ (.inl rfl)
  · exact place_in hS _ (.inr rfl)
  · exact place_colon hS hb
  · exact place_end hS hb
end
end Go.Proofs.YtnanjomnldfidabGreatDoor

set_option linter.unusedSimpArgs false
set_option linter.unusedVariables false
set_option linter.unusedSectionVars false
namespace Go.Proofs.YtnanjomnldfidabGreatDoor
open Go.RowKit

/-- A list of words lies in memory. -/
def ToksIs (w : World) (v : Value) (T : Words) : Prop := w.ownsRow 0 61 2 v T.length (tokCells T)
theorem ToksIs.cells {w : World} {v : Value} {T : Words} (h : ToksIs w v T) {k : Nat} (hk : k < T.length) : ∃ f cp, v = .slice (some ⟨f, 0, none⟩) T.length cp ∧ f < w.heap.size ∧
    w.cell? ⟨f, k * 2, none⟩ = some (.string (T.getD k (ByteArray.empty, 0)).1) ∧ w.cell? ⟨f, k * 2 + 1, none⟩ = some (.int .i64 ((T.getD k (ByteArray.empty, 0)).2 : Int)) := by
  obtain ⟨f, cp, rfl⟩ := own_form h (by omega)
  obtain ⟨h0, h1⟩ := tokCells_at T k hk
  have e : T.getD k (ByteArray.empty, 0) = T[k] := by simp [List.getD, hk]
  rw [e]
  exact ⟨f, cp, rfl, (World.ownsRow.lt h f rfl).2, by rw [World.ownsRow.cellAt h _ (by omega)]; exact h0, by rw [World.ownsRow.cellAt h _ (by omega)]; exact h1⟩
theorem ToksIs.form {w : World} {v : Value} {T : Words} (h : ToksIs w v T) : ∃ a cp, v = .slice a T.length cp := own_slice h

set_option maxRecDepth 100000 in
set_option maxHeartbeats 800000 in
theorem ends_any (w : World) (v : Value) (T : Words) (hT : ToksIs w v T) (p : Nat) (hp : p ≤ T.length) (hl : T.length ≤ 100000) :
    Calls Tryz.prog 49 #[v, .int .i64 p] w fun e w' => e = .returned (.int .i64 (endsM T p : Nat)) ∧ w' = w := by
  obtain ⟨a, cp, hv⟩ := hT.form
  have HT := hide hT
  clear hT
  subst hv
  go_enter Tryz.func49, Tryz.ntmps49
  go_wp2
  go_loop [1] (fun i => ∃ k : Nat, k ≤ T.length ∧ i = .int .i64 k ∧ Hid (endsM T k = endsM T p)) (fun i => T.length - (intOf i).toNat)
  case atStart => exact ⟨p, hp, rfl, rfl⟩
  case round =>
    obtain ⟨k, hk, rfl, hd⟩ := hrel
    by_cases hlt : k < T.length
    · obtain ⟨f, cp', hv, hf, e0, _⟩ := (unhide HT).cells hlt
      simp only [Value.slice.injEq, true_and] at hv
      obtain ⟨rfl, rfl⟩ := hv
      obtain ⟨u, hu⟩ : ∃ u, u = (T.getD k (ByteArray.empty, 0)).1 := ⟨_, rfl⟩
      rw [← hu] at e0
      have HU : Hid (wAt T k = u.toList) := by rw [hu]; rfl
      clear hu
      cases hb : (u.toList == [59])
      · have hn := hide (endsM_no T k hlt (by rw [HU.out]; exact hb))
        go_wp2
        go_round
        case rel => exact ⟨k + 1, by omega, by go_num, hn.out.symm.trans hd.out⟩
        case measure => simp [intOf]; omega
      · have hn := hide (endsM_yes T k hlt (by rw [HU.out]; exact hb))
        go_wp2
        go_ret
        exact ⟨ret_int (by rw [← hd.out, hn.out]), rfl⟩
    · have hn := hide (endsM_end T k (by omega))
      go_wp2
      go_ret
      exact ⟨ret_int (by rw [← hd.out, hn.out]), rfl⟩

set_option maxRecDepth 100000 in
set_option maxHeartbeats 800000 in
theorem meaning_any (w : World) (v : Value) (T : Words) (hT : ToksIs w v T) (p : Nat) (hp : p ≤ T.length) (hl : T.length ≤ 100000) (s : ByteArray) :
    Calls Tryz.prog 34 #[v, .int .i64 p, .string s] w fun e w' => e = .returned (.int .i64 (meaningM T p s.toList)) ∧ w' = w := by
  obtain ⟨a, cp, hv⟩ := hT.form
  have HT := hide hT
  clear hT
  subst hv
  go_enter Tryz.func34, Tryz.ntmps34
  go_wp2
  go_loop [7, 8] (fun n i => ∃ k : Nat, k ≤ p - 1 ∧ i = .int .i64 k ∧ n = .int .i64 (meanTo T p s.toList k)) (fun _ i => p - (intOf i).toNat)
  case atStart => exact ⟨0, Nat.zero_le _, rfl, rfl⟩
  case round =>
    obtain ⟨k, hk, rfl, rfl⟩ := hrel
    obtain ⟨b1, b2⟩ := meanTo_bd T p s.toList k
    by_cases hlt : k + 1 < p
    · obtain ⟨f, cp', hv, hf, e0, _⟩ := (unhide HT).cells (k := k) (by omega)
      simp only [Value.slice.injEq, true_and] at hv
      obtain ⟨rfl, rfl⟩ := hv
      obtain ⟨f', cp'', hv, _, e1, _⟩ := (unhide HT).cells (k := k + 1) (by omega)
      simp only [Value.slice.injEq, true_and, Option.some.injEq, Addr.mk.injEq, and_true] at hv
      obtain ⟨rfl, rfl⟩ := hv
      obtain ⟨u, hu⟩ : ∃ u, u = (T.getD k (ByteArray.empty, 0)).1 := ⟨_, rfl⟩
      obtain ⟨u2, hu2⟩ : ∃ u, u = (T.getD (k + 1) (ByteArray.empty, 0)).1 := ⟨_, rfl⟩
      rw [← hu] at e0
      rw [← hu2] at e1
      have HS : Hid (meanTo T p s.toList (k + 1) = if (u.toList == [58] && u2.toList == s.toList && decide (endsM T k < p)) = true then (k : Int) + 2 else meanTo T p s.toList k) := by rw [hu, hu2]; rfl
      clear hu hu2
      obtain ⟨n1, n2⟩ := endsM_le T k (by omega)
      have hends := hide (ends_any w _ T (unhide HT) k (by omega) hl)
      cases hb : (u.toList == [58])
      · have hn : Hid (meanTo T p s.toList (k + 1) = meanTo T p s.toList k) := by unfold Hid; rw [HS.out, hb]; rfl
        go_wp2
        go_round
        case rel => exact ⟨k + 1, by omega, by go_num, by rw [hn.out]⟩
        case measure => simp [intOf]; omega
      · cases hb2 : (u2.toList == s.toList)
        · have hn : Hid (meanTo T p s.toList (k + 1) = meanTo T p s.toList k) := by unfold Hid; rw [HS.out, hb, hb2]; rfl
          go_wp2
          go_round
          case rel => exact ⟨k + 1, by omega, by go_num, by rw [hn.out]⟩
          case measure => simp [intOf]; omega
        · by_cases hle : endsM T k < p
          · have hn : Hid (meanTo T p s.toList (k + 1) = (k : Int) + 2) := by unfold Hid; rw [HS.out, hb, hb2, decide_eq_true hle]; rfl
            go_wp2_with (go_at_call 49; refine (unhide hends).mono ?_; rintro e w1 ⟨rfl, rfl⟩)
            go_round
            case rel => exact ⟨k + 1, by omega, by go_num, by rw [hn.out]⟩
            case measure => simp [intOf]; omega
          · have hn : Hid (meanTo T p s.toList (k + 1) = meanTo T p s.toList k) := by unfold Hid; rw [HS.out, hb, hb2, decide_eq_false hle]; rfl
            go_wp2_with (go_at_call 49; refine (unhide hends).mono ?_; rintro e w1 ⟨rfl, rfl⟩)
            go_round
            case rel => exact ⟨k + 1, by omega, by go_num, by rw [hn.out]⟩
            case measure => simp [intOf]; omega
    · have hk1 : Hid (k = p - 1) := by unfold Hid; omega
      go_wp2
      go_ret
      exact ⟨ret_int (by unfold meaningM; rw [← hk1.out]), rfl⟩
end Go.Proofs.YtnanjomnldfidabGreatDoor

set_option linter.unusedSimpArgs false
set_option linter.unusedVariables false
set_option linter.unusedSectionVars false
namespace Go.Proofs.YtnanjomnldfidabGreatDoor
open Go.RowKit

/-- What wrong leaves. -/
def WrongPost (P : Nat → Prop) (b : Nat) (r : Int × List UInt8 × Bool) (w : World) (e : Ending) (w' : World) : Prop :=
  e = .returned (.int .i64 r.1) ∧ ShapeIs w' b r.2.1 r.2.2 ∧ Kept P w w'

section
variable {w : World} {P : Nat → Prop} {b : Nat} {O : List UInt8} {I : Bool}

set_option maxRecDepth 100000 in
set_option maxHeartbeats 800000 in
theorem wrong_form (hS : ShapeIs w b O I) (hb : ¬ P b) (hl : O.length ≤ 90000) (v : Value) (T : Words) (hT : ToksIs w v T) (hTl : T.length ≤ 100000) (p : Nat) (hp : p < T.length) (hF : WordsAt w 0 formsL) (hf : isForm (wAt T p) = true) :
    Calls Tryz.prog 18 #[v, .int .i64 p, .pointer (some ⟨b, 0, none⟩)] w (WrongPost P b (wrongM T p O I) w) := by
  obtain ⟨f, cp, rfl, hflt, e0, _⟩ := hT.cells hp
  obtain ⟨u, hu⟩ : ∃ u, u = (T.getD p (ByteArray.empty, 0)).1 := ⟨_, rfl⟩
  rw [← hu] at e0
  have HU : wAt T p = u.toList := by rw [hu]; rfl
  have hw : wrongM T p O I = (if (placeM O I u.toList).1 = true then 0 else 3, (placeM O I u.toList).2) := by unfold wrongM; rw [if_pos hf, HU]
  rw [hw]
  rw [HU] at hf
  clear hu HU hw hT
  have hc := hide (place_any (P := P) hS hb hl u ((isForm_iff _).1 hf))
  obtain ⟨r, hr⟩ : ∃ r, r = placeM O I u.toList := ⟨_, rfl⟩
  rw [← hr] at hc ⊢
  have HF := hide hF
  clear hr hS hF
  cases hr1 : r.1
  · have post : Hid (∀ w', ShapeIs w' b r.2.1 r.2.2 → Kept P w w' → WrongPost P b (if false = true then 0 else 3, r.2) w (.returned (.int .i64 3)) w') := fun w' h1 h2 => ⟨rfl, h1, h2⟩
    generalize WrongPost P b (if false = true then 0 else 3, r.2) w = QQ at post ⊢
    go_enter Tryz.func18, Tryz.ntmps18
    go_wp2_with (first | (go_at_call 30; refine (refForm_any u _ HF.out).mono ?_; rintro e w1 ⟨rfl, rfl⟩) | (go_at_call 31; refine (unhide hc).mono ?_; rintro e w2 ⟨rfl, h1, h2⟩))
    exact post.out _ h1 h2
  · have post : Hid (∀ w', ShapeIs w' b r.2.1 r.2.2 → Kept P w w' → WrongPost P b (if true = true then 0 else 3, r.2) w (.returned (.int .i64 0)) w') := fun w' h1 h2 => ⟨rfl, h1, h2⟩
    generalize WrongPost P b (if true = true then 0 else 3, r.2) w = QQ at post ⊢
    go_enter Tryz.func18, Tryz.ntmps18
    go_wp2_with (first | (go_at_call 30; refine (refForm_any u _ HF.out).mono ?_; rintro e w1 ⟨rfl, rfl⟩) | (go_at_call 31; refine (unhide hc).mono ?_; rintro e w2 ⟨rfl, h1, h2⟩))
    exact post.out _ h1 h2

set_option maxRecDepth 100000 in
set_option maxHeartbeats 800000 in
theorem wrong_other (hS : ShapeIs w b O I) (v : Value) (T : Words) (hT : ToksIs w v T) (hTl : T.length ≤ 100000) (p : Nat) (hp : p < T.length) (hsz : ((T.getD p (ByteArray.empty, 0)).1).size ≤ maxLen) (hF : WordsAt w 0 formsL) (hL : WordsAt w 1 listedL) (hf : isForm (wAt T p) = false) :
    Calls Tryz.prog 18 #[v, .int .i64 p, .pointer (some ⟨b, 0, none⟩)] w (WrongPost P b (wrongM T p O I) w) := by
  have hmean := hide (fun s => meaning_any w v T hT p (by omega) hTl s)
  obtain ⟨f, cp, rfl, hflt, e0, _⟩ := hT.cells hp
  obtain ⟨u, hu⟩ : ∃ u, u = (T.getD p (ByteArray.empty, 0)).1 := ⟨_, rfl⟩
  rw [← hu] at e0 hsz
  have HU : wAt T p = u.toList := by rw [hu]; rfl
  have hw : wrongM T p O I = (if refVal u.toList < 0 ∧ listRef u.toList < 0 ∧ meaningM T p u.toList < 0 then 2 else 0, O, I) := by unfold wrongM; rw [if_neg (by rw [hf]; decide), HU]
  rw [hw]
  rw [HU] at hf
  have hmu := hide ((unhide hmean) u)
  clear hu HU hw hT hmean
  have HF := hide hF
  have HL := hide hL
  have hQ : ∀ n : Int, Hid (∀ e, e = Ending.returned (.int .i64 n) → WrongPost P b (n, O, I) w e w) := fun n e he => ⟨he, hS, Kept.refl _ _⟩
  clear hF hL hS
  obtain ⟨m, hm⟩ : ∃ m, m = meaningM T p u.toList := ⟨_, rfl⟩
  obtain ⟨x, hx⟩ : ∃ x, x = refVal u.toList := ⟨_, rfl⟩
  obtain ⟨y, hy⟩ : ∃ y, y = listRef u.toList := ⟨_, rfl⟩
  have hcx := hide (fun w => refValue_any u w hsz)
  have hcy := hide (fun w h => refListed_any u w h)
  rw [← hm] at hmu
  rw [← hx] at hcx
  rw [← hy] at hcy
  rw [← hm, ← hx, ← hy]
  clear hm hx hy
  by_cases h1 : x < 0
  · by_cases h2 : y < 0
    · by_cases h3 : m < 0
      · rw [if_pos ⟨h1, h2, h3⟩]
        have post := hQ 2
        generalize WrongPost P b (2, O, I) w = QQ at post ⊢
        go_enter Tryz.func18, Tryz.ntmps18
        go_wp2_with (first | (go_at_call 30; refine (refForm_any u _ HF.out).mono ?_; rintro e w1 ⟨rfl, rfl⟩) | (go_at_call 32; refine ((unhide hcx) _).mono ?_; rintro e w1 ⟨rfl, rfl⟩) | (go_at_call 33; refine ((unhide hcy) _ HL.out).mono ?_; rintro e w1 ⟨rfl, rfl⟩) | (go_at_call 34; refine (unhide hmu).mono ?_; rintro e w1 ⟨rfl, rfl⟩))
        exact post.out _ rfl
      · rw [if_neg (fun h => h3 h.2.2)]
        have post := hQ 0
        generalize WrongPost P b (0, O, I) w = QQ at post ⊢
        go_enter Tryz.func18, Tryz.ntmps18
        go_wp2_with (first | (go_at_call 30; refine (refForm_any u _ HF.out).mono ?_; rintro e w1 ⟨rfl, rfl⟩) | (go_at_call 32; refine ((unhide hcx) _).mono ?_; rintro e w1 ⟨rfl, rfl⟩) | (go_at_call 33; refine ((unhide hcy) _ HL.out).mono ?_; rintro e w1 ⟨rfl, rfl⟩) | (go_at_call 34; refine (unhide hmu).mono ?_; rintro e w1 ⟨rfl, rfl⟩))
        exact post.out _ rfl
    · rw [if_neg (fun h => h2 h.2.1)]
      have post := hQ 0
      generalize WrongPost P b (0, O, I) w = QQ at post ⊢
      go_enter Tryz.func18, Tryz.ntmps18
      go_wp2_with (first | (go_at_call 30; refine (refForm_any u _ HF.out).mono ?_; rintro e w1 ⟨rfl, rfl⟩) | (go_at_call 32; refine ((unhide hcx) _).mono ?_; rintro e w1 ⟨rfl, rfl⟩) | (go_at_call 33; refine ((unhide hcy) _ HL.out).mono ?_; rintro e w1 ⟨rfl, rfl⟩) | (go_at_call 34; refine (unhide hmu).mono ?_; rintro e w1 ⟨rfl, rfl⟩))
      exact post.out _ rfl
  · rw [if_neg (fun h => h1 h.1)]
    have post := hQ 0
    generalize WrongPost P b (0, O, I) w = QQ at post ⊢
    go_enter Tryz.func18, Tryz.ntmps18
    go_wp2_with (first | (go_at_call 30; refine (refForm_any u _ HF.out).mono ?_; rintro e w1 ⟨rfl, rfl⟩) | (go_at_call 32; refine ((unhide hcx) _).mono ?_; rintro e w1 ⟨rfl, rfl⟩) | (go_at_call 33; refine ((unhide hcy) _ HL.out).mono ?_; rintro e w1 ⟨rfl, rfl⟩) | (go_at_call 34; refine (unhide hmu).mono ?_; rintro e w1 ⟨rfl, rfl⟩))
    exact post.out _ rfl

theorem wrong_any (hS : ShapeIs w b O I) (hb : ¬ P b) (hl : O.length ≤ 90000) (v : Value) (T : Words) (hT : ToksIs w v T) (hTl : T.length ≤ 100000) (p : Nat) (hp : p < T.length) (hsz : ((T.getD p (ByteArray.empty, 0)).1).size ≤ maxLen) (hF : WordsAt w 0 formsL) (hL : WordsAt w 1 listedL) :
    Calls Tryz.prog 18 #[v, .int .i64 p, .pointer (some ⟨b, 0, none⟩)] w (WrongPost P b (wrongM T p O I) w) := by
  cases hf : isForm (wAt T p)
  · exact wrong_other hS v T hT hTl p hp hsz hF hL hf
  · exact wrong_form hS hb hl v T hT hTl p hp hF hf
end
end Go.Proofs.YtnanjomnldfidabGreatDoor

set_option linter.unusedSimpArgs false
set_option linter.unusedVariables false
set_option linter.unusedSectionVars false
namespace Go.Proofs.YtnanjomnldfidabGreatDoor
open Go.RowKit

theorem ToksIs.kept {w w' : World} {v : Value} {T : Words} {Q : Nat → Prop} (h : ToksIs w v T) (hk : Kept Q w w') (hq : ∀ k, v.ownBlock = some k → Q k) : ToksIs w' v T := by
  refine ⟨h.1, ?_⟩
  rcases h.2 with hn | ⟨g, cap, cur, rfl, hb, hg, rest⟩
  · exact .inl hn
  · exact .inr ⟨g, cap, cur, rfl, hb, hk.at' hg (hq g rfl), rest⟩
theorem toksFuel_size (s : ByteArray) : ∀ f k, k ≤ s.size → ∀ x ∈ toksFuel f s k, x.1.size ≤ s.size
  | 0, k, hk, x, hx => by simp [toksFuel] at hx
  | f + 1, k, hk, x, hx => by
    unfold toksFuel at hx
    have a2 := blankEnd_le s.data.toList k (by rw [len_data]; exact hk)
    have a3 := wordEnd_le s.data.toList (blankEnd s.data.toList k) a2
    rw [len_data] at a2 a3
    split at hx
    · rcases List.mem_cons.1 hx with h | h
      · subst h; exact extract_size s _ _ a3
      · exact toksFuel_size s f _ a3 x h
    · simp at hx
theorem toks_size (s : ByteArray) (k : Nat) : ((toksFrom s 0).getD k (ByteArray.empty, 0)).1.size ≤ s.size := by
  by_cases h : k < (toksFrom s 0).length
  · have : (toksFrom s 0).getD k (ByteArray.empty, 0) = (toksFrom s 0)[k] := by simp [List.getD, h]
    rw [this]
    exact toksFuel_size s _ 0 (Nat.zero_le _) _ (List.getElem_mem h)
  · simp [List.getD, h]

/-- A step of the loop. -/
theorem refLoop_err (T : Words) (n k : Nat) (O : List UInt8) (I : Bool) (hk : k < T.length) (he : (wrongM T k O I).1 ≠ 0) : refLoop T n (T.drop k) k O I = ((wrongM T k O I).1, pAt T k) := by
  rw [drop_at T k hk, refLoop_cons, if_pos he]; rfl
theorem refLoop_next (T : Words) (n k : Nat) (O : List UInt8) (I : Bool) (hk : k < T.length) (he : (wrongM T k O I).1 = 0) (hc : wAt T k ≠ [58]) : refLoop T n (T.drop k) k O I = refLoop T n (T.drop (k + 1)) (k + 1) (wrongM T k O I).2.1 (wrongM T k O I).2.2 := by
  rw [drop_at T k hk, refLoop_cons, if_neg (by simp [he]), if_neg (show ¬ (T.getD k (ByteArray.empty, 0)).1.toList = [58] from hc)]
theorem refLoop_last (T : Words) (n k : Nat) (O : List UInt8) (I : Bool) (hk : k < T.length) (he : (wrongM T k O I).1 = 0) (hc : wAt T k = [58]) (hl : k + 1 = T.length) : refLoop T n (T.drop k) k O I = (4, n) := by
  rw [drop_at T k hk, refLoop_cons, if_neg (by simp [he]), if_pos (show (T.getD k (ByteArray.empty, 0)).1.toList = [58] from hc), List.drop_of_length_le (by omega)]
theorem refLoop_bad (T : Words) (n k : Nat) (O : List UInt8) (I : Bool) (hk : k + 1 < T.length) (he : (wrongM T k O I).1 = 0) (hc : wAt T k = [58]) (hn : refName (wAt T (k + 1)) = false) : refLoop T n (T.drop k) k O I = (4, pAt T (k + 1)) := by
  rw [drop_at T k (by omega), refLoop_cons, if_neg (by simp [he]), if_pos (show (T.getD k (ByteArray.empty, 0)).1.toList = [58] from hc), drop_at T (k + 1) hk]
  have : refName (T.getD (k + 1) (ByteArray.empty, 0)).1.toList = false := hn
  simp only [this]
  rfl
theorem refLoop_name (T : Words) (n k : Nat) (O : List UInt8) (I : Bool) (hk : k + 1 < T.length) (he : (wrongM T k O I).1 = 0) (hc : wAt T k = [58]) (hn : refName (wAt T (k + 1)) = true) : refLoop T n (T.drop k) k O I = refLoop T n (T.drop (k + 2)) (k + 2) (wrongM T k O I).2.1 (wrongM T k O I).2.2 := by
  rw [drop_at T k (by omega), refLoop_cons, if_neg (by simp [he]), if_pos (show (T.getD k (ByteArray.empty, 0)).1.toList = [58] from hc), drop_at T (k + 1) hk]
  have : refName (T.getD (k + 1) (ByteArray.empty, 0)).1.toList = true := hn
  simp only [this]
  rfl
theorem refLoop_end (T : Words) (n k : Nat) (O : List UInt8) (I : Bool) (hk : k = T.length) : refLoop T n (T.drop k) k O I = if I = true ∨ O ≠ [] then (3, n) else (0, 0) := by
  rw [List.drop_of_length_le (by omega), refLoop_nil]

/-- What Check leaves. -/
def ChkPost (P : Nat → Prop) (r : Int × Nat) (w : World) (e : Ending) (w' : World) : Prop :=
  e = .returned (.tuple #[.int .i64 r.1, .int .i64 r.2]) ∧ Kept P w w'

set_option maxRecDepth 100000 in
set_option maxHeartbeats 3200000 in
theorem refCheck_any (s : ByteArray) (w : World) (P : Nat → Prop) (hP : ∀ k, P k → k < w.heap.size) (hs : s.size ≤ maxLen) (hF : WordsAt w 0 formsL) (hL : WordsAt w 1 listedL) (hPF : P 0) (hPL : P 1) :
    Calls Tryz.prog 13 #[.string s] w (ChkPost P (refCheckM s) w) := by
  by_cases hlong : 400 < s.size
  · have post : Hid (ChkPost P (refCheckM s) w (.returned (.tuple #[.int .i64 1, .int .i64 0])) w) := by
      unfold refCheckM; rw [if_pos hlong]; exact ⟨rfl, Kept.refl _ _⟩
    unfold maxLen at hs
    clear hF hL
    go_enter Tryz.func13, Tryz.ntmps13
    go_wp2
    go_ret2
    exact post.out
  · have hrc : Hid (refCheckM s = refLoop (toksFrom s 0) s.size (toksFrom s 0) 0 [] false) := by unfold Hid refCheckM; rw [if_neg hlong]
    have HF := hide hF
    have HL := hide hL
    have HP := hide hP
    have hsplit := hide (split_any s w P hP (by omega))
    have htl := toks_length s
    have HZ := hide (fun k => toks_size s k)
    obtain ⟨T, hT⟩ : ∃ T, T = toksFrom s 0 := ⟨_, rfl⟩
    rw [← hT] at hrc hsplit htl HZ
    clear hF hL hP hT
    go_enter Tryz.func13, Tryz.ntmps13
    go_wp2_with fail
    refine (unhide hsplit).mono ?_
    rintro e w1 ⟨v, rfl, hrow, hbd, hk1⟩
    obtain ⟨va, vc, hv⟩ := own_slice hrow.own
    rw [hv] at hrow
    rw [hv]
    clear hv hsplit
    have hTk : ToksIs w1 (.slice va T.length vc) T := hrow.own
    have hPb : Hid (∀ k, P k ∨ (Value.slice va T.length vc).ownBlock = some k → k < w1.heap.size) := by
      intro k hk
      rcases hk with hk | hk
      · exact hbd k hk
      · exact hrow.lt hk
    obtain ⟨P', hP'⟩ : ∃ P' : Nat → Prop, P' = fun k => P k ∨ (Value.slice va T.length vc).ownBlock = some k := ⟨_, rfl⟩
    have hP1 : Hid (∀ k, P k → P' k) := by intro k hk; rw [hP']; exact .inl hk
    have hP2 : Hid (∀ k, (Value.slice va T.length vc).ownBlock = some k → P' k) := by intro k hk; rw [hP']; exact .inr hk
    have hP3 : Hid (∀ k, P' k → k < w1.heap.size) := by intro k hk; rw [hP'] at hk; exact hPb.out k hk
    clear hP' hPb hbd
    have hTk := hide hTk
    have hk1' := hide hk1
    clear hk1 hrow
    have hS0 : ShapeIs (w1.alloc (.cells #[.string ⟨#[]⟩, .bool false] 58)) w1.heap.size [] false := ⟨⟨#[]⟩, toList_mk [], heap_alloc_new w1 _⟩
    have hnb : Hid (¬ P' w1.heap.size) := fun h => by have := hP3.out _ h; omega
    have hka : Kept P' w1 (w1.alloc (.cells #[.string ⟨#[]⟩, .bool false] 58)) := (Kept.refl P' w1).alloc _
    go_wp2
    go_loopw [6] (fun i wr => ∃ (k : Nat) (O : List UInt8) (I : Bool), k ≤ T.length ∧ O.length ≤ k ∧ i = .int .i64 k ∧ ShapeIs wr w1.heap.size O I ∧ Kept P' w1 wr ∧ Hid (refLoop T s.size (T.drop k) k O I = refLoop T s.size T 0 [] false)) (fun i _ => T.length - (intOf i).toNat)
    case atStart => exact ⟨0, [], false, Nat.zero_le _, Nat.le_refl _, rfl, hS0, hka, rfl⟩
    case round =>
      clear hS0 hka
      obtain ⟨k, O, I, hk, hO, rfl, hS, hkk, hd⟩ := hrel
      have HTr := hide ((unhide hTk).kept hkk hP2.out)
      have fin : Hid (∀ w2 r, Kept P' wr w2 → refLoop T s.size (T.drop k) k O I = r → ChkPost P (refCheckM s) w (.returned (.tuple #[.int .i64 r.1, .int .i64 r.2])) w2) := by
        intro w2 r h1 h2
        rw [hrc.out, ← hd.out, h2]
        exact ⟨rfl, (unhide hk1').trans ((hkk.trans h1).mono hP1.out)⟩
      by_cases hlt : k < T.length
      · have hF2 : WordsAt wr 0 formsL := HF.out.kept ((unhide hk1').trans (hkk.mono hP1.out)) (HP.out _ hPF) hPF
        have hL2 : WordsAt wr 1 listedL := HL.out.kept ((unhide hk1').trans (hkk.mono hP1.out)) (HP.out _ hPL) hPL
        have hwr := hide (wrong_any (P := P') hS hnb.out (by omega) _ T HTr.out (by omega) k hlt (Nat.le_trans (HZ.out k) hs) hF2 hL2)
        have hlen := wrongM_len T k O I
        have HF2 := hide hF2
        clear hF2 hL2
        obtain ⟨r, hr⟩ : ∃ r, r = wrongM T k O I := ⟨_, rfl⟩
        rw [← hr] at hwr hlen
        have HR := hide hr
        clear hr
        obtain ⟨u, hu⟩ : ∃ u, u = (T.getD k (ByteArray.empty, 0)).1 := ⟨_, rfl⟩
        obtain ⟨pl, hpl⟩ : ∃ pl, pl = (T.getD k (ByteArray.empty, 0)).2 := ⟨_, rfl⟩
        have HU : Hid (wAt T k = u.toList) := by rw [hu]; rfl
        by_cases h0 : r.1 = 0
        · have hb0 : (r.1 != 0) = false := by rw [h0]; rfl
          by_cases hc : u.toList = [58]
          · have hcb : (u.toList == [58]) = true := by simp [hc]
            by_cases hle : k + 1 = T.length
            · have hfin := hide (fin.out · (4, s.size) · (refLoop_last T s.size k O I hlt (by rw [← HR.out]; exact h0) (by rw [HU.out]; exact hc) hle))
              have hle' : ((k : Int) + 1 == (T.length : Int)) = true := by simp; omega
              clear h0 hc hle
              go_wp2_with fail
              refine (unhide hwr).mono ?_
              rintro e w2 ⟨rfl, hS2, hk2⟩
              obtain ⟨f, cp, hv, hf, e0, e1⟩ := (HTr.out.kept hk2 hP2.out).cells hlt
              simp only [Value.slice.injEq, true_and] at hv
              obtain ⟨rfl, rfl⟩ := hv
              rw [← hu] at e0
              have hfin2 := hide ((unhide hfin) w2 hk2)
              clear hfin fin hu hpl hk2 hS2 e1
              unfold maxLen at hs
              go_wp2
              go_ret2
              exact hfin2.out
            · have hlt2 : k + 1 < T.length := by omega
              obtain ⟨u2, hu2⟩ : ∃ u, u = (T.getD (k + 1) (ByteArray.empty, 0)).1 := ⟨_, rfl⟩
              obtain ⟨pl2, hpl2⟩ : ∃ pl, pl = (T.getD (k + 1) (ByteArray.empty, 0)).2 := ⟨_, rfl⟩
              have HU2 : Hid (wAt T (k + 1) = u2.toList) := by rw [hu2]; rfl
              have hz2 : Hid (u2.size ≤ maxLen) := by rw [hu2]; exact Nat.le_trans (HZ.out (k + 1)) hs
              have hle' : ((k : Int) + 1 == (T.length : Int)) = false := by rw [beq_eq_false_iff_ne]; omega
              have H0 := hide h0
              have HC := hide hc
              clear h0 hc
              go_wp2_with fail
              refine (unhide hwr).mono ?_
              rintro e w2 ⟨rfl, hS2, hk2⟩
              obtain ⟨f, cp, hv, hf, e0, e1⟩ := (HTr.out.kept hk2 hP2.out).cells hlt
              simp only [Value.slice.injEq, true_and] at hv
              obtain ⟨rfl, rfl⟩ := hv
              obtain ⟨f', cp'', hv, _, e2, e3⟩ := (HTr.out.kept hk2 hP2.out).cells hlt2
              simp only [Value.slice.injEq, true_and, Option.some.injEq, Addr.mk.injEq, and_true] at hv
              obtain ⟨rfl, rfl⟩ := hv
              rw [← hu] at e0
              rw [← hu2] at e2
              rw [← hpl2] at e3
              have HF3 := hide (HF2.out.kept hk2 (Nat.lt_of_lt_of_le (Nat.lt_of_lt_of_le (HP.out _ hPF) (unhide hk1').size) hkk.size) (hP1.out _ hPF))
              cases hn : refName u2.toList
              · have hfin := hide (fin.out · (4, pAt T (k + 1)) · (refLoop_bad T s.size k O I hlt2 (by rw [← HR.out]; exact H0.out) (by rw [HU.out]; exact HC.out) (by rw [HU2.out]; exact hn)))
                have hfin2 := hide ((unhide hfin) w2.drew hk2.drew)
                rw [show pAt T (k + 1) = pl2 from hpl2.symm] at hfin2
                clear hfin fin hu hpl hu2 hpl2 hk2 hS2 e1
                have HN := hide hn
                go_wp2_with (go_at_call 19; refine (refIsName_any u2 _ hz2.out HF3.out).mono ?_; rintro e w3 ⟨rfl, rfl⟩)
                go_region
                go_wp2
                go_ret2
                exact hfin2.out
              · have hstep := hide ((refLoop_name T s.size k O I hlt2 (by rw [← HR.out]; exact H0.out) (by rw [HU.out]; exact HC.out) (by rw [HU2.out]; exact hn)).symm.trans hd.out)
                rw [← HR.out] at hstep
                clear fin hu hpl hu2 hpl2 e1 e3
                have HN := hide hn
                go_wp2_with (go_at_call 19; refine (refIsName_any u2 _ hz2.out HF3.out).mono ?_; rintro e w3 ⟨rfl, rfl⟩)
                go_roundw
                case rel => exact ⟨k + 2, r.2.1, r.2.2, by omega, by omega, by go_num, hS2, hkk.trans hk2, hstep.out⟩
                case measure => first | (simp [intOf]; done) | (simp [intOf]; omega)
          · have hcb : (u.toList == [58]) = false := by simp [hc]
            have hstep := hide ((refLoop_next T s.size k O I hlt (by rw [← HR.out]; exact h0) (by rw [HU.out]; exact hc)).symm.trans hd.out)
            rw [← HR.out] at hstep
            clear h0 hc fin
            go_wp2_with fail
            refine (unhide hwr).mono ?_
            rintro e w2 ⟨rfl, hS2, hk2⟩
            obtain ⟨f, cp, hv, hf, e0, e1⟩ := (HTr.out.kept hk2 hP2.out).cells hlt
            simp only [Value.slice.injEq, true_and] at hv
            obtain ⟨rfl, rfl⟩ := hv
            rw [← hu] at e0
            clear hu hpl e1
            go_wp2
            go_roundw
            case rel => exact ⟨k + 1, r.2.1, r.2.2, by omega, by omega, by go_num, hS2, hkk.trans hk2, hstep.out⟩
            case measure => first | (simp [intOf]; done) | (simp [intOf]; omega)
        · have hb0 : (r.1 != 0) = true := bne_iff_ne.2 h0
          have hfin := hide (fin.out · (r.1, pAt T k) · (by rw [HR.out]; exact refLoop_err T s.size k O I hlt (by rw [← HR.out]; exact h0)))
          clear h0
          go_wp2_with fail
          refine (unhide hwr).mono ?_
          rintro e w2 ⟨rfl, hS2, hk2⟩
          obtain ⟨f, cp, hv, hf, e0, e1⟩ := (HTr.out.kept hk2 hP2.out).cells hlt
          simp only [Value.slice.injEq, true_and] at hv
          obtain ⟨rfl, rfl⟩ := hv
          have hfin2 := hide ((unhide hfin) w2.drew hk2.drew)
          rw [show pAt T k = pl from hpl.symm] at hfin2
          rw [← hpl] at e1
          clear hfin fin hu hpl hk2 hS2 e0
          go_wp2
          go_region
          go_wp2
          go_ret2
          exact hfin2.out
      · have hke : k = T.length := by omega
        obtain ⟨o, ho, hbox⟩ := hS
        have hltb := lt_of_block hbox
        have c0 : wr.cell? ⟨w1.heap.size, 0, none⟩ = some (.string o) := cell_of_block hbox 0 _ rfl
        have c1 : wr.cell? ⟨w1.heap.size, 1, none⟩ = some (.bool I) := cell_of_block hbox 1 _ rfl
        have hend := hide (refLoop_end T s.size k O I hke)
        have HO := hide ho
        clear hbox ho
        cases I
        · cases hem : o.toList.isEmpty
          · have hr : refLoop T s.size (T.drop k) k O false = (3, s.size) := by
              rw [hend.out, if_pos (.inr (by rw [← HO.out]; intro h; rw [h] at hem; simp at hem))]
            have hfin := hide (fin.out wr _ (Kept.refl _ _) hr)
            clear fin hr hend
            unfold maxLen at hs
            go_wp2
            go_ret2
            exact hfin.out
          · have hr : refLoop T s.size (T.drop k) k O false = (0, 0) := by
              rw [hend.out, if_neg (by rw [← HO.out]; simp; simpa using hem)]
            have hfin := hide (fin.out wr _ (Kept.refl _ _) hr)
            clear fin hr hend
            go_wp2
            go_ret2
            exact hfin.out
        · have hr : refLoop T s.size (T.drop k) k O true = (3, s.size) := by rw [hend.out, if_pos (.inl rfl)]
          have hfin := hide (fin.out wr _ (Kept.refl _ _) hr)
          clear fin hr hend
          unfold maxLen at hs
          go_wp2
          go_ret2
          exact hfin.out
end Go.Proofs.YtnanjomnldfidabGreatDoor
