/-
  The law Blanks.
-/
import Derived.Test.YtnanjomnldfidaaDoorChecks
import Derived.Test.YtnanjomnldfidaaDoorLex
set_option linter.unusedSimpArgs false
set_option linter.unusedVariables false
set_option linter.unusedSectionVars false
namespace Go.Proofs.YtnanjomnldfidaaDoor
open Go.ChangeShapes Go.WideShapes Go.ChangeAt Go.RowKit
open Go.ChangeMaps (open_string shut_string)

theorem toks_nl : toksFrom ⟨#[10]⟩ 0 = [] := by
  rw [toks_lex, toList_mk [10]]
  rfl
theorem toks_semi : toksFrom ⟨#[32, 59]⟩ 0 = [(⟨#[59]⟩, 1)] := by
  rw [toks_lex, toList_mk [32, 59]]
  rfl
theorem fin_zero {R : Rd} (h : R.fin = 0) : R.due = false ∧ R.inside = false ∧ R.forms = [] := by
  unfold Rd.fin at h
  split at h
  · cases h
  · rename_i hd
    split at h
    · cases h
    · rename_i hi
      simp only [not_or, ne_eq, Decidable.not_not] at hi
      exact ⟨by simpa using hd, by simpa using hi.1, hi.2⟩

theorem toksFuel_place (s : ByteArray) : ∀ f k, k ≤ s.size → ∀ x ∈ toksFuel f s k, x.2 ≤ s.size
  | 0, k, hk, x, hx => by simp [toksFuel] at hx
  | f + 1, k, hk, x, hx => by
    unfold toksFuel at hx
    have a2 := blankEnd_le s.data.toList k (by rw [len_data]; exact hk)
    have a3 := wordEnd_le s.data.toList (blankEnd s.data.toList k) a2
    rw [len_data] at a2 a3
    split at hx
    · rcases List.mem_cons.1 hx with h | h
      · subst h; exact a2
      · exact toksFuel_place s f _ a3 x h
    · simp at hx
theorem read_place (n : Nat) : ∀ (T : Words) (R : Rd), (∀ x ∈ T, x.2 ≤ n) → (R.read T).2.1 ≤ n
  | [], R, _ => Nat.zero_le _
  | (t, a) :: r, R, h => by
    by_cases h0 : (R.take t).1 = 0
    · rw [Rd.read_yes R t _ _ h0]; exact read_place n r _ fun x hx => h x (List.mem_cons_of_mem _ hx)
    · rw [Rd.read_no R t _ _ h0]; exact h (t, a) List.mem_cons_self
theorem readM_place (s : ByteArray) : (readM s).2.1 ≤ s.size := by
  have := read_place s.size (toksFrom s 0) Rd.fresh (toksFuel_place s _ 0 (Nat.zero_le _))
  unfold readM
  split
  · exact Nat.zero_le _
  · split
    · exact this
    · split
      · exact Nat.le_refl _
      · exact Nat.zero_le _

theorem blanks_pure (s : ByteArray) (h : s.size ≤ 398) :
    (readM s).1 = (readM (⟨#[10]⟩ ++ s)).1 ∧ ((readM s).1 = 0 → (readM s).2.1 = 0 ∧ (readM (⟨#[10]⟩ ++ s)).2.1 = 0 ∧ (readM (s ++ ⟨#[32, 59]⟩)).1 = 3 ∧ (readM (s ++ ⟨#[32, 59]⟩)).2.1 = s.size + 1) ∧
      ((readM s).1 ≠ 0 → (readM (⟨#[10]⟩ ++ s)).2.1 = (readM s).2.1 + 1) := by
  have z1 : (⟨#[10]⟩ ++ s : ByteArray).size = s.size + 1 := by rw [ByteArray.size_append]; show 1 + s.size = _; omega
  have z2 : (s ++ ⟨#[32, 59]⟩ : ByteArray).size = s.size + 2 := by rw [ByteArray.size_append]; rfl
  have t1 : toksFrom (⟨#[10]⟩ ++ s) 0 = shiftT 1 (toksFrom s 0) := by
    rw [toks_two_after ⟨#[10]⟩ s ⟨[], 10, toList_mk [10], by decide⟩, toks_nl]
    rfl
  have t2 : toksFrom (s ++ ⟨#[32, 59]⟩) 0 = toksFrom s 0 ++ [(⟨#[59]⟩, s.size + 1)] := by
    rw [toks_two_blank s ⟨#[32, 59]⟩ ⟨32, [59], toList_mk [32, 59], by decide⟩, toks_semi]
    show _ ++ [(_, 1 + s.size)] = _
    rw [Nat.add_comm]
  rw [readM_out s (by omega), readM_out (⟨#[10]⟩ ++ s) (by omega), readM_out (s ++ ⟨#[32, 59]⟩) (by omega), t1, t2, read_shift, read_append, z1]
  generalize (s ++ ⟨#[32, 59]⟩ : ByteArray).size = n2
  generalize Rd.fresh.read (toksFrom s 0) = r
  by_cases h1 : r.1 = 0
  · rw [if_pos h1, if_pos h1]
    by_cases h2 : r.2.2.fin = 0
    · obtain ⟨f1, f2, f3⟩ := fin_zero h2
      have htk : r.2.2.take ⟨#[59]⟩ = (3, r.2.2) := by
        unfold Rd.take
        rw [if_neg (by rw [f1]; decide), toList_mk [59], if_neg (by decide)]
        show (if r.2.2.inside = false then _ else _) = _
        rw [if_pos f2]
      have h3 : (r.2.2.take ⟨#[59]⟩).1 ≠ 0 := by rw [htk]; simp
      rw [outM_ok h1 h2, outM_ok (r := (r.1, 0, r.2.2)) h1 h2, Rd.read_no _ _ _ _ h3, htk, outM_err (by simp)]
      exact ⟨rfl, fun _ => ⟨rfl, rfl, rfl, rfl⟩, fun h => absurd rfl h⟩
    · rw [outM_fin h1 h2, outM_fin (r := (r.1, 0, r.2.2)) h1 h2]
      exact ⟨rfl, fun h => absurd h h2, fun _ => rfl⟩
  · rw [if_neg h1, outM_err h1, outM_err (r := (r.1, r.2.1 + 1, r.2.2)) h1]
    exact ⟨rfl, fun h => absurd h h1, fun _ => rfl⟩

set_option maxRecDepth 100000 in
set_option maxHeartbeats 400000 in
theorem blanks_long (s : ByteArray) (w : World) (hs : s.size ≤ maxLen) (hl : 398 < s.size) :
    Calls Tryd.prog 4 #[.string s] w fun e w' => e = .returned (.bool true) ∧ Below w.heap.size w w' := by
  unfold maxLen at hs
  go_enter Tryd.func4, Tryd.ntmps4
  go_wp2
  go_ret
  exact ⟨rfl, Below.refl _ _⟩

set_option maxRecDepth 100000 in
set_option maxHeartbeats 400000 in
theorem blanks_short (s : ByteArray) (w : World) (hl : s.size ≤ 398) (hT : WordsAt w 2 listedL) :
    Calls Tryd.prog 4 #[.string s] w fun e w' => e = .returned (.bool true) ∧ Below w.heap.size w w' := by
  have l1 := words_lt hT (by decide)
  have z1 : (⟨#[10]⟩ ++ s : ByteArray).size = s.size + 1 := by rw [ByteArray.size_append]; show 1 + s.size = _; omega
  have z2 : (s ++ ⟨#[32, 59]⟩ : ByteArray).size = s.size + 2 := by rw [ByteArray.size_append]; rfl
  have hc := hide (fun (u : ByteArray) (hu : u.size ≤ 400) w1 (hk : Kept (fun k => k < w.heap.size) w w1) => check_any u w1 (fun k => k < w.heap.size) (fun k h => Nat.lt_of_lt_of_le h hk.size) (Nat.le_trans hu (by decide)) (hT.kept hk l1 l1) l1)
  have hcA := hide (fun w1 hk => (unhide hc) s (by omega) w1 hk)
  have hcB := hide (fun w1 hk => (unhide hc) (⟨#[10]⟩ ++ s) (by omega) w1 hk)
  have hcC := hide (fun w1 hk => (unhide hc) (s ++ ⟨#[32, 59]⟩) (by omega) w1 hk)
  obtain ⟨p1, p2, p3⟩ := blanks_pure s hl
  have lA := readM_place s
  generalize readM s = A at hcA p1 p2 p3 lA
  generalize readM (⟨#[10]⟩ ++ s) = B at hcB p1 p2 p3
  generalize readM (s ++ ⟨#[32, 59]⟩) = C at hcC p2
  clear hc hT z1 z2
  have hq0 : (A.1 != B.1) = false := by rw [p1]; simp
  by_cases h0 : A.1 = 0
  · obtain ⟨q1, q2, q3, q4⟩ := p2 h0
    have g0 : (A.1 == 0) = true := by rw [h0]; rfl
    have g1 : ((A.2.1 : Int) == 0) = true := by rw [q1]; rfl
    have g2 : ((B.2.1 : Int) == 0) = true := by rw [q2]; rfl
    have g3 : (C.1 == 3) = true := by rw [q3]; rfl
    have g4 : ((C.2.1 : Int) == (s.size : Int) + 1) = true := by rw [q4]; simp
    clear p1 p2 p3 q1 q2 q3 q4 h0
    go_enter Tryd.func4, Tryd.ntmps4
    go_wp2_with fail
    refine ((unhide hcA) w (Kept.refl _ _)).mono ?_
    rintro e w1 ⟨rfl, hk1⟩
    go_wp2_with fail
    refine ((unhide hcB) w1 hk1).mono ?_
    rintro e w2 ⟨rfl, hk2⟩
    go_wp2_with fail
    refine ((unhide hcC) w2 (hk1.trans hk2)).mono ?_
    rintro e w3 ⟨rfl, hk3⟩
    have hb := (hk1.trans (hk2.trans hk3)).below (Nat.le_refl _)
    clear hk1 hk2 hk3
    go_wp2_with (go_at_call 11; refine (num_any _ _).mono ?_; rintro e w4 ⟨rfl, rfl⟩)
    go_ret
    exact ⟨rfl, hb⟩
  · have q1 := p3 h0
    have g0 : (A.1 == 0) = false := by simpa using h0
    have g1 : ((B.2.1 : Int) == (A.2.1 : Int) + 1) = true := by rw [q1]; simp
    clear p1 p2 p3 q1 h0
    go_enter Tryd.func4, Tryd.ntmps4
    go_wp2_with fail
    refine ((unhide hcA) w (Kept.refl _ _)).mono ?_
    rintro e w1 ⟨rfl, hk1⟩
    go_wp2_with fail
    refine ((unhide hcB) w1 hk1).mono ?_
    rintro e w2 ⟨rfl, hk2⟩
    go_wp2_with fail
    refine ((unhide hcC) w2 (hk1.trans hk2)).mono ?_
    rintro e w3 ⟨rfl, hk3⟩
    have hb := (hk1.trans (hk2.trans hk3)).below (Nat.le_refl _)
    clear hk1 hk2 hk3
    go_wp2_with (go_at_call 11; refine (num_any _ _).mono ?_; rintro e w4 ⟨rfl, rfl⟩)
    go_ret
    exact ⟨rfl, hb⟩

theorem blanks_walk (s : ByteArray) (w : World) (hs : s.size ≤ maxLen) (hT : WordsAt w 2 listedL) :
    Calls Tryd.prog 4 #[.string s] w fun e w' => e = .returned (.bool true) ∧ Below w.heap.size w w' := by
  by_cases h : s.size ≤ 398
  · exact blanks_short s w h hT
  · exact blanks_long s w hs (by omega)

set_option maxRecDepth 100000 in
theorem blanks_contract (H : Type) (enc : TypeId × Value → H) (W : World) (base : Nat) (args : Array Value) (ds gs : List (DataW H)) (before : List MemPlace)
    (hval : ∀ (j : Nat) t v, Tryd.f4.params[j]? = some t → args[j]? = some v → Value.okWide Tryd.prog W .any base t v)
    (hW : DataW.Whole enc Tryd.prog Tryd.f4.params.toList Rows.blanksSpec.vars false W args.toList ds gs before) (hL : laidMetH Tryd.prog Rows.blanksRow.laid W) :
    Calls Tryd.prog 4 args W fun e W' => ∃ v, e = .returned v ∧ Rows.blanksSpec.post enc Tryd.prog Tryd.f4 false true false false W args v W' := by
  have hW' := hW
  obtain ⟨p, q, hA0, hV, rfl, hfz, hnd⟩ := hW
  have hA : DataW.TrodAll enc Tryd.prog W 0 (fun _ => true) true Tryd.f4.params.toList args.toList ds p := hA0
  rw [Tryd.params4] at hA hval
  obtain ⟨v0, vs0, d0, ds0, p0, q0, hargs, rfl, rfl, h0, r0⟩ := trodAll_cons hA
  obtain ⟨rfl, rfl, rfl⟩ := trodAll_nil r0
  obtain rfl : args = #[v0] := by cases args; simp_all
  obtain ⟨rfl, rfl⟩ := trodVars_none hV
  obtain ⟨s, rfl, rfl, rfl, hs⟩ := open_string Tryd.underlying9 (hval 0 9 v0 rfl rfl) h0
  clear hA0
  simp only [List.append_nil] at hW'
  refine (blanks_walk s W hs (table1 hL)).mono fun e W' ⟨he, hg⟩ => ?_
  subst he
  refine ⟨_, rfl, _, _, _, [], [], [], hW', ?_, ?_, rfl, hg.frame _, fun h => by cases h⟩
  · exact trodAll_cons_mk (shut_bool Tryd.underlying4 _) trodAll_mk0
  · exact trodAll_cons_mk (shut_string Tryd.underlying9 hs) trodAll_mk0
end Go.Proofs.YtnanjomnldfidaaDoor
