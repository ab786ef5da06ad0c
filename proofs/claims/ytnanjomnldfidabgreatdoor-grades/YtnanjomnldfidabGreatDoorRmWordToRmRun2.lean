/-
  graderref's machine: decide, word.
  graderref's machine: word.
  graderref's machine: word, the other words; all words.
  graderref's Run.
  graderref's Run: the run itself.
-/
import Derived.Test.YtnanjomnldfidabGreatDoorRmTwoToRmAny
import Derived.Test.YtnanjomnldfidabGreatDoorRefJump
import Derived.Test.YtnanjomnldfidabGreatDoorRefLeafToRefChk
import Derived.Test.YtnanjomnldfidabGreatDoorRunPure
import Derived.Test.YtnanjomnldfidabGreatDoorSim
set_option linter.unusedSimpArgs false
set_option linter.unusedVariables false
set_option linter.unusedSectionVars false
namespace Go.Proofs.YtnanjomnldfidabGreatDoor
open Go.RowKit

section
variable {w : World} {P : Nat → Prop} {b : Nat} {M : Ma} {v : Value} {T : Words} {p : Nat}

theorem tok_at (hT : ToksIs w v T) (hp : p < T.length) {l : List UInt8} (h : wAt T p = l) : ∃ f cp, v = .slice (some ⟨f, 0, none⟩) T.length cp ∧ f < w.heap.size ∧ w.cell? ⟨f, p * 2, none⟩ = some (.string ⟨l.toArray⟩) := by
  obtain ⟨f, cp, h1, h2, h3, _⟩ := hT.cells hp
  refine ⟨f, cp, h1, h2, ?_⟩
  rw [h3]
  have : (T.getD p (ByteArray.empty, 0)).1 = ⟨l.toArray⟩ := eq_mk h
  rw [this]

set_option maxRecDepth 100000 in
set_option maxHeartbeats 1600000 in
theorem decide_any (h : RmIs w P b M) (hok : M.Ok) (hT : ToksIs w v T) (hv : ∀ k, v.ownBlock = some k → P k) (hl : T.length ≤ 100000) (hp : p < T.length) (hw : wAt T p = wIf ∨ wAt T p = wWhile ∨ wAt T p = wUntil) :
    Calls Tryz.prog 64 #[.pointer (some ⟨b, 0, none⟩), v, .int .i64 p] w (Step2Post P b (decideM T p M) w) := by
  have ht := hide (takeN_any h hok)
  obtain ⟨t, htk⟩ : ∃ t, t = M.takeN := ⟨_, rfl⟩
  have hdec : decideM T p M = if t.1 ≠ 0 ∨ t.2.1 ≠ 0 then ((p : Int) + 1, t.2.1, t.2.2) else ((goesN T p : Nat), 0, t.2.2) := by rw [htk]; rfl
  rw [hdec]
  rw [← htk] at ht
  have HT := hide hT
  have HV := hide hv
  clear hdec htk hok h
  by_cases q : t.1 ≠ 0 ∨ t.2.1 ≠ 0
  · rw [if_pos q]
    obtain ⟨f, cp, rfl, hflt, _⟩ := hT.cells hp
    clear hT hv HT HV
    have q' : (t.1 != 0) = true ∨ ((t.1 != 0) = false ∧ (t.2.1 != 0) = true) := by
      by_cases z : t.1 = 0
      · exact .inr ⟨by simp [z], by simpa [z] using q⟩
      · exact .inl (by simpa using z)
    clear q hw
    rcases q' with z1 | ⟨z1, z2⟩
    all_goals
      go_enter Tryz.func64, Tryz.ntmps64
      go_wp2_with fail
      refine (unhide ht).mono ?_
      rintro e w1 ⟨rfl, h1, k1⟩
      have post : Hid (Step2Post P b ((p : Int) + 1, t.2.1, t.2.2) w (.returned (.tuple #[.int .i64 ((p : Int) + 1), .int .i64 t.2.1])) w1) := ⟨rfl, h1, k1⟩
      clear h1 k1 ht
      go_wp2
      go_ret2
      exact post.out
  · rw [if_neg q]
    have z1 : (t.1 != 0) = false := by
      by_cases z : t.1 = 0
      · simp [z]
      · exact absurd (.inl z) q
    have z2 : (t.2.1 != 0) = false := by
      by_cases z : t.2.1 = 0
      · simp [z]
      · exact absurd (.inr z) q
    clear q
    have hG : Hid (∀ w1, RmIs w1 P b t.2.2 → Kept P w w1 → ∀ n : Int, n = (goesN T p : Nat) → Step2Post P b ((goesN T p : Nat), 0, t.2.2) w (.returned (.tuple #[.int .i64 n, .int .i64 0])) w1) := fun w1 a1 a2 n hn => ⟨by rw [hn], a1, a2⟩
    have e1 : wAt T p = wIf → Hid ((goesN T p : Int) = (aheadM T (p + 1) wIf wThen true : Int) + 1) := fun hc => by unfold Hid goesN; rw [if_pos hc]; rfl
    have e2 : wAt T p = wWhile → Hid ((goesN T p : Int) = (aheadM T (p + 1) wBegin wRepeat false : Int) + 1) := fun hc => by unfold Hid goesN; rw [if_neg (by rw [hc]; decide), if_pos hc]; rfl
    have e3 : wAt T p = wUntil → Hid ((goesN T p : Int) = (backM T p : Int) + 1) := fun hc => by unfold Hid goesN; rw [if_neg (by rw [hc]; decide), if_neg (by rw [hc]; decide)]; rfl
    generalize Step2Post P b ((goesN T p : Nat), 0, t.2.2) w = QQ at hG ⊢
    rcases hw with hw | hw | hw
    · obtain ⟨f, cp, hvv, hflt, _⟩ := tok_at hT hp hw
      have he := e1 hw
      have Hw := hide hw
      obtain ⟨d1, d2⟩ := aheadM_bd T (p + 1) wIf wThen true (by omega)
      clear e1 e2 e3 hT hv hw
      subst hvv
      go_enter Tryz.func64, Tryz.ntmps64
      go_wp2_with fail
      refine (unhide ht).mono ?_
      rintro e w1 ⟨rfl, h1, k1⟩
      have hT1 := hide (HT.out.kept k1 HV.out)
      obtain ⟨f', cp', hv', hf', c0⟩ := tok_at hT1.out hp Hw.out
      simp only [Value.slice.injEq, true_and, Option.some.injEq, Addr.mk.injEq, and_true] at hv'
      obtain ⟨rfl, rfl⟩ := hv'
      have hah := hide (ahead_any w1 _ T hT1.out (p + 1) (by omega) hl ⟨#[105, 102]⟩ ⟨#[116, 104, 101, 110]⟩ true)
      have hgo := hide (hG.out w1 h1 k1)
      clear h1 k1 hT1 ht hG
      unfold wIf at c0
      go_wp2_with fail
      refine (unhide hah).mono ?_
      rintro e w2 ⟨rfl, rfl⟩
      have hq : Hid (aheadM T (p + 1) (ByteArray.mk #[105, 102]).toList (ByteArray.mk #[116, 104, 101, 110]).toList true = aheadM T (p + 1) wIf wThen true) := by
        unfold Hid
        rw [show (ByteArray.mk #[105, 102]).toList = wIf from toList_mk _, show (ByteArray.mk #[116, 104, 101, 110]).toList = wThen from toList_mk _]
      rw [hq.out]
      generalize aheadM T (p + 1) wIf wThen true = ah at d1 d2 he ⊢
      clear hah hq
      go_wp2
      exact (unhide hgo) _ he.out.symm
    · obtain ⟨f, cp, hvv, hflt, _⟩ := tok_at hT hp hw
      have he := e2 hw
      have Hw := hide hw
      obtain ⟨d1, d2⟩ := aheadM_bd T (p + 1) wBegin wRepeat false (by omega)
      clear e1 e2 e3 hT hv hw
      subst hvv
      go_enter Tryz.func64, Tryz.ntmps64
      go_wp2_with fail
      refine (unhide ht).mono ?_
      rintro e w1 ⟨rfl, h1, k1⟩
      have hT1 := hide (HT.out.kept k1 HV.out)
      obtain ⟨f', cp', hv', hf', c0⟩ := tok_at hT1.out hp Hw.out
      simp only [Value.slice.injEq, true_and, Option.some.injEq, Addr.mk.injEq, and_true] at hv'
      obtain ⟨rfl, rfl⟩ := hv'
      have hah := hide (ahead_any w1 _ T hT1.out (p + 1) (by omega) hl ⟨#[98, 101, 103, 105, 110]⟩ ⟨#[114, 101, 112, 101, 97, 116]⟩ false)
      have hgo := hide (hG.out w1 h1 k1)
      clear h1 k1 hT1 ht hG
      unfold wWhile at c0
      go_wp2_with fail
      refine (unhide hah).mono ?_
      rintro e w2 ⟨rfl, rfl⟩
      have hq : Hid (aheadM T (p + 1) (ByteArray.mk #[98, 101, 103, 105, 110]).toList (ByteArray.mk #[114, 101, 112, 101, 97, 116]).toList false = aheadM T (p + 1) wBegin wRepeat false) := by
        unfold Hid
        rw [show (ByteArray.mk #[98, 101, 103, 105, 110]).toList = wBegin from toList_mk _, show (ByteArray.mk #[114, 101, 112, 101, 97, 116]).toList = wRepeat from toList_mk _]
      rw [hq.out]
      generalize aheadM T (p + 1) wBegin wRepeat false = ah at d1 d2 he ⊢
      clear hah hq
      go_wp2
      exact (unhide hgo) _ he.out.symm
    · obtain ⟨f, cp, hvv, hflt, _⟩ := tok_at hT hp hw
      have he := e3 hw
      have Hw := hide hw
      have d1 := backL_le T p 0
      clear e1 e2 e3 hT hv hw
      subst hvv
      go_enter Tryz.func64, Tryz.ntmps64
      go_wp2_with fail
      refine (unhide ht).mono ?_
      rintro e w1 ⟨rfl, h1, k1⟩
      have hT1 := hide (HT.out.kept k1 HV.out)
      obtain ⟨f', cp', hv', hf', c0⟩ := tok_at hT1.out hp Hw.out
      simp only [Value.slice.injEq, true_and, Option.some.injEq, Addr.mk.injEq, and_true] at hv'
      obtain ⟨rfl, rfl⟩ := hv'
      have hah := hide (back_any w1 _ T hT1.out p (by omega) hl)
      have hgo := hide (hG.out w1 h1 k1)
      clear h1 k1 hT1 ht hG
      unfold wUntil at c0
      have d1' : backM T p ≤ p := d1
      clear d1
      go_wp2_with fail
      refine (unhide hah).mono ?_
      rintro e w2 ⟨rfl, rfl⟩
      generalize backM T p = ah at d1' he ⊢
      clear hah
      go_wp2
      exact (unhide hgo) _ he.out.symm
end
end Go.Proofs.YtnanjomnldfidabGreatDoor

set_option linter.unusedSimpArgs false
set_option linter.unusedVariables false
set_option linter.unusedSectionVars false
namespace Go.Proofs.YtnanjomnldfidabGreatDoor
open Go.RowKit

section
variable {w : World} {P : Nat → Prop} {b : Nat} {M : Ma} {v : Value} {T : Words} {p : Nat}

set_option maxRecDepth 100000 in
set_option maxHeartbeats 1600000 in
theorem word_colon (h : RmIs w P b M) (hT : ToksIs w v T) (hl : T.length ≤ 100000) (hp : p < T.length) (hw : wAt T p = [58]) :
    Calls Tryz.prog 46 #[.pointer (some ⟨b, 0, none⟩), v, .int .i64 p] w (Step2Post P b (((endsM T p + 1 : Nat) : Int), 0, M) w) := by
  have hends := hide (ends_any w v T hT p (by omega) hl)
  obtain ⟨d1, d2⟩ := endsM_le T p (by omega)
  obtain ⟨f, cp, rfl, hflt, c0⟩ := tok_at hT hp hw
  have post : Hid (∀ n : Int, n = ((endsM T p + 1 : Nat) : Int) → Step2Post P b (((endsM T p + 1 : Nat) : Int), 0, M) w (.returned (.tuple #[.int .i64 n, .int .i64 0])) w) := fun n hn => ⟨by rw [hn], h, Kept.refl _ _⟩
  generalize Step2Post P b (((endsM T p + 1 : Nat) : Int), 0, M) w = QQ at post ⊢
  clear hT h hw
  generalize endsM T p = en at hends d1 d2 post
  go_enter Tryz.func46, Tryz.ntmps46
  go_wp2_with fail
  refine (unhide hends).mono ?_
  rintro e w1 ⟨rfl, rfl⟩
  go_wp2
  exact post.out _ (by omega)

set_option maxRecDepth 100000 in
set_option maxHeartbeats 1600000 in
theorem word_free (h : RmIs w P b M) (hT : ToksIs w v T) (hl : T.length ≤ 100000) (hp : p < T.length) (hw : wAt T p = wThen ∨ wAt T p = wBegin) :
    Calls Tryz.prog 46 #[.pointer (some ⟨b, 0, none⟩), v, .int .i64 p] w (Step2Post P b ((p : Int) + 1, 0, M) w) := by
  have post : Hid (∀ n : Int, n = (p : Int) + 1 → Step2Post P b ((p : Int) + 1, 0, M) w (.returned (.tuple #[.int .i64 n, .int .i64 0])) w) := fun n hn => ⟨by rw [hn], h, Kept.refl _ _⟩
  generalize Step2Post P b ((p : Int) + 1, 0, M) w = QQ at post ⊢
  clear h
  unfold wThen wBegin at hw
  rcases hw with hw | hw
  all_goals
    obtain ⟨f, cp, rfl, hflt, c0⟩ := tok_at hT hp hw
    clear hT hw
    go_enter Tryz.func46, Tryz.ntmps46
    go_wp2
    exact post.out _ rfl

set_option maxRecDepth 100000 in
set_option maxHeartbeats 1600000 in
theorem word_decide (h : RmIs w P b M) (hok : M.Ok) (hT : ToksIs w v T) (hv : ∀ k, v.ownBlock = some k → P k) (hl : T.length ≤ 100000) (hp : p < T.length) (hw : wAt T p = wIf ∨ wAt T p = wWhile ∨ wAt T p = wUntil) :
    Calls Tryz.prog 46 #[.pointer (some ⟨b, 0, none⟩), v, .int .i64 p] w (Step2Post P b (decideM T p M) w) := by
  have hdec := hide (decide_any h hok hT hv hl hp hw)
  generalize decideM T p M = r at hdec ⊢
  have post : Hid (∀ w1, RmIs w1 P b r.2.2 → Kept P w w1 → Step2Post P b r w (.returned (.tuple #[.int .i64 r.1, .int .i64 r.2.1])) w1) := fun w1 a1 a2 => ⟨rfl, a1, a2⟩
  unfold Step2Post at hdec
  generalize Step2Post P b r w = QQ at post ⊢
  clear h hok hv
  unfold wIf wWhile wUntil at hw
  rcases hw with hw | hw | hw
  all_goals
    obtain ⟨f, cp, rfl, hflt, c0⟩ := tok_at hT hp hw
    clear hT hw
    go_enter Tryz.func46, Tryz.ntmps46
    go_wp2_with fail
    refine (unhide hdec).mono ?_
    rintro e w1 ⟨rfl, h1, k1⟩
    have hfin := hide (post.out w1 h1 k1)
    clear h1 k1 hdec
    go_wp2
    exact hfin.out

set_option maxRecDepth 100000 in
set_option maxHeartbeats 1600000 in
theorem word_else (h : RmIs w P b M) (hok : M.Ok) (hT : ToksIs w v T) (hv : ∀ k, v.ownBlock = some k → P k) (hl : T.length ≤ 100000) (hp : p < T.length) (hw : wAt T p = wElse) :
    Calls Tryz.prog 46 #[.pointer (some ⟨b, 0, none⟩), v, .int .i64 p] w (Step2Post P b (((aheadM T (p + 1) wIf wThen false + 1 : Nat) : Int), M.pass) w) := by
  have hpass := hide (pass_any h hok)
  generalize M.pass = r at hpass ⊢
  have HT := hide hT
  have HV := hide hv
  have post : Hid (∀ w1 (n : Int), n = ((aheadM T (p + 1) wIf wThen false + 1 : Nat) : Int) → RmIs w1 P b r.2 → Kept P w w1 → Step2Post P b (((aheadM T (p + 1) wIf wThen false + 1 : Nat) : Int), r) w (.returned (.tuple #[.int .i64 n, .int .i64 r.1])) w1) := fun w1 n hn a1 a2 => ⟨by rw [hn], a1, a2⟩
  unfold StepPost at hpass
  generalize Step2Post P b (((aheadM T (p + 1) wIf wThen false + 1 : Nat) : Int), r) w = QQ at post ⊢
  obtain ⟨d1, d2⟩ := aheadM_bd T (p + 1) wIf wThen false (by omega)
  unfold wElse at hw
  obtain ⟨f, cp, rfl, hflt, c0⟩ := tok_at hT hp hw
  clear hT hw h hok hv
  go_enter Tryz.func46, Tryz.ntmps46
  go_wp2_with fail
  refine (unhide hpass).mono ?_
  rintro e w1 ⟨rfl, h1, k1⟩
  have hT1 := hide (HT.out.kept k1 HV.out)
  have hah := hide (ahead_any w1 _ T hT1.out (p + 1) (by omega) hl ⟨#[105, 102]⟩ ⟨#[116, 104, 101, 110]⟩ false)
  have hgo := hide (fun n hn => post.out w1 n hn h1 k1)
  clear h1 k1 hT1 hpass post
  go_wp2_with fail
  refine (unhide hah).mono ?_
  rintro e w2 ⟨rfl, rfl⟩
  have hq : Hid (aheadM T (p + 1) (ByteArray.mk #[105, 102]).toList (ByteArray.mk #[116, 104, 101, 110]).toList false = aheadM T (p + 1) wIf wThen false) := by
    unfold Hid
    rw [show (ByteArray.mk #[105, 102]).toList = wIf from toList_mk _, show (ByteArray.mk #[116, 104, 101, 110]).toList = wThen from toList_mk _]
  rw [hq.out]
  generalize aheadM T (p + 1) wIf wThen false = ah at d1 d2 hgo ⊢
  clear hah hq
  go_wp2
  exact (unhide hgo) _ (by omega)

set_option maxRecDepth 100000 in
set_option maxHeartbeats 1600000 in
theorem word_repeat (h : RmIs w P b M) (hok : M.Ok) (hT : ToksIs w v T) (hv : ∀ k, v.ownBlock = some k → P k) (hl : T.length ≤ 100000) (hp : p < T.length) (hw : wAt T p = wRepeat) :
    Calls Tryz.prog 46 #[.pointer (some ⟨b, 0, none⟩), v, .int .i64 p] w (Step2Post P b (((backM T p + 1 : Nat) : Int), M.pass) w) := by
  have hpass := hide (pass_any h hok)
  generalize M.pass = r at hpass ⊢
  have HT := hide hT
  have HV := hide hv
  have post : Hid (∀ w1 (n : Int), n = ((backM T p + 1 : Nat) : Int) → RmIs w1 P b r.2 → Kept P w w1 → Step2Post P b (((backM T p + 1 : Nat) : Int), r) w (.returned (.tuple #[.int .i64 n, .int .i64 r.1])) w1) := fun w1 n hn a1 a2 => ⟨by rw [hn], a1, a2⟩
  unfold StepPost at hpass
  generalize Step2Post P b (((backM T p + 1 : Nat) : Int), r) w = QQ at post ⊢
  have d1 : backM T p ≤ p := backL_le T p 0
  unfold wRepeat at hw
  obtain ⟨f, cp, rfl, hflt, c0⟩ := tok_at hT hp hw
  clear hT hw h hok hv
  go_enter Tryz.func46, Tryz.ntmps46
  go_wp2_with fail
  refine (unhide hpass).mono ?_
  rintro e w1 ⟨rfl, h1, k1⟩
  have hT1 := hide (HT.out.kept k1 HV.out)
  have hah := hide (back_any w1 _ T hT1.out p (by omega) hl)
  have hgo := hide (fun n hn => post.out w1 n hn h1 k1)
  clear h1 k1 hT1 hpass post
  generalize backM T p = ah at d1 hgo hah
  go_wp2_with fail
  refine (unhide hah).mono ?_
  rintro e w2 ⟨rfl, rfl⟩
  clear hah
  go_wp2
  exact (unhide hgo) _ (by omega)

set_option maxRecDepth 100000 in
set_option maxHeartbeats 1600000 in
theorem word_ret (h : RmIs w P b M) (hok : M.Ok) (hT : ToksIs w v T) (hl : T.length ≤ 100000) (hp : p < T.length) (hw : wAt T p = wExit ∨ wAt T p = [59]) :
    Calls Tryz.prog 46 #[.pointer (some ⟨b, 0, none⟩), v, .int .i64 p] w (Step2Post P b M.ret w) := by
  have hdec := hide (ret_any h hok)
  generalize M.ret = r at hdec ⊢
  have post : Hid (∀ w1, RmIs w1 P b r.2.2 → Kept P w w1 → Step2Post P b r w (.returned (.tuple #[.int .i64 r.1, .int .i64 r.2.1])) w1) := fun w1 a1 a2 => ⟨rfl, a1, a2⟩
  unfold Step2Post at hdec
  generalize Step2Post P b r w = QQ at post ⊢
  clear h hok
  unfold wExit at hw
  rcases hw with hw | hw
  all_goals
    obtain ⟨f, cp, rfl, hflt, c0⟩ := tok_at hT hp hw
    clear hT hw
    go_enter Tryz.func46, Tryz.ntmps46
    go_wp2_with fail
    refine (unhide hdec).mono ?_
    rintro e w1 ⟨rfl, h1, k1⟩
    have hfin := hide (post.out w1 h1 k1)
    clear h1 k1 hdec
    go_wp2
    exact hfin.out

set_option maxRecDepth 100000 in
set_option maxHeartbeats 1600000 in
theorem word_rec (h : RmIs w P b M) (hok : M.Ok) (hT : ToksIs w v T) (hv : ∀ k, v.ownBlock = some k → P k) (hl : T.length ≤ 100000) (hp : p < T.length) (hw : wAt T p = wRec) :
    Calls Tryz.prog 46 #[.pointer (some ⟨b, 0, none⟩), v, .int .i64 p] w (Step2Post P b ((outerM T p : Nat), M.call ((p : Int) + 1)) w) := by
  have hpass := hide (call_any h hok ((p : Int) + 1))
  generalize M.call ((p : Int) + 1) = r at hpass ⊢
  have HT := hide hT
  have HV := hide hv
  have post : Hid (∀ w1, RmIs w1 P b r.2 → Kept P w w1 → Step2Post P b ((outerM T p : Nat), r) w (.returned (.tuple #[.int .i64 (outerM T p : Nat), .int .i64 r.1])) w1) := fun w1 a1 a2 => ⟨rfl, a1, a2⟩
  unfold StepPost at hpass
  generalize Step2Post P b ((outerM T p : Nat), r) w = QQ at post ⊢
  unfold wRec at hw
  obtain ⟨f, cp, rfl, hflt, c0⟩ := tok_at hT hp hw
  clear hT hw h hok hv
  go_enter Tryz.func46, Tryz.ntmps46
  go_wp2_with fail
  refine (unhide hpass).mono ?_
  rintro e w1 ⟨rfl, h1, k1⟩
  have hT1 := hide (HT.out.kept k1 HV.out)
  have hah := hide (outer_any w1 _ T hT1.out p (by omega) hl)
  have hgo := hide (post.out w1 h1 k1)
  clear h1 k1 hT1 hpass post
  generalize outerM T p = ah at hgo hah
  go_wp2_with fail
  refine (unhide hah).mono ?_
  rintro e w2 ⟨rfl, rfl⟩
  clear hah
  go_wp2
  exact hgo.out
end
end Go.Proofs.YtnanjomnldfidabGreatDoor

set_option linter.unusedSimpArgs false
set_option linter.unusedVariables false
set_option linter.unusedSectionVars false
namespace Go.Proofs.YtnanjomnldfidabGreatDoor
open Go.RowKit

section
variable {w : World} {P : Nat → Prop} {b : Nat} {M : Ma} {v : Value} {T : Words} {p : Nat}

set_option maxRecDepth 100000 in
set_option maxHeartbeats 1600000 in
theorem word_name (h : RmIs w P b M) (hok : M.Ok) (hT : ToksIs w v T) (hl : T.length ≤ 100000) (hp : p < T.length) (hw : wAt T p ∉ formsL) (hm : 0 ≤ meaningM T p (wAt T p)) :
    Calls Tryz.prog 46 #[.pointer (some ⟨b, 0, none⟩), v, .int .i64 p] w (Step2Post P b (meaningM T p (wAt T p), M.call ((p : Int) + 1)) w) := by
  have hcall := hide (call_any h hok ((p : Int) + 1))
  have hmean := hide (fun s => meaning_any w v T hT p (by omega) hl s)
  obtain ⟨f, cp, rfl, hflt, c0, _⟩ := hT.cells hp
  obtain ⟨u, hu⟩ : ∃ u, u = (T.getD p (ByteArray.empty, 0)).1 := ⟨_, rfl⟩
  rw [← hu] at c0
  have HU : wAt T p = u.toList := by rw [hu]; rfl
  rw [HU] at hw hm ⊢
  clear HU hu hT
  generalize M.call ((p : Int) + 1) = r at hcall ⊢
  unfold StepPost at hcall
  have hmu := hide ((unhide hmean) u)
  generalize meaningM T p u.toList = m at hmu hm ⊢
  clear hmean
  have post : Hid (∀ w1, RmIs w1 P b r.2 → Kept P w w1 → Step2Post P b (m, r) w (.returned (.tuple #[.int .i64 m, .int .i64 r.1])) w1) := fun w1 a1 a2 => ⟨rfl, a1, a2⟩
  generalize Step2Post P b (m, r) w = QQ at post ⊢
  obtain ⟨h1, h2, h3, h4, h5, h6, h7, h8, h9, h10, h11⟩ := not_forms hw
  clear hw h hok
  go_enter Tryz.func46, Tryz.ntmps46
  go_wp2_with fail
  refine (unhide hmu).mono ?_
  rintro e w1 ⟨rfl, rfl⟩
  clear hmu
  go_wp2_with fail
  refine (unhide hcall).mono ?_
  rintro e w2 ⟨rfl, q1, q2⟩
  have hfin := hide (post.out w2 q1 q2)
  clear q1 q2 hcall
  go_wp2
  exact hfin.out

set_option maxRecDepth 100000 in
set_option maxHeartbeats 1600000 in
theorem word_listed (h : RmIs w P b M) (hok : M.Ok) (hT : ToksIs w v T) (hl : T.length ≤ 100000) (hp : p < T.length) (hw : wAt T p ∉ formsL) (hL : WordsAt w 1 listedL) (hm : ¬ 0 ≤ meaningM T p (wAt T p)) (hd : 0 ≤ listRef (wAt T p)) :
    Calls Tryz.prog 46 #[.pointer (some ⟨b, 0, none⟩), v, .int .i64 p] w (Step2Post P b ((p : Int) + 1, M.doN (listRef (wAt T p))) w) := by
  have hcall := hide (do_any h hok (listRef (wAt T p)) hd (listRef_bd _))
  have hmean := hide (fun s => meaning_any w v T hT p (by omega) hl s)
  obtain ⟨f, cp, rfl, hflt, c0, _⟩ := hT.cells hp
  obtain ⟨u, hu⟩ : ∃ u, u = (T.getD p (ByteArray.empty, 0)).1 := ⟨_, rfl⟩
  rw [← hu] at c0
  have HU : wAt T p = u.toList := by rw [hu]; rfl
  have hli := hide (refListed_any u w hL)
  rw [HU] at hw hm hd hcall ⊢
  clear HU hu hT hL
  have hmu := hide ((unhide hmean) u)
  generalize meaningM T p u.toList = m at hmu hm
  generalize listRef u.toList = n at hli hd hcall ⊢
  generalize M.doN n = r at hcall ⊢
  unfold StepPost at hcall
  clear hmean
  have post : Hid (∀ w1, RmIs w1 P b r.2 → Kept P w w1 → Step2Post P b ((p : Int) + 1, r) w (.returned (.tuple #[.int .i64 ((p : Int) + 1), .int .i64 r.1])) w1) := fun w1 a1 a2 => ⟨rfl, a1, a2⟩
  generalize Step2Post P b ((p : Int) + 1, r) w = QQ at post ⊢
  obtain ⟨h1, h2, h3, h4, h5, h6, h7, h8, h9, h10, h11⟩ := not_forms hw
  clear hw h hok
  go_enter Tryz.func46, Tryz.ntmps46
  go_wp2_with fail
  refine (unhide hmu).mono ?_
  rintro e w1 ⟨rfl, rfl⟩
  clear hmu
  go_wp2_with fail
  refine (unhide hli).mono ?_
  rintro e w1 ⟨rfl, rfl⟩
  clear hli
  go_wp2_with fail
  refine (unhide hcall).mono ?_
  rintro e w2 ⟨rfl, q1, q2⟩
  have hfin := hide (post.out w2 q1 q2)
  clear q1 q2 hcall
  go_wp2
  exact hfin.out

set_option maxRecDepth 100000 in
set_option maxHeartbeats 1600000 in
theorem word_number (h : RmIs w P b M) (hok : M.Ok) (hT : ToksIs w v T) (hl : T.length ≤ 100000) (hp : p < T.length) (hsz : ((T.getD p (ByteArray.empty, 0)).1).size ≤ maxLen) (hw : wAt T p ∉ formsL) (hL : WordsAt w 1 listedL) (hm : ¬ 0 ≤ meaningM T p (wAt T p)) (hd : ¬ 0 ≤ listRef (wAt T p)) :
    Calls Tryz.prog 46 #[.pointer (some ⟨b, 0, none⟩), v, .int .i64 p] w (Step2Post P b ((p : Int) + 1, M.number (refVal (wAt T p))) w) := by
  have hcall := hide (number_any h hok (refVal (wAt T p)))
  have hmean := hide (fun s => meaning_any w v T hT p (by omega) hl s)
  obtain ⟨f, cp, rfl, hflt, c0, _⟩ := hT.cells hp
  obtain ⟨u, hu⟩ : ∃ u, u = (T.getD p (ByteArray.empty, 0)).1 := ⟨_, rfl⟩
  rw [← hu] at c0 hsz
  have HU : wAt T p = u.toList := by rw [hu]; rfl
  have hli := hide (refListed_any u w hL)
  have hva := hide (refValue_any u w hsz)
  rw [HU] at hw hm hd hcall ⊢
  clear HU hu hT hL
  have hmu := hide ((unhide hmean) u)
  generalize meaningM T p u.toList = m at hmu hm
  generalize listRef u.toList = n at hli hd
  generalize refVal u.toList = x at hva hcall ⊢
  generalize M.number x = r at hcall ⊢
  unfold StepPost at hcall
  clear hmean
  have post : Hid (∀ w1, RmIs w1 P b r.2 → Kept P w w1 → Step2Post P b ((p : Int) + 1, r) w (.returned (.tuple #[.int .i64 ((p : Int) + 1), .int .i64 r.1])) w1) := fun w1 a1 a2 => ⟨rfl, a1, a2⟩
  generalize Step2Post P b ((p : Int) + 1, r) w = QQ at post ⊢
  obtain ⟨h1, h2, h3, h4, h5, h6, h7, h8, h9, h10, h11⟩ := not_forms hw
  clear hw h hok
  go_enter Tryz.func46, Tryz.ntmps46
  go_wp2_with fail
  refine (unhide hmu).mono ?_
  rintro e w1 ⟨rfl, rfl⟩
  clear hmu
  go_wp2_with fail
  refine (unhide hli).mono ?_
  rintro e w1 ⟨rfl, rfl⟩
  clear hli
  go_wp2_with (first | (go_at_call 32; refine (unhide hva).mono ?_; rintro e w1 ⟨rfl, rfl⟩) | (go_at_call 72; refine (unhide hcall).mono ?_; rintro e w2 ⟨rfl, q1, q2⟩; have hfin := hide (post.out w2 q1 q2); clear q1 q2))
  exact hfin.out

theorem refWord_any (h : RmIs w P b M) (hok : M.Ok) (hT : ToksIs w v T) (hv : ∀ k, v.ownBlock = some k → P k) (hl : T.length ≤ 100000) (hp : p < T.length) (hsz : ((T.getD p (ByteArray.empty, 0)).1).size ≤ maxLen) (hL : WordsAt w 1 listedL) :
    Calls Tryz.prog 46 #[.pointer (some ⟨b, 0, none⟩), v, .int .i64 p] w (Step2Post P b (wordM T p M) w) := by
  unfold wordM
  by_cases q1 : wAt T p = [58]
  · rw [if_pos q1]; exact word_colon h hT hl hp q1
  rw [if_neg q1]
  by_cases q2 : wAt T p = wThen ∨ wAt T p = wBegin
  · rw [if_pos q2]; exact word_free h hT hl hp q2
  rw [if_neg q2]
  by_cases q3 : wAt T p = wIf ∨ wAt T p = wWhile ∨ wAt T p = wUntil
  · rw [if_pos q3]; exact word_decide h hok hT hv hl hp q3
  rw [if_neg q3]
  by_cases q4 : wAt T p = wElse
  · rw [if_pos q4]; exact word_else h hok hT hv hl hp q4
  rw [if_neg q4]
  by_cases q5 : wAt T p = wRepeat
  · rw [if_pos q5]; exact word_repeat h hok hT hv hl hp q5
  rw [if_neg q5]
  by_cases q6 : wAt T p = wExit ∨ wAt T p = [59]
  · rw [if_pos q6]; exact word_ret h hok hT hl hp q6
  rw [if_neg q6]
  by_cases q7 : wAt T p = wRec
  · rw [if_pos q7]; exact word_rec h hok hT hv hl hp q7
  rw [if_neg q7]
  have hw : wAt T p ∉ formsL := by
    simp only [not_or] at q2 q3 q6
    simp only [formsL, List.mem_cons, List.not_mem_nil, or_false, not_or]
    exact ⟨q3.1, q4, q2.1, q2.2, q3.2.2, q3.2.1, q5, q6.1, q7, q1, q6.2⟩
  by_cases q8 : 0 ≤ meaningM T p (wAt T p)
  · rw [if_pos q8]; exact word_name h hok hT hl hp hw q8
  rw [if_neg q8]
  by_cases q9 : 0 ≤ listRef (wAt T p)
  · rw [if_pos q9]; exact word_listed h hok hT hl hp hw hL q8 q9
  rw [if_neg q9]
  exact word_number h hok hT hl hp hsz hw hL q8 q9
end
end Go.Proofs.YtnanjomnldfidabGreatDoor

set_option linter.unusedSimpArgs false
set_option linter.unusedVariables false
set_option linter.unusedSectionVars false
namespace Go.Proofs.YtnanjomnldfidabGreatDoor
open Go.RowKit

/-- What a run keeps: the walk's needs, in plain words. -/
structure RunInv (T : Words) (Inv : Nat → Ma → Prop) : Prop where
  ok : ∀ p M, Inv p M → M.Ok
  next : ∀ p M, Inv p M → p < T.length → (wordM T p M).2.1 = 0 → 0 ≤ (wordM T p M).1 ∧ Inv (wordM T p M).1.toNat (wordM T p M).2.2
  used : ∀ p M, Inv p M → p < T.length → (wordM T p M).2.1 = 0 → M.used + 1 ≤ (wordM T p M).2.2.used ∨ ((wordM T p M).2.2.used = M.used ∧ (p : Int) + 1 ≤ (wordM T p M).1)
set_option maxRecDepth 100000 in
set_option maxHeartbeats 3200000 in
theorem refRun_err (s inp image : ByteArray) (kernel secret rights fuel : Int) (w : World) (P : Nat → Prop) (hP : ∀ k, P k → k < w.heap.size) (hs : s.size ≤ maxLen) (hF : WordsAt w 0 formsL) (hL : WordsAt w 1 listedL) (hPF : P 0) (hPL : P 1) (he : (refCheckM s).1 ≠ 0) :
    Calls Tryz.prog 28 #[.string s, .string inp, .string image, .int .i64 kernel, .int .i64 secret, .int .i64 rights, .int .i64 fuel] w (RunPost P (errCells (refCheckM s).1) w) := by
  obtain ⟨r, hr⟩ : ∃ r, r = refCheckM s := ⟨_, rfl⟩
  obtain ⟨w0, hw0⟩ : ∃ w0, w0 = w.alloc (.cells #[.string ⟨#[]⟩, .string ⟨#[]⟩, .int .i64 0, .int .i64 0, .int .i64 0] 74) := ⟨_, rfl⟩
  have hk0 : Kept P w w0 := by rw [hw0]; exact (Kept.refl P w).alloc _
  have hbox : w0.heap[w.heap.size]? = some (.cells #[.string ⟨#[]⟩, .string ⟨#[]⟩, .int .i64 0, .int .i64 0, .int .i64 0] 74 (0, 0)) := by rw [hw0]; exact heap_alloc_new w _
  have hsz0 : w0.heap.size = w.heap.size + 1 := by rw [hw0]; simp
  have hck := hide (refCheck_any s w0 (fun k => P k ∨ k = w.heap.size) (fun k hk => by rcases hk with hk | hk; · have := hP k hk; omega
                                                                                       · omega) hs (hF.kept hk0 (hP _ hPF) hPF) (hL.kept hk0 (hP _ hPL) hPL) (.inl hPF) (.inl hPL))
  rw [← hr] at hck he ⊢
  have hb1 : (r.1 == 0) = false := by simpa using he
  have hb2 : (r.1 != 0) = true := by simpa using he
  have HP := hide hP
  have HK := hide hk0
  have HB := hide hbox
  clear hr hP hF hL he hk0 hbox
  go_enter Tryz.func28, Tryz.ntmps28
  go_wp2_with fail
  rw [show w.alloc (.cells #[.string ⟨#[]⟩, .string ⟨#[]⟩, .int .i64 0, .int .i64 0, .int .i64 0] 74) = w0 from hw0.symm]
  refine (unhide hck).mono ?_
  rintro e w1 ⟨rfl, k1⟩
  have hbox1 := k1.at' HB.out (.inr rfl)
  have hfin : Hid ((set5 w1 w.heap.size (.string ⟨#[]⟩) (.string ⟨#[]⟩) (.int .i64 0) (.int .i64 0) (.int .i64 r.1)).heap[w.heap.size]? = some (.cells #[.string ⟨#[]⟩, .string ⟨#[]⟩, .int .i64 0, .int .i64 0, .int .i64 r.1] 74 (0, 0)) ∧ Kept P w (set5 w1 w.heap.size (.string ⟨#[]⟩) (.string ⟨#[]⟩) (.int .i64 0) (.int .i64 0) (.int .i64 r.1))) :=
    ⟨set5_box hbox1 _ _ _ _ _, (HK.out.trans (k1.mono fun k hk => .inl hk)).trans (set5_kept (show ¬ P w.heap.size from fun hp => by have := HP.out _ hp; omega) _ _ _ _ _)⟩
  have hlt1 := lt_of_block hbox1
  obtain ⟨⟨c0, c1, c2, c3, c4⟩, fr⟩ := set5_cells hbox1
  have f0 := fr 0
  have f1 := fr 1
  have f2 := fr 2
  have f3 := fr 3
  have f4 := fr 4
  clear hck k1 HB HK HP hw0 hbox1 fr
  unfold set5 at hfin
  go_wp2
  obtain ⟨hb5, hk5⟩ := hfin.out
  obtain ⟨⟨d0, d1, d2, d3, d4⟩, _⟩ := set5_cells hb5
  refine bodyPost_ret (v := .agg (errCells r.1)) ?_ rfl ⟨rfl, hk5⟩
  clear c0 c1 c2 c3 c4 hfin hb5 hk5 f0 f1 f2 f3 f4
  revert d0 d1 d2 d3 d4
  generalize World.setCell _ _ _ = W2
  intro d0 d1 d2 d3 d4
  simp [results, Tryz.results28, go_sem, d0, d1, d2, d3, d4, errCells]

set_option maxRecDepth 100000 in
set_option maxHeartbeats 3200000 in
theorem refRun_long (s inp image : ByteArray) (kernel secret rights fuel : Int) (w : World) (P : Nat → Prop) (hP : ∀ k, P k → k < w.heap.size) (hs : s.size ≤ maxLen) (hsi : image.size ≤ maxLen) (hF : WordsAt w 0 formsL) (hL : WordsAt w 1 listedL) (hPF : P 0) (hPL : P 1) (he : (refCheckM s).1 = 0) (hlim : 256 < image.size ∨ 10000 < fuel) :
    Calls Tryz.prog 28 #[.string s, .string inp, .string image, .int .i64 kernel, .int .i64 secret, .int .i64 rights, .int .i64 fuel] w (RunPost P (errCells 1) w) := by
  obtain ⟨r, hr⟩ : ∃ r, r = refCheckM s := ⟨_, rfl⟩
  obtain ⟨w0, hw0⟩ : ∃ w0, w0 = w.alloc (.cells #[.string ⟨#[]⟩, .string ⟨#[]⟩, .int .i64 0, .int .i64 0, .int .i64 0] 74) := ⟨_, rfl⟩
  have hk0 : Kept P w w0 := by rw [hw0]; exact (Kept.refl P w).alloc _
  have hbox : w0.heap[w.heap.size]? = some (.cells #[.string ⟨#[]⟩, .string ⟨#[]⟩, .int .i64 0, .int .i64 0, .int .i64 0] 74 (0, 0)) := by rw [hw0]; exact heap_alloc_new w _
  have hsz0 : w0.heap.size = w.heap.size + 1 := by rw [hw0]; simp
  have hck := hide (refCheck_any s w0 (fun k => P k ∨ k = w.heap.size) (fun k hk => by rcases hk with hk | hk; · have := hP k hk; omega
                                                                                       · omega) hs (hF.kept hk0 (hP _ hPF) hPF) (hL.kept hk0 (hP _ hPL) hPL) (.inl hPF) (.inl hPL))
  have hlm := hide (fun w' => limits_any image fuel w' hsi)
  rw [if_pos hlim] at hlm
  rw [← hr] at hck he
  have hb1 : (r.1 == 0) = true := by simpa using he
  have HP := hide hP
  have HK := hide hk0
  have HB := hide hbox
  clear hr hP hF hL he hk0 hbox hlim
  go_enter Tryz.func28, Tryz.ntmps28
  go_wp2_with fail
  rw [show w.alloc (.cells #[.string ⟨#[]⟩, .string ⟨#[]⟩, .int .i64 0, .int .i64 0, .int .i64 0] 74) = w0 from hw0.symm]
  refine (unhide hck).mono ?_
  rintro e w1 ⟨rfl, k1⟩
  have hbox1 := k1.at' HB.out (.inr rfl)
  have hfin : Hid ((set5 w1 w.heap.size (.string ⟨#[]⟩) (.string ⟨#[]⟩) (.int .i64 0) (.int .i64 0) (.int .i64 1)).heap[w.heap.size]? = some (.cells #[.string ⟨#[]⟩, .string ⟨#[]⟩, .int .i64 0, .int .i64 0, .int .i64 1] 74 (0, 0)) ∧ Kept P w (set5 w1 w.heap.size (.string ⟨#[]⟩) (.string ⟨#[]⟩) (.int .i64 0) (.int .i64 0) (.int .i64 1))) :=
    ⟨set5_box hbox1 _ _ _ _ _, (HK.out.trans (k1.mono fun k hk => .inl hk)).trans (set5_kept (show ¬ P w.heap.size from fun hp => by have := HP.out _ hp; omega) _ _ _ _ _)⟩
  have hlt1 := lt_of_block hbox1
  obtain ⟨⟨c0, c1, c2, c3, c4⟩, fr⟩ := set5_cells hbox1
  have f0 := fr 0
  have f1 := fr 1
  have f2 := fr 2
  have f3 := fr 3
  have f4 := fr 4
  clear hck k1 HB HK HP hw0 hbox1 fr
  unfold set5 at hfin
  go_wp2_with (go_at_call 44; refine ((unhide hlm) _).mono ?_; rintro e w2 ⟨rfl, rfl⟩)
  obtain ⟨hb5, hk5⟩ := hfin.out
  obtain ⟨⟨d0, d1, d2, d3, d4⟩, _⟩ := set5_cells hb5
  refine bodyPost_ret (v := .agg (errCells 1)) ?_ rfl ⟨rfl, hk5⟩
  clear c0 c1 c2 c3 c4 hfin hb5 hk5 f0 f1 f2 f3 f4
  revert d0 d1 d2 d3 d4
  generalize World.setCell _ _ _ = W2
  intro d0 d1 d2 d3 d4
  simp [results, Tryz.results28, go_sem, d0, d1, d2, d3, d4, errCells]
end Go.Proofs.YtnanjomnldfidabGreatDoor

set_option linter.unusedSimpArgs false
set_option linter.unusedVariables false
set_option linter.unusedSectionVars false
namespace Go.Proofs.YtnanjomnldfidabGreatDoor
open Go.RowKit

def runFuel (T : Words) : Nat := measN T.length 0 0
set_option maxRecDepth 100000 in
set_option maxHeartbeats 6400000 in
theorem refRun_ok (s inp image : ByteArray) (kernel secret rights fuel : Int) (w : World) (P : Nat → Prop) (hP : ∀ k, P k → k < w.heap.size) (hs : s.size ≤ 400) (hsi : image.size ≤ 256) (hfu : fuel ≤ 10000) (hF : WordsAt w 0 formsL) (hL : WordsAt w 1 listedL) (hPF : P 0) (hPL : P 1) (he : (refCheckM s).1 = 0)
    (Inv : Nat → Ma → Prop) (hI : RunInv (toksFrom s 0) Inv) (hI0 : Inv 0 (Ma.start inp image.toList kernel secret rights fuel)) (N : Nat) (hN : runFuel (toksFrom s 0) ≤ N) :
    Calls Tryz.prog 28 #[.string s, .string inp, .string image, .int .i64 kernel, .int .i64 secret, .int .i64 rights, .int .i64 fuel] w
      (RunPost P (resCells (runW (toksFrom s 0) N 0 (Ma.start inp image.toList kernel secret rights fuel)).2 (runW (toksFrom s 0) N 0 (Ma.start inp image.toList kernel secret rights fuel)).1) w) := by
  obtain ⟨r, hr⟩ : ∃ r, r = refCheckM s := ⟨_, rfl⟩
  obtain ⟨w0, hw0⟩ : ∃ w0, w0 = w.alloc (.cells #[.string ⟨#[]⟩, .string ⟨#[]⟩, .int .i64 0, .int .i64 0, .int .i64 0] 74) := ⟨_, rfl⟩
  have hk0 : Kept P w w0 := by rw [hw0]; exact (Kept.refl P w).alloc _
  have hbox : w0.heap[w.heap.size]? = some (.cells #[.string ⟨#[]⟩, .string ⟨#[]⟩, .int .i64 0, .int .i64 0, .int .i64 0] 74 (0, 0)) := by rw [hw0]; exact heap_alloc_new w _
  have hsz0 : w0.heap.size = w.heap.size + 1 := by rw [hw0]; simp
  obtain ⟨P1, hP1⟩ : ∃ P1 : Nat → Prop, P1 = fun k => P k ∨ k = w.heap.size := ⟨_, rfl⟩
  have hP1b : ∀ k, P1 k → k < w0.heap.size := by
    intro k hk
    rw [hP1] at hk
    rcases hk with hk | hk
    · have := hP k hk; omega
    · omega
  have hP1i : Hid (∀ k, P k → P1 k) := by intro k hk; rw [hP1]; exact .inl hk
  have hP1r : Hid (P1 w.heap.size) := by unfold Hid; rw [hP1]; exact .inr rfl
  have hck := hide (refCheck_any s w0 P1 hP1b (Nat.le_trans hs (by decide)) (hF.kept hk0 (hP _ hPF) hPF) (hL.kept hk0 (hP _ hPL) hPL) (hP1i.out _ hPF) (hP1i.out _ hPL))
  have hlm := hide (fun w' => limits_any image fuel w' (Nat.le_trans hsi (by decide)))
  rw [if_neg (fun h => by omega)] at hlm
  have HL : Hid (∀ w', Kept P1 w0 w' → WordsAt w' 1 listedL) := fun w' hk => (hL.kept hk0 (hP _ hPL) hPL).kept hk (Nat.lt_of_lt_of_le (hP _ hPL) hk0.size) (hP1i.out _ hPL)
  rw [← hr] at hck he
  have hb1 : (r.1 == 0) = true := by simpa using he
  have htl := toks_length s
  have HZ := hide (fun k => toks_size s k)
  have HSp := hide (fun w' (h : ∀ k, P1 k → k < w'.heap.size) => split_any s w' P1 h (by omega))
  obtain ⟨M0, hM0⟩ : ∃ M0, M0 = Ma.start inp image.toList kernel secret rights fuel := ⟨_, rfl⟩
  have HNm := hide (fun w' Q hq => newMach_any inp image kernel secret rights fuel w' Q hq hsi)
  rw [← hM0] at hI0 HNm ⊢
  obtain ⟨T, hT⟩ : ∃ T, T = toksFrom s 0 := ⟨_, rfl⟩
  rw [← hT] at hI hN htl HZ HSp ⊢
  have hu0 : Hid (M0.used = 0) := by rw [hM0]; rfl
  have HP := hide hP
  have HK := hide hk0
  have HB := hide hbox
  have HP1b := hide hP1b
  have HI := hide hI
  have HI0 := hide hI0
  have HN := hide hN
  clear hr hP hF hL he hk0 hbox hP1b hT hM0 hI hI0 hN
  go_enter Tryz.func28, Tryz.ntmps28
  go_wp2_with fail
  rw [show w.alloc (.cells #[.string ⟨#[]⟩, .string ⟨#[]⟩, .int .i64 0, .int .i64 0, .int .i64 0] 74) = w0 from hw0.symm]
  refine (unhide hck).mono ?_
  rintro e w1 ⟨rfl, k1⟩
  have K1 := hide k1
  clear k1 hck
  go_wp2_with fail
  refine ((unhide hlm) _).mono ?_
  rintro e w2 ⟨rfl, rfl⟩
  clear hlm
  go_wp2_with fail
  refine ((unhide HSp) _ (fun k hk => Nat.lt_of_lt_of_le (HP1b.out k hk) (unhide K1).size)).mono ?_
  rintro e w3 ⟨v, rfl, hrow, hbd, k3⟩
  obtain ⟨va, vc, hv⟩ := own_slice hrow.own
  rw [hv] at hrow
  rw [hv]
  clear hv
  obtain ⟨P2, hP2⟩ : ∃ P2 : Nat → Prop, P2 = fun k => P1 k ∨ (Value.slice va T.length vc).ownBlock = some k := ⟨_, rfl⟩
  have hP2i : Hid (∀ k, P1 k → P2 k) := by intro k hk; rw [hP2]; exact .inl hk
  have hP2t : Hid (∀ k, (Value.slice va T.length vc).ownBlock = some k → P2 k) := by intro k hk; rw [hP2]; exact .inr hk
  have hP2b : Hid (∀ k, P2 k → k < w3.heap.size) := by
    intro k hk; rw [hP2] at hk
    rcases hk with hk | hk
    · exact hbd k hk
    · exact hrow.lt hk
  have hTk : Hid (ToksIs w3 (.slice va T.length vc) T) := hrow.own
  have K3 : Hid (Kept P1 w0 w3) := (unhide K1).trans k3
  clear hP2 hrow hbd k3 K1 HSp HP1b
  go_wp2_with fail
  refine ((unhide HNm) w3 P2 hP2b.out).mono ?_
  rintro e w4 ⟨rfl, hm4, k4⟩
  have K4 := hide k4
  have HM4 := hide hm4
  clear k4 hm4 HNm hw0
  have hfinal : Hid (∀ wr M n, RmIs wr P2 w3.heap.size M → Kept P2 w4 wr → Calls Tryz.prog 47 #[.pointer (some ⟨w3.heap.size, 0, none⟩), .int .i64 n] wr fun e w' => e = .returned (.agg (resCells M n)) ∧ ((w'.heap[w.heap.size]? = some (.cells #[.string ⟨#[]⟩, .string ⟨#[]⟩, .int .i64 0, .int .i64 0, .int .i64 0] 74 (0, 0)) ∧ w.heap.size < w'.heap.size) ∧ ∀ a b c d e, Kept P w (set5 w' w.heap.size a b c d e))) := by
    intro wr M n hm hk
    refine (end_any hm n).mono ?_
    rintro e w' ⟨he, hk'⟩
    have hkk : Kept P1 w0 w' := K3.out.trans (((K4.out.trans hk).trans hk').mono hP2i.out)
    have hb' := hkk.at' HB.out hP1r.out
    exact ⟨he, ⟨hb', lt_of_block hb'⟩, fun a b c d e => (HK.out.trans (hkk.mono hP1i.out)).trans (set5_kept (fun hp => by have := HP.out _ hp; omega) a b c d e)⟩
  go_wp2
  go_loopw [19] (fun i wr => ∃ (p : Nat) (M : Ma) (n : Nat), i = .int .i64 p ∧ RmIs wr P2 w3.heap.size M ∧ Kept P2 w4 wr ∧ Hid (Inv p M) ∧ Hid (measN T.length M.used p ≤ n) ∧ Hid (runW T n p M = runW T N 0 M0)) (fun i wr => measN T.length (usedOf wr w3.heap.size) (intOf i).toNat)
  case atStart => exact ⟨0, M0, N, rfl, HM4.out, Kept.refl _ _, HI0, by unfold Hid; rw [hu0.out]; exact HN.out, rfl⟩
  case round =>
    obtain ⟨p, M, n, rfl, hm, hk, hinv, hms, hrun⟩ := hrel
    have hok := (unhide HI).ok p M hinv.out
    by_cases hlt : p < T.length
    · have hTr := (unhide hTk).kept ((unhide K4).trans hk) hP2t.out
      have hLr := HL.out wr (K3.out.trans (((unhide K4).trans hk).mono hP2i.out))
      have hw := hide (refWord_any hm hok hTr hP2t.out (by omega) hlt (Nat.le_trans (HZ.out p) (Nat.le_trans hs (by decide))) hLr)
      have hnx := hide ((unhide HI).next p M hinv.out hlt)
      have hus := hide ((unhide HI).used p M hinv.out hlt)
      obtain ⟨q, hq⟩ : ∃ q, q = wordM T p M := ⟨_, rfl⟩
      have HQ := hide hq
      rw [← hq] at hw hnx hus
      obtain ⟨n', hn'⟩ : ∃ n', n = n' + 1 := by
        refine ⟨n - 1, ?_⟩
        have := hms.out
        unfold measN at this
        have o3 := hok.used'
        have : 1 ≤ (10001 - M.used).toNat * (T.length + 2) := Nat.mul_pos (by omega) (by omega)
        omega
      subst hn'
      have o2 := hok.used
      have o3 := hok.used'
      clear hTr hLr hok hq
      by_cases h0 : q.2.1 = 0
      · have hb0 : (q.2.1 != 0) = false := by rw [h0]; rfl
        obtain ⟨g1, g2⟩ := (unhide hnx) h0
        have g3 := (unhide hus) h0
        have hok2 := (unhide HI).ok _ _ g2
        obtain ⟨x, hx⟩ := Int.eq_ofNat_of_zero_le g1
        have hrun2 : Hid (runW T n' x q.2.2 = runW T N 0 M0) := by
          have := runW_on T n' p M hlt (by rw [← HQ.out]; exact h0)
          rw [← HQ.out, hx, Int.toNat_natCast] at this
          unfold Hid; rw [← this]; exact hrun.out
        have hmeas : measN T.length q.2.2.used x < measN T.length M.used p := measN_lt _ _ _ _ _ hok2.used hok2.used' o3 hlt (g3.imp id fun g => ⟨g.1, by omega⟩)
        have hinv2 : Hid (Inv x q.2.2) := by rw [hx, Int.toNat_natCast] at g2; exact g2
        have hmu := hide (usedOf_is hm)
        have HME := hide hmeas
        have hms2 : Hid (measN T.length q.2.2.used x ≤ n') := by have := hms.out; unfold Hid; omega
        clear g1 g2 g3 hok2 hnx hus h0 hrun hinv hm hmeas
        go_wp2_with fail
        refine (unhide hw).mono ?_
        rintro e w5 ⟨rfl, hm5, k5⟩
        rw [hx]
        go_wp2
        go_roundw
        case rel => exact ⟨x, q.2.2, n', rfl, hm5, hk.trans k5, hinv2, hms2, hrun2⟩
        case measure =>
          rw [usedOf_is hm5, hmu.out]
          exact HME.out
      · have hb0 : (q.2.1 != 0) = true := bne_iff_ne.2 h0
        have hrun2 : Hid (runW T N 0 M0 = (q.2.1, q.2.2)) := by
          have := runW_err T n' p M hlt (by rw [← HQ.out]; exact h0)
          unfold Hid; rw [← hrun.out, this, ← HQ.out]
        clear hnx hus h0 hrun hm
        go_wp2_with fail
        refine (unhide hw).mono ?_
        rintro e w5 ⟨rfl, hm5, k5⟩
        have hend := hide (hfinal.out w5 q.2.2 q.2.1 hm5 (hk.trans k5))
        clear hm5 k5 hw
        unfold resCells at hend
        go_wp2_with fail
        refine (unhide hend).mono ?_
        rintro e w6 ⟨rfl, ⟨hb6, hlt6⟩, hk6⟩
        have hfin : Hid ((set5 w6 w.heap.size (.string (mkB q.2.2.out)) (.string (mkB q.2.2.image)) (.int .i64 q.2.2.mark) (.int .i64 q.2.2.used) (.int .i64 q.2.1)).heap[w.heap.size]? = some (.cells #[.string (mkB q.2.2.out), .string (mkB q.2.2.image), .int .i64 q.2.2.mark, .int .i64 q.2.2.used, .int .i64 q.2.1] 74 (0, 0)) ∧ Kept P w (set5 w6 w.heap.size (.string (mkB q.2.2.out)) (.string (mkB q.2.2.image)) (.int .i64 q.2.2.mark) (.int .i64 q.2.2.used) (.int .i64 q.2.1))) :=
          ⟨set5_box hb6 _ _ _ _ _, hk6 _ _ _ _ _⟩
        obtain ⟨⟨c0, c1, c2, c3, c4⟩, fr⟩ := set5_cells hb6
        have f0 := fr 0
        have f1 := fr 1
        have f2 := fr 2
        have f3 := fr 3
        have f4 := fr 4
        clear hend hb6 hk6 fr
        unfold set5 at hfin
        go_wp2
        obtain ⟨hb5, hk5⟩ := hfin.out
        obtain ⟨⟨d0, d1, d2, d3, d4⟩, _⟩ := set5_cells hb5
        rw [hrun2.out]
        refine bodyPost_ret (v := .agg (resCells q.2.2 q.2.1)) ?_ rfl ⟨rfl, hk5⟩
        clear c0 c1 c2 c3 c4 hfin hb5 hk5 f0 f1 f2 f3 f4
        revert d0 d1 d2 d3 d4
        generalize World.setCell _ _ _ = W2
        intro d0 d1 d2 d3 d4
        simp [results, Tryz.results28, go_sem, d0, d1, d2, d3, d4, resCells]
    · have hrun2 : Hid (runW T N 0 M0 = (0, M)) := by unfold Hid; rw [← hrun.out, runW_end T n p M hlt]
      have hend := hide (hfinal.out wr M 0 hm hk)
      clear hm hk hrun hok hfinal
      unfold resCells at hend
      go_wp2_with fail
      refine (unhide hend).mono ?_
      rintro e w6 ⟨rfl, ⟨hb6, hlt6⟩, hk6⟩
      have hfin : Hid ((set5 w6 w.heap.size (.string (mkB M.out)) (.string (mkB M.image)) (.int .i64 M.mark) (.int .i64 M.used) (.int .i64 0)).heap[w.heap.size]? = some (.cells #[.string (mkB M.out), .string (mkB M.image), .int .i64 M.mark, .int .i64 M.used, .int .i64 0] 74 (0, 0)) ∧ Kept P w (set5 w6 w.heap.size (.string (mkB M.out)) (.string (mkB M.image)) (.int .i64 M.mark) (.int .i64 M.used) (.int .i64 0))) :=
        ⟨set5_box hb6 _ _ _ _ _, hk6 _ _ _ _ _⟩
      obtain ⟨⟨c0, c1, c2, c3, c4⟩, fr⟩ := set5_cells hb6
      have f0 := fr 0
      have f1 := fr 1
      have f2 := fr 2
      have f3 := fr 3
      have f4 := fr 4
      clear hend hb6 hk6 fr
      unfold set5 at hfin
      go_wp2
      obtain ⟨hb5, hk5⟩ := hfin.out
      obtain ⟨⟨d0, d1, d2, d3, d4⟩, _⟩ := set5_cells hb5
      rw [hrun2.out]
      refine bodyPost_ret (v := .agg (resCells M 0)) ?_ rfl ⟨rfl, hk5⟩
      clear c0 c1 c2 c3 c4 hfin hb5 hk5 f0 f1 f2 f3 f4
      revert d0 d1 d2 d3 d4
      generalize World.setCell _ _ _ = W2
      intro d0 d1 d2 d3 d4
      simp [results, Tryz.results28, go_sem, d0, d1, d2, d3, d4, resCells]
end Go.Proofs.YtnanjomnldfidabGreatDoor
