/-
  graderref's code: size, whole, operand, starts, Verify.
-/
import Derived.Test.YtnanjomnldfidaaDcVer
set_option linter.unusedSimpArgs false
set_option linter.unusedVariables false
set_option linter.unusedSectionVars false
namespace Go.Proofs.Ytnanjomnldfidaa
open Go.RowKit

set_option maxRecDepth 100000 in
set_option maxHeartbeats 800000 in
theorem refSize_any (c : Int) (h0 : 0 ≤ c) (h1 : c < 256) (w : World) : Calls Try.prog 31 #[.int .u8 c] w fun e w' => e = .returned (.int .i64 (szI c : Nat)) ∧ w' = w := by
  by_cases c1 : 1 ≤ c ∧ c ≤ 4
  · have hs : szI c = 3 := by
      have : c = 1 ∨ c = 2 ∨ c = 3 ∨ c = 4 := by omega
      unfold szI; rw [if_pos this]
    rw [hs]
    obtain ⟨a, b⟩ := c1
    go_enter Try.func31, Try.ntmps31
    go_wp2
    go_ret
    exact ⟨rfl, rfl⟩
  have hn : ¬ (c = 1 ∨ c = 2 ∨ c = 3 ∨ c = 4) := by omega
  by_cases c0 : c = 0
  · subst c0
    clear hn c1
    go_enter Try.func31, Try.ntmps31
    go_wp2
    go_ret
    exact ⟨rfl, rfl⟩
  by_cases c5 : c = 5
  · subst c5
    clear hn c1 c0
    go_enter Try.func31, Try.ntmps31
    go_wp2
    go_ret
    exact ⟨rfl, rfl⟩
  have b0 : (c == 0) = false := by simpa using c0
  have b5 : (c == 5) = false := by simpa using c5
  have h5 : 5 < c := by omega
  have h4 : ¬ c ≤ 4 := by omega
  have h11 : 1 ≤ c := by omega
  by_cases hr : 16 ≤ c ∧ c ≤ 34
  · have hs : szI c = 1 := by
      have : c = 0 ∨ c = 5 ∨ (16 ≤ c ∧ c ≤ 34) := by omega
      unfold szI; rw [if_neg hn, if_pos this]
    rw [hs]
    have r1 : 16 ≤ c := hr.1
    have r2 : c < 35 := by omega
    clear hn c1 c0 c5 hs hr
    go_enter Try.func31, Try.ntmps31
    go_wp2
    go_ret
    exact ⟨rfl, rfl⟩
  · have hs : szI c = 0 := by
      have : ¬ (c = 0 ∨ c = 5 ∨ (16 ≤ c ∧ c ≤ 34)) := by omega
      unfold szI; rw [if_neg hn, if_neg this]
    rw [hs]
    by_cases r1 : 16 ≤ c
    · have r2 : ¬ c < 35 := by omega
      clear hn c1 c0 c5 hs hr
      go_enter Try.func31, Try.ntmps31
      go_wp2
      go_ret
      exact ⟨rfl, rfl⟩
    · clear hn c1 c0 c5 hs hr
      go_enter Try.func31, Try.ntmps31
      go_wp2
      go_ret
      exact ⟨rfl, rfl⟩

set_option maxRecDepth 100000 in
set_option maxHeartbeats 800000 in
theorem refWhole_any (s : ByteArray) (hs : s.size ≤ 1024) (p : Int) (w : World) : Calls Try.prog 30 #[.string s, .int .i64 p] w fun e w' => e = .returned (.bool (decide (wholeC s.toList p))) ∧ w' = w := by
  have hl : s.toList.length = s.size := toList_len s
  by_cases hin : 0 ≤ p ∧ p < (s.size : Int)
  · obtain ⟨k, rfl⟩ := Int.eq_ofNat_of_zero_le hin.1
    have hk : k < s.size := by omega
    have hc := atC_is s k hk
    have hsc : sizeC s[k] = szI (s[k].toNat : Int) := sizeC_szI _ _ rfl
    have hc0 : 0 ≤ (s[k].toNat : Int) := by omega
    have hc1 : (s[k].toNat : Int) < 256 := by have := s[k].toNat_lt; omega
    have hsz := hide (refSize_any (s[k].toNat : Int) hc0 hc1 w)
    have hle := szI_le (s[k].toNat : Int)
    have hA : wholeC s.toList (k : Int) ↔ (0 < szI (s[k].toNat : Int) ∧ k + szI (s[k].toNat : Int) ≤ s.size) := by
      unfold wholeC; rw [hl, hc, hsc]
      constructor
      · rintro ⟨_, _, a, b⟩; exact ⟨a, by omega⟩
      · rintro ⟨a, b⟩; exact ⟨by omega, by omega, a, by omega⟩
    have hB : decide (wholeC s.toList (k : Int)) = decide (0 < szI (s[k].toNat : Int) ∧ k + szI (s[k].toNat : Int) ≤ s.size) := by
      by_cases q : wholeC s.toList (k : Int)
      · rw [decide_eq_true q, decide_eq_true (hA.1 q)]
      · rw [decide_eq_false q, decide_eq_false (fun h => q (hA.2 h))]
    rw [hB]
    clear hA hB hsc hc hin
    generalize szI (s[k].toNat : Int) = n at *
    generalize hcc : (s[k].toNat : Int) = c at *
    by_cases h0 : 0 < n
    · have hb : (0 : Int) < (n : Int) := by omega
      by_cases h1 : k + n ≤ s.size
      · rw [decide_eq_true ⟨h0, h1⟩]
        have hb2 : (k : Int) + (n : Int) ≤ (s.size : Int) := by omega
        go_enter Try.func30, Try.ntmps30
        go_wp2_with fail
        refine (unhide hsz).mono ?_
        rintro e w1 ⟨rfl, rfl⟩
        clear hsz
        go_wp2
        go_ret
        exact ⟨by simp [hb2, h0], rfl⟩
      · rw [decide_eq_false (fun h => h1 h.2)]
        have hb2 : ¬ (k : Int) + (n : Int) ≤ (s.size : Int) := by omega
        go_enter Try.func30, Try.ntmps30
        go_wp2_with fail
        refine (unhide hsz).mono ?_
        rintro e w1 ⟨rfl, rfl⟩
        clear hsz
        go_wp2
        go_ret
        exact ⟨by simp [hb2, h0], rfl⟩
    · have hn0 : n = 0 := by omega
      subst hn0
      rw [decide_eq_false (fun h => h0 h.1)]
      go_enter Try.func30, Try.ntmps30
      go_wp2_with fail
      refine (unhide hsz).mono ?_
      rintro e w1 ⟨rfl, rfl⟩
      clear hsz
      go_wp2
      go_ret
      exact ⟨rfl, rfl⟩
  · have hA : ¬ wholeC s.toList p := by
      rintro ⟨a, b, _⟩; rw [hl] at b; exact hin ⟨a, b⟩
    rw [decide_eq_false hA]
    by_cases h0 : p < 0
    · clear hin hA
      go_enter Try.func30, Try.ntmps30
      go_wp2
      go_ret
      exact ⟨rfl, rfl⟩
    · have h1 : (s.size : Int) ≤ p := by omega
      clear hin hA
      go_enter Try.func30, Try.ntmps30
      go_wp2
      go_ret
      exact ⟨rfl, rfl⟩

set_option maxRecDepth 100000 in
set_option maxHeartbeats 800000 in
theorem refOperand_any (s : ByteArray) (hs : s.size ≤ 1024) (k : Nat) (hk : k + 2 < s.size) (w : World) : Calls Try.prog 21 #[.string s, .int .i64 (k : Int)] w fun e w' => e = .returned (.int .i64 (operC s.toList (k : Int))) ∧ w' = w.drew := by
  have hop : operC s.toList (k : Int) = (s[k + 1].toNat : Int) * 256 + (s[k + 2].toNat : Int) := by
    unfold operC
    rw [show ((k : Int) + 1) = ((k + 1 : Nat) : Int) by omega, show ((k : Int) + 2) = ((k + 2 : Nat) : Int) by omega, atC_is s (k + 1) (by omega), atC_is s (k + 2) hk]
  rw [hop]
  have l1 : 0 ≤ (s[k + 1].toNat : Int) := by omega
  have l1' : (s[k + 1].toNat : Int) < 256 := by have := s[k + 1].toNat_lt; omega
  have l2 : 0 ≤ (s[k + 2].toNat : Int) := by omega
  have l2' : (s[k + 2].toNat : Int) < 256 := by have := s[k + 2].toNat_lt; omega
  have i1 : ∀ w', (Instr.index 9 (.string s) (.int .i64 ((k : Int) + 1))).run Try.prog w' = .ok (.int .u8 (s[k + 1].toNat : Int)) w' := fun w' => str_at s (k + 1) (by omega) _ (by omega) w'
  have i2 : ∀ w', (Instr.index 9 (.string s) (.int .i64 ((k : Int) + 2))).run Try.prog w' = .ok (.int .u8 (s[k + 2].toNat : Int)) w' := fun w' => str_at s (k + 2) (by omega) _ (by omega) w'
  generalize (s[k + 1].toNat : Int) = x at *
  generalize (s[k + 2].toNat : Int) = y at *
  clear hop
  go_enter Try.func21, Try.ntmps21
  go_wp2
  go_region
  go_wp2
  go_ret
  exact ⟨rfl, rfl⟩

/-- What starts leaves. -/
def StartsPost (s : ByteArray) (w : World) (e : Ending) (w' : World) : Prop :=
  e = .returned (.tuple #[.slice (some ⟨w.heap.size, 0, none⟩) s.size s.size, .int .i64 (stopC s.toList : Nat)]) ∧ Flags w w.heap.size s.size (startsC s.toList) w'

set_option maxRecDepth 100000 in
set_option maxHeartbeats 1600000 in
theorem refStarts_any (s : ByteArray) (hs : s.size ≤ 1024) (w : World) : Calls Try.prog 20 #[.string s] w (StartsPost s w) := by
  have hl : s.toList.length = s.size := toList_len s
  have hmk := run_make_row' (P := Try.prog) 44 4 (.bool false) 1 Try.underlying44 Try.infoBool rfl .i64 .i64 s.size (by omega) (by omega)
  have HI := hide (fun p w' => refWhole_any s hs p w')
  have HW0 := hide (Walk.zero s.toList)
  have HS1 := hide (fun (p : Nat) (A : List Nat) (h : Walk s.toList p A) (hw : wholeC s.toList (p : Int)) => h.step hw)
  have HS2 := hide (fun (p : Nat) (A : List Nat) (h : Walk s.toList p A) (hw : ¬ wholeC s.toList (p : Int)) => h.stop hw)
  have HS3 := hide (fun (p : Nat) (A : List Nat) (h : Walk s.toList p A) => h.fin (p := p))
  have HF0 := hide (Flags.made w s.size)
  have HV : Hid (∀ (A : List Nat) (p : Nat) w', startsC s.toList = A ∧ stopC s.toList = p → Flags w w.heap.size s.size A w' → StartsPost s w (.returned (.tuple #[.slice (some ⟨w.heap.size, 0, none⟩) s.size s.size, .int .i64 p])) w') := by
    rintro A p w' ⟨h1, h2⟩ hf
    exact ⟨by rw [h2], by rw [h1]; exact hf⟩
  generalize StartsPost s w = QQ at *
  go_enter Try.func20, Try.ntmps20
  go_wp2
  go_loopw [5] (fun i wr => ∃ (p : Nat) (A : List Nat), i = .int .i64 p ∧ p ≤ s.size ∧ Hid (Walk s.toList p A) ∧ Flags w w.heap.size s.size A wr) (fun i _ => s.size - (intOf i).toNat)
  case atStart => exact ⟨0, [], rfl, Nat.zero_le _, HW0, HF0.out⟩
  case round =>
    obtain ⟨p, A, rfl, hp, hwk, hfl⟩ := hrel
    clear HF0 HW0
    have hg1 : w.heap.size < wr.heap.size := hfl.row.lt
    by_cases hlt : p < s.size
    · have hins := hide ((unhide HI) (p : Int) wr)
      by_cases hw : wholeC s.toList (p : Int)
      · rw [decide_eq_true hw] at hins
        have hst := hide ((unhide HS1) p A hwk.out hw)
        have hz1 : 0 < sizeC (atC s.toList (p : Int)) := hw.2.2.1
        have hz2 := hw.2.2.2
        rw [hl] at hz2
        have hz3 : sizeC (atC s.toList (p : Int)) ≤ 3 := by rw [sizeC_szI _ _ rfl]; exact szI_le _
        have hc := atC_is s p hlt
        have hsc : sizeC s[p] = szI (s[p].toNat : Int) := sizeC_szI _ _ rfl
        have hc0 : 0 ≤ (s[p].toNat : Int) := by omega
        have hc1 : (s[p].toNat : Int) < 256 := by have := s[p].toNat_lt; omega
        have hsz := hide (fun w' => refSize_any (s[p].toNat : Int) hc0 hc1 w')
        rw [hc, hsc] at hst hz1 hz2 hz3
        generalize szI (s[p].toNat : Int) = z at *
        generalize hcc : (s[p].toNat : Int) = c at *
        have c1 := hfl.row.cell hlt
        have fz := hfl.row.frozen p
        have f2 := hide (hfl.set (Nat.le_refl _) p)
        clear hw HS2 HS3 HS1 HV hc hsc hfl
        go_wp2_with fail
        refine (unhide hins).mono ?_
        rintro e w1 ⟨rfl, rfl⟩
        clear hins
        go_wp2_with fail
        refine ((unhide hsz) _).mono ?_
        rintro e w2 ⟨rfl, rfl⟩
        clear hsz
        go_wp2
        go_roundw
        case rel => exact ⟨p + z, A ++ [p], by go_num, by omega, hst, f2.out⟩
        case measure => simp [intOf]; omega
      · rw [decide_eq_false hw] at hins
        have post := hide ((unhide HV) A p wr ((unhide HS2) p A hwk.out hw) hfl)
        clear hw HS2 HS3 HS1 HV hfl
        go_wp2_with fail
        refine (unhide hins).mono ?_
        rintro e w1 ⟨rfl, rfl⟩
        clear hins
        go_wp2
        exact post.out
    · obtain ⟨h1, h2, h3⟩ := (unhide HS3) p A hwk.out (by rw [hl]; exact hlt)
      have post := hide ((unhide HV) A p wr ⟨h1, by rw [h2, h3]⟩ hfl)
      clear HS1 HS2 HS3 HV hfl h1 h2 h3
      go_wp2
      exact post.out

theorem hit_out {l : List UInt8} {p : Nat} (h : p ∉ startsC l) : hitC l p = false := by unfold hitC; rw [decide_eq_false h]; rfl
theorem hit_plain {l : List UInt8} {p : Nat} (h : ¬ (2 ≤ (atC l (p : Int)).toNat ∧ (atC l (p : Int)).toNat ≤ 4)) : hitC l p = false := by
  unfold hitC badC
  by_cases q2 : 2 ≤ (atC l (p : Int)).toNat
  · rw [decide_eq_false (fun h4 => h ⟨q2, h4⟩)]; simp
  · rw [decide_eq_false q2]; simp
theorem hit_jump {l : List UInt8} {p : Nat} (hp : p ∈ startsC l) (h : 2 ≤ (atC l (p : Int)).toNat ∧ (atC l (p : Int)).toNat ≤ 4) : hitC l p = !decide ((operC l (p : Int)).toNat ∈ startsC l) := by
  unfold hitC badC
  rw [decide_eq_true hp, decide_eq_true h.1, decide_eq_true h.2]
  simp

set_option maxRecDepth 100000 in
set_option maxHeartbeats 6400000 in
theorem refVerify_any (s : ByteArray) (hs : s.size ≤ maxLen) (w : World) : Calls Try.prog 10 #[.string s] w (VerPost (verifyC s.toList) w) := by
  have hl : s.toList.length = s.size := toList_len s
  unfold maxLen at hs
  by_cases hlong : 1024 < s.size
  · rw [verify_long (by rw [hl]; exact hlong)]
    have post : Hid (VerPost (1, 0) w (.returned (.tuple #[.int .i64 1, .int .i64 0])) w) := ⟨rfl, Kept.refl _ _⟩
    generalize VerPost (1, 0) w = QQ at *
    go_enter Try.func10, Try.ntmps10
    go_wp2
    exact post.out
  have hs4 : s.size ≤ 1024 := by omega
  have hl4 : s.toList.length ≤ 1024 := by omega
  have hst := hide (refStarts_any s hs4 w)
  unfold StartsPost at hst
  have HV : Hid (∀ x, verifyC s.toList = x → ∀ w', Kept (fun k => k < w.heap.size) w w' → VerPost (verifyC s.toList) w (.returned (.tuple #[.int .i64 x.1, .int .i64 x.2])) w') := fun x hx w' hk => ⟨by rw [hx], hk⟩
  have HO := hide (fun (k : Nat) (hk : k + 2 < s.size) w' => refOperand_any s hs4 k hk w')
  generalize VerPost (verifyC s.toList) w = QQ at *
  obtain ⟨stop, hstop⟩ : ∃ n, n = stopC s.toList := ⟨_, rfl⟩
  rw [← hstop] at hst
  have HSTOP := hide hstop
  clear hstop hlong
  by_cases hsl : stop < s.size
  · have hver : verifyC s.toList = (5, (stop : Int)) := by rw [verify_stop hl4 (by rw [← HSTOP.out, hl]; exact hsl), ← HSTOP.out]
    have post := hide ((unhide HV) _ hver)
    clear hver HV HO HSTOP
    go_enter Try.func10, Try.ntmps10
    go_wp2_with fail
    refine (unhide hst).mono ?_
    rintro e w1 ⟨rfl, f1⟩
    have p2 := hide ((unhide post) w1 f1.kept)
    clear hst f1 post
    go_wp2
    exact p2.out
  have hstop2 : Hid (stopC s.toList = s.toList.length) := by
    unfold Hid
    obtain ⟨n, h1, h2, h3⟩ := (Walk.zero s.toList).ex
    have hle : stopC s.toList ≤ s.toList.length := by
      have : ∀ n p, p ≤ s.toList.length → (walkC s.toList n p).2 ≤ s.toList.length := by
        intro n
        induction n with
        | zero => intro p hp; exact hp
        | succ n ih =>
          intro p hp
          by_cases hw : wholeC s.toList (p : Int)
          · rw [walk_on hw]; exact ih _ (by have := hw.2.2.2; omega)
          · rw [walk_stop hw]; exact hp
      exact this _ 0 (Nat.zero_le _)
    have := HSTOP.out
    omega
  clear HSTOP
  go_enter Try.func10, Try.ntmps10
  go_wp2_with fail
  refine (unhide hst).mono ?_
  rintro e w1 ⟨rfl, f1⟩
  have F1 := hide f1
  clear hst f1
  go_wp2
  go_loopw [6, 7] (fun j i wr => ∃ (p last : Nat), i = .int .i64 p ∧ j = .int .i64 last ∧ Hid (last = lastB s.toList p) ∧ p ≤ s.size ∧ Flags w w.heap.size s.size (startsC s.toList) wr ∧ Hid (∀ j, j < p → hitC s.toList j = false)) (fun _ i _ => s.size - (intOf i).toNat)
  case atStart => exact ⟨0, 0, rfl, rfl, (lastB_zero _).symm, Nat.zero_le _, F1.out, fun j hj => by omega⟩
  case round =>
    obtain ⟨p, last, rfl, rfl, hla, hp, hfl, hno⟩ := hrel
    clear F1
    have hg1 : w.heap.size < wr.heap.size := hfl.row.lt
    by_cases hlt : p < s.size
    · have ck := hfl.row.cell hlt
      have hcell : Hid (∀ t, t < s.size → wr.cell? ⟨w.heap.size, t, none⟩ = some (.bool (decide (t ∈ startsC s.toList)))) := fun t ht => hfl.row.cell ht
      have FL := hide hfl
      have hgo : Hid (hitC s.toList p = false → ∀ j, j < p + 1 → hitC s.toList j = false) := by
        intro hh j hj
        by_cases e : j = p
        · subst e; exact hh
        · exact hno.out j (by omega)
      have hret : Hid (hitC s.toList p = true → verifyC s.toList = (5, (p : Int))) := fun hh => verify_hit hl4 hstop2.out hh hno.out
      unfold flagF at ck
      clear hfl hno
      by_cases hm : p ∈ startsC s.toList
      · rw [decide_eq_true hm] at ck
        have hw := (starts_whole hm).1
        have hc := atC_is s p hlt
        have hc0 : 0 ≤ (s[p].toNat : Int) := by omega
        have hc1 : (s[p].toNat : Int) < 256 := by have := s[p].toNat_lt; omega
        have hla2 : Hid (p = lastB s.toList (p + 1)) := (lastB_yes hm).symm
        by_cases hj : 2 ≤ s[p].toNat ∧ s[p].toNat ≤ 4
        · have hjh := hit_jump hm (by rw [hc]; exact hj)
          have h3 : sizeC (atC s.toList (p : Int)) = 3 := sizeC_three.2 (by rw [hc]; omega)
          have hz2 := hw.2.2.2
          rw [h3, hl] at hz2
          have hop := hide ((unhide HO) p (by omega) wr)
          have hbd := operC_bd s.toList (p : Int)
          obtain ⟨t, ht⟩ := Int.eq_ofNat_of_zero_le hbd.1
          rw [ht] at hop hbd hjh
          rw [Int.toNat_natCast] at hjh
          have hj1 : 2 ≤ (s[p].toNat : Int) := by omega
          have hj2 : (s[p].toNat : Int) ≤ 4 := by omega
          generalize hcc : (s[p].toNat : Int) = c at *
          have hb1 : (t : Int) < 65536 := hbd.2
          have HJ := hide hjh
          clear hw hc hj h3 hz2 hbd ht hla hm HO hjh
          by_cases hal : (s.size : Int) ≤ (t : Int)
          · have hh : hitC s.toList p = true := by
              rw [HJ.out, decide_eq_false (fun h => by have := (starts_whole h).2; rw [hl] at this; omega)]; rfl
            have fin3 := hide ((unhide HV) _ (hret.out hh) wr.drew FL.out.kept.drew)
            clear HJ hh hret hgo HV hcell
            go_wp2_with fail
            refine (unhide hop).mono ?_
            rintro e w2 ⟨rfl, rfl⟩
            clear hop
            go_wp2
            exact fin3.out
          · have hat : t < s.size := by omega
            have ca : wr.drew.cell? ⟨w.heap.size, t, none⟩ = some (.bool (decide (t ∈ startsC s.toList))) := hcell.out t hat
            by_cases hd : t ∈ startsC s.toList
            · rw [decide_eq_true hd] at ca
              have hh : hitC s.toList p = false := by rw [HJ.out, decide_eq_true hd]; rfl
              have fin3 : Hid (∃ (p_1 last : Nat), Value.int .i64 ((p : Int) + 1) = .int .i64 p_1 ∧ Value.int .i64 (p : Int) = .int .i64 last ∧ Hid (last = lastB s.toList p_1) ∧ p_1 ≤ s.size ∧ Flags w w.heap.size s.size (startsC s.toList) wr.drew ∧ Hid (∀ j, j < p_1 → hitC s.toList j = false)) :=
                ⟨p + 1, p, by go_num, rfl, hla2, by omega, ⟨FL.out.row, FL.out.kept.drew⟩, hgo.out hh⟩
              have hnl : ¬ (s.size ≤ t) := by omega
              clear HJ hh hret hgo HV hcell hd hla2
              go_wp2_with fail
              refine (unhide hop).mono ?_
              rintro e w2 ⟨rfl, rfl⟩
              clear hop
              go_wp2
              go_roundw
              case rel => exact fin3.out
              case measure => simp [intOf]; omega
            · rw [decide_eq_false hd] at ca
              have hh : hitC s.toList p = true := by rw [HJ.out, decide_eq_false hd]; rfl
              have fin3 := hide ((unhide HV) _ (hret.out hh) wr.drew FL.out.kept.drew)
              have hnl : ¬ (s.size ≤ t) := by omega
              clear HJ hh hret hgo HV hcell hd hla2
              go_wp2_with fail
              refine (unhide hop).mono ?_
              rintro e w2 ⟨rfl, rfl⟩
              clear hop
              go_wp2
              exact fin3.out
        · have hh : hitC s.toList p = false := hit_plain (by rw [hc]; exact hj)
          have fin3 : Hid (∃ (p_1 last : Nat), Value.int .i64 ((p : Int) + 1) = .int .i64 p_1 ∧ Value.int .i64 (p : Int) = .int .i64 last ∧ Hid (last = lastB s.toList p_1) ∧ p_1 ≤ s.size ∧ Flags w w.heap.size s.size (startsC s.toList) wr ∧ Hid (∀ j, j < p_1 → hitC s.toList j = false)) :=
            ⟨p + 1, p, by go_num, rfl, hla2, by omega, FL.out, hgo.out hh⟩
          by_cases hj1 : 2 ≤ (s[p].toNat : Int)
          · have hj2 : ¬ (s[p].toNat : Int) ≤ 4 := by omega
            generalize hcc : (s[p].toNat : Int) = c at *
            clear hw hc hj hh hla hla2 hm HO hret hgo HV hcell
            go_wp2
            go_roundw
            case rel => exact fin3.out
            case measure => simp [intOf]; omega
          · generalize hcc : (s[p].toNat : Int) = c at *
            clear hw hc hj hh hla hla2 hm HO hret hgo HV hcell
            go_wp2
            go_roundw
            case rel => exact fin3.out
            case measure => simp [intOf]; omega
      · rw [decide_eq_false hm] at ck
        have hh : hitC s.toList p = false := hit_out hm
        have fin3 : Hid (∃ (p_1 last' : Nat), Value.int .i64 ((p : Int) + 1) = .int .i64 p_1 ∧ Value.int .i64 (last : Int) = .int .i64 last' ∧ Hid (last' = lastB s.toList p_1) ∧ p_1 ≤ s.size ∧ Flags w w.heap.size s.size (startsC s.toList) wr ∧ Hid (∀ j, j < p_1 → hitC s.toList j = false)) :=
          ⟨p + 1, last, by go_num, rfl, by unfold Hid; rw [lastB_no hm]; exact hla.out, by omega, FL.out, hgo.out hh⟩
        clear hh hla hm HO hret hgo HV hcell
        go_wp2
        go_roundw
        case rel => exact fin3.out
        case measure => simp [intOf]; omega
    · have hpe : p = s.size := by omega
      have hv := verify_none hl4 hstop2.out (fun j hj => hno.out j (by omega))
      have hlast : last = (startsC s.toList).getLastD 0 := by rw [hla.out, hpe, ← hl, lastB_end]
      rw [← hlast] at hv
      have KF := hide hfl.kept
      by_cases hz : s.size = 0
      · have hnil : s.toList = [] := List.length_eq_zero_iff.1 (by omega)
        have hl0 : last = 0 := by
          have := lastB_lt (l := s.toList) p
          have := hla.out
          omega
        rw [if_neg (fun h => h.2 hnil), hl0] at hv
        have p2 := hide ((unhide HV) _ hv wr KF.out)
        have hzb : ((s.size : Int) == 0) = true := by rw [hz]; rfl
        clear hv hlast hla hno hfl HV HO hnil KF hstop2
        go_wp2
        exact p2.out
      · have hne : s.toList ≠ [] := fun h => hz (by rw [← hl, h]; rfl)
        have hlm := last_mem hstop2.out hne
        rw [← hlast] at hlm
        have hll : last < s.size := by rw [← hl]; exact (starts_whole hlm).2
        have hc := atC_is s last hll
        rw [hc] at hv
        have hc0 : 0 ≤ (s[last].toNat : Int) := by omega
        have hc1 : (s[last].toNat : Int) < 256 := by have := s[last].toNat_lt; omega
        have hen : endsC s[last] = ((s[last].toNat : Int) == 0 || (s[last].toNat : Int) == 2 || (s[last].toNat : Int) == 5) := by
          unfold endsC
          rw [Bool.eq_iff_iff]; simp; omega
        have hv2 : Hid (verifyC s.toList = if ((s[last].toNat : Int) == 0 || (s[last].toNat : Int) == 2 || (s[last].toNat : Int) == 5) = true then (0, 0) else (5, (last : Int))) := by
          unfold Hid
          rw [hv, hen]
          by_cases q : ((s[last].toNat : Int) == 0 || (s[last].toNat : Int) == 2 || (s[last].toNat : Int) == 5) = true
          · rw [if_pos q, if_pos ⟨q, hne⟩]
          · rw [if_neg q, if_neg (fun h => q h.1)]
        have hzb : ((s.size : Int) == 0) = false := beq_eq_false_iff_ne.2 (by omega)
        generalize hcc : (s[last].toNat : Int) = c at *
        clear hv hen hc hlm hlast hla hno hfl HO hstop2 hne
        by_cases q0 : c = 0
        · have hq : ((c == 0 || c == 2 || c == 5) : Bool) = true := by rw [q0]; rfl
          have p2 := hide ((unhide HV) (0, 0) (by rw [hv2.out, if_pos hq]) wr KF.out)
          have b0 : (c != 0) = false := by rw [q0]; rfl
          clear hv2 HV KF hq q0
          go_wp2
          exact p2.out
        by_cases q2 : c = 2
        · have hq : ((c == 0 || c == 2 || c == 5) : Bool) = true := by rw [q2]; rfl
          have p2 := hide ((unhide HV) (0, 0) (by rw [hv2.out, if_pos hq]) wr KF.out)
          have b0 : (c != 0) = true := bne_iff_ne.2 q0
          have b2 : (c != 2) = false := by rw [q2]; rfl
          clear hv2 HV KF hq q0 q2
          go_wp2
          exact p2.out
        by_cases q5 : c = 5
        · have hq : ((c == 0 || c == 2 || c == 5) : Bool) = true := by rw [q5]; rfl
          have p2 := hide ((unhide HV) (0, 0) (by rw [hv2.out, if_pos hq]) wr KF.out)
          have b0 : (c != 0) = true := bne_iff_ne.2 q0
          have b2 : (c != 2) = true := bne_iff_ne.2 q2
          have b5 : (c != 5) = false := by rw [q5]; rfl
          clear hv2 HV KF hq q0 q2 q5
          go_wp2
          exact p2.out
        · have hq : ¬ ((c == 0 || c == 2 || c == 5) : Bool) = true := by simp; omega
          have p2 := hide ((unhide HV) (5, (last : Int)) (by rw [hv2.out, if_neg hq]) wr KF.out)
          have b0 : (c != 0) = true := bne_iff_ne.2 q0
          have b2 : (c != 2) = true := bne_iff_ne.2 q2
          have b5 : (c != 5) = true := bne_iff_ne.2 q5
          clear hv2 HV KF hq q0 q2 q5
          go_wp2
          exact p2.out
end Go.Proofs.Ytnanjomnldfidaa
