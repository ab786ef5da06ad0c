/-
  Package grader's code: endsARun, verifyCode, Verify.
-/
import Derived.Test.YtnanjomnldfidaaDcOps
import Derived.Deep.OwnRows
set_option linter.unusedSimpArgs false
set_option linter.unusedVariables false
set_option linter.unusedSectionVars false
namespace Go.Proofs.Ytnanjomnldfidaa
open Go.RowKit

theorem Try.infoBool : (Try.prog.info? 4).map (fun i => (i.zero, i.size, i.bytes)) = some (some (.bool false), 1, 1) := by kernel_rfl

set_option maxRecDepth 100000 in
set_option maxHeartbeats 800000 in
theorem endsARun_any (s : ByteArray) (hs : s.size ≤ 1024) (p : Int) (w : World) : Calls Try.prog 29 #[.string s, .int .i64 p] w fun e w' => e = .returned (.bool (endsR s.toList p)) ∧ Kept (fun k => k < w.heap.size) w w' := by
  have hi := hide (insAt_any s hs p w)
  unfold InsPost at hi
  unfold endsR
  generalize insA s.toList p = x at *
  obtain ⟨op, arg, n⟩ := x
  show Calls _ _ _ _ fun e w' => e = .returned (.bool (decide (0 < n) && (op == 0 || op == 2 || op == 5))) ∧ _
  by_cases h0 : 0 < n
  · rw [decide_eq_true h0, Bool.true_and]
    have key : ∀ v : Bool, (op == 0 || op == 2 || op == 5) = v → Calls Try.prog 29 #[.string s, .int .i64 p] w fun e w' => e = .returned (.bool v) ∧ Kept (fun k => k < w.heap.size) w w' := by
      intro v hv
      by_cases c0 : op = 0
      · subst c0
        have hv' : v = true := by rw [← hv]; rfl
        subst hv'
        clear hv
        go_enter Try.func29, Try.ntmps29
        go_wp2_with fail
        refine (unhide hi).mono ?_
        rintro e w1 ⟨rfl, k1⟩
        have k2 : Kept (fun k => k < w.heap.size) w (w1.alloc (.cells #[.int .i64 0, .int .i64 arg] 55)) := k1.alloc _
        clear hi k1
        go_wp2
        go_ret
        exact ⟨rfl, k2⟩
      have b0 : (op == 0) = false := by simpa using c0
      by_cases c2 : op = 2
      · subst c2
        have hv' : v = true := by rw [← hv]; rfl
        subst hv'
        clear hv c0
        go_enter Try.func29, Try.ntmps29
        go_wp2_with fail
        refine (unhide hi).mono ?_
        rintro e w1 ⟨rfl, k1⟩
        have k2 : Kept (fun k => k < w.heap.size) w (w1.alloc (.cells #[.int .i64 2, .int .i64 arg] 55)) := k1.alloc _
        clear hi k1
        go_wp2
        go_ret
        exact ⟨rfl, k2⟩
      have b2 : (op == 2) = false := by simpa using c2
      rw [b0, b2] at hv
      have hv2 : (op == 5) = v := hv
      clear hv c0 c2
      go_enter Try.func29, Try.ntmps29
      go_wp2_with fail
      refine (unhide hi).mono ?_
      rintro e w1 ⟨rfl, k1⟩
      have k2 : Kept (fun k => k < w.heap.size) w (w1.alloc (.cells #[.int .i64 op, .int .i64 arg] 55)) := k1.alloc _
      clear hi k1
      go_wp2
      go_ret
      exact ⟨rfl, k2⟩
    exact key _ rfl
  · rw [decide_eq_false h0, Bool.false_and]
    go_enter Try.func29, Try.ntmps29
    go_wp2_with fail
    refine (unhide hi).mono ?_
    rintro e w1 ⟨rfl, k1⟩
    have k2 : Kept (fun k => k < w.heap.size) w (w1.alloc (.cells #[.int .i64 op, .int .i64 arg] 55)) := k1.alloc _
    clear hi k1
    go_wp2
    go_ret
    exact ⟨rfl, k2⟩

/-- The flags of the starts. -/
def flagF (A : List Nat) (i : Nat) : Value := .bool (decide (i ∈ A))
theorem flag_add {w : World} {g n : Nat} {t : TypeId} {A : List Nat} (h : w.rowIs g t n (flagF A)) (p : Nat) : (w.setCell ⟨g, p, none⟩ (.bool true)).rowIs g t n (flagF (A ++ [p])) :=
  (h.set p (.bool true)).congr fun i hi => by
    unfold flagF
    by_cases c : i = p
    · subst c; rw [if_pos rfl]; simp
    · rw [if_neg c]; simp [c]
/-- What is kept while the flags are written. -/
structure Flags (w : World) (g n : Nat) (A : List Nat) (w' : World) : Prop where
  row : w'.rowIs g 4 n (flagF A)
  kept : Kept (fun k => k < w.heap.size) w w'
theorem Flags.grow {w : World} {g n : Nat} {A : List Nat} {w1 w2 : World} (h : Flags w g n A w1) (hk : Kept (fun k => k < w1.heap.size) w1 w2) : Flags w g n A w2 :=
  ⟨h.row.of_block (hk.block g h.row.lt h.row.lt), h.kept.trans hk.all⟩
theorem Flags.alloc {w : World} {g n : Nat} {A : List Nat} {w1 : World} (h : Flags w g n A w1) (o : Obj) : Flags w g n A (w1.alloc o) :=
  ⟨h.row.alloc o, h.kept.alloc o⟩
theorem Flags.set {w : World} {g n : Nat} {A : List Nat} {w1 : World} (h : Flags w g n A w1) (hg : w.heap.size ≤ g) (p : Nat) : Flags w g n (A ++ [p]) (w1.setCell ⟨g, p, none⟩ (.bool true)) :=
  ⟨flag_add h.row p, h.kept.setCell (p := ⟨g, p, none⟩) (by show ¬ g < w.heap.size; omega) _⟩
theorem Flags.made (w : World) (n : Nat) : Flags w w.heap.size n [] (w.alloc (.cells (madeCells #[.bool false] n) 4)) :=
  ⟨(World.rowIs_made w (.bool false) n 4).congr fun i _ => by unfold flagF; simp, (Kept.refl _ w).alloc _⟩

/-- What Verify leaves. -/
def VerPost (x : Int × Int) (w : World) (e : Ending) (w' : World) : Prop := e = .returned (.tuple #[.int .i64 x.1, .int .i64 x.2]) ∧ Kept (fun k => k < w.heap.size) w w'

set_option maxRecDepth 100000 in
set_option maxHeartbeats 6400000 in
theorem verifyCode_any (s : ByteArray) (hs : s.size ≤ 1024) (w : World) : Calls Try.prog 19 #[.string s] w (VerPost (verifyC s.toList) w) := by
  have hl : s.toList.length = s.size := toList_len s
  have hl4 : s.toList.length ≤ 1024 := by omega
  have hmk := run_make_row' (P := Try.prog) 44 4 (.bool false) 1 Try.underlying44 Try.infoBool rfl .i64 .i64 s.size (by omega) (by omega)
  have HI := hide (fun p w' => insAt_any s hs p w')
  have HL := hide (fun op w' => leads_any op w')
  have HE := hide (fun p w' => endsARun_any s hs p w')
  unfold InsPost at HI
  have HV : Hid (∀ x, verifyC s.toList = x → ∀ w', Kept (fun k => k < w.heap.size) w w' → VerPost (verifyC s.toList) w (.returned (.tuple #[.int .i64 x.1, .int .i64 x.2])) w') := fun x hx w' hk => ⟨by rw [hx], hk⟩
  have HW0 := hide (Walk.zero s.toList)
  have HS1 := hide (fun (p : Nat) (A : List Nat) (h : Walk s.toList p A) (hw : wholeC s.toList (p : Int)) => h.step hw)
  have HS2 := hide (fun (p : Nat) (A : List Nat) (h : Walk s.toList p A) (hw : ¬ wholeC s.toList (p : Int)) => h.stop hw)
  have HS3 := hide (fun (p : Nat) (A : List Nat) (h : Walk s.toList p A) => h.fin (p := p))
  have HS4 := hide (fun (p : Nat) (A : List Nat) (h : Walk s.toList p A) => h.le)
  have HF0 := hide (Flags.made w s.size)
  generalize VerPost (verifyC s.toList) w = QQ at *
  go_enter Try.func19, Try.ntmps19
  go_wp2
  go_loopw [5, 6] (fun j i wr => ∃ (p : Nat) (A : List Nat) (last : Nat), i = .int .i64 p ∧ j = .int .i64 last ∧ Hid (last = A.getLastD 0) ∧ p ≤ s.size ∧ Hid (Walk s.toList p A) ∧ Flags w w.heap.size s.size A wr) (fun _ i _ => s.size - (intOf i).toNat)
  case atStart => exact ⟨0, [], 0, rfl, rfl, rfl, Nat.zero_le _, HW0, HF0.out⟩
  case round =>
    obtain ⟨p, A, last, rfl, rfl, hla, hp, hwk, hfl⟩ := hrel
    clear HF0 HW0
    have hg1 : w.heap.size < wr.heap.size := hfl.row.lt
    by_cases hlt : p < s.size
    · have hins := hide ((unhide HI) (p : Int) wr)
      by_cases hw : wholeC s.toList (p : Int)
      · rw [insA_whole hw] at hins
        have hst := hide ((unhide HS1) p A hwk.out hw)
        have hz1 : 0 < sizeC (atC s.toList (p : Int)) := hw.2.2.1
        have hz2 := hw.2.2.2
        rw [hl] at hz2
        have hz3 : sizeC (atC s.toList (p : Int)) ≤ 3 := by rw [sizeC_szI _ _ rfl]; exact szI_le _
        generalize sizeC (atC s.toList (p : Int)) = z at *
        generalize ((atC s.toList (p : Int)).toNat : Int) = op at *
        generalize (if z = 3 then operC s.toList (p : Int) else 0) = arg at *
        have hzb : ((z : Int) == 0) = false := by simp; omega
        clear hw HS2 HS3 HS1 HE HL HV
        go_wp2_with fail
        refine (unhide hins).mono ?_
        rintro e w1 ⟨rfl, k1⟩
        have f1 := (hfl.grow k1).alloc (.cells #[.int .i64 op, .int .i64 arg] 55)
        have c1 := f1.row.cell hlt
        have fz := f1.row.frozen p
        have hg2 := f1.row.lt
        have f2 := hide (f1.set (Nat.le_refl _) p)
        clear hins k1 hfl f1
        go_wp2
        go_roundw
        case rel => exact ⟨p + z, A ++ [p], p, by go_num, rfl, by unfold Hid; rw [List.getLastD_concat], by omega, hst, f2.out⟩
        case measure => simp [intOf]; omega
      · have hn := insA_none hw
        obtain ⟨h1, h2⟩ := (unhide HS2) p A hwk.out hw
        have hver : verifyC s.toList = (5, (p : Int)) := by rw [verify_stop hl4 (by rw [h2, hl]; exact hlt), h2]
        have post := hide ((unhide HV) _ hver)
        obtain ⟨x, hx⟩ : ∃ x, x = insA s.toList (p : Int) := ⟨_, rfl⟩
        rw [← hx] at hins hn
        obtain ⟨op, arg, z⟩ := x
        have hz : z = 0 := hn
        subst hz
        clear hw HS2 HS3 HS1 HE HL HV h1 h2 hver hx hn HS4
        go_wp2_with fail
        refine (unhide hins).mono ?_
        rintro e w1 ⟨rfl, k1⟩
        have f1 := ((hfl.grow k1).alloc (.cells #[.int .i64 op, .int .i64 arg] 55)).kept
        have post2 := hide ((unhide post) _ f1)
        clear hins k1 hfl f1 post
        go_wp2
        exact post2.out
    · obtain ⟨h1, h2, h3⟩ := (unhide HS3) p A hwk.out (by rw [hl]; exact hlt)
      have H1 := hide h1
      have H2 := hide h2
      have hlast : Hid (last = (startsC s.toList).getLastD 0) := by unfold Hid; rw [hla.out, h1]
      rw [← h1] at hfl
      have HFL := hide hfl
      have hgr := hg1
      clear HS1 HS2 HS3 HS4 h1 h2 h3 hwk hfl hla
      go_wp2
      go_loopw [9] (fun i wq => ∃ k : Nat, i = .int .i64 k ∧ k ≤ s.size ∧ Flags w w.heap.size s.size (startsC s.toList) wq ∧ Hid (∀ j, j < k → hitC s.toList j = false)) (fun i _ => s.size - (intOf i).toNat)
      case atStart => exact ⟨0, rfl, Nat.zero_le _, HFL.out, fun j hj => by omega⟩
      case round =>
        obtain ⟨k, rfl, hk, hfl, hno⟩ := hrel
        clear HFL
        have hg2 : w.heap.size < wr.heap.size := hfl.row.lt
        by_cases hlt2 : k < s.size
        · have hins := hide ((unhide HI) (k : Int) wr)
          have hhd := hide (hit_dev s.toList k)
          have hbd := insA_bd s.toList (k : Int)
          rw [hl] at hhd
          obtain ⟨x, hx⟩ : ∃ x, x = insA s.toList (k : Int) := ⟨_, rfl⟩
          rw [← hx] at hins hhd hbd
          obtain ⟨op, arg, z⟩ := x
          have hb0 : 0 ≤ arg := hbd.1
          have hb1 : arg < 65536 := hbd.2
          have hgo : Hid (hitC s.toList k = false → ∀ j, j < k + 1 → hitC s.toList j = false) := by
            intro hh j hj
            by_cases e : j = k
            · subst e; exact hh
            · exact hno.out j (by omega)
          have hret : Hid (hitC s.toList k = true → verifyC s.toList = (5, (k : Int))) := fun hh => verify_hit hl4 H2.out hh hno.out
          have hhd2 : Hid (hitC s.toList k = (decide (k ∈ startsC s.toList) && (leadI op && (decide ((s.size : Int) ≤ arg) || !decide (arg.toNat ∈ startsC s.toList))))) := hhd.out
          have hle := hide (fun w' => (unhide HL) op w')
          clear hx hbd hhd hno HE HL H1 H2
          obtain ⟨a, ha⟩ := Int.eq_ofNat_of_zero_le hb0
          subst ha
          rw [Int.toNat_natCast] at hhd2
          go_wp2_with fail
          refine (unhide hins).mono ?_
          rintro e w1 ⟨rfl, k1⟩
          have f1 := (hfl.grow k1).alloc (.cells #[.int .i64 op, .int .i64 (a : Int)] 55)
          have F1 := hide f1
          have ck := f1.row.cell hlt2
          have hg3 := f1.row.lt
          have hg4 : w1.heap.size < (w1.alloc (.cells #[.int .i64 op, .int .i64 (a : Int)] 55)).heap.size := by simp
          have hcell : ∀ t, t < s.size → (w1.alloc (.cells #[.int .i64 op, .int .i64 (a : Int)] 55)).cell? ⟨w.heap.size, t, none⟩ = some (.bool (decide (t ∈ startsC s.toList))) := fun t ht => f1.row.cell ht
          have s0 : (w1.alloc (.cells #[.int .i64 op, .int .i64 (a : Int)] 55)).cell? ⟨w1.heap.size, 0, none⟩ = some (.int .i64 op) := cell_of_block (heap_alloc_new w1 _) 0 _ rfl
          have s1 : (w1.alloc (.cells #[.int .i64 op, .int .i64 (a : Int)] 55)).cell? ⟨w1.heap.size, 1, none⟩ = some (.int .i64 (a : Int)) := cell_of_block (heap_alloc_new w1 _) 1 _ rfl
          have HC := hide hcell
          clear hins k1 hfl f1 hcell
          unfold flagF at ck
          generalize hdk : decide (k ∈ startsC s.toList) = dk at *
          generalize hlv : leadI op = lv at *
          clear hdk hlv
          have fin : Hid (hitC s.toList k = false → ∃ k_1 : Nat, Value.int .i64 ((k : Int) + 1) = .int .i64 k_1 ∧ k_1 ≤ s.size ∧ Flags w w.heap.size s.size (startsC s.toList) (w1.alloc (.cells #[.int .i64 op, .int .i64 (a : Int)] 55)) ∧ Hid (∀ j, j < k_1 → hitC s.toList j = false)) := fun hh => ⟨k + 1, by go_num, by omega, F1.out, hgo.out hh⟩
          have fin2 : Hid (hitC s.toList k = true → QQ (.returned (.tuple #[.int .i64 5, .int .i64 (k : Int)])) (w1.alloc (.cells #[.int .i64 op, .int .i64 (a : Int)] 55))) := fun hh => (unhide HV) _ (hret.out hh) _ F1.out.kept
          clear HV hret hgo F1
          by_cases hal : (s.size : Int) ≤ (a : Int)
          · rw [decide_eq_true hal, Bool.true_or, Bool.and_true] at hhd2
            cases dk with
            | false =>
              have hh : hitC s.toList k = false := hhd2.out
              have fin3 := hide (fin.out hh)
              clear hhd2 fin fin2 HC hle
              go_wp2
              go_roundw
              case rel => exact fin3.out
              case measure => simp [intOf]; omega
            | true =>
              cases lv with
              | false =>
                have hh : hitC s.toList k = false := hhd2.out
                have fin3 := hide (fin.out hh)
                clear hhd2 fin fin2 HC
                go_wp2_with fail
                refine ((unhide hle) _).mono ?_
                rintro e w2 ⟨rfl, rfl⟩
                clear hle
                go_wp2
                go_roundw
                case rel => exact fin3.out
                case measure => simp [intOf]; omega
              | true =>
                have hh : hitC s.toList k = true := hhd2.out
                have fin3 := hide (fin2.out hh)
                clear hhd2 fin fin2 HC
                go_wp2_with fail
                refine ((unhide hle) _).mono ?_
                rintro e w2 ⟨rfl, rfl⟩
                clear hle
                go_wp2
                exact fin3.out
          · have hat : a < s.size := by omega
            have ca := HC.out a hat
            rw [decide_eq_false hal, Bool.false_or] at hhd2
            generalize decide (a ∈ startsC s.toList) = da at *
            cases dk with
            | false =>
              have hh : hitC s.toList k = false := hhd2.out
              have fin3 := hide (fin.out hh)
              clear hhd2 fin fin2 HC hle
              go_wp2
              go_roundw
              case rel => exact fin3.out
              case measure => simp [intOf]; omega
            | true =>
              cases lv with
              | false =>
                have hh : hitC s.toList k = false := hhd2.out
                have fin3 := hide (fin.out hh)
                clear hhd2 fin fin2 HC
                go_wp2_with fail
                refine ((unhide hle) _).mono ?_
                rintro e w2 ⟨rfl, rfl⟩
                clear hle
                go_wp2
                go_roundw
                case rel => exact fin3.out
                case measure => simp [intOf]; omega
              | true =>
                cases da with
                | true =>
                  have hh : hitC s.toList k = false := hhd2.out
                  have fin3 := hide (fin.out hh)
                  clear hhd2 fin fin2 HC
                  go_wp2_with fail
                  refine ((unhide hle) _).mono ?_
                  rintro e w2 ⟨rfl, rfl⟩
                  have hnl : ¬ (s.size ≤ a) := by omega
                  clear hle ca ck s0 s1 hb0 hb1 hal hat hg3 hg4
                  go_wp2
                  go_roundw
                  case rel => exact fin3.out
                  case measure => simp [intOf]; omega
                | false =>
                  have hh : hitC s.toList k = true := hhd2.out
                  have fin3 := hide (fin2.out hh)
                  clear hhd2 fin fin2 HC
                  go_wp2_with fail
                  refine ((unhide hle) _).mono ?_
                  rintro e w2 ⟨rfl, rfl⟩
                  clear hle
                  go_wp2
                  exact fin3.out
        · have hke : k = s.size := by omega
          have hv := verify_none hl4 H2.out (fun j hj => hno.out j (by omega))
          have hed := ends_dev H2.out
          have HE2 := hide ((unhide HE) (last : Int) wr)
          rw [hlast.out] at HE2
          have hvv : Hid (verifyC s.toList = if endsR s.toList (last : Int) = true then (0, 0) else (5, (last : Int))) := by
            unfold Hid
            rw [hv, hlast.out]
            by_cases c : endsR s.toList (((startsC s.toList).getLastD 0 : Nat) : Int) = true
            · rw [if_pos c, if_pos (hed.1 c)]
            · rw [if_neg c, if_neg (fun h => c (hed.2 h))]
          rw [← hlast.out] at HE2
          generalize endsR s.toList (last : Int) = ev at *
          have kf := hfl.kept
          have KF := hide kf
          clear hv hed HI HL HE hlast hno H1 H2 hfl kf
          cases ev with
          | true =>
            have hx := hvv.out
            rw [if_pos rfl] at hx
            have post := hide ((unhide HV) _ hx)
            clear HV hvv hx
            go_wp2_with fail
            refine (unhide HE2).mono ?_
            rintro e w2 ⟨rfl, k2⟩
            have p2 := hide ((unhide post) w2 (KF.out.trans k2.all))
            clear HE2 k2 KF post
            go_wp2
            exact p2.out
          | false =>
            have hx := hvv.out
            rw [if_neg (by decide)] at hx
            have post := hide ((unhide HV) _ hx)
            clear HV hvv hx
            go_wp2_with fail
            refine (unhide HE2).mono ?_
            rintro e w2 ⟨rfl, k2⟩
            have p2 := hide ((unhide post) w2 (KF.out.trans k2.all))
            clear HE2 k2 KF post
            go_wp2
            exact p2.out

set_option maxRecDepth 100000 in
set_option maxHeartbeats 400000 in
theorem verify_any (s : ByteArray) (hs : s.size ≤ maxLen) (w : World) : Calls Try.prog 9 #[.string s] w (VerPost (verifyC s.toList) w) := by
  have hl : s.toList.length = s.size := toList_len s
  unfold maxLen at hs
  by_cases h : 1024 < s.size
  · rw [verify_long (by rw [hl]; exact h)]
    have post : Hid (VerPost (1, 0) w (.returned (.tuple #[.int .i64 1, .int .i64 0])) w) := ⟨rfl, Kept.refl _ _⟩
    generalize VerPost (1, 0) w = QQ at *
    go_enter Try.func9, Try.ntmps9
    go_wp2
    exact post.out
  · have hc := hide (verifyCode_any s (by omega) w)
    unfold VerPost at hc ⊢
    generalize verifyC s.toList = x at *
    go_enter Try.func9, Try.ntmps9
    go_wp2_with fail
    refine (unhide hc).mono ?_
    rintro e w1 ⟨rfl, k1⟩
    go_wp2
    go_ret2
    exact ⟨rfl, k1⟩
end Go.Proofs.Ytnanjomnldfidaa
