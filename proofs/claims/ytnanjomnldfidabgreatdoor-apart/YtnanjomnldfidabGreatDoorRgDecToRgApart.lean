/-
  graderref's Dec, secrets, fresh, Opens.
  graderref's Grade.
  graderlaw's plain: the tests of an argument, laid anew.
  graderlaw's hide: tests with other hidden bytes.
  What package grader's Open, Submit and Marks must do, as a contract; graderlaw's submits by it.
  The law Grades, by the contract of package grader's Open, Submit and Marks.
  The law Again, by the contract of package grader's Open, Submit and Marks.
  The law Hidden, by the contract of package grader's Open, Submit and Marks.
  The law Apart, by the contract of package grader's Open, Submit and Marks.
-/
import Derived.Test.YtnanjomnldfidabGreatDoorRunSecToRunBd
import Derived.Test.YtnanjomnldfidabGreatDoorRmTwoToRmAny
import Derived.BigQuiet
import Derived.Test.YtnanjomnldfidabGreatDoorRuns
import Derived.Test.YtnanjomnldfidabGreatDoorLawKit
import Derived.Lib.LaidTab
import Derived.Lib.ItoaNum
set_option linter.unusedSimpArgs false
set_option linter.unusedVariables false
set_option linter.unusedSectionVars false
namespace Go.Proofs.YtnanjomnldfidabGreatDoor
open Go.RowKit

theorem mkB_append (a b : List UInt8) : mkB a ++ mkB b = mkB (a ++ b) := by
  have := eq_mk (t := mkB a ++ mkB b) (l := a ++ b) (by rw [toList_append, mkB_toList, mkB_toList])
  exact this
theorem byteOf_nat' {a : Int} (h0 : 0 ≤ a) (h1 : a < 256) : ((byteOf a).toNat : Int) = a := by
  unfold byteOf
  rw [UInt8.toNat_ofNat_of_lt' (by have : a % 256 = a := Int.emod_eq_of_lt h0 h1
                                   show (a % 256).toNat < 256
                                   omega)]
  rw [Int.emod_eq_of_lt h0 h1]; omega
theorem conv_one (w : World) (x : Int) (h0 : 0 ≤ x) (h1 : x < 256) : (convert 89 9 (.slice (some ⟨w.heap.size, 0, none⟩) 1 1)).run Tryz.prog (w.alloc (.cells #[.int .u8 x] 5)) = .ok (.string (mkB [byteOf x])) (w.alloc (.cells #[.int .u8 x] 5)) := by
  refine run_convert_bytes_back (w.alloc (.cells #[.int .u8 x] 5)) 89 9 5 ⟨w.heap.size, 0, none⟩ 1 [byteOf x] Tryz.underlying89 Tryz.underlying5 Tryz.underlying9 fun j hj => ?_
  have hj0 : j = 0 := by simpa using hj
  subst hj0
  have e : (⟨w.heap.size, 0, none⟩ : Addr).add 0 = ⟨w.heap.size, 0, none⟩ := by unfold Addr.add; split <;> simp_all
  rw [e, cell_of_block (heap_alloc_new w (.cells #[.int .u8 x] 5)) 0 _ rfl]
  show some (Value.int .u8 x) = some (Value.int .u8 ((byteOf x).toNat : Int))
  rw [byteOf_nat' h0 h1]

set_option maxRecDepth 100000 in
set_option maxHeartbeats 1000000 in
theorem refDec_any : ∀ (n : Nat), n ≤ 1000000 → ∀ w : World, Calls Tryz.prog 29 #[.int .i64 (n : Int)] w fun e w' => e = .returned (.string (mkB (decL n))) ∧ Kept (fun k => k < w.heap.size) w w' := by
  intro n
  induction n using Nat.strongRecOn with
  | _ n ih =>
    intro hn w
    have hm0 : 0 ≤ (n : Int) % 10 := by omega
    have hm1 : (n : Int) % 10 < 10 := by omega
    have hcv := conv_one w (48 + (n : Int) % 10) (by omega) (by omega)
    have hk : Kept (fun k => k < w.heap.size) w (w.alloc (.cells #[.int .u8 (48 + (n : Int) % 10)] 5)) := (Kept.refl _ w).alloc _
    by_cases h : n < 10
    · have hd : decL n = [byteOf (48 + (n : Int) % 10)] := by rw [decL_small h, Int.emod_eq_of_lt (by omega) (by omega)]
      rw [hd]
      clear ih hd
      go_enter Tryz.func29, Tryz.ntmps29
      go_wp2
      go_ret
      exact ⟨rfl, hk⟩
    · have hd : decL n = decL (n / 10) ++ [byteOf (48 + (n : Int) % 10)] := by rw [decL_big h]
      have hc := hide (ih (n / 10) (by omega) (by omega) (w.alloc (.cells #[.int .u8 (48 + (n : Int) % 10)] 5)))
      have hq : ((n / 10 : Nat) : Int) = (n : Int) / 10 := by omega
      rw [hq] at hc
      have hl := decL_le (n / 10)
      rw [hd, ← mkB_append]
      have hsz : (mkB (decL (n / 10))).size + (mkB [byteOf (48 + (n : Int) % 10)]).size ≤ 9223372036854775807 := by rw [mkB_size, mkB_size]; simp; omega
      clear ih hd hq
      generalize mkB (decL (n / 10)) = dS at *
      generalize hmb : mkB [byteOf (48 + (n : Int) % 10)] = mS at *
      go_enter Tryz.func29, Tryz.ntmps29
      go_wp2_with fail
      refine (unhide hc).mono ?_
      rintro e w1 ⟨rfl, k1⟩
      have fin : Hid (Kept (fun k => k < w.heap.size) w w1) := hk.trans k1.all
      clear hc k1 hk
      go_wp2
      go_ret
      exact ⟨rfl, fin.out⟩

/-- Tests in memory. -/
def testCells (l : List TestV) : List Value := l.flatMap fun t => [.string t.inp, .string t.hidden]
theorem testCells_length (l : List TestV) : (testCells l).length = l.length * 2 := by
  induction l with
  | nil => rfl
  | cons a l ih => simp only [testCells, List.flatMap_cons, List.length_append, List.length_cons, List.length_nil] at *; omega
theorem testCells_at (l : List TestV) : ∀ k, k < l.length → (testCells l)[k * 2]? = some (.string (l.getD k noTest).inp) ∧ (testCells l)[k * 2 + 1]? = some (.string (l.getD k noTest).hidden) := by
  induction l with
  | nil => intro k hk; simp at hk
  | cons a l ih =>
    intro k hk
    cases k with
    | zero => simp [testCells]
    | succ k =>
      have := ih k (by simpa using hk)
      have e1 : (k + 1) * 2 = k * 2 + 2 := by omega
      have e : testCells (a :: l) = [.string a.inp, .string a.hidden] ++ testCells l := by simp [testCells]
      rw [e, e1]
      constructor
      · rw [List.getElem?_append_right (by simp)]
        simpa using this.1
      · rw [List.getElem?_append_right (by simp)]
        simpa using this.2
def TestsIs (e : TypeId) (w : World) (v : Value) (l : List TestV) : Prop := w.ownsRow 0 e 2 v l.length (testCells l)
theorem TestsIs.cells {e : TypeId} {w : World} {v : Value} {l : List TestV} (h : TestsIs e w v l) {k : Nat} (hk : k < l.length) : ∃ f cp, v = .slice (some ⟨f, 0, none⟩) l.length cp ∧ f < w.heap.size ∧
    w.cell? ⟨f, k * 2, none⟩ = some (.string (l.getD k noTest).inp) ∧ w.cell? ⟨f, k * 2 + 1, none⟩ = some (.string (l.getD k noTest).hidden) := by
  obtain ⟨f, cp, rfl⟩ := own_form h (by omega)
  obtain ⟨h0, h1⟩ := testCells_at l k hk
  exact ⟨f, cp, rfl, (World.ownsRow.lt h f rfl).2, by rw [World.ownsRow.cellAt h _ (by omega)]; exact h0, by rw [World.ownsRow.cellAt h _ (by omega)]; exact h1⟩
theorem TestsIs.kept {e : TypeId} {w w' : World} {v : Value} {l : List TestV} {Q : Nat → Prop} (h : TestsIs e w v l) (hk : Kept Q w w') (hq : ∀ k, v.ownBlock = some k → Q k) : TestsIs e w' v l := by
  refine ⟨h.1, ?_⟩
  rcases h.2 with hn | ⟨g, cap, cur, rfl, hb, hg, rest⟩
  · exact .inl hn
  · exact .inr ⟨g, cap, cur, rfl, hb, hk.at' hg (hq g rfl), rest⟩
theorem mkB_self (t : ByteArray) : mkB t.toList = t := (eq_mk (t := t) rfl).symm

set_option maxRecDepth 100000 in
set_option maxHeartbeats 1000000 in
theorem refSecrets_any (w : World) (v : Value) (ts : List TestV) (hT : TestsIs 48 w v ts) (hl : ts.length ≤ 6) (hh : ∀ i, i < ts.length → (ts.getD i noTest).hidden.size ≤ 32) (n : Nat) (hn : n ≤ ts.length) :
    Calls Tryz.prog 26 #[v, .int .i64 (n : Int)] w fun e w' => e = .returned (.string (mkB (hidL ts n))) ∧ w' = w := by
  have HC := hide (fun k (hk : k < ts.length) => hT.cells hk)
  obtain ⟨va, vc, hv⟩ := own_slice hT
  have hle := hidL_le hh
  have HLE := hide hle
  have HH := hide hh
  subst hv
  clear hT hle hh
  go_enter Tryz.func26, Tryz.ntmps26
  go_wp2
  go_loop [5, 6] (fun s i => ∃ k : Nat, k ≤ n ∧ i = .int .i64 k ∧ s = .string (mkB (hidL ts k))) (fun _ i => n - (intOf i).toNat)
  case atStart => exact ⟨0, Nat.zero_le _, rfl, rfl⟩
  case round =>
    obtain ⟨k, hk, rfl, rfl⟩ := hrel
    by_cases hlt : k < n
    · have hlt2 : k < ts.length := by omega
      obtain ⟨f, cp, hvv, hf, e0, e1⟩ := (unhide HC) k hlt2
      simp only [Value.slice.injEq, true_and] at hvv
      obtain ⟨rfl, rfl⟩ := hvv
      have hs1 := HLE.out k (by omega)
      have hs2 := HH.out k hlt2
      have hst : Hid (mkB (hidL ts k) ++ (ts.getD k noTest).hidden = mkB (hidL ts (k + 1))) := by
        unfold Hid
        rw [hidL_step hlt2, ← mkB_append, mkB_self]
      have hsz : (mkB (hidL ts k)).size + (ts.getD k noTest).hidden.size ≤ 9223372036854775807 := by rw [mkB_size]; omega
      generalize (ts.getD k noTest).hidden = hd at *
      generalize (ts.getD k noTest).inp = ip at *
      generalize mkB (hidL ts k) = sk at *
      go_wp2
      go_round
      case rel => exact ⟨k + 1, by omega, by go_num, by rw [hst.out]⟩
      case measure => simp [intOf]; omega
    · have hke : k = n := by omega
      subst hke
      by_cases hlt2 : k < ts.length
      · go_wp2
        go_ret
        exact ⟨rfl, rfl⟩
      · go_wp2
        go_ret
        exact ⟨rfl, rfl⟩

theorem conv_four (w : World) (a b c d : Int) (ha : 0 ≤ a) (ha' : a < 256) (hb : 0 ≤ b) (hb' : b < 256) (hc : 0 ≤ c) (hc' : c < 256) (hd : 0 ≤ d) (hd' : d < 256) :
    (convert 89 9 (.slice (some ⟨w.heap.size, 0, none⟩) 4 4)).run Tryz.prog (w.alloc (.cells #[.int .u8 a, .int .u8 b, .int .u8 c, .int .u8 d] 5)) = .ok (.string (mkB [byteOf a, byteOf b, byteOf c, byteOf d])) (w.alloc (.cells #[.int .u8 a, .int .u8 b, .int .u8 c, .int .u8 d] 5)) := by
  refine run_convert_bytes_back (w.alloc (.cells #[.int .u8 a, .int .u8 b, .int .u8 c, .int .u8 d] 5)) 89 9 5 ⟨w.heap.size, 0, none⟩ 4 [byteOf a, byteOf b, byteOf c, byteOf d] Tryz.underlying89 Tryz.underlying5 Tryz.underlying9 fun j hj => ?_
  have e : (⟨w.heap.size, 0, none⟩ : Addr).add j = ⟨w.heap.size, j, none⟩ := by unfold Addr.add; split <;> simp_all
  rw [e]
  have hbk := heap_alloc_new w (.cells #[.int .u8 a, .int .u8 b, .int .u8 c, .int .u8 d] 5)
  have h4 : j < 4 := by simpa using hj
  have hj' : j = 0 ∨ j = 1 ∨ j = 2 ∨ j = 3 := by omega
  rcases hj' with rfl | rfl | rfl | rfl
  · rw [cell_of_block hbk 0 _ rfl]; show some (Value.int .u8 a) = some (Value.int .u8 ((byteOf a).toNat : Int)); rw [byteOf_nat' ha ha']
  · rw [cell_of_block hbk 1 _ rfl]; show some (Value.int .u8 b) = some (Value.int .u8 ((byteOf b).toNat : Int)); rw [byteOf_nat' hb hb']
  · rw [cell_of_block hbk 2 _ rfl]; show some (Value.int .u8 c) = some (Value.int .u8 ((byteOf c).toNat : Int)); rw [byteOf_nat' hc hc']
  · rw [cell_of_block hbk 3 _ rfl]; show some (Value.int .u8 d) = some (Value.int .u8 ((byteOf d).toNat : Int)); rw [byteOf_nat' hd hd']

set_option maxRecDepth 100000 in
set_option maxHeartbeats 1000000 in
theorem refFresh_any (w : World) (v : Value) (ts : List TestV) (hT : TestsIs 48 w v ts) (hl : ts.length ≤ 6) (hh : ∀ i, i < ts.length → (ts.getD i noTest).hidden.size ≤ 32) (i : Nat) (hi : i < ts.length) :
    Calls Tryz.prog 27 #[v, .int .i64 (i : Int)] w fun e w' => e = .returned (.string (mkB (imageL ts i))) ∧ Kept (fun k => k < w.heap.size) w w' := by
  have h1 := hide (refSecrets_any w v ts hT hl hh i (by omega))
  have h2 := hide (refSecrets_any w v ts hT hl hh ts.length (Nat.le_refl _))
  obtain ⟨f, cp, hv, hf, e0, e1⟩ := hT.cells hi
  have hle1 := hidL_le hh i (by omega)
  have hle2 := hidL_le hh ts.length (Nat.le_refl _)
  have hs2 := hh i hi
  have him : mkB (imageL ts i) = mkB (headL ts i) ++ mkB (hidL ts ts.length) ++ mkB (List.replicate 32 0) := by unfold imageL; rw [mkB_append, mkB_append]
  obtain ⟨s32, hs32⟩ : ∃ x, x = mkB (List.replicate 32 (0 : UInt8)) := ⟨_, rfl⟩
  rw [← hs32] at him
  rw [him]
  have H32 := hide hs32
  have hz4 : s32.size = 32 := by rw [hs32, mkB_size, List.length_replicate]
  clear hs32
  subst hv
  have hcv := conv_four w (i : Int) (ts.length : Int) (4 + ((hidL ts i).length : Int)) ((ts.getD i noTest).hidden.size : Int) (by omega) (by omega) (by omega) (by omega) (by omega) (by omega) (by omega) (by omega)
  have hhd : [byteOf (i : Int), byteOf (ts.length : Int), byteOf (4 + ((hidL ts i).length : Int)), byteOf ((ts.getD i noTest).hidden.size : Int)] = headL ts i := rfl
  rw [hhd] at hcv
  have hk : Kept (fun k => k < w.heap.size) w (w.alloc (.cells #[.int .u8 (i : Int), .int .u8 (ts.length : Int), .int .u8 (4 + ((hidL ts i).length : Int)), .int .u8 ((ts.getD i noTest).hidden.size : Int)] 5)) := (Kept.refl _ w).alloc _
  have hz1 : ((mkB (hidL ts i)).size : Int) = ((hidL ts i).length : Int) := by rw [mkB_size]
  have hz2 : (mkB (headL ts i)).size = 4 := rfl
  have hz3 : (mkB (hidL ts ts.length)).size ≤ 192 := by rw [mkB_size]; omega
  have HIM := hide him
  have hlb : ((hidL ts i).length : Int) ≤ 192 := by omega
  clear hT hh hle1 hle2 him hhd
  generalize (ts.getD i noTest).hidden = hd at *
  generalize (ts.getD i noTest).inp = ip at *
  generalize hL0 : ((hidL ts i).length : Int) = n1 at *
  have hn1 : 0 ≤ n1 := by omega
  generalize mkB (hidL ts i) = s1 at *
  generalize mkB (hidL ts ts.length) = s2 at *
  generalize mkB (headL ts i) = sh at *
  generalize hLt : ts.length = L at *
  go_enter Tryz.func27, Tryz.ntmps27
  go_wp2_with fail
  refine (unhide h1).mono ?_
  rintro e w1 ⟨rfl, rfl⟩
  clear h1
  go_wp2_with fail
  refine (unhide h2).mono ?_
  rintro e w1 ⟨rfl, rfl⟩
  clear h2
  go_wp2
  go_loop [8, 9] (fun r i => ∃ k : Nat, k ≤ 32 ∧ i = .int .i64 k ∧ r = .string (mkB (List.replicate k 0))) (fun _ i => 32 - (intOf i).toNat)
  case atStart => exact ⟨0, Nat.zero_le _, rfl, rfl⟩
  case round =>
    obtain ⟨k, hk2, rfl, rfl⟩ := hrel
    by_cases hlt : k < 32
    · have hst : Hid (mkB (List.replicate k 0) ++ (⟨#[0]⟩ : ByteArray) = mkB (List.replicate (k + 1) 0)) := by
        unfold Hid
        rw [List.replicate_succ', ← mkB_append]; rfl
      have hsz : (mkB (List.replicate k 0)).size + (⟨#[0]⟩ : ByteArray).size ≤ 9223372036854775807 := by rw [mkB_size, List.length_replicate]; show k + 1 ≤ _; omega
      generalize mkB (List.replicate k 0) = sk at *
      go_wp2
      go_round
      case rel => exact ⟨k + 1, by omega, by go_num, by rw [hst.out]⟩
      case measure => simp [intOf]; omega
    · have hke : k = 32 := by omega
      subst hke
      rw [show mkB (List.replicate 32 (0 : UInt8)) = s32 from H32.out.symm]
      have hz5 : (sh ++ s2).size = sh.size + s2.size := by rw [← toList_len, toList_append, List.length_append, toList_len, toList_len]
      go_wp2
      go_ret
      exact ⟨rfl, hk⟩

/-- Open's limits and checker. -/
def hidBad (ts : List TestV) : Bool := ts.any fun t => decide (32 < t.hidden.size)
def opensM (ck : ByteArray) (ts : List TestV) (fuel : Int) : Int × Nat := if 6 < ts.length ∨ 10000 < fuel then (1, 0) else if hidBad ts = true then (1, 0) else refCheckM ck
theorem hidBad_take {ts : List TestV} {k : Nat} (hk : k < ts.length) : hidBad (ts.take (k + 1)) = (hidBad (ts.take k) || decide (32 < (ts.getD k noTest).hidden.size)) := by
  unfold hidBad
  rw [List.take_add_one, List.getElem?_eq_getElem hk, List.any_append]
  simp [List.getD, hk]
theorem hidBad_all {ts : List TestV} (h : hidBad ts = false) : ∀ i, i < ts.length → (ts.getD i noTest).hidden.size ≤ 32 := by
  intro i hi
  unfold hidBad at h
  rw [List.any_eq_false] at h
  have := h ts[i] (List.getElem_mem hi)
  have e : ts.getD i noTest = ts[i] := by simp [List.getD, hi]
  rw [e]
  simpa using this

set_option maxRecDepth 100000 in
set_option maxHeartbeats 1000000 in
theorem refOpens_any (ck : ByteArray) (w : World) (P : Nat → Prop) (hP : ∀ k, P k → k < w.heap.size) (hs : ck.size ≤ maxLen) (hF : WordsAt w 0 formsL) (hL : WordsAt w 1 listedL) (hPF : P 0) (hPL : P 1) (v : Value) (ts : List TestV) (hT : TestsIs 48 w v ts) (hl : ts.length ≤ 4503599627370496) (fuel : Int) :
    Calls Tryz.prog 7 #[.string ck, v, .int .i64 fuel] w (ChkPost P (opensM ck ts fuel) w) := by
  have HCh := hide (refCheck_any ck w P hP hs hF hL hPF hPL)
  have HC := hide (fun k (hk : k < ts.length) => hT.cells hk)
  obtain ⟨va, vc, hv⟩ := own_slice hT
  subst hv
  unfold opensM
  by_cases h1 : 6 < ts.length ∨ 10000 < fuel
  · rw [if_pos h1]
    have post : Hid (ChkPost P (1, 0) w (.returned (.tuple #[.int .i64 1, .int .i64 0])) w) := ⟨rfl, Kept.refl _ _⟩
    generalize ChkPost P (1, 0) w = QQ at *
    have h1' : 6 < ts.length ∨ (¬ 6 < ts.length ∧ 10000 < fuel) := by omega
    clear HCh HC hT h1 hF hL
    rcases h1' with q | ⟨q1, q2⟩
    · have q' : (6 : Int) < (ts.length : Int) := by omega
      go_enter Tryz.func7, Tryz.ntmps7
      go_wp2
      exact post.out
    · have q' : (ts.length : Int) ≤ 6 := by omega
      go_enter Tryz.func7, Tryz.ntmps7
      go_wp2
      exact post.out
  · rw [if_neg h1]
    have q1 : (ts.length : Int) ≤ 6 := by omega
    have q2 : fuel ≤ 10000 := by omega
    have HV : Hid (∀ x, (if hidBad ts = true then (1, 0) else refCheckM ck) = x → ChkPost P (if hidBad ts = true then (1, 0) else refCheckM ck) w = ChkPost P x w) := fun x hx => by rw [hx]
    have post : Hid (hidBad ts = true → ChkPost P (if hidBad ts = true then (1, 0) else refCheckM ck) w (.returned (.tuple #[.int .i64 1, .int .i64 0])) w) := fun h => by rw [if_pos h]; exact ⟨rfl, Kept.refl _ _⟩
    have post2 : Hid (hidBad ts = false → ∀ e w', ChkPost P (refCheckM ck) w e w' → ChkPost P (if hidBad ts = true then (1, 0) else refCheckM ck) w e w') := fun h e w' hh => by rw [if_neg (by rw [h]; decide)]; exact hh
    generalize ChkPost P (if hidBad ts = true then (1, 0) else refCheckM ck) w = QQ at *
    clear h1 hT hF hL HV
    go_enter Tryz.func7, Tryz.ntmps7
    go_wp2
    go_loop [8] (fun i => ∃ k : Nat, k ≤ ts.length ∧ i = .int .i64 k ∧ Hid (hidBad (ts.take k) = false)) (fun i => ts.length - (intOf i).toNat)
    case atStart => exact ⟨0, Nat.zero_le _, rfl, rfl⟩
    case round =>
      obtain ⟨k, hk, rfl, hno⟩ := hrel
      by_cases hlt : k < ts.length
      · obtain ⟨f, cp, hvv, hf, e0, e1⟩ := (unhide HC) k hlt
        simp only [Value.slice.injEq, true_and] at hvv
        obtain ⟨rfl, rfl⟩ := hvv
        have hst := hide (hidBad_take hlt)
        by_cases hbad : 32 < (ts.getD k noTest).hidden.size
        · have hb : hidBad ts = true := by
            have h1 : hidBad (ts.take (k + 1)) = true := by rw [hst.out, decide_eq_true hbad, Bool.or_true]
            unfold hidBad at h1 ⊢
            rw [List.any_eq_true] at h1 ⊢
            obtain ⟨t, t1, t2⟩ := h1
            exact ⟨t, List.take_subset _ _ t1, t2⟩
          have p1 := hide (post.out hb)
          have hbi : (32 : Int) < ((ts.getD k noTest).hidden.size : Int) := by omega
          generalize (ts.getD k noTest).hidden = hd at *
          generalize (ts.getD k noTest).inp = ip at *
          clear HCh HC post post2 hb hst
          go_wp2
          exact p1.out
        · have hn2 : Hid (hidBad (ts.take (k + 1)) = false) := by unfold Hid; rw [hst.out, hno.out, decide_eq_false hbad]; rfl
          have hbi : ((ts.getD k noTest).hidden.size : Int) ≤ 32 := by omega
          generalize (ts.getD k noTest).hidden = hd at *
          generalize (ts.getD k noTest).inp = ip at *
          clear HCh HC post post2 hst
          go_wp2
          go_round
          case rel => exact ⟨k + 1, by omega, by go_num, hn2⟩
          case measure => simp [intOf]; omega
      · have hke : k = ts.length := by omega
        have hn2 : hidBad ts = false := by have := hno.out; rwa [hke, List.take_length] at this
        have p2 := hide (post2.out hn2)
        unfold ChkPost at HCh p2
        generalize refCheckM ck = r at *
        clear HC post post2 hn2
        go_wp2_with fail
        refine (unhide HCh).mono ?_
        rintro e w1 ⟨rfl, k1⟩
        have p3 := hide ((unhide p2) _ w1 ⟨rfl, k1⟩)
        clear HCh p2
        go_wp2
        exact p3.out
end Go.Proofs.YtnanjomnldfidabGreatDoor

set_option linter.unusedSimpArgs false
set_option linter.unusedVariables false
set_option linter.unusedSectionVars false
namespace Go.Proofs.YtnanjomnldfidabGreatDoor
open Go.RowKit

section
variable {P : Program} {o : Oper} {a : Act} {C : World → Prop} {K : Act → Prop} {v : Value}
theorem q_val (h : ∀ w, C w → (execOp a.eval o).run P w = .ok (.value v) w) (hk : K (a.put o.dst v)) : o.quiet P a C K :=
  ⟨v, fun w hw => by unfold Oper.quietAt; rw [h w hw]; exact ⟨rfl, rfl⟩, hk⟩
theorem q_call {f : FuncId} {args : Array Value} (h : ∀ w, C w → (execOp a.eval o).run P w = .ok (.enter f args) w) (hc : ∀ w, C w → Calls P f args w fun e w'' => e = .returned v ∧ C w'') (hk : K (a.put o.dst v)) : o.quiet P a C K :=
  ⟨v, fun w hw => by unfold Oper.quietAt; rw [h w hw]; exact ⟨rfl, hc w hw⟩, hk⟩
end

theorem bsize_append (a b : ByteArray) : (a ++ b).size = a.size + b.size := by rw [← toList_len, toList_append, List.length_append, toList_len, toList_len]

set_option maxRecDepth 100000 in
set_option maxHeartbeats 1000000 in
theorem refGrade_any (ck src : ByteArray) (w : World) (hck : ck.size ≤ maxLen) (hs : src.size ≤ maxLen) (hF : WordsAt w 0 formsL) (hL : WordsAt w 1 listedL) (v : Value) (ts : List TestV) (hT : TestsIs 48 w v ts) (hl : ts.length ≤ 6) (hh : ∀ i, i < ts.length → (ts.getD i noTest).hidden.size ≤ 32) (hi : ∀ i, (ts.getD i noTest).inp.size ≤ maxLen) (rights fuel : Int) (hfu : fuel ≤ 10000) (hr1 : (readM src).1 = 0) (hr2 : (readM ck).1 = 0) :
    Calls Tryz.prog 16 #[.string ck, v, .int .i64 rights, .int .i64 fuel, .string src] w fun e w' => e = .returned (.tuple #[.string (mkB (pubTo ts rights fuel src ts.length)), .string (mkB (marksTo ck ts rights fuel src ts.length))]) ∧ Kept (fun k => k < w.heap.size) w w' := by
  have l2 := words_lt hL (by decide)
  have l3 := words_lt hF (by decide)
  have hvb : ∀ k, v.ownBlock = some k → k < w.heap.size := fun k hk => (World.ownsRow.lt hT k hk).2
  have HSe := hide (refSecrets_any w v ts hT hl hh ts.length (Nat.le_refl _))
  have HFr := hide (fun (w1 : World) (hk : Kept (fun k => k < w.heap.size) w w1) (i : Nat) (hi : i < ts.length) => refFresh_any w1 v ts (hT.kept hk hvb) hl hh i hi)
  have HC := hide (fun (w1 : World) (hk : Kept (fun k => k < w.heap.size) w w1) (k : Nat) (hlt : k < ts.length) => (hT.kept hk hvb).cells hlt)
  have HRu := hide (fun (w1 : World) (hk : Kept (fun k => k < w.heap.size) w w1) (s : ByteArray) (b : BoxV) (h1 : s.size ≤ maxLen) (h2 : b.inp.size ≤ maxLen) (h3 : b.image.size ≤ maxLen) => refRun_any s b w1 (fun k => k < w1.heap.size) (fun k hk => hk) h1 h2 h3 (hF.kept hk l3 l3) (hL.kept hk l2 l2) (Nat.lt_of_lt_of_le l3 hk.size) (Nat.lt_of_lt_of_le l2 hk.size))
  have HDe := hide refDec_any
  unfold RunPost at HRu
  obtain ⟨va, vc, hv⟩ := own_slice hT
  have hhs := hidL_le hh ts.length (Nat.le_refl _)
  have HHI := hide hi
  have hz : ((mkB (hidL ts ts.length)).size : Int) = ((hidL ts ts.length).length : Int) := by rw [mkB_size]
  subst hv
  clear hT hvb hF hL hh hi
  go_enter Tryz.func16, Tryz.ntmps16
  go_wp2_with fail
  refine (unhide HSe).mono ?_
  rintro e w0 ⟨rfl, rfl⟩
  clear HSe
  have HRef : Hid (∀ P', Kept P' w0 w0) := fun P' => Kept.refl P' w0
  go_wp2
  go_loopw [12, 13, 15] (fun pu ma i wr => ∃ k : Nat, k ≤ ts.length ∧ i = .int .i64 k ∧ pu = .string (mkB (pubTo ts rights fuel src k)) ∧ ma = .string (mkB (marksTo ck ts rights fuel src k)) ∧ Hid (Kept (fun k => k < w0.heap.size) w0 wr)) (fun _ _ i _ => ts.length - (intOf i).toNat)
  case atStart => exact ⟨0, Nat.zero_le _, rfl, rfl, rfl, HRef.out _⟩
  case round =>
    obtain ⟨k, hk, rfl, rfl, rfl, hkw⟩ := hrel
    by_cases hlt : k < ts.length
    · have hfr := hide ((unhide HFr) wr hkw.out k hlt)
      go_wp2_with fail
      refine (unhide hfr).mono ?_
      rintro e w1 ⟨rfl, k1⟩
      have kk1 : Kept (fun k => k < w0.heap.size) w0 w1 := hkw.out.trans k1.all
      obtain ⟨f, cp, hvv, hf, e0, e1⟩ := (unhide HC) w1 kk1 k hlt
      simp only [Value.slice.injEq, true_and] at hvv
      obtain ⟨rfl, rfl⟩ := hvv
      have him : (mkB (imageL ts k)).size ≤ maxLen := by rw [mkB_size, imageL_len]; unfold maxLen; omega
      have hru := hide ((unhide HRu) w1 kk1 src (testBox ts k rights fuel) hs (HHI.out k) him)
      rw [runCells_res src (testBox ts k rights fuel) (HHI.out k)] at hru
      obtain ⟨r, hr⟩ : ∃ r, r = runRes src (testBox ts k rights fuel) := ⟨_, rfl⟩
      rw [← hr] at hru
      unfold testBox Res.cells at hru
      have hru' : Hid (Calls Tryz.prog 28 #[.string src, .string (ts.getD k noTest).inp, .string (mkB (imageL ts k)), .int .i64 4, .int .i64 ((hidL ts ts.length).length : Int), .int .i64 rights, .int .i64 fuel] w1 fun e w' => e = .returned (.agg #[.string (mkB r.out), .string (mkB r.image), .int .i64 r.mark, .int .i64 r.used, .int .i64 r.err]) ∧ Kept (fun k => k < w1.heap.size) w1 w') := hru
      have hiz : (testBox ts k rights fuel).image.size ≤ 256 := by show (mkB (imageL ts k)).size ≤ 256; rw [mkB_size, imageL_len]; omega
      have hbd : r.Bd (testBox ts k rights fuel).image.size := by rw [hr]; exact res_bd hr1 hiz hfu (HHI.out k)
      obtain ⟨ne, hne⟩ : ∃ n : Nat, r.err = n := ⟨r.err.toNat, by have := hbd.err; omega⟩
      obtain ⟨nu, hnu⟩ : ∃ n : Nat, r.used = n := ⟨r.used.toNat, by have := hbd.used; omega⟩
      obtain ⟨nm, hnm⟩ : ∃ n : Nat, r.mark = n := ⟨r.mark.toNat, by have := hbd.mark; omega⟩
      have hneb : ne ≤ 13 := by have := hbd.err'; omega
      have hnub : nu ≤ 10000 := by have := hbd.used'; omega
      obtain ⟨so, hso⟩ : ∃ x, x = mkB r.out := ⟨_, rfl⟩
      obtain ⟨si, hsi⟩ : ∃ x, x = mkB r.image := ⟨_, rfl⟩
      have hsz : so.size ≤ 64 := by rw [hso, mkB_size]; exact hbd.out
      rw [hne, hnu, hnm, ← hso, ← hsi] at hru'
      have HBD := hide hbd
      have HIZ := hide hiz
      have HR := hide hr
      have HN := hide (And.intro hne (And.intro hnu (And.intro hnm (And.intro hso hsi))))
      clear hbd hiz hne hnu hnm hso hsi
      have KK1 := hide kk1
      clear hfr k1 hru hr kk1 him
      generalize (ts.getD k noTest).inp = ip at *
      generalize (ts.getD k noTest).hidden = hd at *
      go_wp2_with fail
      refine (unhide hru').mono ?_
      rintro e w2 ⟨rfl, k2⟩
      obtain ⟨wA, hwA⟩ : ∃ wA, wA = w2.alloc (.cells #[.string so, .string si, .int .i64 (nm : Int), .int .i64 (nu : Int), .int .i64 (ne : Int)] 74) := ⟨_, rfl⟩
      have hbA : wA.heap[w2.heap.size]? = some (.cells #[.string so, .string si, .int .i64 (nm : Int), .int .i64 (nu : Int), .int .i64 (ne : Int)] 74 (0, 0)) := by rw [hwA]; exact heap_alloc_new w2 _
      have KKA : Hid (Kept (fun k => k < w0.heap.size) w0 wA) := by unfold Hid; rw [hwA]; exact (KK1.out.trans k2.all).alloc _
      have HWA := hide hwA
      have HBA := hide hbA
      have hltA := lt_of_block hbA
      clear hru' k2 hwA hbA e0 e1
      go_wp2
      rw [show w2.alloc (.cells #[.string so, .string si, .int .i64 (nm : Int), .int .i64 (nu : Int), .int .i64 (ne : Int)] 74) = wA from HWA.out.symm]
      obtain ⟨C, hC⟩ : ∃ C : World → Prop, C = fun w' => Kept (fun k => k < wA.heap.size) wA w' := ⟨_, rfl⟩
      have hC0 : C { wA with drawn := wA.drawn + 1 } := by rw [hC]; exact (Kept.refl _ wA).drew
      have hcell : ∀ w', C w' → w'.heap[w2.heap.size]? = some (.cells #[.string so, .string si, .int .i64 (nm : Int), .int .i64 (nu : Int), .int .i64 (ne : Int)] 74 (0, 0)) := fun w' hw' => by rw [hC] at hw'; exact hw'.at' HBA.out hltA
      refine wp_region_quiet (C := C) (by kernel_rfl) (by kernel_rfl) hC0 ?_
      simp only [List.toList_toArray]
      have hlt9 : ∀ w', C w' → w2.heap.size < w'.heap.size := fun w' hw' => lt_of_block (hcell w' hw')
      have c0 : ∀ w', C w' → w'.cell? ⟨w2.heap.size, 0, none⟩ = some (.string so) := fun w' hw' => cell_of_block (hcell w' hw') 0 _ rfl
      have c3 : ∀ w', C w' → w'.cell? ⟨w2.heap.size, 3, none⟩ = some (.int .i64 (nu : Int)) := fun w' hw' => cell_of_block (hcell w' hw') 3 _ rfl
      have c4 : ∀ w', C w' → w'.cell? ⟨w2.heap.size, 4, none⟩ = some (.int .i64 (ne : Int)) := fun w' hw' => cell_of_block (hcell w' hw') 4 _ rfl
      have HCE := hide hcell
      clear hcell hC0
      have HHC := hide hC
      clear hC
      have hd1 : ∀ (n : Nat), n ≤ 1000000 → ∀ w', C w' → Calls Tryz.prog 29 #[.int .i64 (n : Int)] w' fun e w'' => e = .returned (.string (mkB (decL n))) ∧ C w'' := by
        intro n hn w' hw'
        refine ((unhide HDe) n hn w').mono ?_
        rintro e w'' ⟨rfl, kq⟩
        refine ⟨rfl, ?_⟩
        have h1 := HHC.out
        subst h1
        exact hw'.trans kq.all
      obtain ⟨dE, hdE⟩ : ∃ x, x = mkB (decL ne) := ⟨_, rfl⟩
      obtain ⟨dU, hdU⟩ : ∃ x, x = mkB (decL nu) := ⟨_, rfl⟩
      obtain ⟨dO, hdO⟩ : ∃ x, x = mkB (decL so.size) := ⟨_, rfl⟩
      obtain ⟨p0, hp0⟩ : ∃ x, x = mkB (pubTo ts rights fuel src k) := ⟨_, rfl⟩
      have q1 := hd1 ne (by omega)
      have q2 := hd1 nu (by omega)
      have q3 := hd1 so.size (by omega)
      rw [← hdE] at q1
      rw [← hdU] at q2
      rw [← hdO] at q3
      rw [← hp0]
      have zE : dE.size ≤ 14 := by have := decL_le ne; rw [hdE, mkB_size]; omega
      have zU : dU.size ≤ 10001 := by have := decL_le nu; rw [hdU, mkB_size]; omega
      have zO : dO.size ≤ 65 := by have := decL_le so.size; rw [hdO, mkB_size]; omega
      have zp : p0.size ≤ 120000 := by have := pubTo_le hr1 (show (hidL ts ts.length).length ≤ 192 by omega) rights fuel hfu HHI.out k; rw [hp0, mkB_size]; omega
      have HD := hide (And.intro hdE (And.intro hdU (And.intro hdO hp0)))
      clear hd1 hdE hdU hdO hp0
      obtain ⟨x1, hx1⟩ : ∃ x, p0 ++ dE = x := ⟨_, rfl⟩
      obtain ⟨x2, hx2⟩ : ∃ x, x1 ++ (⟨#[32]⟩ : ByteArray) = x := ⟨_, rfl⟩
      obtain ⟨x3, hx3⟩ : ∃ x, x2 ++ dU = x := ⟨_, rfl⟩
      obtain ⟨x4, hx4⟩ : ∃ x, x3 ++ (⟨#[32]⟩ : ByteArray) = x := ⟨_, rfl⟩
      obtain ⟨x5, hx5⟩ : ∃ x, x4 ++ dO = x := ⟨_, rfl⟩
      obtain ⟨x6, hx6⟩ : ∃ x, x5 ++ (⟨#[58]⟩ : ByteArray) = x := ⟨_, rfl⟩
      obtain ⟨x7, hx7⟩ : ∃ x, x6 ++ so = x := ⟨_, rfl⟩
      obtain ⟨x8, hx8⟩ : ∃ x, x7 ++ (⟨#[10]⟩ : ByteArray) = x := ⟨_, rfl⟩
      have y1 : x1.size = p0.size + dE.size := by rw [← hx1, bsize_append]
      have y2 : x2.size = x1.size + 1 := by rw [← hx2, bsize_append]; rfl
      have y3 : x3.size = x2.size + dU.size := by rw [← hx3, bsize_append]
      have y4 : x4.size = x3.size + 1 := by rw [← hx4, bsize_append]; rfl
      have y5 : x5.size = x4.size + dO.size := by rw [← hx5, bsize_append]
      have y6 : x6.size = x5.size + 1 := by rw [← hx6, bsize_append]; rfl
      have y7 : x7.size = x6.size + so.size := by rw [← hx7, bsize_append]
      have y8 : x8.size = x7.size + 1 := by rw [← hx8, bsize_append]; rfl
      have a1 : p0.size + dE.size ≤ 9223372036854775807 := by omega
      have a2 : x1.size + (⟨#[32]⟩ : ByteArray).size ≤ 9223372036854775807 := by show x1.size + 1 ≤ _; omega
      have a3 : x2.size + dU.size ≤ 9223372036854775807 := by omega
      have a4 : x3.size + (⟨#[32]⟩ : ByteArray).size ≤ 9223372036854775807 := by show x3.size + 1 ≤ _; omega
      have a5 : x4.size + dO.size ≤ 9223372036854775807 := by omega
      have a6 : x5.size + (⟨#[58]⟩ : ByteArray).size ≤ 9223372036854775807 := by show x5.size + 1 ≤ _; omega
      have a7 : x6.size + so.size ≤ 9223372036854775807 := by omega
      have a8 : x7.size + (⟨#[10]⟩ : ByteArray).size ≤ 9223372036854775807 := by show x7.size + 1 ≤ _; omega
      have Y := hide (And.intro y1 (And.intro y2 (And.intro y3 (And.intro y4 (And.intro y5 (And.intro y6 (And.intro y7 y8)))))))
      clear y1 y2 y3 y4 y5 y6 y7 y8
      quiet_step ((intro hw9; rfl))
      quiet_step ((intro hw9; rfl))
      quiet_step ((intro hw9; rw [c4 _ hw9]; exact ⟨rfl, rfl⟩))
      quiet_step ((intro hw9; exact q1 _ hw9))
      quiet_step ((intro hw9; rw [if_neg (by first | omega | exact Nat.not_lt.mpr a2 | exact Nat.not_lt.mpr a4 | exact Nat.not_lt.mpr a6 | exact Nat.not_lt.mpr a8)]; exact ⟨rfl, rfl⟩))
      quiet_step ((intro hw9; rw [if_neg (by first | omega | exact Nat.not_lt.mpr a2 | exact Nat.not_lt.mpr a4 | exact Nat.not_lt.mpr a6 | exact Nat.not_lt.mpr a8)]; exact ⟨rfl, rfl⟩))
      quiet_step ((intro hw9; rfl))
      quiet_step ((intro hw9; rw [c3 _ hw9]; exact ⟨rfl, rfl⟩))
      quiet_step ((intro hw9; exact q2 _ hw9))
      quiet_step ((intro hw9; rw [if_neg (by first | omega | exact Nat.not_lt.mpr a2 | exact Nat.not_lt.mpr a4 | exact Nat.not_lt.mpr a6 | exact Nat.not_lt.mpr a8)]; exact ⟨rfl, rfl⟩))
      quiet_step ((intro hw9; rw [if_neg (by first | omega | exact Nat.not_lt.mpr a2 | exact Nat.not_lt.mpr a4 | exact Nat.not_lt.mpr a6 | exact Nat.not_lt.mpr a8)]; exact ⟨rfl, rfl⟩))
      quiet_step ((intro hw9; rfl))
      quiet_step ((intro hw9; rw [c0 _ hw9]; exact ⟨rfl, rfl⟩))
      quiet_step ((intro hw9; rfl))
      quiet_step ((intro hw9; exact q3 _ hw9))
      quiet_step ((intro hw9; rw [if_neg (by first | omega | exact Nat.not_lt.mpr a2 | exact Nat.not_lt.mpr a4 | exact Nat.not_lt.mpr a6 | exact Nat.not_lt.mpr a8)]; exact ⟨rfl, rfl⟩))
      quiet_step ((intro hw9; rw [if_neg (by first | omega | exact Nat.not_lt.mpr a2 | exact Nat.not_lt.mpr a4 | exact Nat.not_lt.mpr a6 | exact Nat.not_lt.mpr a8)]; exact ⟨rfl, rfl⟩))
      quiet_step ((intro hw9; rfl))
      quiet_step ((intro hw9; rw [c0 _ hw9]; exact ⟨rfl, rfl⟩))
      quiet_step ((intro hw9; rw [if_neg (by first | omega | exact Nat.not_lt.mpr a2 | exact Nat.not_lt.mpr a4 | exact Nat.not_lt.mpr a6 | exact Nat.not_lt.mpr a8)]; exact ⟨rfl, rfl⟩))
      quiet_step ((intro hw9; rw [if_neg (by first | omega | exact Nat.not_lt.mpr a2 | exact Nat.not_lt.mpr a4 | exact Nat.not_lt.mpr a6 | exact Nat.not_lt.mpr a8)]; exact ⟨rfl, rfl⟩))
      quiet_step ((intro hw9; rfl))
      refine wpQuiet_nil ?_
      intro w3 hw3
      have e0 := c0 w3 hw3
      have e1 : w3.cell? ⟨w2.heap.size, 1, none⟩ = some (.string si) := cell_of_block (HCE.out w3 hw3) 1 _ rfl
      have kA3 : Kept (fun k => k < wA.heap.size) wA w3 := by have h1 := HHC.out; subst h1; exact hw3
      have KK3 : Hid (Kept (fun k => k < w0.heap.size) w0 w3) := KKA.out.trans kA3.all
      have hX : Hid (x8 = mkB (pubTo ts rights fuel src (k + 1))) := by
        obtain ⟨hne, hnu, hnm, hso, hsi⟩ := HN.out
        obtain ⟨hdE, hdU, hdO, hp0⟩ := HD.out
        have hln : lineL r = decL ne ++ [32] ++ decL nu ++ [32] ++ decL r.out.length ++ [58] ++ r.out ++ [10] := by unfold lineL; rw [hne, hnu]; rfl
        have hoz : so.size = r.out.length := by rw [hso, mkB_size]
        unfold Hid
        show x8 = mkB (pubTo ts rights fuel src k ++ lineL (runRes src (testBox ts k rights fuel)))
        rw [← HR.out, hln, ← hx8, ← hx7, ← hx6, ← hx5, ← hx4, ← hx3, ← hx2, ← hx1, hp0, hdE, hdU, hdO, hoz, hso]
        simp only [← mkB_append, ByteArray.append_assoc]
        rfl
      have him2 : si.size ≤ maxLen := by rw [HN.out.2.2.2.2, mkB_size, HBD.out.image]; have := HIZ.out; unfold maxLen; omega
      have hso2 : so.size ≤ maxLen := by unfold maxLen; omega
      have hru2 := hide ((unhide HRu) w3 KK3.out ck (checkBox ts r fuel) hck (by show (mkB r.out).size ≤ _; rw [← HN.out.2.2.2.1]; exact hso2) (by show (mkB r.image).size ≤ _; rw [← HN.out.2.2.2.2]; exact him2))
      have hcb : (runRes ck (checkBox ts r fuel)).Bd (4 + (hidL ts ts.length).length + 32) := by
        refine check_bd hr2 (by omega) ?_ fuel hfu
        rw [show r = runRes src (testBox ts k rights fuel) from HR.out]
        exact test_bd hr1 (by omega) k rights fuel hfu (HHI.out k)
      rw [runCells_res ck (checkBox ts r fuel) (by show (mkB r.out).size ≤ _; rw [← HN.out.2.2.2.1]; exact hso2)] at hru2
      obtain ⟨d, hd⟩ : ∃ d, d = runRes ck (checkBox ts r fuel) := ⟨_, rfl⟩
      rw [← hd] at hru2 hcb
      have hru3 : Hid (Calls Tryz.prog 28 #[.string ck, .string so, .string si, .int .i64 4, .int .i64 ((hidL ts ts.length).length : Int), .int .i64 15, .int .i64 fuel] w3 fun e w' => e = .returned (.agg #[.string (mkB d.out), .string (mkB d.image), .int .i64 d.mark, .int .i64 d.used, .int .i64 d.err]) ∧ Kept (fun k => k < w3.heap.size) w3 w') := by
        rw [HN.out.2.2.2.1, HN.out.2.2.2.2]; exact hru2
      obtain ⟨me, hme⟩ : ∃ n : Nat, d.err = n := ⟨d.err.toNat, by have := hcb.err; omega⟩
      obtain ⟨mu, hmu⟩ : ∃ n : Nat, d.used = n := ⟨d.used.toNat, by have := hcb.used; omega⟩
      obtain ⟨mm, hmm⟩ : ∃ n : Nat, d.mark = n := ⟨d.mark.toNat, by have := hcb.mark; omega⟩
      have hmeb : me ≤ 13 := by have := hcb.err'; omega
      have hmmb : mm ≤ 65536 := by have := hcb.mark'; omega
      obtain ⟨do', hdo⟩ : ∃ x, x = mkB d.out := ⟨_, rfl⟩
      obtain ⟨di, hdi⟩ : ∃ x, x = mkB d.image := ⟨_, rfl⟩
      rw [hme, hmu, hmm, ← hdo, ← hdi] at hru3
      have HM := hide (And.intro hd (And.intro hme hmm))
      clear hme hmu hmm hdo hdi hd hcb hru2 hx1 hx2 hx3 hx4 hx5 hx6 hx7 hx8 a1 a2 a3 a4 a5 a6 a7 a8 q1 q2 q3 c0 c3 c4 hlt9 zE zU zO zp Y HD HCE hltA HBA HWA HHC hw3 kA3 HBD HIZ HN him2
      clear KKA
      go_wp2_with fail
      refine (unhide hru3).mono ?_
      rintro e w4 ⟨rfl, k4⟩
      clear hru3 e0 e1 hso2
      obtain ⟨wB, hwB⟩ : ∃ wB, wB = w4.alloc (.cells #[.string do', .string di, .int .i64 (mm : Int), .int .i64 (mu : Int), .int .i64 (me : Int)] 74) := ⟨_, rfl⟩
      have hbB : wB.heap[w4.heap.size]? = some (.cells #[.string do', .string di, .int .i64 (mm : Int), .int .i64 (mu : Int), .int .i64 (me : Int)] 74 (0, 0)) := by rw [hwB]; exact heap_alloc_new w4 _
      have KKB : Hid (Kept (fun k => k < w0.heap.size) w0 wB) := by unfold Hid; rw [hwB]; exact (KK3.out.trans k4.all).alloc _
      have HWB := hide hwB
      have hltB := lt_of_block hbB
      have HBB := hide hbB
      clear hwB hbB k4
      go_wp2
      rw [show w4.alloc (.cells #[.string do', .string di, .int .i64 (mm : Int), .int .i64 (mu : Int), .int .i64 (me : Int)] 74) = wB from HWB.out.symm]
      obtain ⟨D, hD⟩ : ∃ D : World → Prop, D = fun w' => Kept (fun k => k < wB.heap.size) wB w' := ⟨_, rfl⟩
      have hD0 : D { wB with drawn := wB.drawn + 1 } := by rw [hD]; exact (Kept.refl _ wB).drew
      have hcell : ∀ w', D w' → w'.heap[w4.heap.size]? = some (.cells #[.string do', .string di, .int .i64 (mm : Int), .int .i64 (mu : Int), .int .i64 (me : Int)] 74 (0, 0)) := fun w' hw' => by rw [hD] at hw'; exact hw'.at' HBB.out hltB
      refine wp_region_quiet (C := D) (by kernel_rfl) (by kernel_rfl) hD0 ?_
      simp only [List.toList_toArray]
      have c2 : ∀ w', D w' → w'.cell? ⟨w4.heap.size, 2, none⟩ = some (.int .i64 (mm : Int)) := fun w' hw' => cell_of_block (hcell w' hw') 2 _ rfl
      have c4 : ∀ w', D w' → w'.cell? ⟨w4.heap.size, 4, none⟩ = some (.int .i64 (me : Int)) := fun w' hw' => cell_of_block (hcell w' hw') 4 _ rfl
      have hlt9 : ∀ w', D w' → w4.heap.size < w'.heap.size := fun w' hw' => lt_of_block (hcell w' hw')
      have HHD := hide hD
      clear hcell hD0 hD
      have hd1 : ∀ (n : Nat), n ≤ 1000000 → ∀ w', D w' → Calls Tryz.prog 29 #[.int .i64 (n : Int)] w' fun e w'' => e = .returned (.string (mkB (decL n))) ∧ D w'' := by
        intro n hn w' hw'
        refine ((unhide HDe) n hn w').mono ?_
        rintro e w'' ⟨rfl, kq⟩
        refine ⟨rfl, ?_⟩
        have h1 := HHD.out
        subst h1
        exact hw'.trans kq.all
      obtain ⟨dM, hdM⟩ : ∃ x, x = mkB (decL mm) := ⟨_, rfl⟩
      obtain ⟨dE, hdE⟩ : ∃ x, x = mkB (decL me) := ⟨_, rfl⟩
      obtain ⟨m0, hm0⟩ : ∃ x, x = mkB (marksTo ck ts rights fuel src k) := ⟨_, rfl⟩
      have q1 := hd1 mm (by omega)
      have q2 := hd1 me (by omega)
      rw [← hdM] at q1
      rw [← hdE] at q2
      rw [← hm0]
      have zM : dM.size ≤ 65537 := by have := decL_le mm; rw [hdM, mkB_size]; omega
      have zE : dE.size ≤ 14 := by have := decL_le me; rw [hdE, mkB_size]; omega
      have zm : m0.size ≤ 420000 := by have := marksTo_le (c := ck) hr1 hr2 (show (hidL ts ts.length).length ≤ 192 by omega) rights fuel hfu HHI.out k; rw [hm0, mkB_size]; omega
      have HD := hide (And.intro hdM (And.intro hdE hm0))
      clear hd1 hdE hdM hm0
      obtain ⟨x1, hx1⟩ : ∃ x, m0 ++ dM = x := ⟨_, rfl⟩
      obtain ⟨x2, hx2⟩ : ∃ x, x1 ++ (⟨#[32]⟩ : ByteArray) = x := ⟨_, rfl⟩
      obtain ⟨x3, hx3⟩ : ∃ x, x2 ++ dE = x := ⟨_, rfl⟩
      obtain ⟨x4, hx4⟩ : ∃ x, x3 ++ (⟨#[10]⟩ : ByteArray) = x := ⟨_, rfl⟩
      have y1 : x1.size = m0.size + dM.size := by rw [← hx1, bsize_append]
      have y2 : x2.size = x1.size + 1 := by rw [← hx2, bsize_append]; rfl
      have y3 : x3.size = x2.size + dE.size := by rw [← hx3, bsize_append]
      have a1 : m0.size + dM.size ≤ 9223372036854775807 := by omega
      have a2 : x1.size + (⟨#[32]⟩ : ByteArray).size ≤ 9223372036854775807 := by show x1.size + 1 ≤ _; omega
      have a3 : x2.size + dE.size ≤ 9223372036854775807 := by omega
      have a4 : x3.size + (⟨#[10]⟩ : ByteArray).size ≤ 9223372036854775807 := by show x3.size + 1 ≤ _; omega
      clear y1 y2 y3
      quiet_step ((intro hw9; rfl))
      quiet_step ((intro hw9; rfl))
      quiet_step ((intro hw9; rw [c2 _ hw9]; exact ⟨rfl, rfl⟩))
      quiet_step ((intro hw9; exact q1 _ hw9))
      quiet_step ((intro hw9; rw [if_neg (by first | omega | exact Nat.not_lt.mpr a2 | exact Nat.not_lt.mpr a4)]; exact ⟨rfl, rfl⟩))
      quiet_step ((intro hw9; rw [if_neg (by first | omega | exact Nat.not_lt.mpr a2 | exact Nat.not_lt.mpr a4)]; exact ⟨rfl, rfl⟩))
      quiet_step ((intro hw9; rfl))
      quiet_step ((intro hw9; rw [c4 _ hw9]; exact ⟨rfl, rfl⟩))
      quiet_step ((intro hw9; exact q2 _ hw9))
      quiet_step ((intro hw9; rw [if_neg (by first | omega | exact Nat.not_lt.mpr a2 | exact Nat.not_lt.mpr a4)]; exact ⟨rfl, rfl⟩))
      quiet_step ((intro hw9; rw [if_neg (by first | omega | exact Nat.not_lt.mpr a2 | exact Nat.not_lt.mpr a4)]; exact ⟨rfl, rfl⟩))
      quiet_step ((intro hw9; rfl))
      refine wpQuiet_nil ?_
      intro w5 hw5
      have kB5 : Kept (fun k => k < wB.heap.size) wB w5 := by have h1 := HHD.out; subst h1; exact hw5
      have KK5 : Hid (Kept (fun k => k < w0.heap.size) w0 w5) := KKB.out.trans kB5.all
      have hXm : Hid (x4 = mkB (marksTo ck ts rights fuel src (k + 1))) := by
        obtain ⟨hd, hme, hmm⟩ := HM.out
        obtain ⟨hdM, hdE, hm0⟩ := HD.out
        have hln : markL d = decL mm ++ [32] ++ decL me ++ [10] := by unfold markL; rw [hme, hmm]; rfl
        unfold Hid
        show x4 = mkB (marksTo ck ts rights fuel src k ++ markL (runRes ck (checkBox ts (runRes src (testBox ts k rights fuel)) fuel)))
        rw [← HR.out, ← hd, hln, ← hx4, ← hx3, ← hx2, ← hx1, hm0, hdM, hdE]
        simp only [← mkB_append, ByteArray.append_assoc]
        rfl
      clear hx1 hx2 hx3 hx4 a1 a2 a3 a4 q1 q2 c2 c4 zM zE zm HD HHD hw5 kB5 hlt9 HM HBB HWB hltB
      go_wp2
      go_round
      case rel => exact ⟨k + 1, by omega, by go_num, by rw [hX.out], by rw [hXm.out], KK5⟩
      case measure => simp [intOf]; omega
    · have hke : k = ts.length := by omega
      subst hke
      go_wp2
      go_ret2
      exact ⟨rfl, hkw.out⟩
end Go.Proofs.YtnanjomnldfidabGreatDoor

set_option linter.unusedSimpArgs false
set_option linter.unusedVariables false
set_option linter.unusedSectionVars false
namespace Go.Proofs.YtnanjomnldfidabGreatDoor
open Go.RowKit

/-- Tests that are only read. -/
def TestsAt (w : World) (v : Value) (ts : List TestV) : Prop :=
  (ts = [] ∧ ∃ a cap, v = .slice a 0 cap) ∨ ∃ b o cap, v = .slice (some ⟨b, o, none⟩) ts.length cap ∧ b < w.heap.size ∧ ∀ k, k < ts.length → w.cell? ⟨b, o + k * 2, none⟩ = some (.string (ts.getD k noTest).inp) ∧ w.cell? ⟨b, o + k * 2 + 1, none⟩ = some (.string (ts.getD k noTest).hidden)
theorem testCells_snoc (l : List TestV) (t : TestV) : testCells (l ++ [t]) = testCells l ++ [.string t.inp, .string t.hidden] := by
  unfold testCells; rw [List.flatMap_append]; rfl
theorem tests_snoc {ts : List TestV} {k : Nat} (h : k < ts.length) : ts.take (k + 1) = ts.take k ++ [ts.getD k noTest] := by
  rw [List.take_add_one, List.getElem?_eq_getElem h]
  simp [List.getD, h]
theorem Tryz.infoRTest : (Tryz.prog.info? 48).map (fun i => (i.zero, i.size, i.bytes)) = some (some (.agg #[.string ByteArray.empty, .string ByteArray.empty]), 2, 32) := by kernel_rfl

set_option maxRecDepth 100000 in
set_option maxHeartbeats 1000000 in
theorem plain_any (w : World) (v : Value) (ts : List TestV) (hT : TestsAt w v ts) (hl : ts.length * 32 ≤ 140737488351232) (P : Nat → Prop) (hP : ∀ k, P k → k < w.heap.size) (hv : ∀ a n c, v = .slice (some a) n c → P a.block) :
    Calls Tryz.prog 6 #[v] w fun e w' => ∃ u, e = .returned u ∧ Row w' P 48 2 u ts.length (testCells ts) ∧ Kept P w w' := by
  obtain ⟨i0, hi0, hz0, hz1, hz2⟩ := info_parts Tryz.infoRTest
  have HP := hide hP
  clear hP
  rcases hT with ⟨rfl, a, cap, rfl⟩ | ⟨b, o, cap, rfl, hab, hc⟩
  · clear hv hl
    have hr0 : Hid (Row w P 48 2 (.slice none 0 0) 0 []) := Row.nil _ _ _ _
    have hk0 : Hid (Kept P w w) := Kept.refl _ _
    go_enter Tryz.func6, Tryz.ntmps6
    go_wp2
    go_loopw [3, 4] (fun l i wr => i = .int .i64 0 ∧ l = .slice none 0 0 ∧ wr = w) (fun _ i _ => 0)
    case atStart => exact ⟨rfl, rfl, rfl⟩
    case round =>
      obtain ⟨rfl, rfl, rfl⟩ := hrel
      go_wp2
      go_ret
      exact ⟨_, rfl, hr0.out, hk0.out⟩
  · have hPa := hv ⟨b, o, none⟩ _ _ rfl
    have HC := hide hc
    clear hc hv
    go_enter Tryz.func6, Tryz.ntmps6
    go_wp2
    go_loopw [3, 4] (fun l i wr => ∃ k : Nat, k ≤ ts.length ∧ i = .int .i64 k ∧ Hid (Row wr P 48 2 l k (testCells (ts.take k))) ∧ Hid (Kept P w wr)) (fun _ i _ => ts.length - (intOf i).toNat)
    case atStart => exact ⟨0, Nat.zero_le _, rfl, Row.nil _ _ _ _, Kept.refl _ _⟩
    case round =>
      obtain ⟨k, hk, rfl, hrow, hkw⟩ := hrel
      by_cases hlt : k < ts.length
      · have e0 : wr.cell? ⟨b, o + k * 2, none⟩ = some (.string (ts.getD k noTest).inp) := by rw [hkw.out.cell (p := ⟨b, o + k * 2, none⟩) hab hPa]; exact (HC.out k hlt).1
        have e1 : wr.cell? ⟨b, o + k * 2 + 1, none⟩ = some (.string (ts.getD k noTest).hidden) := by rw [hkw.out.cell (p := ⟨b, o + k * 2 + 1, none⟩) hab hPa]; exact (HC.out k hlt).2
        have hbw : b < wr.heap.size := Nat.lt_of_lt_of_le hab hkw.out.size
        have hst := hide (tests_snoc hlt)
        have hsn := hide (testCells_snoc (ts.take k) (ts.getD k noTest))
        generalize (ts.getD k noTest) = tk at *
        obtain ⟨ip, hd⟩ := tk
        simp only at e0 e1
        have CE : Hid (∀ j u, [Value.string ip, .string hd][j]? = some u → ((wr.alloc (.cells #[.string ip, .string hd] 48)).drew).cell? ((⟨wr.heap.size, 0, none⟩ : Addr).add j) = some u) := fun j u hj => by
          have := cell_two_new wr (.string ip) (.string hd) 48 j u hj
          simpa using this
        have hR2 : Hid (Row ((wr.alloc (.cells #[.string ip, .string hd] 48)).drew) P 48 2 u3 k (testCells (ts.take k))) := (hrow.out.alloc _).drew
        have HB : Hid (∀ k, P k → k < ((wr.alloc (.cells #[.string ip, .string hd] 48)).drew).heap.size) := fun k hp => by have := HP.out k hp; have := hkw.out.size; simp; omega
        go_wp2
        go_region_law (refine step_append_mine rfl (.tmp 11) (.tmp 23) 30 rfl P HB.out 48 i0 (.agg #[.string ByteArray.empty, .string ByteArray.empty]) 2 32 Tryz.underlying30 hi0 hz0 hz1 hz2 rfl (by decide) u3 k (testCells (ts.take k)) (by simp [Act.eval, Act.put]) hR2.out ⟨wr.heap.size, 0, none⟩ 1 1 [.string ip, .string hd] (by simp [Act.eval, Act.put]) rfl CE.out (by intro u hu; simp at hu; rcases hu with rfl | rfl <;> rfl) (by unfold maxLen; omega) (by omega) ?_; intro v' w1 hown' hgrow)
        all_goals (
          have hro1 : Hid (Row w1 P 48 2 v' (k + 1) (testCells (ts.take (k + 1)))) := by unfold Hid; rw [hst.out, hsn.out]; exact hown'
          have hk1 : Hid (Kept P w w1) := (hkw.out.trans ((((Kept.refl P wr).alloc _).drew).grown hgrow hR2.out.out))
          clear hown' hgrow
          go_wp2
          go_roundw
          case rel => exact ⟨k + 1, by omega, by go_num, hro1, hk1⟩
          case measure => first | (simp [intOf]; done) | (simp [intOf]; omega))
      · have hke : k = ts.length := by omega
        subst hke
        have hrow' : Hid (Row wr P 48 2 u3 ts.length (testCells ts)) := by have := hrow.out; rw [List.take_length] at this; exact this
        go_wp2
        go_ret
        exact ⟨_, rfl, hrow'.out, hkw.out⟩
end Go.Proofs.YtnanjomnldfidabGreatDoor

set_option linter.unusedSimpArgs false
set_option linter.unusedVariables false
set_option linter.unusedSectionVars false
namespace Go.Proofs.YtnanjomnldfidabGreatDoor
open Go.RowKit

/-- Strings that are only read. -/
def StrsAt (w : World) (v : Value) (ws : List ByteArray) : Prop :=
  (ws = [] ∧ ∃ a cap, v = .slice a 0 cap) ∨ ∃ b o cap, v = .slice (some ⟨b, o, none⟩) ws.length cap ∧ b < w.heap.size ∧ ∀ k, k < ws.length → w.cell? ⟨b, o + k, none⟩ = some (.string (ws.getD k ByteArray.empty))
def hideT (t : TestV) (s : ByteArray) : TestV := if s.size ≤ t.hidden.size then ⟨t.inp, s ++ t.hidden.extract s.size t.hidden.size⟩ else t
def hideI (ts : List TestV) (ws : List ByteArray) (i : Nat) : TestV := if i < ws.length then hideT (ts.getD i noTest) (ws.getD i ByteArray.empty) else ts.getD i noTest
def hideL (ts : List TestV) (ws : List ByteArray) (n : Nat) : List TestV := (List.range n).map (hideI ts ws)
theorem hideL_snoc (ts : List TestV) (ws : List ByteArray) (n : Nat) : hideL ts ws (n + 1) = hideL ts ws n ++ [hideI ts ws n] := by unfold hideL; rw [List.range_succ, List.map_append]; rfl
theorem hideL_len (ts : List TestV) (ws : List ByteArray) (n : Nat) : (hideL ts ws n).length = n := by unfold hideL; simp
theorem hideT_inp (t : TestV) (s : ByteArray) : (hideT t s).inp = t.inp := by unfold hideT; split <;> rfl
theorem hideT_size (t : TestV) (s : ByteArray) : (hideT t s).hidden.size = t.hidden.size := by
  unfold hideT
  split
  · show (s ++ t.hidden.extract s.size t.hidden.size).size = _
    rw [← toList_len, toList_append, List.length_append, toList_len, toList_len, ByteArray.size_extract]
    omega
  · rfl
theorem hideL_getD (ts : List TestV) (ws : List ByteArray) (i : Nat) : (hideL ts ws ts.length).getD i noTest = if i < ts.length then hideI ts ws i else noTest := by
  unfold hideL
  by_cases h : i < ts.length
  · rw [if_pos h]; simp [List.getD, h]
  · rw [if_neg h]; simp [List.getD, h]
theorem hide_alike (ts : List TestV) (ws : List ByteArray) : Alike2 ts (hideL ts ws ts.length) := by
  have h : ∀ i, ((hideL ts ws ts.length).getD i noTest).inp = (ts.getD i noTest).inp ∧ ((hideL ts ws ts.length).getD i noTest).hidden.size = (ts.getD i noTest).hidden.size := by
    intro i
    rw [hideL_getD]
    by_cases hi : i < ts.length
    · rw [if_pos hi]
      unfold hideI
      split
      · exact ⟨hideT_inp _ _, hideT_size _ _⟩
      · exact ⟨rfl, rfl⟩
    · rw [if_neg hi]
      have e : ts.getD i noTest = noTest := by simp [List.getD, hi]
      rw [e]; exact ⟨rfl, rfl⟩
  exact ⟨hideL_len _ _ _, fun i => (h i).1, fun i => (h i).2⟩
theorem Tryz.infoGTest : (Tryz.prog.info? 42).map (fun i => (i.zero, i.size, i.bytes)) = some (some (.agg #[.string ByteArray.empty, .string ByteArray.empty]), 2, 32) := by kernel_rfl

end Go.Proofs.YtnanjomnldfidabGreatDoor

set_option linter.unusedSimpArgs false
set_option linter.unusedVariables false
set_option linter.unusedSectionVars false
namespace Go.Proofs.YtnanjomnldfidabGreatDoor
open Go.RowKit

/-- A grader as data. -/
structure GSt where
  err : Int
  place : Nat
  ck : ByteArray
  ts : List TestV
  rights : Int
  fuel : Int
  marks : List UInt8
def GSt.opened (ck : ByteArray) (ts : List TestV) (rights fuel : Int) : GSt := ⟨(opensM ck ts fuel).1, (opensM ck ts fuel).2, ck, ts, rights, fuel, []⟩
def GSt.sub (s : GSt) (src : ByteArray) : GSt := if s.err ≠ 0 then s else if (readM src).1 ≠ 0 then s else { s with marks := marksTo s.ck s.ts s.rights s.fuel src s.ts.length }
def GSt.pub (s : GSt) (src : ByteArray) : List UInt8 := if s.err ≠ 0 then [] else if (readM src).1 ≠ 0 then [] else pubTo s.ts s.rights s.fuel src s.ts.length
def GSt.code (s : GSt) (src : ByteArray) : Int × Nat := if s.err ≠ 0 then (s.err, s.place) else ((readM src).1, (readM src).2.1)

/-- What package grader reads beyond its arguments: its own table, and the library's powers of ten. -/
def TenAt (w : World) : Prop := Lib.TabIs Tryz.prog w "internal/strconv.uint64pow10" .u64 Lib.pow10Tab
theorem ten_named : Tryz.prog.globalNamed "internal/strconv.uint64pow10" = some 3 := by kernel_rfl
theorem TenAt.lt {w : World} (h : TenAt w) : 3 < w.heap.size := by
  have := h.cell ten_named 0 (by decide)
  exact World.block_lt_of_cell? w ⟨3, 0, none⟩ this
theorem TenAt.kept {w w' : World} {Q : Nat → Prop} (h : TenAt w) (hk : Kept Q w w') (hq : Q 3) : TenAt w' := by
  have hl := h.lt
  unfold TenAt Lib.TabIs World.var? at *
  rw [ten_named] at h ⊢
  simp only [Option.bind_some] at h ⊢
  rw [hk.block _ hl hq]
  exact h
def isLs (k : Nat) : Prop := k = 2 ∨ k = 3
structure LsAt (w : World) : Prop where
  listed : WordsAt w 2 listedL
  ten : TenAt w
theorem LsAt.lt {w : World} (h : LsAt w) : ∀ k, isLs k → k < w.heap.size := by
  rintro k (rfl | rfl)
  · exact words_lt h.listed (by decide)
  · exact h.ten.lt
theorem LsAt.kept {w w' : World} {Q : Nat → Prop} (h : LsAt w) (hk : Kept Q w w') (hq : ∀ k, isLs k → Q k) : LsAt w' :=
  ⟨WordsAt.kept h.listed hk (h.lt _ (.inl rfl)) (hq _ (.inl rfl)), h.ten.kept hk (hq _ (.inr rfl))⟩
/-- The tables. -/
structure Globs (w : World) : Prop where
  listed : LsAt w
  forms : WordsAt w 0 formsL
  rlisted : WordsAt w 1 listedL
def isGlob (k : Nat) : Prop := isLs k ∨ k = 0 ∨ k = 1
theorem Globs.lt {w : World} (h : Globs w) {k : Nat} (hk : isGlob k) : k < w.heap.size := by
  rcases hk with hk | rfl | rfl
  · exact h.listed.lt k hk
  · exact words_lt h.forms (by decide)
  · exact words_lt h.rlisted (by decide)
theorem Globs.kept {w w' : World} {Q : Nat → Prop} (h : Globs w) (hk : Kept Q w w') (hq : ∀ k, isGlob k → Q k) : Globs w' :=
  ⟨h.listed.kept hk (fun k hl => hq k (.inl hl)), h.forms.kept hk (h.lt (.inr (.inl rfl))) (hq _ (.inr (.inl rfl))), h.rlisted.kept hk (h.lt (.inr (.inr rfl))) (hq _ (.inr (.inr rfl)))⟩
theorem TestsAt.kept {w w' : World} {v : Value} {ts : List TestV} {Q : Nat → Prop} (h : TestsAt w v ts) (hk : Kept Q w w') (hq : ∀ a n c, v = .slice (some a) n c → Q a.block) : TestsAt w' v ts := by
  rcases h with h | ⟨b, o, cap, rfl, hb, hc⟩
  · exact .inl h
  · refine .inr ⟨b, o, cap, rfl, Nat.lt_of_lt_of_le hb hk.size, fun k hk2 => ?_⟩
    have hqb : Q b := hq ⟨b, o, none⟩ _ _ rfl
    rw [hk.cell (p := ⟨b, o + k * 2, none⟩) hb hqb, hk.cell (p := ⟨b, o + k * 2 + 1, none⟩) hb hqb]
    exact hc k hk2

/-- The contract: Is w F g s: the grader g has its memory in the blocks F alone and stands as s says. -/
structure GSpec where
  Is : World → (Nat → Prop) → Value → GSt → Prop
  lt : ∀ {w F g s}, Is w F g s → ∀ k, F k → k < w.heap.size
  frame : ∀ {w w' F g s Q}, Is w F g s → Kept Q w w' → (∀ k, F k → Q k) → Is w' F g s
  opens : ∀ (w : World) (ck : ByteArray) (v : Value) (ts : List TestV) (rights fuel : Int), LsAt w → ck.size ≤ maxLen → TestsAt w v ts → ts.length * 32 ≤ 140737488351232 → (∀ a n c, v = .slice (some a) n c → a.block < w.heap.size) →
    Calls Tryz.prog 5 #[.string ck, v, .int .i64 rights, .int .i64 fuel] w fun e w' => ∃ g F, e = .returned (.tuple #[g, .int .i64 (opensM ck ts fuel).1, .int .i64 (opensM ck ts fuel).2]) ∧ Is w' F g (GSt.opened ck ts rights fuel) ∧ (∀ k, F k → w.heap.size ≤ k) ∧ Kept (fun k => k < w.heap.size) w w'
  submit : ∀ (w : World) (F : Nat → Prop) (g : Value) (s : GSt) (src : ByteArray), Is w F g s → LsAt w → (∀ k, isLs k → ¬ F k) → src.size ≤ maxLen → (∀ i, (s.ts.getD i noTest).inp.size ≤ maxLen) →
    Calls Tryz.prog 10 #[g, .string src] w fun e w' => ∃ F', e = .returned (.tuple #[.string (mkB (s.pub src)), .int .i64 (s.code src).1, .int .i64 (s.code src).2]) ∧ Is w' F' g (s.sub src) ∧ (∀ k, F' k → F k ∨ w.heap.size ≤ k) ∧ Kept (fun k => k < w.heap.size ∧ ¬ F k) w w'
  marks : ∀ (w : World) (F : Nat → Prop) (g : Value) (s : GSt), Is w F g s → Calls Tryz.prog 9 #[g] w fun e w' => e = .returned (.string (mkB s.marks)) ∧ w' = w

set_option maxRecDepth 100000 in
set_option maxHeartbeats 1000000 in
theorem submits_any (S : GSpec) (w : World) (F : Nat → Prop) (g : Value) (s : GSt) (v : Value) (src : ByteArray) (hI : S.Is w F g s) (hG : Globs w) (hGF : ∀ k, isGlob k → ¬ F k) (hs : src.size ≤ maxLen) (hck : s.ck.size ≤ maxLen) (hin : ∀ i, (s.ts.getD i noTest).inp.size ≤ maxLen)
    (he : s.err = 0) (hr : (readM s.ck).1 = 0) (hT : TestsAt w v s.ts) (hv : ∀ a n c, v = .slice (some a) n c → a.block < w.heap.size ∧ ¬ F a.block) (hl : s.ts.length ≤ 6) (hh : ∀ i, i < s.ts.length → (s.ts.getD i noTest).hidden.size ≤ 32) (hf : s.fuel ≤ 10000) :
    Calls Tryz.prog 11 #[g, .agg #[.string s.ck, v, .int .i64 s.rights, .int .i64 s.fuel], .string src, .string (mkB s.marks)] w fun e w' => ∃ F', e = .returned (.tuple #[.string (mkB (s.sub src).marks), .bool true]) ∧ S.Is w' F' g (s.sub src) ∧ (∀ k, F' k → F k ∨ w.heap.size ≤ k) ∧ Kept (fun k => k < w.heap.size ∧ ¬ F k) w w' := by
  obtain ⟨wA, hwA⟩ : ∃ x, x = w.alloc (.cells #[.string s.ck, v, .int .i64 s.rights, .int .i64 s.fuel] 24) := ⟨_, rfl⟩
  have hbA : wA.heap[w.heap.size]? = some (.cells #[.string s.ck, v, .int .i64 s.rights, .int .i64 s.fuel] 24 (0, 0)) := by rw [hwA]; exact heap_alloc_new w _
  have kA : Kept (fun k => k < w.heap.size) w wA := by rw [hwA]; exact (Kept.refl _ w).alloc _
  have hszA : wA.heap.size = w.heap.size + 1 := by rw [hwA]; simp
  have IA := S.frame hI kA (fun k hk => S.lt hI k hk)
  have GA := hG.kept kA (fun k hk => hG.lt hk)
  have HSu := hide (S.submit wA F g s src IA GA.listed (fun k h => hGF k (.inl h)) hs hin)
  have HW := hide hwA
  obtain ⟨rp, hrp⟩ : ∃ x, x = s.pub src := ⟨_, rfl⟩
  have hco : s.code src = ((readM src).1, (readM src).2.1) := by unfold GSt.code; rw [if_neg (by simp [he])]
  obtain ⟨nr, hnr⟩ : ∃ n, n = (readM src).1 := ⟨_, rfl⟩
  obtain ⟨np, hnp⟩ : ∃ n, n = (readM src).2.1 := ⟨_, rfl⟩
  rw [hco, ← hnr, ← hnp, ← hrp] at HSu
  have hrc : refCheckM src = (nr, np) := by rw [← check_eq, hnr, hnp]
  have HCh := hide (fun w1 (hg1 : Globs w1) => refCheck_any src w1 (fun k => k < w1.heap.size) (fun k hk => hk) hs hg1.forms hg1.rlisted (hg1.lt (.inr (.inl rfl))) (hg1.lt (.inr (.inr rfl))))
  unfold ChkPost at HCh
  rw [hrc] at HCh
  have HNu := hide num2_any
  have HMa := hide S.marks
  have HPl := hide plain_any
  have HGr := hide (fun w1 (hg1 : Globs w1) u (hu : TestsIs 48 w1 u s.ts) (h0 : (readM src).1 = 0) => refGrade_any s.ck src w1 hck hs hg1.forms hg1.rlisted u s.ts hu hl hh hin s.rights s.fuel hf h0 hr)
  have HFr : Hid (∀ w', Kept (fun k => k < w.heap.size ∧ ¬ F k) w w' → TestsAt w' v s.ts) := fun w' hk => hT.kept hk hv
  have HV := hide hv
  have HI := hide hI
  have HIA := hide IA
  have HGA := hide GA
  have HG := hide hG
  have HGF := hide hGF
  have HKA := hide kA
  have HBA := hide hbA
  have HLT := hide (S.lt hI)
  have HRP := hide hrp
  have HNR := hide (And.intro hnr hnp)
  have HE := hide he
  clear hwA hI hG hGF hT hv IA GA kA hbA hco hrc hrp hnr hnp hin hh he
  go_enter Tryz.func11, Tryz.ntmps11
  go_wp2_with fail
  rw [show w.alloc (.cells #[.string s.ck, v, .int .i64 s.rights, .int .i64 s.fuel] 24) = wA from HW.out.symm]
  refine (unhide HSu).mono ?_
  rintro e w1 ⟨F1, rfl, I1, hF1, k1⟩
  clear HSu
  have hm1 := hide ((unhide HMa) w1 F1 g (s.sub src) I1)
  have hnb : ¬ F w.heap.size := fun h => by have := HLT.out _ h; omega
  have G1 : Globs w1 := HGA.out.kept k1 (fun k hk => ⟨HGA.out.lt hk, HGF.out k hk⟩)
  have b1 : w1.heap[w.heap.size]? = some (.cells #[.string s.ck, v, .int .i64 s.rights, .int .i64 s.fuel] 24 (0, 0)) := k1.at' HBA.out ⟨by omega, hnb⟩
  have hc1 := hide ((unhide HCh) w1 G1)
  have HI1 := hide I1
  have HK1 := hide k1
  have HF1 := hide hF1
  have HG1 := hide G1
  have HB1 := hide b1
  clear I1 k1 hF1 G1 b1 HCh HMa
  go_wp2_with fail
  refine (unhide hm1).mono ?_
  rintro e w1' ⟨rfl, rfl⟩
  clear hm1
  go_wp2_with fail
  refine (unhide hc1).mono ?_
  rintro e w2 ⟨rfl, k2⟩
  clear hc1
  have hn2 := hide ((unhide HNu) nr w2)
  have HK2 := hide k2
  clear k2
  go_wp2_with fail
  refine (unhide hn2).mono ?_
  rintro e w2' ⟨rfl, rfl⟩
  clear hn2
  have k02 : Hid (Kept (fun k => k < w.heap.size ∧ ¬ F k) w w2') := ((HKA.out.mono (fun k h => h.1)).trans (HK1.out.mono (fun k h => ⟨by omega, h.2⟩))).trans HK2.out.all
  have I2 : Hid (S.Is w2' F1 g (s.sub src)) := S.frame HI1.out HK2.out (S.lt HI1.out)
  have hF2 : Hid (∀ k, F1 k → F k ∨ w.heap.size ≤ k) := fun k hk => (HF1.out k hk).imp id (fun h => by omega)
  by_cases hz : nr = 0
  · have hsu : (s.sub src).marks = marksTo s.ck s.ts s.rights s.fuel src s.ts.length := by unfold GSt.sub; rw [if_neg (by simp [HE.out]), if_neg (by rw [← HNR.out.1]; simp [hz])]
    have hp0 : rp = pubTo s.ts s.rights s.fuel src s.ts.length := by rw [show rp = s.pub src from HRP.out]; unfold GSt.pub; rw [if_neg (by simp [HE.out]), if_neg (by rw [← HNR.out.1]; simp [hz])]
    have b2 := HK2.out.at' HB1.out (lt_of_block HB1.out)
    have lt2 := lt_of_block b2
    have e1 : w2'.cell? ⟨w.heap.size, 1, none⟩ = some v := cell_of_block b2 1 _ rfl
    have T2 := HFr.out _ k02.out
    have hpl := hide ((unhide HPl) w2' v s.ts T2 (by omega) (fun k => k < w2'.heap.size) (fun k h => h) (fun a n c e => Nat.lt_of_lt_of_le (HV.out a n c e).1 k02.out.size))
    have HB2 := hide b2
    have G2 : Hid (Globs w2') := HG1.out.kept HK2.out (fun k hk => HG1.out.lt hk)
    clear b2 T2 HPl HB1 HBA
    have HSU := hide hsu
    rw [hsu, hp0]
    subst hz
    clear hsu hp0
    go_wp2_with fail
    refine (unhide hpl).mono ?_
    rintro e w3 ⟨u, rfl, r3, k3⟩
    clear hpl
    have G3 := G2.out.kept k3 (fun k hk => G2.out.lt hk)
    have hgr := hide ((unhide HGr) w3 G3 u r3.own HNR.out.1.symm)
    have b3 := k3.at' HB2.out lt2
    have lt3 := lt_of_block b3
    have c0 : w3.cell? ⟨w.heap.size, 0, none⟩ = some (.string s.ck) := cell_of_block b3 0 _ rfl
    have c2 : w3.cell? ⟨w.heap.size, 2, none⟩ = some (.int .i64 s.rights) := cell_of_block b3 2 _ rfl
    have c3 : w3.cell? ⟨w.heap.size, 3, none⟩ = some (.int .i64 s.fuel) := cell_of_block b3 3 _ rfl
    have HK3 := hide k3
    clear k3 G3 b3 r3
    go_wp2_with fail
    refine (unhide hgr).mono ?_
    rintro e w4 ⟨rfl, k4⟩
    clear hgr c0 c2 c3
    have k24 : Hid (Kept (fun k => k < w2'.heap.size) w2' w4) := HK3.out.trans k4.all
    have fin : Hid (S.Is w4 F1 g (s.sub src)) := S.frame I2.out k24.out (S.lt I2.out)
    have kfin : Hid (Kept (fun k => k < w.heap.size ∧ ¬ F k) w w4) := k02.out.trans k24.out.all
    clear k4
    go_wp2
    go_ret2
    exact ⟨F1, by rw [HSU.out]; rfl, fin.out, hF2.out, kfin.out⟩
  · have hnz : (nr == 0) = false := by rw [beq_eq_false_iff_ne]; exact hz
    have hsu : s.sub src = s := by unfold GSt.sub; rw [if_neg (by simp [HE.out]), if_pos (by rw [← HNR.out.1]; exact hz)]
    have hp0 : rp = [] := by rw [show rp = s.pub src from HRP.out]; unfold GSt.pub; rw [if_neg (by simp [HE.out]), if_pos (by rw [← HNR.out.1]; exact hz)]
    have HSU := hide hsu
    rw [hsu]
    clear hsu
    subst hp0
    have hem : (mkB ([] : List UInt8)).toList.isEmpty = true := by rw [mkB_toList]; rfl
    go_wp2
    go_ret2
    exact ⟨F1, by rw [HSU.out]; rfl, I2.out, hF2.out, k02.out⟩
end Go.Proofs.YtnanjomnldfidabGreatDoor

set_option linter.unusedSimpArgs false
set_option linter.unusedVariables false
set_option linter.unusedSectionVars false
namespace Go.Proofs.YtnanjomnldfidabGreatDoor
open Go.RowKit

theorem sub_err (s : GSt) (src : ByteArray) : (s.sub src).err = s.err ∧ (s.sub src).place = s.place ∧ (s.sub src).ck = s.ck ∧ (s.sub src).ts = s.ts ∧ (s.sub src).rights = s.rights ∧ (s.sub src).fuel = s.fuel := by
  unfold GSt.sub; split
  · exact ⟨rfl, rfl, rfl, rfl, rfl, rfl⟩
  · split
    · exact ⟨rfl, rfl, rfl, rfl, rfl, rfl⟩
    · exact ⟨rfl, rfl, rfl, rfl, rfl, rfl⟩
/-- A grader that was opened so, whatever was handed in since. -/
structure GSt.From (s : GSt) (ck : ByteArray) (ts : List TestV) (rights fuel : Int) : Prop where
  err : s.err = (opensM ck ts fuel).1
  place : s.place = (opensM ck ts fuel).2
  ck : s.ck = ck
  ts : s.ts = ts
  rights : s.rights = rights
  fuel : s.fuel = fuel
theorem GSt.from_opened (ck : ByteArray) (ts : List TestV) (rights fuel : Int) : (GSt.opened ck ts rights fuel).From ck ts rights fuel := ⟨rfl, rfl, rfl, rfl, rfl, rfl⟩
theorem GSt.From.sub {s : GSt} {ck : ByteArray} {ts : List TestV} {rights fuel : Int} (h : s.From ck ts rights fuel) (src : ByteArray) : (s.sub src).From ck ts rights fuel := by
  obtain ⟨a, b, c, d, e, f⟩ := sub_err s src
  exact ⟨a.trans h.err, b.trans h.place, c.trans h.ck, d.trans h.ts, e.trans h.rights, f.trans h.fuel⟩
/-- What an opened grader has. -/
theorem opens_ok {ck : ByteArray} {ts : List TestV} {fuel : Int} (h : (opensM ck ts fuel).1 = 0) : ts.length ≤ 6 ∧ fuel ≤ 10000 ∧ (∀ i, i < ts.length → (ts.getD i noTest).hidden.size ≤ 32) ∧ (readM ck).1 = 0 := by
  unfold opensM at h
  by_cases h1 : 6 < ts.length ∨ 10000 < fuel
  · rw [if_pos h1] at h; exact absurd h (by decide)
  · rw [if_neg h1] at h
    by_cases h2 : hidBad ts = true
    · rw [if_pos h2] at h; exact absurd h (by decide)
    · rw [if_neg h2, ← check_eq] at h
      exact ⟨by omega, by omega, hidBad_all (by simpa using h2), h⟩
theorem StrsAt.kept {w w' : World} {v : Value} {ws : List ByteArray} {Q : Nat → Prop} (h : StrsAt w v ws) (hk : Kept Q w w') (hq : ∀ a n c, v = .slice (some a) n c → Q a.block) : StrsAt w' v ws := by
  rcases h with h | ⟨b, o, cap, rfl, hb, hc⟩
  · exact .inl h
  · refine .inr ⟨b, o, cap, rfl, Nat.lt_of_lt_of_le hb hk.size, fun k hk2 => ?_⟩
    rw [hk.cell (p := ⟨b, o + k, none⟩) hb (hq ⟨b, o, none⟩ _ _ rfl)]
    exact hc k hk2
theorem StrsAt.form {w : World} {v : Value} {ws : List ByteArray} (h : StrsAt w v ws) : ∃ a cap, v = .slice a ws.length cap := by
  rcases h with ⟨rfl, a, cap, rfl⟩ | ⟨b, o, cap, rfl, _⟩
  · exact ⟨a, cap, rfl⟩
  · exact ⟨_, cap, rfl⟩
theorem StrsAt.at {w : World} {v : Value} {ws : List ByteArray} (h : StrsAt w v ws) {k : Nat} (hk : k < ws.length) : ∃ b o cap, v = .slice (some ⟨b, o, none⟩) ws.length cap ∧ b < w.heap.size ∧ w.cell? ⟨b, o + k, none⟩ = some (.string (ws.getD k ByteArray.empty)) := by
  rcases h with ⟨rfl, a, cap, rfl⟩ | ⟨b, o, cap, rfl, hb, hc⟩
  · simp at hk
  · exact ⟨b, o, cap, rfl, hb, hc k hk⟩

set_option maxRecDepth 100000 in
set_option maxHeartbeats 1000000 in
theorem grades_any (S : GSpec) (w : World) (ck : ByteArray) (v : Value) (ts : List TestV) (rights fuel : Int) (lv : Value) (ls : List ByteArray) (hG : Globs w) (hck : ck.size ≤ maxLen) (hT : TestsAt w v ts) (hl : ts.length * 32 ≤ 140737488351232) (hv : ∀ a n c, v = .slice (some a) n c → a.block < w.heap.size)
    (hin : ∀ i, (ts.getD i noTest).inp.size ≤ maxLen) (hS : StrsAt w lv ls) (hsv : ∀ a n c, lv = .slice (some a) n c → a.block < w.heap.size) (hsl : ls.length ≤ 140737488351232) (hsz : ∀ i, (ls.getD i ByteArray.empty).size ≤ maxLen) :
    Calls Tryz.prog 3 #[.agg #[.string ck, v, .int .i64 rights, .int .i64 fuel], lv] w fun e w' => e = .returned (.bool true) ∧ Kept (fun k => k < w.heap.size) w w' := by
  obtain ⟨wA, hwA⟩ : ∃ x, x = w.alloc (.cells #[.string ck, v, .int .i64 rights, .int .i64 fuel] 24) := ⟨_, rfl⟩
  have hbA : wA.heap[w.heap.size]? = some (.cells #[.string ck, v, .int .i64 rights, .int .i64 fuel] 24 (0, 0)) := by rw [hwA]; exact heap_alloc_new w _
  have kA : Kept (fun k => k < w.heap.size) w wA := by rw [hwA]; exact (Kept.refl _ w).alloc _
  have hszA : wA.heap.size = w.heap.size + 1 := by rw [hwA]; simp
  have TA := hT.kept kA hv
  have SA := hS.kept kA hsv
  have GA := hG.kept kA (fun k hk => hG.lt hk)
  have hvA : ∀ a n c, v = .slice (some a) n c → a.block < wA.heap.size := fun a n c e => by have := hv a n c e; omega
  have hsvA : ∀ a n c, lv = .slice (some a) n c → a.block < wA.heap.size := fun a n c e => by have := hsv a n c e; omega
  have HOp := hide (S.opens wA ck v ts rights fuel GA.listed hck TA hl hvA)
  have HSub := hide (fun (wr : World) F g s src hI (hk : Kept (fun k => k < wA.heap.size) wA wr) (hF : ∀ k, F k → wA.heap.size ≤ k) hs (hfr : GSt.From s ck ts rights fuel) => S.submit wr F g s src hI (GA.kept hk (fun k h => GA.lt h)).listed (fun k hk hf => by have := GA.lt (.inl hk); have := hF _ hf; omega) hs (by rw [hfr.ts]; exact hin))
  have HMa := hide S.marks
  have HPl := hide plain_any
  have HRO := hide (fun (w1 : World) u (hg1 : Globs w1) (hu : TestsIs 48 w1 u ts) => refOpens_any ck w1 (fun k => k < w1.heap.size) (fun k hk => hk) hck hg1.forms hg1.rlisted (hg1.lt (.inr (.inl rfl))) (hg1.lt (.inr (.inr rfl))) u ts hu (by omega) fuel)
  unfold ChkPost at HRO
  have HNu := hide num2_any
  have HSs := hide (fun (wr : World) F g s src hI (hk : Kept (fun k => k < wA.heap.size) wA wr) (hF : ∀ k, F k → wA.heap.size ≤ k) hs (hfr : GSt.From s ck ts rights fuel) (h0 : (opensM ck ts fuel).1 = 0) => submits_any S wr F g s v src hI (GA.kept hk (fun k h => GA.lt h)) (fun k h hf => by have := GA.lt h; have := hF k hf; omega) hs (by rw [hfr.ck]; exact hck) (by rw [hfr.ts]; exact hin) (hfr.err.trans h0) (by rw [hfr.ck]; exact (opens_ok h0).2.2.2) (by rw [hfr.ts]; exact TA.kept hk hvA)
    (fun a n c e => ⟨Nat.lt_of_lt_of_le (hvA a n c e) hk.size, fun hf => by have := hvA a n c e; have := hF _ hf; omega⟩) (by rw [hfr.ts]; exact (opens_ok h0).1) (by rw [hfr.ts]; exact (opens_ok h0).2.2.1) (by rw [hfr.fuel]; exact (opens_ok h0).2.1))
  obtain ⟨la, lc, hlf⟩ := hS.form
  have HSA : Hid (∀ wr, Kept (fun k => k < wA.heap.size) wA wr → StrsAt wr lv ls) := fun wr hk => SA.kept hk hsvA
  have HSZ := hide hsz
  have HTA := hide TA
  have HGA := hide GA
  have HVA := hide hvA
  have HKA := hide kA
  have HBA := hide hbA
  have HW := hide hwA
  have HLV := hide hlf
  obtain ⟨oe, hoe⟩ : ∃ x, x = (opensM ck ts fuel).1 := ⟨_, rfl⟩
  obtain ⟨op, hop⟩ : ∃ x, x = (opensM ck ts fuel).2 := ⟨_, rfl⟩
  rw [← hoe, ← hop] at HOp HRO
  have HOE := hide (And.intro hoe hop)
  have c0 : wA.cell? ⟨w.heap.size, 0, none⟩ = some (.string ck) := cell_of_block hbA 0 _ rfl
  have c1 : wA.cell? ⟨w.heap.size, 1, none⟩ = some v := cell_of_block hbA 1 _ rfl
  have c2 : wA.cell? ⟨w.heap.size, 2, none⟩ = some (.int .i64 rights) := cell_of_block hbA 2 _ rfl
  have c3 : wA.cell? ⟨w.heap.size, 3, none⟩ = some (.int .i64 fuel) := cell_of_block hbA 3 _ rfl
  have ltA : w.heap.size < wA.heap.size := by omega
  subst hlf
  clear hwA hbA kA hG hT hv hin hS hsv hsz TA SA GA hvA hsvA hoe hop
  go_enter Tryz.func3, Tryz.ntmps3
  go_wp2_with fail
  rw [show w.alloc (.cells #[.string ck, v, .int .i64 rights, .int .i64 fuel] 24) = wA from HW.out.symm]
  refine (unhide HOp).mono ?_
  rintro e w1 ⟨g, F, rfl, I1, hF, k1⟩
  clear HOp c0 c2 c3 c1
  have b1 := k1.at' HBA.out ltA
  have lt1 := lt_of_block b1
  have e1 : w1.cell? ⟨w.heap.size, 1, none⟩ = some v := cell_of_block b1 1 _ rfl
  have hpl := hide ((unhide HPl) w1 v ts (HTA.out.kept k1 HVA.out) hl (fun k => k < w1.heap.size) (fun k h => h) (fun a n c e => Nat.lt_of_lt_of_le (HVA.out a n c e) k1.size))
  have G1 := HGA.out.kept k1 (fun k hk => HGA.out.lt hk)
  have HG1 := hide G1
  have HB1 := hide b1
  have HI1 := hide I1
  have HK1 := hide k1
  have HF := hide hF
  clear G1 b1 I1 k1 hF HPl
  go_wp2_with fail
  refine (unhide hpl).mono ?_
  rintro e w2 ⟨u, rfl, r2, k2⟩
  clear hpl e1
  have G2 := HG1.out.kept k2 (fun k hk => HG1.out.lt hk)
  have hro := hide ((unhide HRO) w2 u G2 r2.own)
  have b2 := k2.at' HB1.out lt1
  have lt2 := lt_of_block b2
  have c0 : w2.cell? ⟨w.heap.size, 0, none⟩ = some (.string ck) := cell_of_block b2 0 _ rfl
  have c3 : w2.cell? ⟨w.heap.size, 3, none⟩ = some (.int .i64 fuel) := cell_of_block b2 3 _ rfl
  have HK2 := hide k2
  clear G2 b2 k2 r2 HRO
  go_wp2_with fail
  refine (unhide hro).mono ?_
  rintro e w3 ⟨rfl, k3⟩
  clear hro c0 c3 lt2
  have k13 : Kept (fun k => k < w1.heap.size) w1 w3 := HK2.out.trans k3.all
  have I3 := S.frame HI1.out k13 (S.lt HI1.out)
  have HKA3 : Hid (Kept (fun k => k < wA.heap.size) wA w3) := HK1.out.trans k13.all
  have hn3 := hide ((unhide HNu) oe w3)
  have hm3 := hide ((unhide HMa) w3 F g _ I3)
  have HI3 := hide I3
  clear k3 k13 I3 HI1 HB1 HG1 HK1 HK2
  go_wp2_with fail
  refine (unhide hn3).mono ?_
  rintro e w3' ⟨rfl, rfl⟩
  clear hn3
  go_wp2_with fail
  refine (unhide hm3).mono ?_
  rintro e w3'' ⟨rfl, rfl⟩
  clear hm3
  have hem : (mkB ([] : List UInt8)).toList.isEmpty = true := by rw [mkB_toList]; rfl
  rw [show (GSt.opened ck ts rights fuel).marks = [] from rfl]
  go_wp2_with fail
  go_loopw [11, 12] (fun m i wr => ∃ (k : Nat) (st : GSt) (F' : Nat → Prop), k ≤ ls.length ∧ i = .int .i64 k ∧ m = .string (mkB st.marks) ∧ Hid (S.Is wr F' g st) ∧ Hid (∀ k, F' k → wA.heap.size ≤ k) ∧ Hid (Kept (fun k => k < wA.heap.size) wA wr) ∧ Hid (st.From ck ts rights fuel) ∧ Hid (oe ≠ 0 → st.marks = [])) (fun _ i _ => ls.length - (intOf i).toNat)
  case atStart => exact ⟨0, GSt.opened ck ts rights fuel, F, Nat.zero_le _, rfl, rfl, HI3, HF, HKA3, GSt.from_opened _ _ _ _, fun _ => rfl⟩
  case round =>
    obtain ⟨k, st, F', hk, rfl, rfl, hI, hF', hkw, hfr, hmz⟩ := hrel
    by_cases hlt : k < ls.length
    · obtain ⟨lb, lo, lc', hll, hlb, ek⟩ := (HSA.out wr hkw.out).at hlt
      simp only [Value.slice.injEq, true_and] at hll
      obtain ⟨rfl, rfl⟩ := hll
      have hsk := HSZ.out k
      generalize ls.getD k ByteArray.empty = src at *
      by_cases hz : oe = 0
      · subst hz
        have hss := hide ((unhide HSs) wr.drew F' g st src (S.frame hI.out ((Kept.refl (fun _ => True) wr).drew) (fun _ _ => trivial)) hkw.out.drew hF'.out hsk hfr.out HOE.out.1.symm)
        rw [hfr.out.ck, hfr.out.rights, hfr.out.fuel] at hss
        have bw := hkw.out.at' HBA.out ltA
        have ltw := lt_of_block bw
        have c0 : wr.cell? ⟨w.heap.size, 0, none⟩ = some (.string ck) := cell_of_block bw 0 _ rfl
        have c1 : wr.cell? ⟨w.heap.size, 1, none⟩ = some v := cell_of_block bw 1 _ rfl
        have c2 : wr.cell? ⟨w.heap.size, 2, none⟩ = some (.int .i64 rights) := cell_of_block bw 2 _ rfl
        have c3 : wr.cell? ⟨w.heap.size, 3, none⟩ = some (.int .i64 fuel) := cell_of_block bw 3 _ rfl
        clear bw
        go_wp2_with fail
        go_region_with (refine (unhide hss).mono ?_; rintro e w5 ⟨F5, rfl, I5, hF5, k5⟩)
        all_goals (
          have fin : Hid (S.Is w5 F5 g (st.sub src)) := I5
          have finF : Hid (∀ k, F5 k → wA.heap.size ≤ k) := fun k h => (hF5 k h).elim (hF'.out k) (fun h => Nat.le_trans hkw.out.size h)
          have finK : Hid (Kept (fun k => k < wA.heap.size) wA w5) := hkw.out.drew.trans (k5.mono (fun k h => ⟨Nat.lt_of_lt_of_le h hkw.out.size, fun hf => by have := hF'.out k hf; omega⟩))
          clear I5 hF5 k5 c0 c1 c2 c3
          go_wp2
          go_roundw
          case rel => exact ⟨k + 1, st.sub src, F5, by omega, by go_num, rfl, fin, finF, finK, hfr.out.sub src, fun h => absurd rfl h⟩
          case measure => first | (simp [intOf]; done) | (simp [intOf]; omega))
      · have hsu := hide ((unhide HSub) wr F' g st src hI.out hkw.out hF'.out hsk hfr.out)
        have he : st.err ≠ 0 := by rw [hfr.out.err, ← HOE.out.1]; exact hz
        have hp0 : st.pub src = [] := by unfold GSt.pub; rw [if_pos he]
        have hs0 : st.sub src = st := by unfold GSt.sub; rw [if_pos he]
        have hc0 : st.code src = (oe, op) := by unfold GSt.code; rw [if_pos he, hfr.out.err, hfr.out.place, ← HOE.out.1, ← HOE.out.2]
        rw [hp0, hs0, hc0] at hsu
        have hnz : (oe == 0) = false := by rw [beq_eq_false_iff_ne]; exact hz
        have hm0 := hmz.out hz
        have HM0 := hide hm0
        clear hp0 hs0 hc0 he hm0
        go_wp2_with fail
        refine (unhide hsu).mono ?_
        rintro e w5 ⟨F5, rfl, I5, hF5, k5⟩
        clear hsu
        have hm5 := hide ((unhide HMa) w5 F5 g st I5)
        rw [HM0.out] at hm5
        have hn5 := hide ((unhide HNu) oe w5)
        have fin : Hid (S.Is w5 F5 g st) := I5
        have finF : Hid (∀ k, F5 k → wA.heap.size ≤ k) := fun k h => (hF5 k h).elim (hF'.out k) (fun h => Nat.le_trans hkw.out.size h)
        have finK : Hid (Kept (fun k => k < wA.heap.size) wA w5) := hkw.out.trans (k5.mono (fun k h => ⟨Nat.lt_of_lt_of_le h hkw.out.size, fun hf => by have := hF'.out k hf; omega⟩))
        clear I5 hF5 k5
        go_wp2_with fail
        refine (unhide hm5).mono ?_
        rintro e w5' ⟨rfl, rfl⟩
        clear hm5
        go_wp2_with fail
        refine (unhide hn5).mono ?_
        rintro e w5'' ⟨rfl, rfl⟩
        clear hn5
        go_wp2_with fail
        go_roundw
        case rel => exact ⟨k + 1, st, F5, by omega, by go_num, rfl, fin, finF, finK, hfr, hmz⟩
        case measure => first | (simp [intOf]; done) | (simp [intOf]; omega)
    · have hke : k = ls.length := by omega
      subst hke
      have kfin : Hid (Kept (fun k => k < w.heap.size) w wr) := HKA.out.trans (hkw.out.mono (fun k h => by omega))
      go_wp2
      go_ret
      exact ⟨rfl, kfin.out⟩
end Go.Proofs.YtnanjomnldfidabGreatDoor

set_option linter.unusedSimpArgs false
set_option linter.unusedVariables false
set_option linter.unusedSectionVars false
namespace Go.Proofs.YtnanjomnldfidabGreatDoor
open Go.RowKit

theorem TestsAt.form {w : World} {v : Value} {ts : List TestV} (h : TestsAt w v ts) : ∃ a cap, v = .slice a ts.length cap := by
  rcases h with ⟨rfl, a, cap, rfl⟩ | ⟨b, o, cap, rfl, _⟩
  · exact ⟨a, cap, rfl⟩
  · exact ⟨_, cap, rfl⟩
theorem GSt.From.pub {s s' : GSt} {ck : ByteArray} {ts : List TestV} {rights fuel : Int} (h : s.From ck ts rights fuel) (h' : s'.From ck ts rights fuel) (src : ByteArray) : s.pub src = s'.pub src ∧ s.code src = s'.code src := by
  unfold GSt.pub GSt.code
  rw [h.err, h'.err, h.place, h'.place, h.ts, h'.ts, h.rights, h'.rights, h.fuel, h'.fuel]
  exact ⟨rfl, rfl⟩
/-- A Submit that is well. -/
theorem GSt.From.well {s : GSt} {ck : ByteArray} {ts : List TestV} {rights fuel : Int} (h : s.From ck ts rights fuel) (src : ByteArray) (h0 : (s.code src).1 = 0) :
    s.pub src = pubTo ts rights fuel src ts.length ∧ (s.sub src).marks = marksTo ck ts rights fuel src ts.length ∧ (opensM ck ts fuel).1 = 0 ∧ (readM src).1 = 0 := by
  unfold GSt.code at h0
  by_cases he : s.err ≠ 0
  · rw [if_pos he] at h0; exact absurd h0 he
  · rw [if_neg he] at h0
    have h1 : ¬ (readM src).1 ≠ 0 := by simpa using h0
    unfold GSt.pub GSt.sub
    rw [if_neg he, if_neg he, if_neg h1, if_neg h1]
    refine ⟨by rw [h.ts, h.rights, h.fuel], ?_, h.err ▸ (by simpa using he), h0⟩
    show marksTo s.ck s.ts s.rights s.fuel src s.ts.length = _
    rw [h.ck, h.ts, h.rights, h.fuel]

end Go.Proofs.YtnanjomnldfidabGreatDoor

set_option linter.unusedSimpArgs false
set_option linter.unusedVariables false
set_option linter.unusedSectionVars false
namespace Go.Proofs.YtnanjomnldfidabGreatDoor
open Go.RowKit

theorem ofInt_wrap2 (v : BitVec 64) : BitVec.ofInt 64 (IntKind.i64.wrap ((v.toNat : Nat) : Int)) = v := by
  apply BitVec.eq_of_toNat_eq
  rw [BitVec.toNat_ofInt, IntKind.wrap_i64]
  have := v.isLt
  rw [show ((2 : Nat) ^ 64 : Nat) = 18446744073709551616 from rfl] at *
  omega
theorem noLook2 (r : Int) : noRight (bits BinOp.andNot IntKind.i64 r 4) 4 = true := by
  unfold noRight
  have e1 : bits BinOp.andNot IntKind.i64 r 4 = IntKind.i64.wrap (((BitVec.ofInt 64 r &&& ~~~ BitVec.ofInt 64 4).toNat : Nat) : Int) := rfl
  have e2 : ∀ a : Int, bits BinOp.and IntKind.i64 a 4 = IntKind.i64.wrap (((BitVec.ofInt 64 a &&& BitVec.ofInt 64 4).toNat : Nat) : Int) := fun _ => rfl
  rw [e1, e2, ofInt_wrap2, BitVec.and_assoc, show (~~~ BitVec.ofInt 64 4 &&& BitVec.ofInt 64 4 : BitVec 64) = 0#64 from by decide, BitVec.and_zero]
  rfl

theorem hidBad_iff (ts : List TestV) : hidBad ts = true ↔ ∃ i, i < ts.length ∧ 32 < (ts.getD i noTest).hidden.size := by
  unfold hidBad
  rw [List.any_eq_true]
  constructor
  · rintro ⟨t, ht, h⟩
    obtain ⟨i, hi, rfl⟩ := List.getElem_of_mem ht
    exact ⟨i, hi, by have e : ts.getD i noTest = ts[i] := by simp [List.getD, hi]
                     rw [e]; simpa using h⟩
  · rintro ⟨i, hi, h⟩
    have e : ts.getD i noTest = ts[i] := by simp [List.getD, hi]
    rw [e] at h
    exact ⟨ts[i], List.getElem_mem hi, by simpa using h⟩
theorem opens_alike {ts ts' : List TestV} (h : Alike2 ts ts') (ck : ByteArray) (fuel : Int) : opensM ck ts' fuel = opensM ck ts fuel := by
  have hb : hidBad ts' = hidBad ts := by
    rw [Bool.eq_iff_iff, hidBad_iff, hidBad_iff]
    constructor
    · rintro ⟨i, hi, q⟩
      exact ⟨i, by rw [← h.len]; exact hi, by rw [← h.size i]; exact q⟩
    · rintro ⟨i, hi, q⟩
      exact ⟨i, by rw [h.len]; exact hi, by rw [h.size i]; exact q⟩
  unfold opensM
  rw [h.len, hb]
theorem TestsAt.ofIs {e : TypeId} {w : World} {v : Value} {l : List TestV} (h : TestsIs e w v l) : TestsAt w v l ∧ ∀ a n c, v = .slice (some a) n c → a.block < w.heap.size := by
  rcases h.2 with ⟨rfl, h0⟩ | ⟨g, cap, cur, rfl, hb, hg, rest⟩
  · exact ⟨.inl ⟨List.eq_nil_of_length_eq_zero h0, _, _, rfl⟩, fun a n c e => by cases e⟩
  · refine ⟨.inr ⟨g, 0, cap, rfl, lt_of_block hg, fun k hk => ?_⟩, fun a n c e => ?_⟩
    · obtain ⟨f, cp, e1, _, q1, q2⟩ := TestsIs.cells h hk
      simp only [Value.slice.injEq, Option.some.injEq, Addr.mk.injEq, true_and, and_true] at e1
      obtain ⟨rfl, _⟩ := e1
      rw [Nat.zero_add]
      exact ⟨q1, q2⟩
    · simp only [Value.slice.injEq, Option.some.injEq] at e
      obtain ⟨rfl, _⟩ := e
      exact lt_of_block hg

end Go.Proofs.YtnanjomnldfidabGreatDoor

set_option linter.unusedSimpArgs false
set_option linter.unusedVariables false
set_option linter.unusedSectionVars false
namespace Go.Proofs.YtnanjomnldfidabGreatDoor
open Go.RowKit

theorem TestsAt.at {w : World} {v : Value} {ts : List TestV} (h : TestsAt w v ts) {k : Nat} (hk : k < ts.length) : ∃ b o cap, v = .slice (some ⟨b, o, none⟩) ts.length cap ∧ b < w.heap.size ∧ w.cell? ⟨b, o + k * 2, none⟩ = some (.string (ts.getD k noTest).inp) ∧ w.cell? ⟨b, o + k * 2 + 1, none⟩ = some (.string (ts.getD k noTest).hidden) := by
  rcases h with ⟨rfl, _⟩ | ⟨b, o, cap, e, hb, hc⟩
  · simp at hk
  · exact ⟨b, o, cap, e, hb, (hc k hk).1, (hc k hk).2⟩
/-- What is laid into the list later. -/
def laterT : TestV := ⟨⟨#[108, 97, 116, 101, 114]⟩, ⟨#[108, 97, 116, 101, 114]⟩⟩
def newT (us : List TestV) (i : Nat) : TestV := if i < us.length then us.getD i noTest else laterT
def turnT (ts us : List TestV) (k i : Nat) : TestV := if i < k then newT us i else ts.getD i noTest
/-- The law's own list, cell for cell. -/
structure LAt (w : World) (la : Option Addr) (m : Nat) (f : Nat → TestV) : Prop where
  all : ∀ i, i < m → ∃ lb, la = some ⟨lb, 0, none⟩ ∧ lb < w.heap.size ∧ w.cell? ⟨lb, i * 2, none⟩ = some (.string (f i).inp) ∧ w.cell? ⟨lb, i * 2 + 1, none⟩ = some (.string (f i).hidden) ∧ ∀ j, w.frozen? ⟨lb, j, none⟩ = false
theorem LAt.ofIs {e : TypeId} {w : World} {la : Option Addr} {m c : Nat} {ts : List TestV} (hm : ts.length = m) (h : TestsIs e w (.slice la m c) ts) : LAt w la m (fun i => ts.getD i noTest) := by
  subst hm
  refine ⟨fun i hi => ?_⟩
  rcases h.2 with ⟨_, h0⟩ | ⟨g, cap, cur, hv, _, hg, _⟩
  · omega
  · simp only [Value.slice.injEq] at hv
    obtain ⟨rfl, _, rfl⟩ := hv
    obtain ⟨f, cp, e1, hf, q1, q2⟩ := TestsIs.cells h hi
    simp only [Value.slice.injEq, Option.some.injEq, Addr.mk.injEq, true_and, and_true] at e1
    obtain ⟨rfl, _⟩ := e1
    exact ⟨g, rfl, hf, q1, q2, fun j => frozen_of_row _ _ _ _ _ hg⟩
theorem LAt.kept {w w' : World} {la : Option Addr} {m : Nat} {f : Nat → TestV} {Q : Nat → Prop} (h : LAt w la m f) (hk : Kept Q w w') (hq : ∀ a, la = some a → Q a.block) : LAt w' la m f := by
  refine ⟨fun i hi => ?_⟩
  obtain ⟨lb, e, hlt, h1, h2, h3⟩ := h.all i hi
  have hqb : Q lb := hq ⟨lb, 0, none⟩ e
  refine ⟨lb, e, Nat.lt_of_lt_of_le hlt hk.size, by rw [hk.cell (p := ⟨lb, i * 2, none⟩) hlt hqb]; exact h1, by rw [hk.cell (p := ⟨lb, i * 2 + 1, none⟩) hlt hqb]; exact h2, fun j => ?_⟩
  have := h3 j
  unfold World.frozen? at this ⊢
  rw [hk.block lb hlt hqb]; exact this
theorem LAt.congr {w : World} {la : Option Addr} {m : Nat} {f f' : Nat → TestV} (h : LAt w la m f) (hf : ∀ i, i < m → f i = f' i) : LAt w la m f' :=
  ⟨fun i hi => by rw [← hf i hi]; exact h.all i hi⟩
/-- A test is stored into the list. -/
theorem LAt.store {w : World} {lb m k : Nat} {f : Nat → TestV} (h : LAt w (some ⟨lb, 0, none⟩) m f) (hk : k < m) (t : TestV) :
    LAt ((w.setCell ⟨lb, k * 2, none⟩ (.string t.inp)).setCell ⟨lb, k * 2 + 1, none⟩ (.string t.hidden)) (some ⟨lb, 0, none⟩) m (fun i => if i = k then t else f i) := by
  refine ⟨fun i hi => ?_⟩
  obtain ⟨lb', e, hlt, h1, h2, h3⟩ := h.all i hi
  simp only [Option.some.injEq, Addr.mk.injEq, and_true] at e
  subst e
  refine ⟨lb, rfl, by simpa using hlt, ?_, ?_, fun j => by rw [World.frozen?_setCell, World.frozen?_setCell]; exact h3 j⟩
  · rw [World.cell?_setCell_other _ _ _ _ (by first | (simp; done) | (simp; omega))]
    by_cases hik : i = k
    · subst hik
      rw [if_pos rfl, World.cell?_setCell_same _ _ _ h1]
    · rw [if_neg hik, World.cell?_setCell_other _ _ _ _ (by first | (simp; done) | (simp; omega))]; exact h1
  · by_cases hik : i = k
    · subst hik
      rw [if_pos rfl]
      exact World.cell?_setCell_same _ _ _ (by rw [World.cell?_setCell_other _ _ _ _ (by simp)]; exact h2)
    · rw [if_neg hik, World.cell?_setCell_other _ _ _ _ (by first | (simp; done) | (simp; omega)), World.cell?_setCell_other _ _ _ _ (by first | (simp; done) | (simp; omega))]; exact h2
theorem turn_step {ts us : List TestV} {k : Nat} : ∀ i, (if i = k then newT us k else turnT ts us k i) = turnT ts us (k + 1) i := by
  intro i
  unfold turnT
  by_cases h : i = k
  · subst h; rw [if_pos rfl, if_pos (by omega)]
  · rw [if_neg h]
    by_cases h2 : i < k
    · rw [if_pos h2, if_pos (by omega)]
    · rw [if_neg h2, if_neg (by omega)]

set_option maxRecDepth 100000 in
set_option maxHeartbeats 2000000 in
theorem apart_any (S : GSpec) (w : World) (ck : ByteArray) (v : Value) (ts : List TestV) (rights fuel : Int) (uv : Value) (us : List TestV) (lv : Value) (ls : List ByteArray) (hG : Globs w) (hck : ck.size ≤ maxLen) (hT : TestsAt w v ts) (hl : ts.length * 32 ≤ 140737488351232) (hv : ∀ a n c, v = .slice (some a) n c → a.block < w.heap.size)
    (hin : ∀ i, (ts.getD i noTest).inp.size ≤ maxLen) (hU : TestsAt w uv us) (hul : us.length * 32 ≤ 140737488351232) (huv : ∀ a n c, uv = .slice (some a) n c → a.block < w.heap.size) (hS : StrsAt w lv ls) (hsv : ∀ a n c, lv = .slice (some a) n c → a.block < w.heap.size) (hsl : ls.length ≤ 140737488351232) (hsz : ∀ i, (ls.getD i ByteArray.empty).size ≤ maxLen) :
    Calls Tryz.prog 4 #[.agg #[.string ck, v, .int .i64 rights, .int .i64 fuel], uv, lv] w fun e w' => e = .returned (.bool true) ∧ Kept (fun k => k < w.heap.size) w w' := by
  obtain ⟨wA, hwA⟩ : ∃ x, x = w.alloc (.cells #[.string ck, v, .int .i64 rights, .int .i64 fuel] 24) := ⟨_, rfl⟩
  have hbA : wA.heap[w.heap.size]? = some (.cells #[.string ck, v, .int .i64 rights, .int .i64 fuel] 24 (0, 0)) := by rw [hwA]; exact heap_alloc_new w _
  have kA : Kept (fun k => k < w.heap.size) w wA := by rw [hwA]; exact (Kept.refl _ w).alloc _
  have hszA : wA.heap.size = w.heap.size + 1 := by rw [hwA]; simp
  have TA := hT.kept kA hv
  have UA := hU.kept kA huv
  have SA := hS.kept kA hsv
  have GA := hG.kept kA (fun k hk => hG.lt hk)
  have hvA : ∀ a n c, v = .slice (some a) n c → a.block < wA.heap.size := fun a n c e => by have := hv a n c e; omega
  have huvA : ∀ a n c, uv = .slice (some a) n c → a.block < wA.heap.size := fun a n c e => by have := huv a n c e; omega
  have hsvA : ∀ a n c, lv = .slice (some a) n c → a.block < wA.heap.size := fun a n c e => by have := hsv a n c e; omega
  have HOp := hide (fun (wr : World) x (hk : Kept (fun k => k < wA.heap.size) wA wr) (hx : TestsIs 42 wr x ts) => S.opens wr ck x ts rights fuel (GA.kept hk (fun k h => GA.lt h)).listed hck (TestsAt.ofIs hx).1 hl (TestsAt.ofIs hx).2)
  have HMa := hide S.marks
  have HPl := hide (fun (wr : World) (hk : Kept (fun k => k < wA.heap.size) wA wr) => plain_any wr v ts (TA.kept hk hvA) hl (fun k => k < wr.heap.size) (fun k h => h) (fun a n c e => Nat.lt_of_lt_of_le (hvA a n c e) hk.size))
  have HRO := hide (fun (w1 : World) u (hg1 : Globs w1) (hu : TestsIs 48 w1 u ts) => refOpens_any ck w1 (fun k => k < w1.heap.size) (fun k hk => hk) hck hg1.forms hg1.rlisted (hg1.lt (.inr (.inl rfl))) (hg1.lt (.inr (.inr rfl))) u ts hu (by omega) fuel)
  unfold ChkPost at HRO
  have HNu := hide num2_any
  have HSs := hide (fun (wr : World) F g s src hI (hk : Kept (fun k => k < wA.heap.size) wA wr) (hF : ∀ k, F k → wA.heap.size ≤ k) hs (hfr : GSt.From s ck ts rights fuel) (h0 : (opensM ck ts fuel).1 = 0) => submits_any S wr F g s v src hI (GA.kept hk (fun k h => GA.lt h)) (fun k h hf => by have := GA.lt h; have := hF k hf; omega) hs (by rw [hfr.ck]; exact hck) (by rw [hfr.ts]; exact hin) (hfr.err.trans h0) (by rw [hfr.ck]; exact (opens_ok h0).2.2.2) (by rw [hfr.ts]; exact TA.kept hk hvA)
    (fun a n c e => ⟨Nat.lt_of_lt_of_le (hvA a n c e) hk.size, fun hf => by have := hvA a n c e; have := hF _ hf; omega⟩) (by rw [hfr.ts]; exact (opens_ok h0).1) (by rw [hfr.ts]; exact (opens_ok h0).2.2.1) (by rw [hfr.fuel]; exact (opens_ok h0).2.1))
  have HTA : Hid (∀ wr, Kept (fun k => k < wA.heap.size) wA wr → TestsAt wr v ts) := fun wr hk => TA.kept hk hvA
  have HUA : Hid (∀ wr, Kept (fun k => k < wA.heap.size) wA wr → TestsAt wr uv us) := fun wr hk => UA.kept hk huvA
  have HSA : Hid (∀ wr, Kept (fun k => k < wA.heap.size) wA wr → StrsAt wr lv ls) := fun wr hk => SA.kept hk hsvA
  have HGA : Hid (∀ wr, Kept (fun k => k < wA.heap.size) wA wr → Globs wr) := fun wr hk => GA.kept hk (fun k h => GA.lt h)
  obtain ⟨la, lc, hlf⟩ := hS.form
  obtain ⟨va, vc, hvf⟩ := hT.form
  obtain ⟨ua, uc, huf⟩ := hU.form
  have HSZ := hide hsz
  have HKA := hide kA
  have HBA : Hid (∀ wr, Kept (fun k => k < wA.heap.size) wA wr → wr.heap[w.heap.size]? = some (.cells #[.string ck, v, .int .i64 rights, .int .i64 fuel] 24 (0, 0))) := fun wr hk => hk.at' hbA (by omega)
  have HW := hide hwA
  obtain ⟨oe, hoe⟩ : ∃ x, x = (opensM ck ts fuel).1 := ⟨_, rfl⟩
  obtain ⟨op, hop⟩ : ∃ x, x = (opensM ck ts fuel).2 := ⟨_, rfl⟩
  rw [← hoe, ← hop] at HOp HRO
  have HOE := hide (And.intro hoe hop)
  have ltA : w.heap.size < wA.heap.size := by omega
  obtain ⟨i0, hi0, hz0, hz1, hz2⟩ := info_parts Tryz.infoGTest
  subst hlf hvf huf
  have HRefA : Hid (Kept (fun k => k < wA.heap.size) wA wA) := Kept.refl _ _
  clear hwA hbA kA hG hT hv hU huv hin hS hsv hsz TA UA SA GA hvA huvA hsvA hoe hop
  go_enter Tryz.func4, Tryz.ntmps4
  go_wp2_with fail
  rw [show w.alloc (.cells #[.string ck, .slice va ts.length vc, .int .i64 rights, .int .i64 fuel] 24) = wA from HW.out.symm]
  -- the law's own list
  go_loopw [7, 8] (fun l i wr => ∃ k : Nat, k ≤ ts.length ∧ i = .int .i64 k ∧ Hid (Row wr (fun k => k < wA.heap.size) 42 2 l k (testCells (ts.take k))) ∧ Hid (Kept (fun k => k < wA.heap.size) wA wr)) (fun _ i _ => ts.length - (intOf i).toNat)
  case atStart => exact ⟨0, Nat.zero_le _, rfl, Row.nil _ _ _ _, HRefA⟩
  case round =>
    obtain ⟨k, hk, rfl, hrow, hkw⟩ := hrel
    have bw := HBA.out wr hkw.out
    have ltw := lt_of_block bw
    have c1 : wr.cell? ⟨w.heap.size, 1, none⟩ = some (.slice va ts.length vc) := cell_of_block bw 1 _ rfl
    clear bw
    by_cases hlt : k < ts.length
    · obtain ⟨b, o, cap, hvv, hab, e0, e1⟩ := (HTA.out wr hkw.out).at hlt
      simp only [Value.slice.injEq, true_and] at hvv
      obtain ⟨rfl, rfl⟩ := hvv
      have hst := hide (tests_snoc hlt)
      have hsn := hide (testCells_snoc (ts.take k) (ts.getD k noTest))
      generalize (ts.getD k noTest) = tk at *
      obtain ⟨ip, hd⟩ := tk
      simp only at e0 e1
      have CE : Hid (∀ j u, [Value.string ip, .string hd][j]? = some u → (wr.alloc (.cells #[.string ip, .string hd] 42)).cell? ((⟨wr.heap.size, 0, none⟩ : Addr).add j) = some u) := cell_two_new _ _ _ _
      have HB : Hid (∀ k, k < wA.heap.size → k < (wr.alloc (.cells #[.string ip, .string hd] 42)).heap.size) := fun k hp => by have := hkw.out.size; simp; omega
      go_wp2_with (at_builtin; refine wpList_append_mine _ rfl _ _ 22 rfl (fun k => k < wA.heap.size) HB.out 42 i0 (.agg #[.string ByteArray.empty, .string ByteArray.empty]) 2 32 Tryz.underlying22 hi0 hz0 hz1 hz2 rfl (by decide) _ _ _ rfl (hrow.out.alloc _) ⟨wr.heap.size, 0, none⟩ 1 1 [.string ip, .string hd] rfl rfl CE.out (by intro u hu; simp at hu; rcases hu with rfl | rfl <;> rfl) (by unfold maxLen; omega) (by omega) ?_; intro v' w1 hown' hgrow)
      go_roundw
      case rel => exact ⟨k + 1, by omega, by go_num, by unfold Hid; rw [hst.out, hsn.out]; exact hown', (hkw.out.alloc _).grown hgrow hrow.out.out⟩
      case measure => first | (simp [intOf]; done) | (simp [intOf]; omega)
    · have hke : k = ts.length := by omega
      subst hke
      obtain ⟨wB, rfl⟩ : ∃ x, x = wr := ⟨wr, rfl⟩
      have hrow' : Hid (Row wB (fun k => k < wA.heap.size) 42 2 u7 ts.length (testCells ts)) := by have := hrow.out; rw [List.take_length] at this; exact this
      obtain ⟨la', lc', hlv⟩ := own_slice hrow'.out.own
      subst hlv
      have bw := HBA.out wB hkw.out
      have c0 : wB.cell? ⟨w.heap.size, 0, none⟩ = some (.string ck) := cell_of_block bw 0 _ rfl
      have c2 : wB.cell? ⟨w.heap.size, 2, none⟩ = some (.int .i64 rights) := cell_of_block bw 2 _ rfl
      have c3 : wB.cell? ⟨w.heap.size, 3, none⟩ = some (.int .i64 fuel) := cell_of_block bw 3 _ rfl
      have ho1 := hide ((unhide HOp) wB (.slice la' ts.length lc') hkw.out hrow'.out.own)
      have HLB : Hid (∀ a, la' = some a → a.block < wB.heap.size ∧ ¬ a.block < wA.heap.size) := fun a e => ⟨(World.ownsRow.lt hrow'.out.own a.block (by rw [e]; rfl)).2, hrow'.out.out a.block (by rw [e]; rfl)⟩
      clear bw hrow HOp
      go_wp2_with fail
      refine (unhide ho1).mono ?_
      rintro e w1 ⟨g, F, rfl, I1, hF, k1⟩
      clear ho1 c0 c1 c2 c3 ltw
      have K1 : Hid (Kept (fun k => k < wA.heap.size) wA w1) := hkw.out.trans (k1.mono (fun k h => Nat.lt_of_lt_of_le h hkw.out.size))
      have HI1 := hide I1
      have HF := hide hF
      have HL1 : Hid (LAt w1 la' ts.length (fun i => ts.getD i noTest)) := (LAt.ofIs rfl hrow'.out.own).kept k1 (fun a e => (HLB.out a e).1)
      have HBS : Hid (wB.heap.size ≤ w1.heap.size) := k1.size
      have HBA2 : Hid (wA.heap.size ≤ wB.heap.size) := hkw.out.size
      clear I1 hF k1 hrow'
      go_wp2_with fail
      -- Open has left the list alone
      go_loopw [12] (fun i wr => ∃ k : Nat, k ≤ ts.length ∧ i = .int .i64 k ∧ Hid (Kept (fun _ => True) w1 wr)) (fun i _ => ts.length - (intOf i).toNat)
      case atStart => exact ⟨0, Nat.zero_le _, rfl, Kept.refl _ _⟩
      case round =>
        obtain ⟨k2, hk2, rfl, hkw2⟩ := hrel
        have K2 : Hid (Kept (fun k => k < wA.heap.size) wA wr) := K1.out.trans (hkw2.out.mono (fun _ _ => trivial))
        have bw := HBA.out wr K2.out
        have ltw := lt_of_block bw
        have c1 : wr.cell? ⟨w.heap.size, 1, none⟩ = some (.slice va ts.length vc) := cell_of_block bw 1 _ rfl
        by_cases hlt : k2 < ts.length
        · obtain ⟨b, o, cap, hvv, hab, e0, e1⟩ := (HTA.out wr K2.out).at hlt
          simp only [Value.slice.injEq, true_and] at hvv
          obtain ⟨rfl, rfl⟩ := hvv
          obtain ⟨lb, hla, hlb, f0, f1, _⟩ := (HL1.out.kept hkw2.out (fun _ _ => trivial)).all k2 hlt
          subst hla
          generalize (ts.getD k2 noTest) = tk at *
          obtain ⟨ip, hd⟩ := tk
          simp only at e0 e1 f0 f1
          have hlti : (k2 : Int) < (ts.length : Int) := by omega
          clear bw
          go_wp2_with fail
          go_quiet (fail)
          have fin : Hid (Kept (fun _ => True) w1 (wr.drewN nq)) := hkw2.out.trans (Kept.drewN _ _ _)
          go_wp2
          go_roundw
          case rel => exact ⟨k2 + 1, by omega, by go_num, fin⟩
          case measure => first | (simp [intOf]; done) | (simp [intOf]; omega)
        · have hke : k2 = ts.length := by omega
          subst hke
          obtain ⟨w2, rfl⟩ : ∃ x, x = wr := ⟨wr, rfl⟩
          have hpl := hide ((unhide HPl) w2 K2.out)
          clear bw HPl
          go_wp2_with fail
          refine (unhide hpl).mono ?_
          rintro e w3 ⟨u, rfl, r3, k3⟩
          clear hpl c1 ltw
          have K3 : Hid (Kept (fun k => k < wA.heap.size) wA w3) := K2.out.trans k3.all
          have X3 : Hid (Kept (fun k => k < w1.heap.size) w1 w3) := (hkw2.out.mono (fun _ _ => trivial)).trans k3.all
          have hro := hide ((unhide HRO) w3 u (HGA.out w3 K3.out) r3.own)
          have b3 := HBA.out w3 K3.out
          have lt3 := lt_of_block b3
          have c0 : w3.cell? ⟨w.heap.size, 0, none⟩ = some (.string ck) := cell_of_block b3 0 _ rfl
          have c3 : w3.cell? ⟨w.heap.size, 3, none⟩ = some (.int .i64 fuel) := cell_of_block b3 3 _ rfl
          clear b3 k3 r3 HRO
          go_wp2_with fail
          refine (unhide hro).mono ?_
          rintro e w4 ⟨rfl, k4⟩
          clear hro c0 c3 lt3
          have K4 : Hid (Kept (fun k => k < wA.heap.size) wA w4) := K3.out.trans k4.all
          have X4 : Hid (Kept (fun k => k < w1.heap.size) w1 w4) := X3.out.trans k4.all
          have hn4 := hide ((unhide HNu) oe w4)
          clear k4
          go_wp2_with fail
          refine (unhide hn4).mono ?_
          rintro e w4' ⟨rfl, rfl⟩
          clear hn4
          by_cases hz : oe = 0
          · subst hz
            have HL4 : Hid (LAt w4' la' ts.length (turnT ts us 0)) := (HL1.out.kept X4.out (fun a e => Nat.lt_of_lt_of_le (HLB.out a e).1 HBS.out)).congr (fun i _ => by unfold turnT; rw [if_neg (by omega)])
            go_wp2_with fail
            -- other tests are laid into the list
            go_loopw [16] (fun i wr => ∃ k : Nat, k ≤ ts.length ∧ i = .int .i64 k ∧ Hid (LAt wr la' ts.length (turnT ts us k)) ∧ Hid (Kept (fun k => ∀ a, la' = some a → k ≠ a.block) w4' wr)) (fun i _ => ts.length - (intOf i).toNat)
            case atStart => exact ⟨0, Nat.zero_le _, rfl, HL4, Kept.refl _ _⟩
            case round =>
              obtain ⟨k3, hk3, rfl, hL, hkw3⟩ := hrel
              have KW : Hid (Kept (fun k => k < wA.heap.size) wA wr) := K4.out.trans (hkw3.out.mono (fun k h a e => by have := (HLB.out a e).2; omega))
              by_cases hlt : k3 < ts.length
              · obtain ⟨lb, hla, hlb, f0, f1, fz⟩ := hL.out.all k3 hlt
                subst hla
                have hlti : (k3 : Int) < (ts.length : Int) := by omega
                have fz0 := fz (k3 * 2)
                have fz1 := fz (k3 * 2 + 1)
                have HST : Hid (∀ t : TestV, t = newT us k3 → LAt ((wr.setCell ⟨lb, k3 * 2, none⟩ (.string t.inp)).setCell ⟨lb, k3 * 2 + 1, none⟩ (.string t.hidden)) (some ⟨lb, 0, none⟩) ts.length (turnT ts us (k3 + 1))) := fun t ht => (LAt.store hL.out hlt t).congr (fun i _ => by rw [ht]; exact turn_step i)
                have HKS : Hid (∀ x y : Value, Kept (fun k => ∀ a, (some ⟨lb, 0, none⟩ : Option Addr) = some a → k ≠ a.block) w4' ((wr.setCell ⟨lb, k3 * 2, none⟩ x).setCell ⟨lb, k3 * 2 + 1, none⟩ y)) := fun x y => (hkw3.out.setCell (p := ⟨lb, k3 * 2, none⟩) (fun h => h ⟨lb, 0, none⟩ rfl rfl) x).setCell (p := ⟨lb, k3 * 2 + 1, none⟩) (fun h => h ⟨lb, 0, none⟩ rfl rfl) y
                generalize hTu : (turnT ts us k3 k3).inp = oi at *
                generalize hTv : (turnT ts us k3 k3).hidden = oh at *
                clear fz hTu hTv
                by_cases hku : k3 < us.length
                · obtain ⟨ub, uo, uc', huu, hub, e0, e1⟩ := (HUA.out wr KW.out).at hku
                  simp only [Value.slice.injEq, true_and] at huu
                  obtain ⟨rfl, rfl⟩ := huu
                  have hst := hide (HST.out (us.getD k3 noTest) (by unfold newT; rw [if_pos hku]))
                  have hkui : (k3 : Int) < (us.length : Int) := by omega
                  generalize us.getD k3 noTest = tk at *
                  obtain ⟨ip, hd⟩ := tk
                  simp only at e0 e1
                  clear HST
                  go_wp2
                  go_roundw
                  case rel => exact ⟨k3 + 1, by omega, by go_num, hst, HKS.out _ _⟩
                  case measure => first | (simp [intOf]; done) | (simp [intOf]; omega)
                · have hst := hide (HST.out laterT (by unfold newT; rw [if_neg hku]))
                  have hkui : (us.length : Int) ≤ (k3 : Int) := by omega
                  clear HST
                  go_wp2
                  go_roundw
                  case rel => exact ⟨k3 + 1, by omega, by go_num, hst, HKS.out _ _⟩
                  case measure => first | (simp [intOf]; done) | (simp [intOf]; omega)
              · have hke : k3 = ts.length := by omega
                subst hke
                obtain ⟨w5, rfl⟩ : ∃ x, x = wr := ⟨wr, rfl⟩
                have HI5 : Hid (S.Is w5 F g (GSt.opened ck ts rights fuel)) := S.frame (S.frame HI1.out X4.out (S.lt HI1.out)) hkw3.out (fun k hk a e => by have := (HLB.out a e).1; have := HF.out k hk; omega)
                have HX5 : Hid (w1.heap.size ≤ w5.heap.size) := Nat.le_trans X4.out.size hkw3.out.size
                have hem : mkB [] = (⟨#[]⟩ : ByteArray) := rfl
                go_wp2_with fail
                -- the programs are handed in
                go_loopw [17, 18] (fun m i wr => ∃ (k : Nat) (st : GSt) (F' : Nat → Prop), k ≤ ls.length ∧ i = .int .i64 k ∧ m = .string (mkB st.marks) ∧ Hid (S.Is wr F' g st) ∧ Hid (∀ k, F' k → wB.heap.size ≤ k) ∧ Hid (Kept (fun k => k < wB.heap.size) w5 wr) ∧ Hid (st.From ck ts rights fuel)) (fun _ i _ => ls.length - (intOf i).toNat)
                case atStart => exact ⟨0, GSt.opened ck ts rights fuel, F, Nat.zero_le _, rfl, rfl, HI5, HF, Kept.refl _ _, GSt.from_opened _ _ _ _⟩
                case round =>
                  obtain ⟨k4, st, F', hk4, rfl, rfl, hI, hF', hkw4, hfr⟩ := hrel
                  have KR : Hid (Kept (fun k => k < wA.heap.size) wA wr) := KW.out.trans (hkw4.out.mono (fun k h => Nat.lt_of_lt_of_le h HBA2.out))
                  by_cases hlt : k4 < ls.length
                  · obtain ⟨lb, lo, lc2, hll, hlb, ek⟩ := (HSA.out wr KR.out).at hlt
                    simp only [Value.slice.injEq, true_and] at hll
                    obtain ⟨rfl, rfl⟩ := hll
                    have hsk := HSZ.out k4
                    generalize ls.getD k4 ByteArray.empty = src at *
                    have hss := hide ((unhide HSs) wr.drew F' g st src (S.frame hI.out ((Kept.refl (fun _ => True) wr).drew) (fun _ _ => trivial)) KR.out.drew (fun k h => Nat.le_trans HBA2.out (hF'.out k h)) hsk hfr.out HOE.out.1.symm)
                    rw [hfr.out.ck, hfr.out.rights, hfr.out.fuel] at hss
                    have bw := HBA.out wr KR.out
                    have ltw := lt_of_block bw
                    have c0 : wr.cell? ⟨w.heap.size, 0, none⟩ = some (.string ck) := cell_of_block bw 0 _ rfl
                    have c1 : wr.cell? ⟨w.heap.size, 1, none⟩ = some (.slice va ts.length vc) := cell_of_block bw 1 _ rfl
                    have c2 : wr.cell? ⟨w.heap.size, 2, none⟩ = some (.int .i64 rights) := cell_of_block bw 2 _ rfl
                    have c3 : wr.cell? ⟨w.heap.size, 3, none⟩ = some (.int .i64 fuel) := cell_of_block bw 3 _ rfl
                    have hltw : wB.heap.size ≤ wr.heap.size := by have := HBS.out; have := HX5.out; have := hkw4.out.size; omega
                    clear bw
                    go_wp2_with fail
                    go_region_with (refine (unhide hss).mono ?_; rintro e w6 ⟨F6, rfl, I6, hF6, k6⟩)
                    all_goals (
                      have fin : Hid (S.Is w6 F6 g (st.sub src)) := I6
                      have finF : Hid (∀ k, F6 k → wB.heap.size ≤ k) := fun k h => (hF6 k h).elim (hF'.out k) (fun h => Nat.le_trans hltw h)
                      have finK : Hid (Kept (fun k => k < wB.heap.size) w5 w6) := hkw4.out.drew.trans (k6.mono (fun k h => ⟨Nat.lt_of_lt_of_le h hltw, fun hf => by have := hF'.out k hf; omega⟩))
                      clear I6 hF6 k6 c0 c1 c2 c3
                      go_wp2
                      go_roundw
                      case rel => exact ⟨k4 + 1, st.sub src, F6, by omega, by go_num, rfl, fin, finF, finK, hfr.out.sub src⟩
                      case measure => first | (simp [intOf]; done) | (simp [intOf]; omega))
                  · have hke : k4 = ls.length := by omega
                    subst hke
                    obtain ⟨w6, rfl⟩ : ∃ x, x = wr := ⟨wr, rfl⟩
                    have hm6 := hide ((unhide HMa) w6 F' g st hI.out)
                    have HL6 : Hid (LAt w6 la' ts.length (turnT ts us ts.length)) := hL.out.kept hkw4.out (fun a e => (HLB.out a e).1)
                    obtain ⟨mk, hmk⟩ : ∃ x, x = mkB st.marks := ⟨_, rfl⟩
                    rw [← hmk] at hm6 ⊢
                    clear hmk
                    go_wp2_with fail
                    refine (unhide hm6).mono ?_
                    rintro e w6' ⟨rfl, rfl⟩
                    clear hm6
                    go_wp2_with fail
                    -- Submit has left the list alone
                    go_loopw [22] (fun i wr => ∃ k : Nat, k ≤ ts.length ∧ i = .int .i64 k ∧ Hid (Kept (fun _ => True) w6' wr)) (fun i _ => ts.length - (intOf i).toNat)
                    case atStart => exact ⟨0, Nat.zero_le _, rfl, Kept.refl _ _⟩
                    case round =>
                      obtain ⟨k5, hk5, rfl, hkw5⟩ := hrel
                      have K6 : Hid (Kept (fun k => k < wA.heap.size) wA wr) := KR.out.trans (hkw5.out.mono (fun _ _ => trivial))
                      by_cases hlt : k5 < ts.length
                      · obtain ⟨lb, hla, hlb, f0, f1, _⟩ := (HL6.out.kept hkw5.out (fun _ _ => trivial)).all k5 hlt
                        subst hla
                        have hlti : (k5 : Int) < (ts.length : Int) := by omega
                        by_cases hku : k5 < us.length
                        · obtain ⟨ub, uo, uc', huu, hub, e0, e1⟩ := (HUA.out wr K6.out).at hku
                          simp only [Value.slice.injEq, true_and] at huu
                          obtain ⟨rfl, rfl⟩ := huu
                          have htu : turnT ts us ts.length k5 = us.getD k5 noTest := by unfold turnT newT; rw [if_pos hlt, if_pos hku]
                          rw [htu] at f0 f1
                          have hkui : (k5 : Int) < (us.length : Int) := by omega
                          generalize us.getD k5 noTest = tk at *
                          obtain ⟨ip, hd⟩ := tk
                          simp only at e0 e1 f0 f1
                          clear htu
                          go_wp2_with fail
                          go_quiet (fail)
                          have fin : Hid (Kept (fun _ => True) w6' (wr.drewN nq)) := hkw5.out.trans (Kept.drewN _ _ _)
                          go_wp2
                          go_roundw
                          case rel => exact ⟨k5 + 1, by omega, by go_num, fin⟩
                          case measure => first | (simp [intOf]; done) | (simp [intOf]; omega)
                        · have hkui : (us.length : Int) ≤ (k5 : Int) := by omega
                          have hdf : decide ((k5 : Int) < (us.length : Int)) = false := by rw [decide_eq_false_iff_not]; omega
                          clear f0 f1
                          go_wp2_with fail
                          go_quiet (fail)
                          have fin : Hid (Kept (fun _ => True) w6' (wr.drewN nq)) := hkw5.out.trans (Kept.drewN _ _ _)
                          go_wp2
                          go_roundw
                          case rel => exact ⟨k5 + 1, by omega, by go_num, fin⟩
                          case measure => first | (simp [intOf]; done) | (simp [intOf]; omega)
                      · have hke : k5 = ts.length := by omega
                        subst hke
                        have kfin : Hid (Kept (fun k => k < w.heap.size) w wr) := HKA.out.trans (K6.out.mono (fun k h => by omega))
                        go_wp2
                        go_ret
                        exact ⟨rfl, kfin.out⟩
          · have hnz : (oe == 0) = false := by rw [beq_eq_false_iff_ne]; exact hz
            have kfin : Hid (Kept (fun k => k < w.heap.size) w w4') := HKA.out.trans (K4.out.mono (fun k h => by omega))
            go_wp2
            go_ret
            exact ⟨rfl, kfin.out⟩
end Go.Proofs.YtnanjomnldfidabGreatDoor
