/-
  graderref's Dec, secrets, fresh, Opens.
  graderref's Grade.
  graderlaw's plain: the tests of an argument, laid anew.
  graderlaw's hide: tests with other hidden bytes.
  What package grader's Open, Submit and Marks must do, as a contract; graderlaw's submits by it.
  The law Grades, by the contract of package grader's Open, Submit and Marks.
  The law Again, by the contract of package grader's Open, Submit and Marks.
  The law Hidden, by the contract of package grader's Open, Submit and Marks.
  The law Looked: what its graders answer. Plain mathematics.
-/
import Derived.Test.YtnanjomnldfidabDoorRunSecToRunBd
import Derived.Test.YtnanjomnldfidabDoorRmTwoToRmAny
import Derived.BigQuiet
import Derived.Test.YtnanjomnldfidabDoorRuns
import Derived.Test.YtnanjomnldfidabDoorLawKit
import Derived.Lib.LaidTab
import Derived.Lib.ItoaNum
set_option linter.unusedSimpArgs false
set_option linter.unusedVariables false
set_option linter.unusedSectionVars false
namespace Go.Proofs.YtnanjomnldfidabDoor
open Go.RowKit

theorem mkB_append (a b : List UInt8) : mkB a ++ mkB b = mkB (a ++ b) := by
  have := eq_mk (t := mkB a ++ mkB b) (l := a ++ b) (by rw [toList_append, mkB_toList, mkB_toList])
  exact this
theorem byteOf_nat' {a : Int} (h0 : 0 ≤ a) (h1 : a < 256) : ((byteOf a).toNat : Int) = a := by
  unfold byteOf
  rw [UInt8.toNat_ofNat_of_lt' (by have : a % 256 = a := Int.emod_eq_of_lt h0 h1
                                   show (a % 256).toNat < 256
                                   omega)]
  rw [Int.emod_eq_of_lt h0 h1]; omega
theorem conv_one (w : World) (x : Int) (h0 : 0 ≤ x) (h1 : x < 256) : (convert 90 9 (.slice (some ⟨w.heap.size, 0, none⟩) 1 1)).run Tryd.prog (w.alloc (.cells #[.int .u8 x] 5)) = .ok (.string (mkB [byteOf x])) (w.alloc (.cells #[.int .u8 x] 5)) := by
  refine run_convert_bytes_back (w.alloc (.cells #[.int .u8 x] 5)) 90 9 5 ⟨w.heap.size, 0, none⟩ 1 [byteOf x] Tryd.underlying90 Tryd.underlying5 Tryd.underlying9 fun j hj => ?_
  have hj0 : j = 0 := by simpa using hj
  subst hj0
  have e : (⟨w.heap.size, 0, none⟩ : Addr).add 0 = ⟨w.heap.size, 0, none⟩ := by unfold Addr.add; split <;> simp_all
  rw [e, cell_of_block (heap_alloc_new w (.cells #[.int .u8 x] 5)) 0 _ rfl]
  show some (Value.int .u8 x) = some (Value.int .u8 ((byteOf x).toNat : Int))
  rw [byteOf_nat' h0 h1]

/-- Tests in memory. -/
def testCells (l : List TestV) : List Value := l.flatMap fun t => [.string t.inp, .string t.hidden]
theorem testCells_length (l : List TestV) : (testCells l).length = l.length * 2 := by
  induction l with
  | nil => rfl
  | cons a l ih => simp only [testCells, List.flatMap_cons, List.length_append, List.length_cons, List.length_nil] at *; omega
theorem testCells_at (l : List TestV) : ∀ k, k < l.length → (testCells l)[k * 2]? = some (.string (l.getD k noTest).inp) ∧ (testCells l)[k * 2 + 1]? = some (.string (l.getD k noTest).hidden) := by
  induction l with
  | nil => intro k hk; simp at hk
  | cons a l ih =>
    intro k hk
    cases k with
    | zero => simp [testCells]
    | succ k =>
      have := ih k (by simpa using hk)
      have e1 : (k + 1) * 2 = k * 2 + 2 := by omega
      have e : testCells (a :: l) = [.string a.inp, .string a.hidden] ++ testCells l := by simp [testCells]
      rw [e, e1]
      constructor
      · rw [List.getElem?_append_right (by simp)]
        simpa using this.1
      · rw [List.getElem?_append_right (by simp)]
        simpa using this.2
def TestsIs (e : TypeId) (w : World) (v : Value) (l : List TestV) : Prop := w.ownsRow 0 e 2 v l.length (testCells l)
theorem TestsIs.cells {e : TypeId} {w : World} {v : Value} {l : List TestV} (h : TestsIs e w v l) {k : Nat} (hk : k < l.length) : ∃ f cp, v = .slice (some ⟨f, 0, none⟩) l.length cp ∧ f < w.heap.size ∧
    w.cell? ⟨f, k * 2, none⟩ = some (.string (l.getD k noTest).inp) ∧ w.cell? ⟨f, k * 2 + 1, none⟩ = some (.string (l.getD k noTest).hidden) := by
  obtain ⟨f, cp, rfl⟩ := own_form h (by omega)
  obtain ⟨h0, h1⟩ := testCells_at l k hk
  exact ⟨f, cp, rfl, (World.ownsRow.lt h f rfl).2, by rw [World.ownsRow.cellAt h _ (by omega)]; exact h0, by rw [World.ownsRow.cellAt h _ (by omega)]; exact h1⟩
theorem TestsIs.kept {e : TypeId} {w w' : World} {v : Value} {l : List TestV} {Q : Nat → Prop} (h : TestsIs e w v l) (hk : Kept Q w w') (hq : ∀ k, v.ownBlock = some k → Q k) : TestsIs e w' v l := by
  refine ⟨h.1, ?_⟩
  rcases h.2 with hn | ⟨g, cap, cur, rfl, hb, hg, rest⟩
  · exact .inl hn
  · exact .inr ⟨g, cap, cur, rfl, hb, hk.at' hg (hq g rfl), rest⟩
theorem mkB_self (t : ByteArray) : mkB t.toList = t := (eq_mk (t := t) rfl).symm

theorem conv_four (w : World) (a b c d : Int) (ha : 0 ≤ a) (ha' : a < 256) (hb : 0 ≤ b) (hb' : b < 256) (hc : 0 ≤ c) (hc' : c < 256) (hd : 0 ≤ d) (hd' : d < 256) :
    (convert 90 9 (.slice (some ⟨w.heap.size, 0, none⟩) 4 4)).run Tryd.prog (w.alloc (.cells #[.int .u8 a, .int .u8 b, .int .u8 c, .int .u8 d] 5)) = .ok (.string (mkB [byteOf a, byteOf b, byteOf c, byteOf d])) (w.alloc (.cells #[.int .u8 a, .int .u8 b, .int .u8 c, .int .u8 d] 5)) := by
  refine run_convert_bytes_back (w.alloc (.cells #[.int .u8 a, .int .u8 b, .int .u8 c, .int .u8 d] 5)) 90 9 5 ⟨w.heap.size, 0, none⟩ 4 [byteOf a, byteOf b, byteOf c, byteOf d] Tryd.underlying90 Tryd.underlying5 Tryd.underlying9 fun j hj => ?_
  have e : (⟨w.heap.size, 0, none⟩ : Addr).add j = ⟨w.heap.size, j, none⟩ := by unfold Addr.add; split <;> simp_all
  rw [e]
  have hbk := heap_alloc_new w (.cells #[.int .u8 a, .int .u8 b, .int .u8 c, .int .u8 d] 5)
  have h4 : j < 4 := by simpa using hj
  have hj' : j = 0 ∨ j = 1 ∨ j = 2 ∨ j = 3 := by omega
  rcases hj' with rfl | rfl | rfl | rfl
  · rw [cell_of_block hbk 0 _ rfl]; show some (Value.int .u8 a) = some (Value.int .u8 ((byteOf a).toNat : Int)); rw [byteOf_nat' ha ha']
  · rw [cell_of_block hbk 1 _ rfl]; show some (Value.int .u8 b) = some (Value.int .u8 ((byteOf b).toNat : Int)); rw [byteOf_nat' hb hb']
  · rw [cell_of_block hbk 2 _ rfl]; show some (Value.int .u8 c) = some (Value.int .u8 ((byteOf c).toNat : Int)); rw [byteOf_nat' hc hc']
  · rw [cell_of_block hbk 3 _ rfl]; show some (Value.int .u8 d) = some (Value.int .u8 ((byteOf d).toNat : Int)); rw [byteOf_nat' hd hd']

/-- Open's limits and checker. -/
def hidBad (ts : List TestV) : Bool := ts.any fun t => decide (32 < t.hidden.size)
def opensM (ck : ByteArray) (ts : List TestV) (fuel : Int) : Int × Nat := if 6 < ts.length ∨ 10000 < fuel then (1, 0) else if hidBad ts = true then (1, 0) else refCheckM ck
theorem hidBad_take {ts : List TestV} {k : Nat} (hk : k < ts.length) : hidBad (ts.take (k + 1)) = (hidBad (ts.take k) || decide (32 < (ts.getD k noTest).hidden.size)) := by
  unfold hidBad
  rw [List.take_add_one, List.getElem?_eq_getElem hk, List.any_append]
  simp [List.getD, hk]
theorem hidBad_all {ts : List TestV} (h : hidBad ts = false) : ∀ i, i < ts.length → (ts.getD i noTest).hidden.size ≤ 32 := by
  intro i hi
  unfold hidBad at h
  rw [List.any_eq_false] at h
  have := h ts[i] (List.getElem_mem hi)
  have e : ts.getD i noTest = ts[i] := by simp [List.getD, hi]
  rw [e]
  simpa using this

end Go.Proofs.YtnanjomnldfidabDoor

set_option linter.unusedSimpArgs false
set_option linter.unusedVariables false
set_option linter.unusedSectionVars false
namespace Go.Proofs.YtnanjomnldfidabDoor
open Go.RowKit

section
variable {P : Program} {o : Oper} {a : Act} {C : World → Prop} {K : Act → Prop} {v : Value}
theorem q_val (h : ∀ w, C w → (execOp a.eval o).run P w = .ok (.value v) w) (hk : K (a.put o.dst v)) : o.quiet P a C K :=
  ⟨v, fun w hw => by unfold Oper.quietAt; rw [h w hw]; exact ⟨rfl, rfl⟩, hk⟩
theorem q_call {f : FuncId} {args : Array Value} (h : ∀ w, C w → (execOp a.eval o).run P w = .ok (.enter f args) w) (hc : ∀ w, C w → Calls P f args w fun e w'' => e = .returned v ∧ C w'') (hk : K (a.put o.dst v)) : o.quiet P a C K :=
  ⟨v, fun w hw => by unfold Oper.quietAt; rw [h w hw]; exact ⟨rfl, hc w hw⟩, hk⟩
end

theorem bsize_append (a b : ByteArray) : (a ++ b).size = a.size + b.size := by rw [← toList_len, toList_append, List.length_append, toList_len, toList_len]

end Go.Proofs.YtnanjomnldfidabDoor

set_option linter.unusedSimpArgs false
set_option linter.unusedVariables false
set_option linter.unusedSectionVars false
namespace Go.Proofs.YtnanjomnldfidabDoor
open Go.RowKit

/-- Tests that are only read. -/
def TestsAt (w : World) (v : Value) (ts : List TestV) : Prop :=
  (ts = [] ∧ ∃ a cap, v = .slice a 0 cap) ∨ ∃ b o cap, v = .slice (some ⟨b, o, none⟩) ts.length cap ∧ b < w.heap.size ∧ ∀ k, k < ts.length → w.cell? ⟨b, o + k * 2, none⟩ = some (.string (ts.getD k noTest).inp) ∧ w.cell? ⟨b, o + k * 2 + 1, none⟩ = some (.string (ts.getD k noTest).hidden)
theorem testCells_snoc (l : List TestV) (t : TestV) : testCells (l ++ [t]) = testCells l ++ [.string t.inp, .string t.hidden] := by
  unfold testCells; rw [List.flatMap_append]; rfl
theorem tests_snoc {ts : List TestV} {k : Nat} (h : k < ts.length) : ts.take (k + 1) = ts.take k ++ [ts.getD k noTest] := by
  rw [List.take_add_one, List.getElem?_eq_getElem h]
  simp [List.getD, h]
end Go.Proofs.YtnanjomnldfidabDoor

set_option linter.unusedSimpArgs false
set_option linter.unusedVariables false
set_option linter.unusedSectionVars false
namespace Go.Proofs.YtnanjomnldfidabDoor
open Go.RowKit

/-- Strings that are only read. -/
def StrsAt (w : World) (v : Value) (ws : List ByteArray) : Prop :=
  (ws = [] ∧ ∃ a cap, v = .slice a 0 cap) ∨ ∃ b o cap, v = .slice (some ⟨b, o, none⟩) ws.length cap ∧ b < w.heap.size ∧ ∀ k, k < ws.length → w.cell? ⟨b, o + k, none⟩ = some (.string (ws.getD k ByteArray.empty))
def hideT (t : TestV) (s : ByteArray) : TestV := if s.size ≤ t.hidden.size then ⟨t.inp, s ++ t.hidden.extract s.size t.hidden.size⟩ else t
def hideI (ts : List TestV) (ws : List ByteArray) (i : Nat) : TestV := if i < ws.length then hideT (ts.getD i noTest) (ws.getD i ByteArray.empty) else ts.getD i noTest
def hideL (ts : List TestV) (ws : List ByteArray) (n : Nat) : List TestV := (List.range n).map (hideI ts ws)
theorem hideL_snoc (ts : List TestV) (ws : List ByteArray) (n : Nat) : hideL ts ws (n + 1) = hideL ts ws n ++ [hideI ts ws n] := by unfold hideL; rw [List.range_succ, List.map_append]; rfl
theorem hideL_len (ts : List TestV) (ws : List ByteArray) (n : Nat) : (hideL ts ws n).length = n := by unfold hideL; simp
theorem hideT_inp (t : TestV) (s : ByteArray) : (hideT t s).inp = t.inp := by unfold hideT; split <;> rfl
theorem hideT_size (t : TestV) (s : ByteArray) : (hideT t s).hidden.size = t.hidden.size := by
  unfold hideT
  split
  · show (s ++ t.hidden.extract s.size t.hidden.size).size = _
    rw [← toList_len, toList_append, List.length_append, toList_len, toList_len, ByteArray.size_extract]
    omega
  · rfl
theorem hideL_getD (ts : List TestV) (ws : List ByteArray) (i : Nat) : (hideL ts ws ts.length).getD i noTest = if i < ts.length then hideI ts ws i else noTest := by
  unfold hideL
  by_cases h : i < ts.length
  · rw [if_pos h]; simp [List.getD, h]
  · rw [if_neg h]; simp [List.getD, h]
theorem hide_alike (ts : List TestV) (ws : List ByteArray) : Alike2 ts (hideL ts ws ts.length) := by
  have h : ∀ i, ((hideL ts ws ts.length).getD i noTest).inp = (ts.getD i noTest).inp ∧ ((hideL ts ws ts.length).getD i noTest).hidden.size = (ts.getD i noTest).hidden.size := by
    intro i
    rw [hideL_getD]
    by_cases hi : i < ts.length
    · rw [if_pos hi]
      unfold hideI
      split
      · exact ⟨hideT_inp _ _, hideT_size _ _⟩
      · exact ⟨rfl, rfl⟩
    · rw [if_neg hi]
      have e : ts.getD i noTest = noTest := by simp [List.getD, hi]
      rw [e]; exact ⟨rfl, rfl⟩
  exact ⟨hideL_len _ _ _, fun i => (h i).1, fun i => (h i).2⟩
theorem Tryd.infoGTest : (Tryd.prog.info? 50).map (fun i => (i.zero, i.size, i.bytes)) = some (some (.agg #[.string ByteArray.empty, .string ByteArray.empty]), 2, 32) := by kernel_rfl

set_option maxRecDepth 100000 in
set_option maxHeartbeats 1000000 in
theorem hide_any (w : World) (v u : Value) (ts : List TestV) (ws : List ByteArray) (hT : TestsAt w v ts) (hW : StrsAt w u ws) (hl : ts.length * 32 ≤ 140737488351232) (hwl : ws.length ≤ 140737488351232) (hts : ∀ i, (ts.getD i noTest).hidden.size ≤ maxLen) (P : Nat → Prop) (hP : ∀ k, P k → k < w.heap.size) (hv : ∀ a n c, v = .slice (some a) n c → P a.block) (hu : ∀ a n c, u = .slice (some a) n c → P a.block) :
    Calls Tryd.prog 19 #[v, u] w fun e w' => ∃ x, e = .returned x ∧ Row w' P 50 2 x ts.length (testCells (hideL ts ws ts.length)) ∧ Kept P w w' := by
  obtain ⟨i0, hi0, hz0, hz1, hz2⟩ := info_parts Tryd.infoGTest
  have HP := hide hP
  have HT := hide hts
  clear hP hts
  have hul : ∃ a cap, u = .slice a ws.length cap := by
    rcases hW with ⟨rfl, a, cap, rfl⟩ | ⟨b, o, cap, rfl, _⟩
    · exact ⟨a, cap, rfl⟩
    · exact ⟨_, cap, rfl⟩
  have HW : Hid (∀ wr, Kept P w wr → ∀ k, k < ws.length → ∃ b o cap, u = .slice (some ⟨b, o, none⟩) ws.length cap ∧ b < wr.heap.size ∧ wr.cell? ⟨b, o + k, none⟩ = some (.string (ws.getD k ByteArray.empty))) := by
    intro wr hkw k hk
    rcases hW with ⟨rfl, a, cap, rfl⟩ | ⟨b, o, cap, rfl, hb, hc⟩
    · simp at hk
    · refine ⟨b, o, cap, rfl, Nat.lt_of_lt_of_le hb hkw.size, ?_⟩
      rw [hkw.cell (p := ⟨b, o + k, none⟩) hb (hu ⟨b, o, none⟩ _ _ rfl)]; exact hc k hk
  obtain ⟨ua, uc, rfl⟩ := hul
  clear hW hu
  rcases hT with ⟨rfl, a, cap, rfl⟩ | ⟨b, o, cap, rfl, hab, hc⟩
  · clear hv hl
    have hr0 : Hid (Row w P 50 2 (.slice none 0 0) 0 []) := Row.nil _ _ _ _
    have hk0 : Hid (Kept P w w) := Kept.refl _ _
    go_enter Tryd.func19, Tryd.ntmps19
    go_wp2
    go_loopw [5, 6] (fun l i wr => i = .int .i64 0 ∧ l = .slice none 0 0 ∧ wr = w) (fun _ i _ => 0)
    case atStart => exact ⟨rfl, rfl, rfl⟩
    case round =>
      obtain ⟨rfl, rfl, rfl⟩ := hrel
      go_wp2
      go_ret
      exact ⟨_, rfl, hr0.out, hk0.out⟩
  · have hPa := hv ⟨b, o, none⟩ _ _ rfl
    have HC := hide hc
    clear hc hv
    go_enter Tryd.func19, Tryd.ntmps19
    go_wp2
    go_loopw [5, 6] (fun l i wr => ∃ k : Nat, k ≤ ts.length ∧ i = .int .i64 k ∧ Hid (Row wr P 50 2 l k (testCells (hideL ts ws k))) ∧ Hid (Kept P w wr)) (fun _ i _ => ts.length - (intOf i).toNat)
    case atStart => exact ⟨0, Nat.zero_le _, rfl, Row.nil _ _ _ _, Kept.refl _ _⟩
    case round =>
      obtain ⟨k, hk, rfl, hrow, hkw⟩ := hrel
      by_cases hlt : k < ts.length
      · have e0 : wr.cell? ⟨b, o + k * 2, none⟩ = some (.string (ts.getD k noTest).inp) := by rw [hkw.out.cell (p := ⟨b, o + k * 2, none⟩) hab hPa]; exact (HC.out k hlt).1
        have e1 : wr.cell? ⟨b, o + k * 2 + 1, none⟩ = some (.string (ts.getD k noTest).hidden) := by rw [hkw.out.cell (p := ⟨b, o + k * 2 + 1, none⟩) hab hPa]; exact (HC.out k hlt).2
        have hbw : b < wr.heap.size := Nat.lt_of_lt_of_le hab hkw.out.size
        have hst := hide (hideL_snoc ts ws k)
        have hsn := hide (testCells_snoc (hideL ts ws k) (hideI ts ws k))
        have hht := HT.out k
        have hI : hideI ts ws k = if k < ws.length then hideT (ts.getD k noTest) (ws.getD k ByteArray.empty) else ts.getD k noTest := rfl
        generalize ts.getD k noTest = tk at *
        obtain ⟨ip, hd⟩ := tk
        simp only at e0 e1 hht
        by_cases hkw2 : k < ws.length
        · obtain ⟨ub, uo, uc', huu, hub, euk⟩ := (unhide HW) wr hkw.out k hkw2
          simp only [Value.slice.injEq, true_and] at huu
          obtain ⟨rfl, rfl⟩ := huu
          rw [if_pos hkw2] at hI
          generalize ws.getD k ByteArray.empty = sk at *
          by_cases hsz : sk.size ≤ hd.size
          · have hI2 : hideI ts ws k = ⟨ip, sk ++ hd.extract sk.size hd.size⟩ := by rw [hI]; unfold hideT; rw [if_pos hsz]
            rw [hI2] at hst hsn
            clear hI hI2
            obtain ⟨xs, hxs⟩ : ∃ x, hd.extract sk.size hd.size = x := ⟨_, rfl⟩
            obtain ⟨hn, hy⟩ : ∃ x, sk ++ xs = x := ⟨_, rfl⟩
            have hxz : xs.size = hd.size - sk.size := by rw [← hxs, ByteArray.size_extract]; omega
            have hz9 : sk.size + xs.size ≤ 9223372036854775807 := by unfold maxLen at hht; omega
            rw [hxs, hy] at hst hsn
            have hszi : (sk.size : Int) ≤ (hd.size : Int) := by omega
            go_wp2_with fail
            go_quiet (fail)
            obtain ⟨wd, hwd⟩ : ∃ x, x = wr.drewN nq := ⟨_, rfl⟩
            have e0' : wd.cell? ⟨b, o + k * 2, none⟩ = some (.string ip) := by rw [hwd]; exact e0
            have hbd : b < wd.heap.size := by rw [hwd]; exact hbw
            have hrd : Hid (Row wd P 50 2 u5 k (testCells (hideL ts ws k))) := by unfold Hid; rw [hwd]; exact ⟨hrow.out.own, hrow.out.out⟩
            have hkd : Hid (Kept P w wd) := by unfold Hid; rw [hwd]; exact ⟨hkw.out.os, hkw.out.tape, hkw.out.output, hkw.out.size, hkw.out.block⟩
            rw [← hwd]
            clear hwd e0 e1 hbw hrow hkw euk hub
            have CE : Hid (∀ j u, [Value.string ip, .string hn][j]? = some u → (wd.alloc (.cells #[.string ip, .string hn] 50)).cell? ((⟨wd.heap.size, 0, none⟩ : Addr).add j) = some u) := cell_two_new _ _ _ _
            have HB : Hid (∀ k, P k → k < (wd.alloc (.cells #[.string ip, .string hn] 50)).heap.size) := fun k hp => by have := HP.out k hp; have := hkd.out.size; simp; omega
            go_wp2_with (at_builtin; refine wpList_append_mine _ rfl _ _ 40 rfl P HB.out 50 i0 _ 2 32 Tryd.underlying40 hi0 hz0 hz1 hz2 rfl (by decide) _ _ _ rfl (hrd.out.alloc _) ⟨wd.heap.size, 0, none⟩ 1 1 [.string ip, .string hn] rfl rfl CE.out (by intro u hu; simp at hu; rcases hu with rfl | rfl <;> rfl) (by unfold maxLen; omega) (by omega) ?_; intro v' w1 hown' hgrow)
            go_roundw
            case rel => exact ⟨k + 1, by omega, by go_num, by unfold Hid; rw [hst.out, hsn.out]; exact hown', (hkd.out.alloc _).grown hgrow hrd.out.out⟩
            case measure => first | (simp [intOf]; done) | (simp [intOf]; omega)
          · have hI2 : hideI ts ws k = ⟨ip, hd⟩ := by rw [hI]; unfold hideT; rw [if_neg hsz]
            rw [hI2] at hst hsn
            clear hI hI2
            have CE : Hid (∀ j u, [Value.string ip, .string hd][j]? = some u → (wr.alloc (.cells #[.string ip, .string hd] 50)).cell? ((⟨wr.heap.size, 0, none⟩ : Addr).add j) = some u) := cell_two_new _ _ _ _
            have HB : Hid (∀ k, P k → k < (wr.alloc (.cells #[.string ip, .string hd] 50)).heap.size) := fun k hp => by have := HP.out k hp; have := hkw.out.size; simp; omega
            go_wp2_with (at_builtin; refine wpList_append_mine _ rfl _ _ 40 rfl P HB.out 50 i0 _ 2 32 Tryd.underlying40 hi0 hz0 hz1 hz2 rfl (by decide) _ _ _ rfl (hrow.out.alloc _) ⟨wr.heap.size, 0, none⟩ 1 1 [.string ip, .string hd] rfl rfl CE.out (by intro u hu; simp at hu; rcases hu with rfl | rfl <;> rfl) (by unfold maxLen; omega) (by omega) ?_; intro v' w1 hown' hgrow)
            go_roundw
            case rel => exact ⟨k + 1, by omega, by go_num, by unfold Hid; rw [hst.out, hsn.out]; exact hown', (hkw.out.alloc _).grown hgrow hrow.out.out⟩
            case measure => first | (simp [intOf]; done) | (simp [intOf]; omega)
        · rw [if_neg hkw2] at hI
          rw [hI] at hst hsn
          clear hI
          have CE : Hid (∀ j u, [Value.string ip, .string hd][j]? = some u → (wr.alloc (.cells #[.string ip, .string hd] 50)).cell? ((⟨wr.heap.size, 0, none⟩ : Addr).add j) = some u) := cell_two_new _ _ _ _
          have HB : Hid (∀ k, P k → k < (wr.alloc (.cells #[.string ip, .string hd] 50)).heap.size) := fun k hp => by have := HP.out k hp; have := hkw.out.size; simp; omega
          go_wp2_with (at_builtin; refine wpList_append_mine _ rfl _ _ 40 rfl P HB.out 50 i0 _ 2 32 Tryd.underlying40 hi0 hz0 hz1 hz2 rfl (by decide) _ _ _ rfl (hrow.out.alloc _) ⟨wr.heap.size, 0, none⟩ 1 1 [.string ip, .string hd] rfl rfl CE.out (by intro u hu; simp at hu; rcases hu with rfl | rfl <;> rfl) (by unfold maxLen; omega) (by omega) ?_; intro v' w1 hown' hgrow)
          go_roundw
          case rel => exact ⟨k + 1, by omega, by go_num, by unfold Hid; rw [hst.out, hsn.out]; exact hown', (hkw.out.alloc _).grown hgrow hrow.out.out⟩
          case measure => first | (simp [intOf]; done) | (simp [intOf]; omega)
      · have hke : k = ts.length := by omega
        subst hke
        go_wp2
        go_ret
        exact ⟨_, rfl, hrow.out, hkw.out⟩
end Go.Proofs.YtnanjomnldfidabDoor

set_option linter.unusedSimpArgs false
set_option linter.unusedVariables false
set_option linter.unusedSectionVars false
namespace Go.Proofs.YtnanjomnldfidabDoor
open Go.RowKit

/-- A grader as data. -/
structure GSt where
  err : Int
  place : Nat
  ck : ByteArray
  ts : List TestV
  rights : Int
  fuel : Int
  marks : List UInt8
def GSt.opened (ck : ByteArray) (ts : List TestV) (rights fuel : Int) : GSt := ⟨(opensM ck ts fuel).1, (opensM ck ts fuel).2, ck, ts, rights, fuel, []⟩
def GSt.sub (s : GSt) (src : ByteArray) : GSt := if s.err ≠ 0 then s else if (readM src).1 ≠ 0 then s else { s with marks := marksTo s.ck s.ts s.rights s.fuel src s.ts.length }
def GSt.pub (s : GSt) (src : ByteArray) : List UInt8 := if s.err ≠ 0 then [] else if (readM src).1 ≠ 0 then [] else pubTo s.ts s.rights s.fuel src s.ts.length
def GSt.code (s : GSt) (src : ByteArray) : Int × Nat := if s.err ≠ 0 then (s.err, s.place) else ((readM src).1, (readM src).2.1)

/-- What package grader reads beyond its arguments: its own table, and the library's powers of ten. -/
def TenAt (w : World) : Prop := Lib.TabIs Tryd.prog w "internal/strconv.uint64pow10" .u64 Lib.pow10Tab
theorem ten_named : Tryd.prog.globalNamed "internal/strconv.uint64pow10" = some 3 := by kernel_rfl
theorem TenAt.lt {w : World} (h : TenAt w) : 3 < w.heap.size := by
  have := h.cell ten_named 0 (by decide)
  exact World.block_lt_of_cell? w ⟨3, 0, none⟩ this
theorem TenAt.kept {w w' : World} {Q : Nat → Prop} (h : TenAt w) (hk : Kept Q w w') (hq : Q 3) : TenAt w' := by
  have hl := h.lt
  unfold TenAt Lib.TabIs World.var? at *
  rw [ten_named] at h ⊢
  simp only [Option.bind_some] at h ⊢
  rw [hk.block _ hl hq]
  exact h
def isLs (k : Nat) : Prop := k = 2 ∨ k = 3
structure LsAt (w : World) : Prop where
  listed : WordsAt w 2 listedL
  ten : TenAt w
theorem LsAt.lt {w : World} (h : LsAt w) : ∀ k, isLs k → k < w.heap.size := by
  rintro k (rfl | rfl)
  · exact words_lt h.listed (by decide)
  · exact h.ten.lt
theorem LsAt.kept {w w' : World} {Q : Nat → Prop} (h : LsAt w) (hk : Kept Q w w') (hq : ∀ k, isLs k → Q k) : LsAt w' :=
  ⟨WordsAt.kept h.listed hk (h.lt _ (.inl rfl)) (hq _ (.inl rfl)), h.ten.kept hk (hq _ (.inr rfl))⟩
/-- The tables. -/
structure Globs (w : World) : Prop where
  listed : LsAt w
  forms : WordsAt w 0 formsL
  rlisted : WordsAt w 1 listedL
def isGlob (k : Nat) : Prop := isLs k ∨ k = 0 ∨ k = 1
theorem Globs.lt {w : World} (h : Globs w) {k : Nat} (hk : isGlob k) : k < w.heap.size := by
  rcases hk with hk | rfl | rfl
  · exact h.listed.lt k hk
  · exact words_lt h.forms (by decide)
  · exact words_lt h.rlisted (by decide)
theorem Globs.kept {w w' : World} {Q : Nat → Prop} (h : Globs w) (hk : Kept Q w w') (hq : ∀ k, isGlob k → Q k) : Globs w' :=
  ⟨h.listed.kept hk (fun k hl => hq k (.inl hl)), h.forms.kept hk (h.lt (.inr (.inl rfl))) (hq _ (.inr (.inl rfl))), h.rlisted.kept hk (h.lt (.inr (.inr rfl))) (hq _ (.inr (.inr rfl)))⟩
theorem TestsAt.kept {w w' : World} {v : Value} {ts : List TestV} {Q : Nat → Prop} (h : TestsAt w v ts) (hk : Kept Q w w') (hq : ∀ a n c, v = .slice (some a) n c → Q a.block) : TestsAt w' v ts := by
  rcases h with h | ⟨b, o, cap, rfl, hb, hc⟩
  · exact .inl h
  · refine .inr ⟨b, o, cap, rfl, Nat.lt_of_lt_of_le hb hk.size, fun k hk2 => ?_⟩
    have hqb : Q b := hq ⟨b, o, none⟩ _ _ rfl
    rw [hk.cell (p := ⟨b, o + k * 2, none⟩) hb hqb, hk.cell (p := ⟨b, o + k * 2 + 1, none⟩) hb hqb]
    exact hc k hk2

/-- The contract: Is w F g s: the grader g has its memory in the blocks F alone and stands as s says. -/
structure GSpec where
  Is : World → (Nat → Prop) → Value → GSt → Prop
  lt : ∀ {w F g s}, Is w F g s → ∀ k, F k → k < w.heap.size
  frame : ∀ {w w' F g s Q}, Is w F g s → Kept Q w w' → (∀ k, F k → Q k) → Is w' F g s
  opens : ∀ (w : World) (ck : ByteArray) (v : Value) (ts : List TestV) (rights fuel : Int), LsAt w → ck.size ≤ maxLen → TestsAt w v ts → ts.length * 32 ≤ 140737488351232 → (∀ a n c, v = .slice (some a) n c → a.block < w.heap.size) →
    Calls Tryd.prog 20 #[.string ck, v, .int .i64 rights, .int .i64 fuel] w fun e w' => ∃ g F, e = .returned (.tuple #[g, .int .i64 (opensM ck ts fuel).1, .int .i64 (opensM ck ts fuel).2]) ∧ Is w' F g (GSt.opened ck ts rights fuel) ∧ (∀ k, F k → w.heap.size ≤ k) ∧ Kept (fun k => k < w.heap.size) w w'
  submit : ∀ (w : World) (F : Nat → Prop) (g : Value) (s : GSt) (src : ByteArray), Is w F g s → LsAt w → (∀ k, isLs k → ¬ F k) → src.size ≤ maxLen → (∀ i, (s.ts.getD i noTest).inp.size ≤ maxLen) →
    Calls Tryd.prog 21 #[g, .string src] w fun e w' => ∃ F', e = .returned (.tuple #[.string (mkB (s.pub src)), .int .i64 (s.code src).1, .int .i64 (s.code src).2]) ∧ Is w' F' g (s.sub src) ∧ (∀ k, F' k → F k ∨ w.heap.size ≤ k) ∧ Kept (fun k => k < w.heap.size ∧ ¬ F k) w w'
  marks : ∀ (w : World) (F : Nat → Prop) (g : Value) (s : GSt), Is w F g s → Calls Tryd.prog 22 #[g] w fun e w' => e = .returned (.string (mkB s.marks)) ∧ w' = w

end Go.Proofs.YtnanjomnldfidabDoor

set_option linter.unusedSimpArgs false
set_option linter.unusedVariables false
set_option linter.unusedSectionVars false
namespace Go.Proofs.YtnanjomnldfidabDoor
open Go.RowKit

theorem sub_err (s : GSt) (src : ByteArray) : (s.sub src).err = s.err ∧ (s.sub src).place = s.place ∧ (s.sub src).ck = s.ck ∧ (s.sub src).ts = s.ts ∧ (s.sub src).rights = s.rights ∧ (s.sub src).fuel = s.fuel := by
  unfold GSt.sub; split
  · exact ⟨rfl, rfl, rfl, rfl, rfl, rfl⟩
  · split
    · exact ⟨rfl, rfl, rfl, rfl, rfl, rfl⟩
    · exact ⟨rfl, rfl, rfl, rfl, rfl, rfl⟩
/-- A grader that was opened so, whatever was handed in since. -/
structure GSt.From (s : GSt) (ck : ByteArray) (ts : List TestV) (rights fuel : Int) : Prop where
  err : s.err = (opensM ck ts fuel).1
  place : s.place = (opensM ck ts fuel).2
  ck : s.ck = ck
  ts : s.ts = ts
  rights : s.rights = rights
  fuel : s.fuel = fuel
theorem GSt.from_opened (ck : ByteArray) (ts : List TestV) (rights fuel : Int) : (GSt.opened ck ts rights fuel).From ck ts rights fuel := ⟨rfl, rfl, rfl, rfl, rfl, rfl⟩
theorem GSt.From.sub {s : GSt} {ck : ByteArray} {ts : List TestV} {rights fuel : Int} (h : s.From ck ts rights fuel) (src : ByteArray) : (s.sub src).From ck ts rights fuel := by
  obtain ⟨a, b, c, d, e, f⟩ := sub_err s src
  exact ⟨a.trans h.err, b.trans h.place, c.trans h.ck, d.trans h.ts, e.trans h.rights, f.trans h.fuel⟩
/-- What an opened grader has. -/
theorem opens_ok {ck : ByteArray} {ts : List TestV} {fuel : Int} (h : (opensM ck ts fuel).1 = 0) : ts.length ≤ 6 ∧ fuel ≤ 10000 ∧ (∀ i, i < ts.length → (ts.getD i noTest).hidden.size ≤ 32) ∧ (readM ck).1 = 0 := by
  unfold opensM at h
  by_cases h1 : 6 < ts.length ∨ 10000 < fuel
  · rw [if_pos h1] at h; exact absurd h (by decide)
  · rw [if_neg h1] at h
    by_cases h2 : hidBad ts = true
    · rw [if_pos h2] at h; exact absurd h (by decide)
    · rw [if_neg h2, ← check_eq] at h
      exact ⟨by omega, by omega, hidBad_all (by simpa using h2), h⟩
theorem StrsAt.kept {w w' : World} {v : Value} {ws : List ByteArray} {Q : Nat → Prop} (h : StrsAt w v ws) (hk : Kept Q w w') (hq : ∀ a n c, v = .slice (some a) n c → Q a.block) : StrsAt w' v ws := by
  rcases h with h | ⟨b, o, cap, rfl, hb, hc⟩
  · exact .inl h
  · refine .inr ⟨b, o, cap, rfl, Nat.lt_of_lt_of_le hb hk.size, fun k hk2 => ?_⟩
    rw [hk.cell (p := ⟨b, o + k, none⟩) hb (hq ⟨b, o, none⟩ _ _ rfl)]
    exact hc k hk2
theorem StrsAt.form {w : World} {v : Value} {ws : List ByteArray} (h : StrsAt w v ws) : ∃ a cap, v = .slice a ws.length cap := by
  rcases h with ⟨rfl, a, cap, rfl⟩ | ⟨b, o, cap, rfl, _⟩
  · exact ⟨a, cap, rfl⟩
  · exact ⟨_, cap, rfl⟩
theorem StrsAt.at {w : World} {v : Value} {ws : List ByteArray} (h : StrsAt w v ws) {k : Nat} (hk : k < ws.length) : ∃ b o cap, v = .slice (some ⟨b, o, none⟩) ws.length cap ∧ b < w.heap.size ∧ w.cell? ⟨b, o + k, none⟩ = some (.string (ws.getD k ByteArray.empty)) := by
  rcases h with ⟨rfl, a, cap, rfl⟩ | ⟨b, o, cap, rfl, hb, hc⟩
  · simp at hk
  · exact ⟨b, o, cap, rfl, hb, hc k hk⟩

end Go.Proofs.YtnanjomnldfidabDoor

set_option linter.unusedSimpArgs false
set_option linter.unusedVariables false
set_option linter.unusedSectionVars false
namespace Go.Proofs.YtnanjomnldfidabDoor
open Go.RowKit

theorem TestsAt.form {w : World} {v : Value} {ts : List TestV} (h : TestsAt w v ts) : ∃ a cap, v = .slice a ts.length cap := by
  rcases h with ⟨rfl, a, cap, rfl⟩ | ⟨b, o, cap, rfl, _⟩
  · exact ⟨a, cap, rfl⟩
  · exact ⟨_, cap, rfl⟩
theorem GSt.From.pub {s s' : GSt} {ck : ByteArray} {ts : List TestV} {rights fuel : Int} (h : s.From ck ts rights fuel) (h' : s'.From ck ts rights fuel) (src : ByteArray) : s.pub src = s'.pub src ∧ s.code src = s'.code src := by
  unfold GSt.pub GSt.code
  rw [h.err, h'.err, h.place, h'.place, h.ts, h'.ts, h.rights, h'.rights, h.fuel, h'.fuel]
  exact ⟨rfl, rfl⟩
/-- A Submit that is well. -/
theorem GSt.From.well {s : GSt} {ck : ByteArray} {ts : List TestV} {rights fuel : Int} (h : s.From ck ts rights fuel) (src : ByteArray) (h0 : (s.code src).1 = 0) :
    s.pub src = pubTo ts rights fuel src ts.length ∧ (s.sub src).marks = marksTo ck ts rights fuel src ts.length ∧ (opensM ck ts fuel).1 = 0 ∧ (readM src).1 = 0 := by
  unfold GSt.code at h0
  by_cases he : s.err ≠ 0
  · rw [if_pos he] at h0; exact absurd h0 he
  · rw [if_neg he] at h0
    have h1 : ¬ (readM src).1 ≠ 0 := by simpa using h0
    unfold GSt.pub GSt.sub
    rw [if_neg he, if_neg he, if_neg h1, if_neg h1]
    refine ⟨by rw [h.ts, h.rights, h.fuel], ?_, h.err ▸ (by simpa using he), h0⟩
    show marksTo s.ck s.ts s.rights s.fuel src s.ts.length = _
    rw [h.ck, h.ts, h.rights, h.fuel]

set_option maxRecDepth 100000 in
set_option maxHeartbeats 1000000 in
theorem again_any (S : GSpec) (w : World) (ck : ByteArray) (v : Value) (ts : List TestV) (rights fuel : Int) (lv : Value) (ls : List ByteArray) (src : ByteArray) (hG : LsAt w) (hck : ck.size ≤ maxLen) (hT : TestsAt w v ts) (hl : ts.length * 32 ≤ 140737488351232) (hv : ∀ a n c, v = .slice (some a) n c → a.block < w.heap.size)
    (hin : ∀ i, (ts.getD i noTest).inp.size ≤ maxLen) (hS : StrsAt w lv ls) (hsv : ∀ a n c, lv = .slice (some a) n c → a.block < w.heap.size) (hsl : ls.length ≤ 140737488351232) (hsz : ∀ i, (ls.getD i ByteArray.empty).size ≤ maxLen) (hsr : src.size ≤ maxLen) :
    Calls Tryd.prog 7 #[.agg #[.string ck, v, .int .i64 rights, .int .i64 fuel], lv, .string src] w fun e w' => e = .returned (.bool true) ∧ Kept (fun k => k < w.heap.size) w w' := by
  obtain ⟨wA, hwA⟩ : ∃ x, x = w.alloc (.cells #[.string ck, v, .int .i64 rights, .int .i64 fuel] 42) := ⟨_, rfl⟩
  have hbA : wA.heap[w.heap.size]? = some (.cells #[.string ck, v, .int .i64 rights, .int .i64 fuel] 42 (0, 0)) := by rw [hwA]; exact heap_alloc_new w _
  have kA : Kept (fun k => k < w.heap.size) w wA := by rw [hwA]; exact (Kept.refl _ w).alloc _
  have hszA : wA.heap.size = w.heap.size + 1 := by rw [hwA]; simp
  have TA := hT.kept kA hv
  have SA := hS.kept kA hsv
  have GA := hG.kept kA hG.lt
  have hvA : ∀ a n c, v = .slice (some a) n c → a.block < wA.heap.size := fun a n c e => by have := hv a n c e; omega
  have hsvA : ∀ a n c, lv = .slice (some a) n c → a.block < wA.heap.size := fun a n c e => by have := hsv a n c e; omega
  have HOp := hide (fun (wr : World) (hk : Kept (fun k => k < wA.heap.size) wA wr) => S.opens wr ck v ts rights fuel (GA.kept hk GA.lt) hck (TA.kept hk hvA) hl (fun a n c e => Nat.lt_of_lt_of_le (hvA a n c e) hk.size))
  have HSub := hide (fun (wr : World) F g s src hI (hk : Kept (fun k => k < wA.heap.size) wA wr) (hF : ∀ k, F k → wA.heap.size ≤ k) hs (hfr : GSt.From s ck ts rights fuel) => S.submit wr F g s src hI (GA.kept hk GA.lt) (fun k hk hf => by have := GA.lt k hk; have := hF _ hf; omega) hs (by rw [hfr.ts]; exact hin))
  have HMa := hide S.marks
  have HNu := hide num2_any
  obtain ⟨la, lc, hlf⟩ := hS.form
  obtain ⟨va, vc, hvf⟩ := hT.form
  have HSA : Hid (∀ wr, Kept (fun k => k < wA.heap.size) wA wr → StrsAt wr lv ls) := fun wr hk => SA.kept hk hsvA
  have HSZ := hide hsz
  have HKA := hide kA
  have HBA := hide hbA
  have HW := hide hwA
  obtain ⟨oe, hoe⟩ : ∃ x, x = (opensM ck ts fuel).1 := ⟨_, rfl⟩
  obtain ⟨op, hop⟩ : ∃ x, x = (opensM ck ts fuel).2 := ⟨_, rfl⟩
  rw [← hoe, ← hop] at HOp
  have c0 : wA.cell? ⟨w.heap.size, 0, none⟩ = some (.string ck) := cell_of_block hbA 0 _ rfl
  have c1 : wA.cell? ⟨w.heap.size, 1, none⟩ = some v := cell_of_block hbA 1 _ rfl
  have c2 : wA.cell? ⟨w.heap.size, 2, none⟩ = some (.int .i64 rights) := cell_of_block hbA 2 _ rfl
  have c3 : wA.cell? ⟨w.heap.size, 3, none⟩ = some (.int .i64 fuel) := cell_of_block hbA 3 _ rfl
  have ltA : w.heap.size < wA.heap.size := by omega
  have ho1 := hide ((unhide HOp) wA (Kept.refl _ _))
  subst hlf
  subst hvf
  clear hwA hbA kA hG hT hv hin hS hsv hsz TA SA GA hvA hsvA hoe hop
  go_enter Tryd.func7, Tryd.ntmps7
  go_wp2_with fail
  rw [show w.alloc (.cells #[.string ck, .slice va ts.length vc, .int .i64 rights, .int .i64 fuel] 42) = wA from HW.out.symm]
  refine (unhide ho1).mono ?_
  rintro e w1 ⟨g, F, rfl, I1, hF, k1⟩
  clear ho1 c0 c2 c3 c1
  have b1 := k1.at' HBA.out ltA
  have lt1 := lt_of_block b1
  have c0 : w1.cell? ⟨w.heap.size, 0, none⟩ = some (.string ck) := cell_of_block b1 0 _ rfl
  have c1 : w1.cell? ⟨w.heap.size, 1, none⟩ = some (.slice va ts.length vc) := cell_of_block b1 1 _ rfl
  have c2 : w1.cell? ⟨w.heap.size, 2, none⟩ = some (.int .i64 rights) := cell_of_block b1 2 _ rfl
  have c3 : w1.cell? ⟨w.heap.size, 3, none⟩ = some (.int .i64 fuel) := cell_of_block b1 3 _ rfl
  have ho2 := hide ((unhide HOp) w1 k1)
  have HI1 := hide I1
  have HK1 := hide k1
  have HF := hide hF
  clear b1 I1 k1 hF HOp
  go_wp2_with fail
  refine (unhide ho2).mono ?_
  rintro e w2 ⟨h, E, rfl, J2, hE, k2⟩
  clear ho2 c0 c1 c2 c3
  have I2 : Hid (S.Is w2 F g (GSt.opened ck ts rights fuel)) := S.frame HI1.out k2 (S.lt HI1.out)
  have HK2 : Hid (Kept (fun k => k < wA.heap.size) wA w2) := HK1.out.trans (k2.mono (fun k h => Nat.lt_of_lt_of_le h HK1.out.size))
  have HJ2 := hide J2
  have HE : Hid (∀ k, E k → wA.heap.size ≤ k) := fun k hk => Nat.le_trans HK1.out.size (hE k hk)
  have HFE : Hid (∀ k, F k → ¬ E k) := fun k hf he => by have := S.lt HI1.out k hf; have := hE k he; omega
  clear J2 hE k2 HI1 HK1 lt1
  go_wp2_with fail
  go_loopw [13] (fun i wr => ∃ (k : Nat) (st : GSt) (F' : Nat → Prop), k ≤ ls.length ∧ i = .int .i64 k ∧ Hid (S.Is wr F' g st) ∧ Hid (S.Is wr E h (GSt.opened ck ts rights fuel)) ∧ Hid (∀ k, F' k → wA.heap.size ≤ k) ∧ Hid (∀ k, F' k → ¬ E k) ∧ Hid (Kept (fun k => k < wA.heap.size) wA wr) ∧ Hid (st.From ck ts rights fuel)) (fun i _ => ls.length - (intOf i).toNat)
  case atStart => exact ⟨0, GSt.opened ck ts rights fuel, F, Nat.zero_le _, rfl, I2, HJ2, HF, HFE, HK2, GSt.from_opened _ _ _ _⟩
  case round =>
    obtain ⟨k, st, F', hk, rfl, hI, hJ, hF', hFE, hkw, hfr⟩ := hrel
    by_cases hlt : k < ls.length
    · obtain ⟨lb, lo, lc', hll, hlb, ek⟩ := (HSA.out wr hkw.out).at hlt
      simp only [Value.slice.injEq, true_and] at hll
      obtain ⟨rfl, rfl⟩ := hll
      have hsk := HSZ.out k
      generalize ls.getD k ByteArray.empty = sk at *
      have hsu := hide ((unhide HSub) wr F' g st sk hI.out hkw.out hF'.out hsk hfr.out)
      go_wp2_with fail
      refine (unhide hsu).mono ?_
      rintro e w5 ⟨F5, rfl, I5, hF5, k5⟩
      clear hsu
      have fin : Hid (S.Is w5 F5 g (st.sub sk)) := I5
      have finF : Hid (∀ k, F5 k → wA.heap.size ≤ k) := fun k h => (hF5 k h).elim (hF'.out k) (fun h => Nat.le_trans hkw.out.size h)
      have finE : Hid (∀ k, F5 k → ¬ E k) := fun k h he => (hF5 k h).elim (fun h => hFE.out k h he) (fun h => by have := S.lt hJ.out k he; omega)
      have finJ : Hid (S.Is w5 E h (GSt.opened ck ts rights fuel)) := S.frame hJ.out k5 (fun k he => ⟨S.lt hJ.out k he, fun hf => hFE.out k hf he⟩)
      have finK : Hid (Kept (fun k => k < wA.heap.size) wA w5) := hkw.out.trans (k5.mono (fun k h => ⟨Nat.lt_of_lt_of_le h hkw.out.size, fun hf => by have := hF'.out k hf; omega⟩))
      clear I5 hF5 k5
      go_wp2
      go_roundw
      case rel => exact ⟨k + 1, st.sub sk, F5, by omega, by go_num, fin, finJ, finF, finE, finK, hfr.out.sub sk⟩
      case measure => first | (simp [intOf]; done) | (simp [intOf]; omega)
    · have hke : k = ls.length := by omega
      subst hke
      have hsu := hide ((unhide HSub) wr F' g st src hI.out hkw.out hF'.out hsr hfr.out)
      obtain ⟨e1, e2⟩ := hfr.out.pub (GSt.from_opened ck ts rights fuel) src
      have hwl := hide (hfr.out.well src)
      have hwl2 := hide ((GSt.from_opened ck ts rights fuel).well src)
      rw [e1, e2] at hsu hwl
      clear e1 e2
      obtain ⟨rp, hrp⟩ : ∃ x, x = (GSt.opened ck ts rights fuel).pub src := ⟨_, rfl⟩
      obtain ⟨ce, hce⟩ : ∃ x, x = ((GSt.opened ck ts rights fuel).code src).1 := ⟨_, rfl⟩
      obtain ⟨cp, hcp⟩ : ∃ x, x = ((GSt.opened ck ts rights fuel).code src).2 := ⟨_, rfl⟩
      have HSub' := HSub
      rw [← hrp, ← hce, ← hcp] at hsu
      rw [← hrp, ← hce] at hwl hwl2
      have HC := hide (And.intro hrp (And.intro hce hcp))
      clear hrp hce hcp
      go_wp2_with fail
      refine (unhide hsu).mono ?_
      rintro e w5 ⟨F5, rfl, I5, hF5, k5⟩
      clear hsu
      have finJ : Hid (S.Is w5 E h (GSt.opened ck ts rights fuel)) := S.frame hJ.out k5 (fun k he => ⟨S.lt hJ.out k he, fun hf => hFE.out k hf he⟩)
      have finE : Hid (∀ k, F5 k → ¬ E k) := fun k h he => (hF5 k h).elim (fun h => hFE.out k h he) (fun h => by have := S.lt hJ.out k he; omega)
      have finK : Hid (Kept (fun k => k < wA.heap.size) wA w5) := hkw.out.trans (k5.mono (fun k h => ⟨Nat.lt_of_lt_of_le h hkw.out.size, fun hf => by have := hF'.out k hf; omega⟩))
      have fin : Hid (S.Is w5 F5 g (st.sub src)) := I5
      have hsu := hide ((unhide HSub) w5 E h _ src finJ.out finK.out HE.out hsr (GSt.from_opened ck ts rights fuel))
      rw [← HC.out.1, ← HC.out.2.1, ← HC.out.2.2] at hsu
      clear I5 hF5 k5
      go_wp2_with fail
      refine (unhide hsu).mono ?_
      rintro e w6 ⟨E6, rfl, J6, hE6, k6⟩
      clear hsu
      have I6 : S.Is w6 F5 g (st.sub src) := S.frame fin.out k6 (fun k hf => ⟨S.lt fin.out k hf, finE.out k hf⟩)
      have hn6 := hide ((unhide HNu) ce w6)
      have hm1 := hide ((unhide HMa) w6 F5 g _ I6)
      have hm2 := hide ((unhide HMa) w6 E6 h _ J6)
      have K6 : Kept (fun k => k < wA.heap.size) wA w6 := finK.out.trans (k6.mono (fun k h => ⟨Nat.lt_of_lt_of_le h finK.out.size, fun hf => by have := HE.out k hf; omega⟩))
      have kfin : Hid (Kept (fun k => k < w.heap.size) w w6) := HKA.out.trans (K6.mono (fun k h => by omega))
      have b6 := K6.at' HBA.out ltA
      have lt6 := lt_of_block b6
      have c1 : w6.cell? ⟨w.heap.size, 1, none⟩ = some (.slice va ts.length vc) := cell_of_block b6 1 _ rfl
      clear I6 J6 hE6 k6 K6 b6
      go_wp2_with fail
      refine (unhide hn6).mono ?_
      rintro e w6' ⟨rfl, rfl⟩
      clear hn6
      by_cases hz : ce = 0
      · subst hz
        obtain ⟨p1, m1, _, _⟩ := hwl.out rfl
        obtain ⟨_, m2, _, _⟩ := hwl2.out rfl
        rw [m1] at hm1
        rw [m2] at hm2
        subst p1
        have l1 := pubTo_len ts rights fuel src ts.length
        have l2 := marksTo_len ck ts rights fuel src ts.length
        clear m1 m2 hwl hwl2 HC
        generalize hpp : pubTo ts rights fuel src ts.length = pp at *
        generalize hmm : marksTo ck ts rights fuel src ts.length = mm at *
        have g1 : (4 : Int) * (ts.length : Int) ≤ ((mkB mm).size : Int) := by rw [mkB_size]; omega
        have g2 : (7 : Int) * (ts.length : Int) ≤ ((mkB pp).size : Int) := by rw [mkB_size]; omega
        clear hpp hmm
        go_wp2_with fail
        refine (unhide hm1).mono ?_
        rintro e w6' ⟨rfl, rfl⟩
        clear hm1
        go_wp2_with fail
        refine (unhide hm2).mono ?_
        rintro e w6' ⟨rfl, rfl⟩
        clear hm2
        go_wp2
        go_ret
        exact ⟨rfl, kfin.out⟩
      · have hnz : (ce == 0) = false := by rw [beq_eq_false_iff_ne]; exact hz
        go_wp2
        go_ret
        exact ⟨rfl, kfin.out⟩
end Go.Proofs.YtnanjomnldfidabDoor

set_option linter.unusedSimpArgs false
set_option linter.unusedVariables false
set_option linter.unusedSectionVars false
namespace Go.Proofs.YtnanjomnldfidabDoor
open Go.RowKit

theorem ofInt_wrap2 (v : BitVec 64) : BitVec.ofInt 64 (IntKind.i64.wrap ((v.toNat : Nat) : Int)) = v := by
  apply BitVec.eq_of_toNat_eq
  rw [BitVec.toNat_ofInt, IntKind.wrap_i64]
  have := v.isLt
  rw [show ((2 : Nat) ^ 64 : Nat) = 18446744073709551616 from rfl] at *
  omega
theorem noLook2 (r : Int) : noRight (bits BinOp.andNot IntKind.i64 r 4) 4 = true := by
  unfold noRight
  have e1 : bits BinOp.andNot IntKind.i64 r 4 = IntKind.i64.wrap (((BitVec.ofInt 64 r &&& ~~~ BitVec.ofInt 64 4).toNat : Nat) : Int) := rfl
  have e2 : ∀ a : Int, bits BinOp.and IntKind.i64 a 4 = IntKind.i64.wrap (((BitVec.ofInt 64 a &&& BitVec.ofInt 64 4).toNat : Nat) : Int) := fun _ => rfl
  rw [e1, e2, ofInt_wrap2, BitVec.and_assoc, show (~~~ BitVec.ofInt 64 4 &&& BitVec.ofInt 64 4 : BitVec 64) = 0#64 from by decide, BitVec.and_zero]
  rfl

theorem hidBad_iff (ts : List TestV) : hidBad ts = true ↔ ∃ i, i < ts.length ∧ 32 < (ts.getD i noTest).hidden.size := by
  unfold hidBad
  rw [List.any_eq_true]
  constructor
  · rintro ⟨t, ht, h⟩
    obtain ⟨i, hi, rfl⟩ := List.getElem_of_mem ht
    exact ⟨i, hi, by have e : ts.getD i noTest = ts[i] := by simp [List.getD, hi]
                     rw [e]; simpa using h⟩
  · rintro ⟨i, hi, h⟩
    have e : ts.getD i noTest = ts[i] := by simp [List.getD, hi]
    rw [e] at h
    exact ⟨ts[i], List.getElem_mem hi, by simpa using h⟩
theorem opens_alike {ts ts' : List TestV} (h : Alike2 ts ts') (ck : ByteArray) (fuel : Int) : opensM ck ts' fuel = opensM ck ts fuel := by
  have hb : hidBad ts' = hidBad ts := by
    rw [Bool.eq_iff_iff, hidBad_iff, hidBad_iff]
    constructor
    · rintro ⟨i, hi, q⟩
      exact ⟨i, by rw [← h.len]; exact hi, by rw [← h.size i]; exact q⟩
    · rintro ⟨i, hi, q⟩
      exact ⟨i, by rw [h.len]; exact hi, by rw [h.size i]; exact q⟩
  unfold opensM
  rw [h.len, hb]
theorem TestsAt.ofIs {e : TypeId} {w : World} {v : Value} {l : List TestV} (h : TestsIs e w v l) : TestsAt w v l ∧ ∀ a n c, v = .slice (some a) n c → a.block < w.heap.size := by
  rcases h.2 with ⟨rfl, h0⟩ | ⟨g, cap, cur, rfl, hb, hg, rest⟩
  · exact ⟨.inl ⟨List.eq_nil_of_length_eq_zero h0, _, _, rfl⟩, fun a n c e => by cases e⟩
  · refine ⟨.inr ⟨g, 0, cap, rfl, lt_of_block hg, fun k hk => ?_⟩, fun a n c e => ?_⟩
    · obtain ⟨f, cp, e1, _, q1, q2⟩ := TestsIs.cells h hk
      simp only [Value.slice.injEq, Option.some.injEq, Addr.mk.injEq, true_and, and_true] at e1
      obtain ⟨rfl, _⟩ := e1
      rw [Nat.zero_add]
      exact ⟨q1, q2⟩
    · simp only [Value.slice.injEq, Option.some.injEq] at e
      obtain ⟨rfl, _⟩ := e
      exact lt_of_block hg

set_option maxRecDepth 100000 in
set_option maxHeartbeats 1000000 in
theorem lawHidden_any (S : GSpec) (w : World) (ck : ByteArray) (v : Value) (ts : List TestV) (rights fuel : Int) (lv : Value) (ls : List ByteArray) (src : ByteArray) (hG : LsAt w) (hck : ck.size ≤ maxLen) (hT : TestsAt w v ts) (hl : ts.length * 32 ≤ 140737488351232) (hv : ∀ a n c, v = .slice (some a) n c → a.block < w.heap.size)
    (hin : ∀ i, (ts.getD i noTest).inp.size ≤ maxLen) (hhi : ∀ i, (ts.getD i noTest).hidden.size ≤ maxLen) (hS : StrsAt w lv ls) (hsv : ∀ a n c, lv = .slice (some a) n c → a.block < w.heap.size) (hsl : ls.length ≤ 140737488351232) (hsr : src.size ≤ maxLen) :
    Calls Tryd.prog 5 #[.agg #[.string ck, v, .int .i64 rights, .int .i64 fuel], lv, .string src] w fun e w' => e = .returned (.bool true) ∧ Kept (fun k => k < w.heap.size) w w' := by
  obtain ⟨wA, hwA⟩ : ∃ x, x = w.alloc (.cells #[.string ck, v, .int .i64 rights, .int .i64 fuel] 42) := ⟨_, rfl⟩
  have hbA : wA.heap[w.heap.size]? = some (.cells #[.string ck, v, .int .i64 rights, .int .i64 fuel] 42 (0, 0)) := by rw [hwA]; exact heap_alloc_new w _
  have kA : Kept (fun k => k < w.heap.size) w wA := by rw [hwA]; exact (Kept.refl _ w).alloc _
  have hszA : wA.heap.size = w.heap.size + 1 := by rw [hwA]; simp
  have TA := hT.kept kA hv
  have SA := hS.kept kA hsv
  have GA := hG.kept kA hG.lt
  have hvA : ∀ a n c, v = .slice (some a) n c → a.block < wA.heap.size := fun a n c e => by have := hv a n c e; omega
  have hsvA : ∀ a n c, lv = .slice (some a) n c → a.block < wA.heap.size := fun a n c e => by have := hsv a n c e; omega
  obtain ⟨tt, htt⟩ : ∃ x, x = hideL ts ls ts.length := ⟨_, rfl⟩
  have hal : Alike2 ts tt := by rw [htt]; exact hide_alike ts ls
  obtain ⟨rt, hrt⟩ : ∃ x, bits BinOp.andNot IntKind.i64 rights 4 = x := ⟨_, rfl⟩
  have hnl : noRight rt 4 = true := by rw [← hrt]; exact noLook2 rights
  have hin2 : ∀ i, (tt.getD i noTest).inp.size ≤ maxLen := fun i => by rw [hal.inp i]; exact hin i
  have HHd := hide (hide_any wA v lv ts ls TA SA hl hsl hhi (fun k => k < wA.heap.size) (fun k h => h) hvA hsvA)
  rw [← htt] at HHd
  have HOp := hide (fun (wr : World) (hk : Kept (fun k => k < wA.heap.size) wA wr) => S.opens wr ck v ts rt fuel (GA.kept hk GA.lt) hck (TA.kept hk hvA) hl (fun a n c e => Nat.lt_of_lt_of_le (hvA a n c e) hk.size))
  have HOp2 := hide (fun (wr : World) (hk : Kept (fun k => k < wA.heap.size) wA wr) x (hx : TestsIs 50 wr x tt) => S.opens wr ck x tt rt fuel (GA.kept hk GA.lt) hck (TestsAt.ofIs hx).1 (by rw [hal.len]; exact hl) (TestsAt.ofIs hx).2)
  rw [opens_alike hal] at HOp2
  have HSub := hide (fun (wr : World) F g s src hI (hk : Kept (fun k => k < wA.heap.size) wA wr) (hF : ∀ k, F k → wA.heap.size ≤ k) hs (hq : ∀ i, (s.ts.getD i noTest).inp.size ≤ maxLen) => S.submit wr F g s src hI (GA.kept hk GA.lt) (fun k hk hf => by have := GA.lt k hk; have := hF _ hf; omega) hs hq)
  have hcode : (GSt.opened ck tt rt fuel).code src = (GSt.opened ck ts rt fuel).code src := by unfold GSt.code GSt.opened; rw [opens_alike hal]
  have hpub : (opensM ck ts fuel).1 = 0 → (GSt.opened ck tt rt fuel).pub src = (GSt.opened ck ts rt fuel).pub src := by
    intro h0
    obtain ⟨q1, q2, q3, q4⟩ := opens_ok h0
    have hle := hidL_le q3 ts.length (Nat.le_refl _)
    have := pub_same hal rt fuel src hnl (fun i hi => by rw [imageL_len]; omega) hin ts.length (Nat.le_refl _)
    unfold GSt.pub GSt.opened
    rw [opens_alike hal]
    show (if _ then _ else if _ then _ else pubTo tt rt fuel src tt.length) = _
    rw [hal.len, this]
  have HNu := hide num2_any
  have HTL := hide hal.len
  obtain ⟨la, lc, hlf⟩ := hS.form
  obtain ⟨va, vc, hvf⟩ := hT.form
  have HKA := hide kA
  have HBA := hide hbA
  have HW := hide hwA
  have HCO := hide hcode
  have HPU := hide hpub
  have HI1 := hide hin
  have HI2 := hide hin2
  have HWE := hide ((GSt.from_opened ck ts rt fuel).well src)
  obtain ⟨oe, hoe⟩ : ∃ x, x = (opensM ck ts fuel).1 := ⟨_, rfl⟩
  obtain ⟨op, hop⟩ : ∃ x, x = (opensM ck ts fuel).2 := ⟨_, rfl⟩
  rw [← hoe, ← hop] at HOp HOp2
  rw [← hoe] at HPU
  have c1 : wA.cell? ⟨w.heap.size, 1, none⟩ = some v := cell_of_block hbA 1 _ rfl
  have c2 : wA.cell? ⟨w.heap.size, 2, none⟩ = some (.int .i64 rights) := cell_of_block hbA 2 _ rfl
  have ltA : w.heap.size < wA.heap.size := by omega
  subst hlf
  subst hvf
  clear hwA hbA kA hG hT hv hin hin2 hhi hS hsv TA SA GA hvA hsvA hoe hop hal htt hnl hcode hpub
  go_enter Tryd.func5, Tryd.ntmps5
  go_wp2_with fail
  rw [show w.alloc (.cells #[.string ck, .slice va ts.length vc, .int .i64 rights, .int .i64 fuel] 42) = wA from HW.out.symm]
  refine (unhide HHd).mono ?_
  rintro e wB ⟨x, rfl, rB, kB⟩
  clear HHd c1 c2
  have bB := kB.at' HBA.out ltA
  have ltB := lt_of_block bB
  have c0 : wB.cell? ⟨w.heap.size, 0, none⟩ = some (.string ck) := cell_of_block bB 0 _ rfl
  have c1 : wB.cell? ⟨w.heap.size, 1, none⟩ = some (.slice va ts.length vc) := cell_of_block bB 1 _ rfl
  have c3 : wB.cell? ⟨w.heap.size, 3, none⟩ = some (.int .i64 fuel) := cell_of_block bB 3 _ rfl
  have ho1 := hide ((unhide HOp) wB kB)
  have HRB := hide rB
  have HKB := hide kB
  clear bB kB rB HOp
  go_wp2_with fail
  refine (unhide ho1).mono ?_
  rintro e w1 ⟨g, F, rfl, I1, hF, k1⟩
  clear ho1 c0 c1 c3
  have K1 : Kept (fun k => k < wA.heap.size) wA w1 := HKB.out.trans (k1.mono (fun k h => Nat.lt_of_lt_of_le h HKB.out.size))
  have b1 := K1.at' HBA.out ltA
  have lt1 := lt_of_block b1
  have c0 : w1.cell? ⟨w.heap.size, 0, none⟩ = some (.string ck) := cell_of_block b1 0 _ rfl
  have c3 : w1.cell? ⟨w.heap.size, 3, none⟩ = some (.int .i64 fuel) := cell_of_block b1 3 _ rfl
  have hT1 : TestsIs 50 w1 x tt := by
    have h0 : TestsIs 50 wB x tt := by
      have := HRB.out.own
      unfold TestsIs
      rw [HTL.out]; exact this
    exact h0.kept k1 (fun k hk => (World.ownsRow.lt h0 k hk).2)
  have ho2 := hide ((unhide HOp2) w1 K1 x hT1)
  have HI1' := hide I1
  have HK1 := hide K1
  have HF : Hid (∀ k, F k → wA.heap.size ≤ k) := fun k hk => Nat.le_trans HKB.out.size (hF k hk)
  clear b1 I1 k1 K1 hF HOp2 hT1 HRB
  go_wp2_with fail
  refine (unhide ho2).mono ?_
  rintro e w2 ⟨h, E, rfl, J2, hE, k2⟩
  clear ho2 c0 c3
  have I2 : Hid (S.Is w2 F g (GSt.opened ck ts rt fuel)) := S.frame HI1'.out k2 (S.lt HI1'.out)
  have HK2 : Hid (Kept (fun k => k < wA.heap.size) wA w2) := HK1.out.trans (k2.mono (fun k h => Nat.lt_of_lt_of_le h HK1.out.size))
  have HJ2 := hide J2
  have HE : Hid (∀ k, E k → wA.heap.size ≤ k) := fun k hk => Nat.le_trans HK1.out.size (hE k hk)
  have HFE : Hid (∀ k, F k → ¬ E k) := fun k hf he => by have := S.lt HI1'.out k hf; have := hE k he; omega
  have hn2 := hide ((unhide HNu) oe w2)
  have kf2 : Hid (Kept (fun k => k < w.heap.size) w w2) := HKA.out.trans (HK2.out.mono (fun k h => by omega))
  clear J2 hE k2 HI1' HK1 lt1
  go_wp2_with fail
  refine (unhide hn2).mono ?_
  rintro e w2' ⟨rfl, rfl⟩
  clear hn2
  by_cases hz : oe = 0
  · subst hz
    have hpu := HPU.out rfl
    have hsu := hide ((unhide HSub) w2' F g _ src I2.out HK2.out HF.out hsr HI1.out)
    obtain ⟨rp, hrp⟩ : ∃ x, x = (GSt.opened ck ts rt fuel).pub src := ⟨_, rfl⟩
    obtain ⟨ce, hce⟩ : ∃ x, x = ((GSt.opened ck ts rt fuel).code src).1 := ⟨_, rfl⟩
    obtain ⟨cp, hcp⟩ : ∃ x, x = ((GSt.opened ck ts rt fuel).code src).2 := ⟨_, rfl⟩
    have HPU2 := hide hpu
    have HC := hide (And.intro hrp (And.intro hce hcp))
    rw [← hrp, ← hce, ← hcp] at hsu
    rw [← hce, ← hrp] at HWE
    clear hrp hce hcp hpu
    go_wp2_with fail
    refine (unhide hsu).mono ?_
    rintro e w5 ⟨F5, rfl, I5, hF5, k5⟩
    clear hsu I5 hF5
    have finJ : Hid (S.Is w5 E h (GSt.opened ck tt rt fuel)) := S.frame HJ2.out k5 (fun k he => ⟨S.lt HJ2.out k he, fun hf => HFE.out k hf he⟩)
    have finK : Hid (Kept (fun k => k < wA.heap.size) wA w5) := HK2.out.trans (k5.mono (fun k h => ⟨Nat.lt_of_lt_of_le h HK2.out.size, fun hf => by have := HF.out k hf; omega⟩))
    have hsu := hide ((unhide HSub) w5 E h _ src finJ.out finK.out HE.out hsr HI2.out)
    rw [HPU2.out, HCO.out, ← HC.out.1, ← HC.out.2.1, ← HC.out.2.2] at hsu
    clear k5
    go_wp2_with fail
    refine (unhide hsu).mono ?_
    rintro e w6 ⟨E6, rfl, J6, hE6, k6⟩
    clear hsu J6 hE6
    have hn6 := hide ((unhide HNu) ce w6)
    have K6 : Kept (fun k => k < wA.heap.size) wA w6 := finK.out.trans (k6.mono (fun k h => ⟨Nat.lt_of_lt_of_le h finK.out.size, fun hf => by have := HE.out k hf; omega⟩))
    have kfin : Hid (Kept (fun k => k < w.heap.size) w w6) := HKA.out.trans (K6.mono (fun k h => by omega))
    have b6 := K6.at' HBA.out ltA
    have lt6 := lt_of_block b6
    have c1 : w6.cell? ⟨w.heap.size, 1, none⟩ = some (.slice va ts.length vc) := cell_of_block b6 1 _ rfl
    clear k6 K6 b6
    go_wp2_with fail
    refine (unhide hn6).mono ?_
    rintro e w6' ⟨rfl, rfl⟩
    clear hn6
    by_cases hz2 : ce = 0
    · subst hz2
      obtain ⟨p1, _, _, _⟩ := HWE.out rfl
      have l1 := pubTo_len ts rt fuel src ts.length
      rw [← p1] at l1
      have g2 : (7 : Int) * (ts.length : Int) ≤ ((mkB rp).size : Int) := by rw [mkB_size]; omega
      clear p1 HC HWE
      go_wp2
      go_ret
      exact ⟨rfl, kfin.out⟩
    · have hnz : (ce == 0) = false := by rw [beq_eq_false_iff_ne]; exact hz2
      go_wp2
      go_ret
      exact ⟨rfl, kfin.out⟩
  · have hnz : (oe == 0) = false := by rw [beq_eq_false_iff_ne]; exact hz
    go_wp2
    go_ret
    exact ⟨rfl, kf2.out⟩
end Go.Proofs.YtnanjomnldfidabDoor

set_option linter.unusedSimpArgs false
set_option linter.unusedVariables false
set_option linter.unusedSectionVars false
namespace Go.Proofs.YtnanjomnldfidabDoor
open Go.RowKit

def lookTs (c : UInt8) : List TestV := [⟨mkB [], mkB [c]⟩]
def lookSrc : ByteArray := mkB [52, 32, 64, 32, 101, 109, 105, 116]
set_option maxRecDepth 100000 in
theorem look_open : opensM (mkB []) (lookTs 65) 10 = (0, 0) ∧ opensM (mkB []) (lookTs 66) 10 = (0, 0) := by
  constructor <;> kernel_rfl
set_option maxRecDepth 100000 in
theorem look_pub : pubTo (lookTs 65) 15 10 lookSrc 1 = [48, 32, 51, 32, 49, 58, 65, 10] ∧ pubTo (lookTs 66) 15 10 lookSrc 1 = [48, 32, 51, 32, 49, 58, 66, 10] ∧ (readM lookSrc).1 = 0 := by
  refine ⟨?_, ?_, ?_⟩ <;> kernel_rfl
theorem one_at (w : World) (c : UInt8) : TestsAt (w.alloc (.cells #[.string (mkB []), .string (mkB [c])] 50)) (.slice (some ⟨w.heap.size, 0, none⟩) 1 1) (lookTs c) := by
  have hb := heap_alloc_new w (.cells #[.string (mkB []), .string (mkB [c])] 50)
  refine .inr ⟨w.heap.size, 0, 1, rfl, lt_of_block hb, fun k hk => ?_⟩
  have hk0 : k = 0 := by have : k < 1 := hk; omega
  subst hk0
  exact ⟨cell_of_block hb 0 _ rfl, cell_of_block hb 1 _ rfl⟩
theorem look_in (c : UInt8) : ∀ i, ((lookTs c).getD i noTest).inp.size ≤ maxLen := by
  intro i
  match i with
  | 0 => show (mkB []).size ≤ maxLen; rw [mkB_size]; unfold maxLen; simp
  | i + 1 => show (noTest).inp.size ≤ maxLen; unfold maxLen; exact Nat.zero_le _
theorem look_sub (c : UInt8) (h : opensM (mkB []) (lookTs c) 10 = (0, 0)) : (GSt.opened (mkB []) (lookTs c) 15 10).pub lookSrc = pubTo (lookTs c) 15 10 lookSrc 1 := by
  have h1 : ¬ (GSt.opened (mkB []) (lookTs c) 15 10).err ≠ 0 := by show ¬ (opensM (mkB []) (lookTs c) 10).1 ≠ 0; rw [h]; simp
  have h2 : ¬ (readM lookSrc).1 ≠ 0 := by rw [look_pub.2.2]; simp
  unfold GSt.pub
  rw [if_neg h1, if_neg h2]
  rfl

set_option maxRecDepth 100000 in
set_option maxHeartbeats 1000000 in
theorem looked_any (S : GSpec) (w : World) (hG : LsAt w) : Calls Tryd.prog 6 #[] w fun e w' => e = .returned (.bool true) ∧ Kept (fun k => k < w.heap.size) w w' := by
  have hm0 : (0 : Nat) ≤ maxLen := Nat.zero_le _
  have HOp := hide (fun (wr : World) (c : UInt8) (hk : Kept (fun k => k < w.heap.size) w wr) => S.opens (wr.alloc (.cells #[.string (mkB []), .string (mkB [c])] 50)) (mkB []) (.slice (some ⟨wr.heap.size, 0, none⟩) 1 1) (lookTs c) 15 10 (hG.kept (hk.alloc _) hG.lt) (by rw [mkB_size]; exact hm0) (one_at wr c) (by show 1 * 32 ≤ _; omega)
    (fun a n c' e => by simp only [Value.slice.injEq, Option.some.injEq] at e; obtain ⟨rfl, _⟩ := e; simp))
  have HSub := hide (fun (wr : World) F g (c : UInt8) hI (hk : Kept (fun k => k < w.heap.size) w wr) (hF : ∀ k, F k → w.heap.size ≤ k) => S.submit wr F g (GSt.opened (mkB []) (lookTs c) 15 10) lookSrc hI (hG.kept hk hG.lt) (fun k hk hf => by have := hG.lt k hk; have := hF _ hf; omega) (by unfold lookSrc maxLen; rw [mkB_size]; decide) (look_in c))
  have HNu := hide num2_any
  have ho1 := hide ((unhide HOp) w 65 (Kept.refl _ _))
  rw [look_open.1] at ho1
  clear hm0 hG
  go_enter Tryd.func6, Tryd.ntmps6
  go_wp2_with fail
  refine (unhide ho1).mono ?_
  rintro e w1 ⟨g, F, rfl, I1, hF, k1⟩
  clear ho1
  have K1 : Hid (Kept (fun k => k < w.heap.size) w w1) := ((Kept.refl (fun k => k < w.heap.size) w).alloc _).trans (k1.mono (fun k h => by simp; omega))
  have ho2 := hide ((unhide HOp) w1 66 K1.out)
  rw [look_open.2] at ho2
  have HI1 := hide I1
  have HF : Hid (∀ k, F k → w.heap.size ≤ k) := fun k hk => by have := hF k hk; simp at this; omega
  clear I1 hF k1 HOp
  go_wp2_with fail
  refine (unhide ho2).mono ?_
  rintro e w2 ⟨h, E, rfl, J2, hE, k2⟩
  clear ho2
  have k12 : Kept (fun k => k < w1.heap.size) w1 w2 := ((Kept.refl (fun k => k < w1.heap.size) w1).alloc _).trans (k2.mono (fun k h => by simp; omega))
  have I2 : Hid (S.Is w2 F g (GSt.opened (mkB []) (lookTs 65) 15 10)) := S.frame HI1.out k12 (S.lt HI1.out)
  have HE1 : ∀ k, E k → w1.heap.size ≤ k := fun k hk => by have := hE k hk; simp at this; omega
  have HE : Hid (∀ k, E k → w.heap.size ≤ k) := fun k hk => Nat.le_trans K1.out.size (HE1 k hk)
  have HFE : Hid (∀ k, F k → ¬ E k) := fun k hf he => by have := S.lt HI1.out k hf; have := HE1 k he; omega
  have K2 : Hid (Kept (fun k => k < w.heap.size) w w2) := K1.out.trans (k12.mono (fun k h => Nat.lt_of_lt_of_le h K1.out.size))
  have HJ2 := hide J2
  have hn2 := hide ((unhide HNu) 0 w2)
  have hsu := hide ((unhide HSub) w2 F g 65 I2.out K2.out HF.out)
  rw [look_sub 65 look_open.1, look_pub.1] at hsu
  clear J2 hE k2 k12 HE1 HI1
  go_wp2_with fail
  refine (unhide hn2).mono ?_
  rintro e w2' ⟨rfl, rfl⟩
  go_wp2_with fail
  refine (unhide hn2).mono ?_
  rintro e w2'' ⟨rfl, rfl⟩
  clear hn2
  have hss : (⟨#[52, 32, 64, 32, 101, 109, 105, 116]⟩ : ByteArray) = lookSrc := rfl
  go_wp2_with fail
  refine (unhide hsu).mono ?_
  rintro e w5 ⟨F5, rfl, I5, hF5, k5⟩
  clear hsu I5 hF5
  have finJ : Hid (S.Is w5 E h (GSt.opened (mkB []) (lookTs 66) 15 10)) := S.frame HJ2.out k5 (fun k he => ⟨S.lt HJ2.out k he, fun hf => HFE.out k hf he⟩)
  have finK : Hid (Kept (fun k => k < w.heap.size) w w5) := K2.out.trans (k5.mono (fun k h => ⟨Nat.lt_of_lt_of_le h K2.out.size, fun hf => by have := HF.out k hf; omega⟩))
  have hsu := hide ((unhide HSub) w5 E h 66 finJ.out finK.out HE.out)
  rw [look_sub 66 look_open.2, look_pub.2.1] at hsu
  clear k5
  go_wp2_with fail
  refine (unhide hsu).mono ?_
  rintro e w6 ⟨E6, rfl, J6, hE6, k6⟩
  clear hsu J6 hE6
  have kfin : Hid (Kept (fun k => k < w.heap.size) w w6) := finK.out.trans (k6.mono (fun k h => ⟨Nat.lt_of_lt_of_le h finK.out.size, fun hf => by have := HE.out k hf; omega⟩))
  clear k6
  have f1 : ((mkB [48, 32, 51, 32, 49, 58, 65, 10]).toList == [48, 32, 51, 32, 49, 58, 65, 10]) = true := by rw [mkB_toList]; rfl
  have f2 : ((mkB [48, 32, 51, 32, 49, 58, 66, 10]).toList == [48, 32, 51, 32, 49, 58, 66, 10]) = true := by rw [mkB_toList]; rfl
  go_wp2
  go_ret
  exact ⟨rfl, kfin.out⟩
end Go.Proofs.YtnanjomnldfidabDoor
