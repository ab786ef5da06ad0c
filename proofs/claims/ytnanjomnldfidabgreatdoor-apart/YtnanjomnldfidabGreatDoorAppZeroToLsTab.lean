/-
  append(x, make([]byte, m)...) onto a row of the call's own. Over any program.
  A region that draws its order: operations that only read, one call, and 'x := ..': the new variable's block may be made at any moment, the store is last. Over any program.
  The library's strconv.Itoa at this program: the shelf's contract, laid by its numbers; and what it answers in the words of GradePure.
  Package grader's hiddenAhead and testImage.
  Package grader's transcriptLine and markLine.
  Package grader's runTests.
  Package grader's checkOpen, Open, Submit and Marks: the contract is kept.
  Arguments that are only read: an Exam by value, a slice of tests, a slice of strings.
  What the rows of stage 3 list, and the arguments behind the call.
-/
import Derived.Lib.AppendStr
import Derived.Test.YtnanjomnldfidabGreatDoorMem
import Derived.Deep.Quiet
import Derived.Test.YtnanjomnldfidabGreatDoorDmNew
import Derived.Shelf.Strconv.Itoa3
import Derived.Test.YtnanjomnldfidabGreatDoorRgDecToRgApart
import Derived.Shelf.Abstract
import Derived.Test.YtnanjomnldfidabGreatDoorBoxArg
import Derived.Deep.SlicePairs
import Derived.Deep.Strs
import Derived.SizedLaws
import Derived.WideKeyArgs
import Derived.Test.YtnanjomnldfidabGreatDoorTables
set_option linter.unusedSimpArgs false
set_option linter.unusedVariables false
set_option linter.unusedSectionVars false
namespace Go.Proofs.YtnanjomnldfidabGreatDoor
open Go.Lib Go.RowKit

theorem zeroCells_list (m : Nat) : (Builtin.zeroCells (Value.int .u8 0).cells m).toList = List.replicate m (Value.int .u8 0) := by
  have h1 : (Value.int IntKind.u8 0).cells = #[Value.int .u8 0] := rfl
  rw [h1]
  apply List.ext_getElem
  · simp [Builtin.zeroCells]
  · intro i h1 h2
    simp only [Builtin.zeroCells, List.size_toArray, List.length_cons, List.length_nil, Nat.zero_add, Nat.mod_one, Array.toList_map, List.getElem_map, List.getElem_replicate]
    rfl
theorem run_asInt_i64 {P : Program} (w : World) (n : Int) : (asInt (.int .i64 n)).run P w = .ok n w := by
  simp [asInt, asIntOf]

section
variable {P : Program} (w : World)
theorem run_append_zeros (base : Nat) (t u ty e : TypeId) (i : TypeInfo) (ht : P.underlying t = some (.slice e)) (hu : P.underlying u = some (.int .i64)) (hi : P.info? e = some i) (hz : i.zero = some (.int .u8 0))
    (hsize : i.size = 1) (hby : i.bytes = 1)
    (v : Value) (n : Nat) (xs : List Value) (hown : w.ownsRow base e 1 v n xs) (hn0 : 0 < n) (m : Nat) (hm0 : 0 < m)
    (h63 : n + m ≤ maxLen) (hbytes : n + m ≤ 140737488355328) (hbase : base ≤ w.heap.size) :
    ∃ v' w', (Builtin.append_ #[t, u] ty #[v, .int .i64 (m : Int)]).run P w = .ok v' w' ∧ w'.ownsRow base e 1 v' (n + m) (xs ++ List.replicate m (.int .u8 0)) ∧ w.grownBy w' v.ownBlock := by
  have hxl : xs.length = n := by simpa using hown.1
  have hlen : (xs ++ List.replicate m (Value.int .u8 0)).length = (n + m) * 1 := by simp [hxl]
  have hwr : IntKind.i64.wrap (m : Int) = m := by rw [IntKind.wrap_i64]; unfold maxLen at h63; omega
  have h0 : ¬ ((m : Int) < 0) := by omega
  have h1 : ¬ ((m : Int) > 281474976710656) := by omega
  rcases hown.2 with ⟨rfl, rfl⟩ | ⟨g, cap, cur, rfl, hbg, hg, hnc, hcm, hcs, htake⟩
  · omega
  · by_cases hroom : n + m ≤ cap
    · have hcs' : cur.size = cap := by simpa using hcs
      have hst := run_storeCells_at P g n e (List.replicate m (Value.int .u8 0)) 0 cur w hg (by simp; omega) (by intro u hu; simp at hu; rw [hu.2]; rfl)
      simp only [Nat.add_zero, List.length_replicate] at hst
      refine ⟨.slice (some ⟨g, 0, none⟩) (n + m) cap, w.setRow g (cur.toList.take n ++ List.replicate m (Value.int .u8 0) ++ cur.toList.drop (n + m)).toArray, ?_, ⟨hlen, .inr ⟨g, cap, _, rfl, hbg, setRow_heap w g cur _ e _ hg, hroom, hcm, ?_, ?_⟩⟩, ⟨rfl, rfl, rfl, by simp, fun k _ hk => setRow_other w g k _ (fun e => hk (by simp [Value.ownBlock, e]))⟩⟩
      · simp [Builtin.append_, run_underlying ht, run_underlying hu, sizeOf, typeInfo, zeroValue, hi, hsize, hby, hz, run_asInt_i64, hwr, h0, h1, hroom, Nat.pos_iff_ne_zero.1 hm0, zeroCells_list, Addr.add_lit, hst]
      · simp only [List.size_toArray, List.length_append, List.length_take, List.length_drop, Array.length_toList, List.length_replicate]
        omega
      · have ht' : cur.toList.take n = xs := by simpa using htake
        rw [ht', ← hlen]
        exact List.take_left
    · have holds : ∀ j u, xs[j]? = some u → w.cell? ((⟨g, 0, none⟩ : Addr).add j) = some u := hown.cells (g := g) rfl
      have hfo := run_firstCells_some (P := P) w.drew 1 n ⟨g, 0, none⟩ n cap xs (by simpa using hxl) (by simpa using holds)
      have hge := grownCap_ge w (n + m) cap e
      have hcm' : grownCap w (n + m) cap e ≤ maxLen := grownCap_le_maxLen w (n + m) cap e h63
      have h48a : Builtin.nextslicecap (n + m) cap * 1 ≤ 281474976710656 := growslice_fits (by omega) (by omega)
      have h48 : ¬ (281474976710656 < Builtin.nextslicecap (n + m) cap) := by omega
      have h63' : ¬ (9223372036854775807 < ((n : Int) + (m : Int))) := by unfold maxLen at h63; omega
      have hn : ¬ (n + m ≤ cap) := hroom
      refine ⟨.slice (some ⟨w.heap.size, 0, none⟩) (n + m) (grownCap w (n + m) cap e), w.drew.alloc (.cells (xs.toArray ++ (List.replicate m (Value.int .u8 0)).toArray ++ Builtin.zeroCells (Value.int .u8 0).cells (grownCap w (n + m) cap e - (n + m))) e), ?_,
        ⟨hlen, .inr ⟨w.heap.size, _, _, rfl, hbase, heap_alloc_new w.drew _, hge, hcm', ?_, ?_⟩⟩, ⟨rfl, rfl, rfl, by simp, fun k hk _ => heap_alloc_old w.drew _ hk⟩⟩
      · simp [Builtin.append_, run_underlying ht, run_underlying hu, sizeOf, typeInfo, zeroValue, hi, hz, hsize, hby, run_asInt_i64, hwr, h0, h1, hn, Nat.pos_iff_ne_zero.1 hm0, h63', h48, Question.forced, hfo, newRow, grownCap]
        congr 2
        apply Array.ext'
        simp [List.append_assoc, zeroCells_list]
      · have hz1 : (Value.int IntKind.u8 0).cells.size = 1 := rfl
        simp only [Array.size_append, List.size_toArray, size_zeroCells, hz1, hxl, List.length_replicate]
        omega
      · simp only [Array.toList_append, List.append_assoc]
        rw [← List.append_assoc, ← hlen]
        exact List.take_left

theorem wpList_append_zeros {ops : Array Oper} {rest : List Oper} {o : Oper} {a : Act} {Q : Exit → Act → World → Prop} (hgd : o.guard = none) (sl x : Operand) (t u : TypeId)
    (ho : o.op = .call { callee := .builtin .append, args := #[sl, x], argTypes := #[t, u] })
    (base : Nat) (e : TypeId) (i : TypeInfo) (ht : P.underlying t = some (.slice e)) (hu : P.underlying u = some (.int .i64)) (hi : P.info? e = some i) (hz : i.zero = some (.int .u8 0))
    (hsize : i.size = 1) (hby : i.bytes = 1)
    (v : Value) (n : Nat) (xs : List Value) (hs : a.eval sl = v) (hown : w.ownsRow base e 1 v n xs) (hn0 : 0 < n) (m : Nat) (hm0 : 0 < m) (hx : a.eval x = .int .i64 (m : Int))
    (h63 : n + m ≤ maxLen) (hbytes : n + m ≤ 140737488355328) (hbase : base ≤ w.heap.size)
    (h : ∀ v' w', w'.ownsRow base e 1 v' (n + m) (xs ++ List.replicate m (.int .u8 0)) → w.grownBy w' v.ownBlock → wpList P ops Q rest (a.put o.dst v') w') : wpList P ops Q (o :: rest) a w := by
  refine wpList_plain hgd fun K hK => ?_
  obtain ⟨v', w', hr, h2, h3⟩ := run_append_zeros (P := P) w base t u o.type e i ht hu hi hz hsize hby v n xs hown hn0 m hm0 h63 hbytes hbase
  unfold Oper.wp execOp
  simp only [ho, resolve, invoke, builtin, Sem.run_bind, Sem.run_pure, Result.andThen_ok, List.map_toArray, List.map_cons, List.map_nil, hs, hx, hr]
  exact hK _ _ (h v' w' h2 h3)
end
end Go.Proofs.YtnanjomnldfidabGreatDoor

set_option linter.unusedSimpArgs false
set_option linter.unusedVariables false
set_option linter.unusedSectionVars false
namespace Go.Proofs.YtnanjomnldfidabGreatDoor
open Go.RowKit

/-- Operations that call nothing. -/
def plainOp : Op → Bool
  | .move _ | .assign _ | .alloc _ | .load _ _ | .store _ _ _ | .nilCheck _ | .fieldAddr _ _ _ | .indexAddr _ _ _ => true
  | _ => false
theorem no_enter_v {P : Program} {w w' : World} {f : FuncId} {args : Array Value} (s : Sem Value) (h : (do pure (Next.value (← s)) : Sem Next).run P w = .ok (.enter f args) w') : False := by
  simp only [Sem.run_bind] at h
  cases hs : s.run P w with
  | ok a w1 => rw [hs] at h; simp [Result.andThen] at h
  | halt x w1 => rw [hs] at h; simp [Result.andThen] at h
theorem no_enter_u {P : Program} {w w' : World} {f : FuncId} {args : Array Value} (s : Sem Unit) (h : (do s; pure Next.skip : Sem Next).run P w = .ok (.enter f args) w') : False := by
  simp only [Sem.run_bind] at h
  cases hs : s.run P w with
  | ok a w1 => rw [hs] at h; simp [Result.andThen] at h
  | halt x w1 => rw [hs] at h; simp [Result.andThen] at h
theorem plain_no_enter {P : Program} {ρ : Operand → Value} {o : Oper} {w w' : World} {f : FuncId} {args : Array Value} (h : plainOp o.op = true) (hr : (execOp ρ o).run P w = .ok (.enter f args) w') : False := by
  unfold execOp at hr
  split at hr <;> try (simp [plainOp, *] at h; done)
  all_goals first
    | (simp at hr; done)
    | exact no_enter_v _ hr
    | exact no_enter_u _ hr
    | skip
  all_goals (
    split at hr
    all_goals first
      | (simp [runtimePanic] at hr; done)
      | skip
    all_goals (
      split at hr
      all_goals first
        | (simp [runtimePanic] at hr; done)
        | skip
      all_goals (
        simp [Result.andThen] at hr
        repeat' (split at hr)
        all_goals first
          | (simp at hr; done)
          | (simp [unsupported] at hr; done)
          | (cases hr; done)
          | (simp_all; done))))
/-- Two ends of one call are one. -/
theorem calls_agree {P : Program} {f : FuncId} {args : Array Value} {w : World} {v v' : Value} {C C' : World → Prop}
    (h : Calls P f args w fun e w' => e = .returned v ∧ C w') (h' : Calls P f args w fun e w' => e = .returned v' ∧ C' w') (hi : P.inits.idxOf? f = none) : v = v' := by
  have g : Calls P f args w fun | .returned u, _ => u = v | _, _ => False := h.mono (by rintro e w' ⟨rfl, _⟩; rfl)
  have g' : Calls P f args w fun | .returned u, _ => u = v' | _, _ => False := h'.mono (by rintro e w' ⟨rfl, _⟩; rfl)
  obtain ⟨n, u, w1, e1, r1⟩ := g.done hi
  obtain ⟨m, u', w2, e2, r2⟩ := g'.done hi
  have a := runN_ended e1 m
  have b := runN_ended e2 n
  rw [Nat.add_comm m n, a] at b
  injection b with ho hw
  injection ho with hv
  rw [← r1, ← r2]
  exact hv
/-- What is asked of worlds in such a region. -/
abbrev Ext (w w' : World) : Prop := Kept (fun k => k < w.heap.size) w w'
theorem Ext.trans {a b c : World} (h : Ext a b) (k : Ext b c) : Ext a c := Kept.trans h k.all

section
variable {P : Program} {l : List Oper} {nA nS : Nat} {oA oS : Oper}
def fakeOps (l : List Oper) (nA nS : Nat) (oA oS : Oper) (p : Nat) : List Oper := (l.set nA { oA with op := .assign (.const (.pointer (some ⟨p, 0, none⟩))) }).set nS { oS with op := .assign (.const undef) }
theorem fake_other {p i : Nat} (h1 : i ≠ nA) (h2 : i ≠ nS) : (fakeOps l nA nS oA oS p)[i]? = l[i]? := by
  unfold fakeOps
  rw [List.getElem?_set_ne (Ne.symm h2), List.getElem?_set_ne (Ne.symm h1)]
theorem fake_A {p : Nat} (hA : l[nA]? = some oA) (hne : nA ≠ nS) : (fakeOps l nA nS oA oS p)[nA]? = some { oA with op := .assign (.const (.pointer (some ⟨p, 0, none⟩))) } := by
  have hl : nA < l.length := (List.getElem?_eq_some_iff.1 hA).1
  unfold fakeOps
  rw [List.getElem?_set_ne (Ne.symm hne), List.getElem?_set_self hl]
theorem fake_S {p : Nat} (hS : l[nS]? = some oS) : (fakeOps l nA nS oA oS p)[nS]? = some { oS with op := .assign (.const undef) } := by
  have hl : nS < l.length := (List.getElem?_eq_some_iff.1 hS).1
  unfold fakeOps
  rw [List.getElem?_set_self (by simpa using hl)]
theorem fake_after {p i : Nat} (hA : l[nA]? = some oA) (hS : l[nS]? = some oS) (hne : nA ≠ nS) : (fakeOps l nA nS oA oS p)[i]?.map (·.after) = l[i]?.map (·.after) := by
  by_cases h2 : i = nS
  · subst h2; rw [fake_S hS, hS]; rfl
  · by_cases h1 : i = nA
    · subst h1; rw [fake_A hA hne, hA]; rfl
    · rw [fake_other h1 h2]
theorem fake_ready {p : Nat} (hA : l[nA]? = some oA) (hS : l[nS]? = some oS) (hne : nA ≠ nS) (i : Nat) (listed : Array Bool) :
    i ∈ Region.ready .any (fakeOps l nA nS oA oS p).toArray listed ↔ i ∈ Region.ready .any l.toArray listed := by
  have key : ∀ (x y : List Oper), x[i]?.map (·.after) = y[i]?.map (·.after) → i ∈ Region.ready .any x.toArray listed → i ∈ Region.ready .any y.toArray listed := by
    intro x y hxy h
    rw [mem_ready] at h ⊢
    obtain ⟨h0, o, ho, hall⟩ := h
    rw [List.getElem?_toArray] at ho
    rw [ho] at hxy
    simp only [Option.map_some] at hxy
    obtain ⟨o', ho', e⟩ := Option.map_eq_some_iff.1 hxy.symm
    exact ⟨h0, o', by rw [List.getElem?_toArray]; exact ho', by rw [e]; exact hall⟩
  exact ⟨key _ _ (fake_after hA hS hne), key _ _ (fake_after hA hS hne).symm⟩

/-- Nothing is ready: all has come up. -/
theorem all_listed {listed : Array Bool} (hE : (List.range l.length).all (fun i => ((l[i]?).map fun o => o.after.all fun e => decide (e.on < i)).getD true) = true) (h : Region.ready .any l.toArray listed = []) :
    ∀ i, i < l.length → listed.getD i true = true := by
  intro i
  induction i using Nat.strongRecOn with
  | _ i ih =>
    intro hi
    rcases Bool.eq_false_or_eq_true (listed.getD i true) with hb | hb
    · exact hb
    · exfalso
      have hm : i ∈ Region.ready .any l.toArray listed := by
        rw [mem_ready]
        refine ⟨hb, l[i], by rw [List.getElem?_toArray, List.getElem?_eq_getElem hi], fun e he _ => ?_⟩
        have h1 := List.all_eq_true.1 hE i (by simpa using hi)
        rw [List.getElem?_eq_getElem hi] at h1
        simp only [Option.map_some, Option.getD_some] at h1
        have h2 : e.on < i := by
          rw [Array.all_eq_true'] at h1
          simpa using h1 e he
        have h3 := ih e.on h2 (by omega)
        have hsz : i < listed.size := by
          rcases Nat.lt_or_ge i listed.size with q | q
          · exact q
          · simp [Array.getElem?_eq_none q] at hb
        have h4 : e.on < listed.size := by omega
        simp [h4] at h3 ⊢
        exact h3
      rw [h] at hm
      cases hm
end

section
variable {P : Program} {l : List Oper} {nA nS : Nat} {oA oS : Oper} {Q : Exit → Act → World → Prop} {z : Array Value} {T : TypeId} {w0 : World}
/-- The block is there. -/
def InD (w0 : World) (z : Array Value) (T : TypeId) (p : Nat) (w : World) : Prop := Ext w0 w ∧ w.heap[p]? = some (.cells z T (0, 0)) ∧ w0.heap.size ≤ p
def EndQ (P : Program) (oS : Oper) (Q : Exit → Act → World → Prop) (w0 : World) (z : Array Value) (T : TypeId) (p : Nat) (a : Act) : Prop := ∀ w, InD w0 z T p w → oS.wp P a w (fun a w => Q .normal a w) Q

theorem wanted_none {o : Oper} (h : o.guard = none) (t : Nat → Option Bool) : Region.wanted o t = true := by simp [Region.wanted, h]

theorem qOp_swap {C : World → Prop} {p i : Nat} {K : Act → Prop} {a : Act} (hG : ∀ (i : Nat) o, l[i]? = some o → o.guard = none) (h1 : i ≠ nA) (h2 : i ≠ nS) (h : qOp P (fakeOps l nA nS oA oS p).toArray C i K a) : qOp P l.toArray C i K a := by
  unfold qOp at *
  rw [List.getElem?_toArray, fake_other h1 h2] at h
  rw [List.getElem?_toArray]
  cases ho : l[i]? with
  | none => simp only [ho] at h; exact h
  | some o =>
    simp only [ho] at h ⊢
    rw [if_pos (wanted_none (hG i o ho) _)] at h
    rw [if_pos (wanted_none (hG i o ho) _)]
    exact h

theorem sim_with (hA : l[nA]? = some oA) (hS : l[nS]? = some oS) (hne : nA ≠ nS) (hdS : oS.dst = none) (hG : ∀ (i : Nat) o, l[i]? = some o → o.guard = none)
    (hE : (List.range l.length).all (fun i => ((l[i]?).map fun o => o.after.all fun e => decide (e.on < i)).getD true) = true)
    (hW : (List.range l.length).all (fun i => i == nS || oS.after.any fun e => Region.binds .any e && e.on == i) = true) (p : Nat) :
    ∀ (fuel : Nat) (listed : Array Bool) (a : Act) (w : World), listed.getD nA true = true → listed.getD nS true = false → InD w0 z T p w →
      wpAnyQ P .any (fakeOps l nA nS oA oS p).toArray (InD w0 z T p) (EndQ P oS Q w0 z T p) fuel listed a → wpAny P .any l.toArray Q fuel listed a w := by
  have hSl : nS < l.length := (List.getElem?_eq_some_iff.1 hS).1
  have hnil : ∀ listed : Array Bool, Region.ready .any (fakeOps l nA nS oA oS p).toArray listed = [] ↔ Region.ready .any l.toArray listed = [] := fun listed => by
    rw [List.eq_nil_iff_forall_not_mem, List.eq_nil_iff_forall_not_mem]
    exact ⟨fun h i hi => h i ((fake_ready hA hS hne i listed).2 hi), fun h i hi => h i ((fake_ready hA hS hne i listed).1 hi)⟩
  have hno : ∀ listed : Array Bool, listed.getD nS true = false → Region.ready .any l.toArray listed = [] → False := fun listed hs h => by
    have := all_listed hE h nS hSl
    rw [hs] at this; cases this
  intro fuel
  induction fuel with
  | zero => intro listed a w _ hs _ h; exact (hno listed hs ((hnil listed).1 h.1)).elim
  | succ fuel ih =>
    intro listed a w hla hls hw h
    refine ⟨fun h0 => (hno listed hls h0).elim, fun i hi => ?_⟩
    have hi' := (fake_ready (oA := oA) (oS := oS) (p := p) hA hS hne i listed).2 hi
    have hq := h.2 i hi'
    by_cases hiS : i = nS
    · subst hiS
      -- the store: all else has come up
      have hall : Region.ready .any l.toArray (listed.setIfInBounds i true) = [] := by
        rw [List.eq_nil_iff_forall_not_mem]
        intro j hj
        rw [mem_ready] at hj
        obtain ⟨hj0, oj, hoj, _⟩ := hj
        have hjl : j < l.length := by rw [List.getElem?_toArray] at hoj; exact (List.getElem?_eq_some_iff.1 hoj).1
        have hsz : i < listed.size := by
          rcases Nat.lt_or_ge i listed.size with q | q
          · exact q
          · simp [Array.getElem?_eq_none q] at hls
        by_cases hji : j = i
        · subst hji; simp [hsz] at hj0
        · rw [getD_set_ne true (Ne.symm hji)] at hj0
          have h1 := List.all_eq_true.1 hW j (by simpa using hjl)
          simp only [Bool.or_eq_true, beq_iff_eq, hji, false_or] at h1
          obtain ⟨e, he, hb⟩ := Array.any_eq_true'.1 h1
          simp only [Bool.and_eq_true, beq_iff_eq] at hb
          rw [mem_ready] at hi
          obtain ⟨_, o, ho, hdep⟩ := hi
          rw [List.getElem?_toArray, hS] at ho
          obtain rfl := Option.some.inj ho
          have h2 := hdep e he hb.1
          rw [hb.2] at h2
          have hjs : j < listed.size := by
            rcases Nat.lt_or_ge j listed.size with q | q
            · exact q
            · simp [Array.getElem?_eq_none q] at h2
          simp [hjs] at hj0 h2
          rw [hj0] at h2; cases h2
      have hend : EndQ P oS Q w0 z T p a := by
        unfold qOp at hq
        rw [List.getElem?_toArray, fake_S hS] at hq
        simp only at hq
        have hgS := hG i oS hS
        rw [if_pos (wanted_none (by exact hgS) _)] at hq
        obtain ⟨v, _, hk⟩ := hq
        have hk' : wpAnyQ P .any (fakeOps l nA i oA oS p).toArray (InD w0 z T p) (EndQ P oS Q w0 z T p) fuel (listed.setIfInBounds i true) a := by
          have : a.put oS.dst v = a := by rw [hdS]; rfl
          rw [← this]; exact hk
        cases fuel with
        | zero => exact hk'.2
        | succ f => exact hk'.1 ((hnil _).2 hall)
      unfold wpOp
      rw [List.getElem?_toArray, hS]
      simp only
      rw [if_pos (wanted_none (hG i oS hS) _)]
      exact .inl (Oper.wp_mono (fun a' w' hh => wpAny_done hall hh fuel) (hend w hw))
    · have hiA : i ≠ nA := fun e => by subst e; have := (mem_ready.1 hi).1; rw [hla] at this; cases this
      refine wpOp_of_qOp (C := InD w0 z T p) hw (fun a' w' hw' hk => ?_) (qOp_swap hG hiA hiS hq)
      refine ih (listed.setIfInBounds i true) a' w' ?_ ?_ hw' hk
      · rw [getD_set_ne true hiA]; exact hla
      · rw [getD_set_ne true hiS]; exact hls

theorem sim_without (hA : l[nA]? = some oA) (hS : l[nS]? = some oS) (hne : nA ≠ nS) (hdS : oS.dst = none) (hG : ∀ (i : Nat) o, l[i]? = some o → o.guard = none)
    (hE : (List.range l.length).all (fun i => ((l[i]?).map fun o => o.after.all fun e => decide (e.on < i)).getD true) = true)
    (hW : (List.range l.length).all (fun i => i == nS || oS.after.any fun e => Region.binds .any e && e.on == i) = true)
    (hAl : ∀ (a : Act) w, (execOp a.eval oA).run P w = .ok (.value (.pointer (some ⟨w.heap.size, 0, none⟩))) (w.alloc (.cells z T)))
    (hinit : ∀ (i : Nat) o (a : Act) w f args w', l[i]? = some o → (execOp a.eval o).run P w = .ok (.enter f args) w' → P.inits.idxOf? f = none) :
    ∀ (fuel : Nat) (listed : Array Bool) (a : Act) (w : World), listed.getD nA true = false → listed.getD nS true = false → Ext w0 w →
      wpAnyQ P .any (fakeOps l nA nS oA oS 0).toArray (Ext w0) (fun _ => True) fuel listed a →
      (∀ p, w0.heap.size ≤ p → wpAnyQ P .any (fakeOps l nA nS oA oS p).toArray (InD w0 z T p) (EndQ P oS Q w0 z T p) fuel listed a) → wpAny P .any l.toArray Q fuel listed a w := by
  have hAl' : nA < l.length := (List.getElem?_eq_some_iff.1 hA).1
  have hno : ∀ listed : Array Bool, listed.getD nA true = false → Region.ready .any l.toArray listed = [] → False := fun listed hs h => by
    have := all_listed hE h nA hAl'
    rw [hs] at this; cases this
  have hfull : ∀ p, w0.heap.size ≤ p → ∃ w, InD w0 z T p w := fun p hp => by
    refine ⟨{ w0 with heap := w0.heap ++ Array.replicate (p + 1 - w0.heap.size) (.cells z T (0, 0)) }, ⟨rfl, rfl, rfl, by simp, fun k hk _ => ?_⟩, ?_, hp⟩
    · show (w0.heap ++ _)[k]? = _
      rw [Array.getElem?_append_left hk]
    · show (w0.heap ++ _)[p]? = _
      rw [Array.getElem?_append_right hp, Array.getElem?_replicate, if_pos (by omega)]
  intro fuel
  induction fuel with
  | zero =>
    intro listed a w hs _ _ h _
    refine (hno listed hs ?_).elim
    have h1 := h.1
    rw [List.eq_nil_iff_forall_not_mem] at h1 ⊢
    exact fun i hi => h1 i ((fake_ready hA hS hne i listed).2 hi)
  | succ fuel ih =>
    intro listed a w hla hls hw h hp
    refine ⟨fun h0 => (hno listed hla h0).elim, fun i hi => ?_⟩
    have hi' : ∀ p, i ∈ Region.ready .any (fakeOps l nA nS oA oS p).toArray listed := fun p => (fake_ready hA hS hne i listed).2 hi
    by_cases hiS : i = nS
    · -- the store waits for the block
      subst hiS
      exfalso
      have h1 := List.all_eq_true.1 hW nA (by simpa using hAl')
      simp only [Bool.or_eq_true, beq_iff_eq, hne, false_or] at h1
      obtain ⟨e, he, hb⟩ := Array.any_eq_true'.1 h1
      simp only [Bool.and_eq_true, beq_iff_eq] at hb
      rw [mem_ready] at hi
      obtain ⟨_, o, ho, hdep⟩ := hi
      rw [List.getElem?_toArray, hS] at ho
      obtain rfl := Option.some.inj ho
      have h2 := hdep e he hb.1
      rw [hb.2] at h2
      have hjs : nA < listed.size := by
        rcases Nat.lt_or_ge nA listed.size with q | q
        · exact q
        · simp [Array.getElem?_eq_none q] at h2
      simp [hjs] at hla h2
      rw [hla] at h2; cases h2
    · by_cases hiA : i = nA
      · subst hiA
        have hlt : w0.heap.size ≤ w.heap.size := hw.size
        have hd : InD w0 z T w.heap.size (w.alloc (.cells z T)) := ⟨hw.alloc _, heap_alloc_new w _, hlt⟩
        have hq := (hp w.heap.size hlt).2 i (hi' _)
        unfold qOp at hq
        rw [List.getElem?_toArray, fake_A hA hne] at hq
        simp only at hq
        have hgA := hG i oA hA
        rw [if_pos (wanted_none (by exact hgA) _)] at hq
        obtain ⟨v, hv, hk⟩ := hq
        have hv1 := hv _ hd
        unfold Oper.quietAt at hv1
        have hrun : (execOp a.eval { oA with op := .assign (.const (.pointer (some ⟨w.heap.size, 0, none⟩))) }).run P (w.alloc (.cells z T)) = .ok (.value (.pointer (some ⟨w.heap.size, 0, none⟩))) (w.alloc (.cells z T)) := by simp [execOp, Act.eval]
        rw [hrun] at hv1
        simp only [Oper.quietUpon] at hv1
        have hve : v = .pointer (some ⟨w.heap.size, 0, none⟩) := hv1.2.symm
        subst hve
        unfold wpOp
        rw [List.getElem?_toArray, hA]
        simp only
        rw [if_pos (wanted_none hgA _)]
        refine .inl ?_
        unfold Oper.wp
        rw [hAl]
        show wpAny P .any l.toArray Q fuel _ _ _
        refine sim_with hA hS hne hdS hG hE hW w.heap.size fuel _ _ _ ?_ ?_ hd hk
        · have hsz : i < listed.size := by
            rcases Nat.lt_or_ge i listed.size with q | q
            · exact q
            · simp [Array.getElem?_eq_none q] at hla
          simp [hsz]
        · rw [getD_set_ne true hne]; exact hls
      · have hq := qOp_swap hG hiA hiS (h.2 i (hi' 0))
        have hqp : ∀ p, w0.heap.size ≤ p → qOp P l.toArray (InD w0 z T p) i (wpAnyQ P .any (fakeOps l nA nS oA oS p).toArray (InD w0 z T p) (EndQ P oS Q w0 z T p) fuel (listed.setIfInBounds i true)) a := fun p hpp => qOp_swap hG hiA hiS ((hp p hpp).2 i (hi' p))
        have hjoin : qOp P l.toArray (Ext w0) i (fun a' => wpAnyQ P .any (fakeOps l nA nS oA oS 0).toArray (Ext w0) (fun _ => True) fuel (listed.setIfInBounds i true) a' ∧
            ∀ p, w0.heap.size ≤ p → wpAnyQ P .any (fakeOps l nA nS oA oS p).toArray (InD w0 z T p) (EndQ P oS Q w0 z T p) fuel (listed.setIfInBounds i true) a') a := by
          unfold qOp at hq hqp ⊢
          simp only [List.getElem?_toArray] at hq hqp ⊢
          cases ho : l[i]? with
          | none => simp only [ho] at hq hqp ⊢; exact ⟨hq, hqp⟩
          | some o =>
            simp only [ho] at hq hqp ⊢
            have hg := hG i o ho
            rw [if_pos (wanted_none hg _)] at hq ⊢
            obtain ⟨v, hv, hk⟩ := hq
            refine ⟨v, hv, hk, fun p hpp => ?_⟩
            have h1 := hqp p hpp
            rw [if_pos (wanted_none hg _)] at h1
            obtain ⟨u, hu, hku⟩ := h1
            obtain ⟨wp, hwp⟩ := hfull p hpp
            have e1 := hv wp hwp.1
            have e2 := hu wp hwp
            unfold Oper.quietAt at e1 e2
            have huv : u = v := by
              cases hr : (execOp a.eval o).run P wp with
              | ok n w' =>
                rw [hr] at e1 e2
                cases n <;> simp only [Oper.quietUpon] at e1 e2
                case value x => rw [← e1.2, ← e2.2]
                case skip => rw [e1.2, e2.2]
                case enter f args => exact calls_agree e2.2 e1.2 (hinit i o a wp f args w' ho hr)
              | halt x w' => rw [hr] at e1; simp only [Oper.quietUpon] at e1
            rw [← huv]
            rw [← huv] at hk
            exact hku
        refine wpOp_of_qOp (C := Ext w0) hw (fun a' w' hw' hk => ?_) hjoin
        refine ih (listed.setIfInBounds i true) a' w' ?_ ?_ hw' hk.1 hk.2
        · rw [getD_set_ne true hiA]; exact hla
        · rw [getD_set_ne true hiS]; exact hls

/-- The law. -/
theorem wp_region_alloc {id : Nat} {a : Act} {w : World} (nA nS : Nat) (oA oS : Oper) (z : Array Value) (T : TypeId) (hm : P.follows .mixedOrders = true)
    (hB : ∀ p, Region.lexB .any (fakeOps l nA nS oA oS p).toArray = true)
    (hA : l[nA]? = some oA) (hS : l[nS]? = some oS) (hne : nA ≠ nS) (hdS : oS.dst = none) (hG : l.all (fun o => o.guard.isNone) = true)
    (hE : (List.range l.length).all (fun i => ((l[i]?).map fun o => o.after.all fun e => decide (e.on < i)).getD true) = true)
    (hW : (List.range l.length).all (fun i => i == nS || oS.after.any fun e => Region.binds .any e && e.on == i) = true)
    (hAl : ∀ (a : Act) w, (execOp a.eval oA).run P w = .ok (.value (.pointer (some ⟨w.heap.size, 0, none⟩))) (w.alloc (.cells z T)))
    (nC : Nat) (oC : Oper) (hC : l[nC]? = some oC) (hpl : (List.range l.length).all (fun i => i == nC || ((l[i]?).map fun o => plainOp o.op).getD true) = true)
    (hCe : ∀ (a : Act) w f args w', (execOp a.eval oC).run P w = .ok (.enter f args) w' → P.inits.idxOf? f = none)
    (h : ∀ p (K : World → Prop), (∀ w', K w' → Ext w w') → (∀ w' w'', K w' → Ext w' w'' → K w'') → wpQuiet P (fakeOps l nA nS oA oS p).toArray K (EndQ P oS Q w z T p) (fakeOps l nA nS oA oS p) a) :
    (Code.region id l.toArray true).wp P Q a w := by
  have hG' : ∀ (i : Nat) o, l[i]? = some o → o.guard = none := fun i o ho => by
    have := List.all_eq_true.1 hG o (List.mem_of_getElem? ho)
    simpa using this
  have hinit : ∀ (i : Nat) o (a : Act) w f args w', l[i]? = some o → (execOp a.eval o).run P w = .ok (.enter f args) w' → P.inits.idxOf? f = none := fun i o a w f args w' ho hr => by
    by_cases hi : i = nC
    · subst hi
      rw [hC] at ho
      obtain rfl := Option.some.inj ho
      exact hCe a w f args w' hr
    · have hil : i < l.length := (List.getElem?_eq_some_iff.1 ho).1
      have h1 := List.all_eq_true.1 hpl i (by simpa using hil)
      rw [ho] at h1
      simp [hi] at h1
      exact (plain_no_enter h1 hr).elim
  have hlen : ∀ p, (fakeOps l nA nS oA oS p).length = l.length := fun p => by unfold fakeOps; simp
  have lex : ∀ p (C : World → Prop) (R : Act → Prop), wpQuiet P (fakeOps l nA nS oA oS p).toArray C R (fakeOps l nA nS oA oS p) a → wpAnyQ P .any (fakeOps l nA nS oA oS p).toArray C R l.length (Array.replicate l.length false) a := fun p C R hq => by
    have hb := hB p
    simp only [Region.lexB, Bool.and_eq_true] at hb
    have := wpAnyQ_lex (P := P) (C := C) (Q := R) (md := .any) hb.1 (fakeOps l nA nS oA oS p) 0 (Array.replicate l.length false) a (by intro j; simp) (by have := hb.2; simpa [hlen p] using this) hq
    rw [hlen p] at this
    exact this
  have weak : ∀ (C : World → Prop) (R R' : Act → Prop) (ops : Array Oper) (m : List Oper) (a : Act), (∀ a, R a → R' a) → wpQuiet P ops C R m a → wpQuiet P ops C R' m a := by
    intro C R R' ops m
    induction m with
    | nil => intro a hR hq; exact hR a hq
    | cons o m ih =>
      intro a hR hq
      unfold wpQuiet at hq ⊢
      split
      · rename_i hw; rw [if_pos hw] at hq; exact Oper.quiet_mono (fun a' h' => ih a' hR h') hq
      · rename_i hw; rw [if_neg hw] at hq; exact ih _ hR hq
  refine wp_region_any hm ?_
  have hsz : l.toArray.size = l.length := by simp
  rw [hsz]
  have hA' : nA < l.length := (List.getElem?_eq_some_iff.1 hA).1
  have hS' : nS < l.length := (List.getElem?_eq_some_iff.1 hS).1
  refine sim_without (w0 := w) (z := z) (T := T) hA hS hne hdS hG' hE hW hAl hinit l.length _ a _ (by simp [hA']) (by simp [hS']) ?_ ?_ ?_
  · exact (Kept.refl _ w).drew
  · exact lex 0 _ _ (weak _ _ _ _ _ _ (fun _ _ => trivial) (h 0 (Ext w) (fun w' hw' => hw') (fun a b h1 h2 => h1.trans h2)))
  · exact fun p _ => lex p _ _ (h p (InD w z T p) (fun w' hw' => hw'.1) (fun a b h1 h2 => ⟨h1.1.trans h2, h2.at' h1.2.1 (lt_of_block h1.2.1), h1.2.2⟩))
theorem wpQuiet_end {ops : Array Oper} {C : World → Prop} {R : Act → Prop} {o : Oper} {a : Act} (hg : o.guard = none) (hd : o.dst = none) (ho : o.op = .assign (.const undef)) (h : R a) : wpQuiet P ops C R [o] a := by
  unfold wpQuiet
  rw [if_pos (wanted_none hg _)]
  refine ⟨undef, fun w hw => ?_, ?_⟩
  · unfold Oper.quietAt
    have hr : (execOp a.eval o).run P w = .ok (.value undef) w := by simp [execOp, ho, Act.eval]
    rw [hr]
    exact ⟨rfl, rfl⟩
  · rw [hd]; exact h
/-- A whole struct is stored into a block of its own. -/
theorem wp_store_row {op : Oper} {a : Act} {w : World} {K : Act → World → Prop} {Q : Exit → Act → World → Prop} (ty : TypeId) (x y : Operand) (ho : op.op = .store ty x y)
    (p : Nat) (cells old : Array Value) (hx : a.eval x = .pointer (some ⟨p, 0, none⟩)) (hy : a.eval y = .agg cells) (hb : w.heap[p]? = some (.cells old ty (0, 0))) (hsz : old.size = cells.size)
    (hi : (P.info? ty).map (·.size) = some cells.size) (h1 : cells.all (·.oneCell') = true)
    (h : ∀ w', w'.heap[p]? = some (.cells cells ty (0, 0)) → Kept (fun k => k ≠ p) w w' → w'.heap.size = w.heap.size → K (a.put op.dst undef) w') : op.wp P a w K Q := by
  have hst := run_storeCells_at (P := P) p 0 ty cells.toList 0 old w hb (by simp; omega) (fun v hv => (Array.all_eq_true_iff_forall_mem.1 h1) v (by simpa using hv))
  have e : (old.toList.take (0 + 0) ++ cells.toList ++ old.toList.drop (0 + 0 + cells.toList.length)).toArray = cells := by
    have : old.toList.drop (0 + 0 + cells.toList.length) = [] := by rw [List.drop_eq_nil_iff]; simp [hsz]
    rw [this]; simp
  rw [e] at hst
  have hst2 : (storeVar ty ⟨p, 0, none⟩ (.agg cells)).run P w = .ok () (w.setRow p cells) := by
    cases hq : P.info? ty with
    | none => simp [hq] at hi
    | some i =>
      have hs : cells.size = i.size := by simp [hq] at hi; omega
      simp [storeVar, sizeOf, typeInfo, hq, Value.cells, hs, hst]
  unfold Oper.wp execOp
  simp only [ho, hx, hy, Instr.storeAt, Instr.sureAddr, Sem.run_bind, Sem.run_pure, Result.andThen_ok, hst2]
  exact h _ (setRow_heap w p old cells ty (0, 0) hb) ⟨rfl, rfl, rfl, by simp [World.setRow], fun k _ hk => setRow_other w p k _ hk⟩ (by simp [World.setRow])
end
end Go.Proofs.YtnanjomnldfidabGreatDoor

set_option linter.unusedSimpArgs false
set_option linter.unusedVariables false
set_option linter.unusedSectionVars false
namespace Go.Proofs.YtnanjomnldfidabGreatDoor
open Go.RowKit

def itoaRen : Go.Shelf.Ren := ⟨fun | 171 => 43 | 243 => 62 | 246 => 91 | 283 => 105 | 284 => 106 | 285 => 107 | 286 => 108 | 129 => 113 | 317 => 112 | 318 => 114 | 319 => 115 | 320 => 116 | 337 => 118 | 338 => 119 | n => n, fun | 3 => 3 | 9 => 9 | 2 => 2 | 4 => 4 | 171 => 130 | 0 => 0 | 53 => 131 | 37 => 89 | 5 => 5 | 173 => 134 | 212 => 136 | 51 => 137 | 20 => 20 | 213 => 138 | 46 => 139 | 232 => 142 | 233 => 143 | n => n, fun | 17 => 3 | 18 => 4 | 19 => 5 | n => n⟩
theorem itoa_lays : Go.Proofs.LaysM.n171 Tryz.prog itoaRen := {
  mixed := by kernel_rfl
  f129 := Tryz.func113.trans (congrArg some (by kernel_rfl))
  f171 := Tryz.func43.trans (congrArg some (by kernel_rfl))
  f243 := Tryz.func62.trans (congrArg some (by kernel_rfl))
  f246 := Tryz.func91.trans (congrArg some (by kernel_rfl))
  f283 := Tryz.func105.trans (congrArg some (by kernel_rfl))
  f284 := Tryz.func106.trans (congrArg some (by kernel_rfl))
  f285 := Tryz.func107.trans (congrArg some (by kernel_rfl))
  f286 := Tryz.func108.trans (congrArg some (by kernel_rfl))
  f317 := Tryz.func112.trans (congrArg some (by kernel_rfl))
  f318 := Tryz.func114.trans (congrArg some (by kernel_rfl))
  f319 := Tryz.func115.trans (congrArg some (by kernel_rfl))
  f320 := Tryz.func116.trans (congrArg some (by kernel_rfl))
  f337 := Tryz.func118.trans (congrArg some (by kernel_rfl))
  f338 := Tryz.func119.trans (congrArg some (by kernel_rfl))
  t0 := Tryz.underlying0
  a0 := Tryz.isAgg0
  z0 := Tryz.sizeOf0
  v0 := Tryz.zeroValue0
  t2 := Tryz.underlying2
  a2 := Tryz.isAgg2
  z2 := Tryz.sizeOf2
  v2 := Tryz.zeroValue2
  t3 := Tryz.underlying3
  a3 := Tryz.isAgg3
  z3 := Tryz.sizeOf3
  v3 := Tryz.zeroValue3
  t4 := Tryz.underlying4
  a4 := Tryz.isAgg4
  z4 := Tryz.sizeOf4
  v4 := Tryz.zeroValue4
  t5 := Tryz.underlying5
  a5 := Tryz.isAgg5
  z5 := Tryz.sizeOf5
  v5 := Tryz.zeroValue5
  t9 := Tryz.underlying9
  a9 := Tryz.isAgg9
  z9 := Tryz.sizeOf9
  v9 := Tryz.zeroValue9
  t20 := Tryz.underlying20
  a20 := Tryz.isAgg20
  z20 := Tryz.sizeOf20
  v20 := Tryz.zeroValue20
  t37 := Tryz.underlying89
  a37 := Tryz.isAgg89
  z37 := Tryz.sizeOf89
  v37 := Tryz.zeroValue89
  t46 := Tryz.underlying139
  a46 := Tryz.isAgg139
  z46 := Tryz.sizeOf139
  v46 := Tryz.zeroValue139
  t51 := Tryz.underlying137
  a51 := Tryz.isAgg137
  z51 := Tryz.sizeOf137
  v51 := Tryz.zeroValue137
  t53 := Tryz.underlying131
  a53 := Tryz.isAgg131
  z53 := Tryz.sizeOf131
  v53 := Tryz.zeroValue131
  t171 := Tryz.underlying130
  a171 := Tryz.isAgg130
  z171 := Tryz.sizeOf130
  v171 := Tryz.zeroValue130
  t173 := Tryz.underlying134
  a173 := Tryz.isAgg134
  z173 := Tryz.sizeOf134
  v173 := Tryz.zeroValue134
  t212 := Tryz.underlying136
  a212 := Tryz.isAgg136
  z212 := Tryz.sizeOf136
  v212 := Tryz.zeroValue136
  t213 := Tryz.underlying138
  a213 := Tryz.isAgg138
  z213 := Tryz.sizeOf138
  t232 := Tryz.underlying142
  a232 := Tryz.isAgg142
  z232 := Tryz.sizeOf142
  v232 := Tryz.zeroValue142
  t233 := Tryz.underlying143
  a233 := Tryz.isAgg143
  z233 := Tryz.sizeOf143
  v233 := Tryz.zeroValue143
  g17 := by kernel_rfl
  g18 := by kernel_rfl
  g19 := by kernel_rfl
  i0 := by kernel_rfl
  i2 := by kernel_rfl
  i3 := by kernel_rfl
  i4 := by kernel_rfl
  i5 := by kernel_rfl
  i9 := by kernel_rfl
  i20 := by kernel_rfl
  i37 := by kernel_rfl
  i46 := by kernel_rfl
  i51 := by kernel_rfl
  i53 := by kernel_rfl
  i171 := by kernel_rfl
  i173 := by kernel_rfl
  i212 := by kernel_rfl
  i232 := by kernel_rfl
  i233 := by kernel_rfl
  m17 := by kernel_rfl
  m18 := by kernel_rfl
  m19 := by kernel_rfl }

theorem decL_digits (n : Nat) : Lib.decDigits n = decL n := by
  induction n using Nat.strongRecOn with
  | _ n ih =>
    by_cases h : n < 10
    · rw [Lib.decDigits, dif_pos h, decL_small h]
      have : byteOf (48 + (n : Int)) = UInt8.ofNat (48 + n) := by
        unfold byteOf
        congr 1
        omega
      rw [this]
    · rw [Lib.decDigits, dif_neg h, decL_big h, ih (n / 10) (by omega)]
      have : byteOf (48 + (n : Int) % 10) = UInt8.ofNat (48 + n % 10) := by
        unfold byteOf
        congr 1
        omega
      rw [← this]
theorem Kept.grew {P : Nat → Prop} {w : World} {k : Nat} {os : Array Obj} : Kept P w (Go.Sort.grow (w.drewN k) os) := by
  have h := Kept.drewN P w k
  refine h.trans ⟨rfl, rfl, rfl, ?_, fun j hj _ => ?_⟩
  · simp [Go.Sort.grow]
  · show (((w.drewN k).heap ++ os)[j]?) = _
    rw [Array.getElem?_append_left hj]
/-- strconv.Itoa of a number that is not below 0. -/
theorem itoa_any (n : Nat) (hn : n ≤ 1000000) (w : World) (ht : TenAt w) : Calls Tryz.prog 43 #[.int .i64 (n : Int)] w fun e w' => e = .returned (.string (mkB (decL n))) ∧ Kept (fun k => k < w.heap.size) w w' := by
  refine (Any.strconv_Itoa itoa_lays (n : Int) (by omega) (by omega) w ht).mono ?_
  rintro e w' ⟨rfl, k, os, rfl⟩
  refine ⟨?_, Kept.grew⟩
  rw [Lib.itoa_nonneg, decL_digits]
  rfl
end Go.Proofs.YtnanjomnldfidabGreatDoor

set_option linter.unusedSimpArgs false
set_option linter.unusedVariables false
set_option linter.unusedSectionVars false
namespace Go.Proofs.YtnanjomnldfidabGreatDoor
open Go.RowKit

/-- Bytes as cells. -/
def uL (l : List UInt8) : List Value := l.map fun b => Value.int .u8 (b.toNat : Int)
theorem uL_append (a b : List UInt8) : uL (a ++ b) = uL a ++ uL b := by unfold uL; rw [List.map_append]
theorem uL_str (s : ByteArray) : Lib.strCells s = uL s.toList := by unfold Lib.strCells uL; rw [ByteArray.toList_eq]
theorem uL_zeros (m : Nat) : List.replicate m (Value.int .u8 0) = uL (List.replicate m 0) := by unfold uL; rw [List.map_replicate]; rfl
theorem uL_len (l : List UInt8) : (uL l).length = l.length := by unfold uL; rw [List.length_map]

set_option maxRecDepth 100000 in
set_option maxHeartbeats 1000000 in
theorem hidAhead_any (w : World) (v : Value) (ts : List TestV) (hT : TestsAt w v ts) (hl : ts.length ≤ 6) (hh : ∀ i, i < ts.length → (ts.getD i noTest).hidden.size ≤ 32) (n : Nat) (hn : n ≤ ts.length) :
    Calls Tryz.prog 21 #[v, .int .i64 (n : Int)] w fun e w' => e = .returned (.int .i64 ((hidL ts n).length : Int)) ∧ w' = w := by
  have hle := hidL_le hh
  rcases hT with ⟨rfl, a, cap, rfl⟩ | ⟨b, o, cap, rfl, hab, hc⟩
  · have hn0 : n = 0 := by simpa using hn
    subst hn0
    clear hh hle hl hn
    go_enter Tryz.func21, Tryz.ntmps21
    go_wp2
    go_loop [5, 6] (fun s i => s = .int .i64 0 ∧ i = .int .i64 0) (fun _ _ => 0)
    case atStart => exact ⟨rfl, rfl⟩
    case round =>
      obtain ⟨rfl, rfl⟩ := hrel
      go_wp2
      go_ret
      exact ⟨rfl, rfl⟩
  · have HC := hide hc
    have HLE := hide hle
    have HH := hide hh
    clear hc hle hh
    go_enter Tryz.func21, Tryz.ntmps21
    go_wp2
    go_loop [5, 6] (fun s i => ∃ k : Nat, k ≤ n ∧ i = .int .i64 k ∧ s = .int .i64 ((hidL ts k).length : Int)) (fun _ i => n - (intOf i).toNat)
    case atStart => exact ⟨0, Nat.zero_le _, rfl, rfl⟩
    case round =>
      obtain ⟨k, hk, rfl, rfl⟩ := hrel
      by_cases hlt : k < n
      · have hlt2 : k < ts.length := by omega
        obtain ⟨e0, e1⟩ := HC.out k hlt2
        have hs1 := HLE.out k (by omega)
        have hs2 := HH.out k hlt2
        have hst : Hid (((hidL ts (k + 1)).length : Int) = ((hidL ts k).length : Int) + ((ts.getD k noTest).hidden.size : Int)) := by
          unfold Hid
          rw [hidL_step hlt2, List.length_append, toList_len]; omega
        have hb1 : ((hidL ts k).length : Int) ≤ 192 := by omega
        have hb0 : 0 ≤ ((hidL ts k).length : Int) := by omega
        clear hs1
        generalize (ts.getD k noTest).hidden = hd at *
        generalize (ts.getD k noTest).inp = ip at *
        generalize ((hidL ts k).length : Int) = sk at *
        go_wp2
        go_round
        case rel => exact ⟨k + 1, by omega, by go_num, by rw [hst.out]⟩
        case measure => simp [intOf]; omega
      · have hke : k = n := by omega
        subst hke
        by_cases hlt2 : k < ts.length
        · go_wp2
          go_ret
          exact ⟨rfl, rfl⟩
        · go_wp2
          go_ret
          exact ⟨rfl, rfl⟩

theorem image_conv (w : World) (v : Value) (base n : Nat) (l : List UInt8) (h : w.ownsRow base 5 1 v n (uL l)) (hn : 0 < n) : (convert 89 9 v).run Tryz.prog w = .ok (.string (mkB l)) w := by
  obtain ⟨g, cap, rfl⟩ := own_form h hn
  have hl : l.length = n := by have := h.1; rw [uL_len] at this; omega
  have := run_convert_bytes_back (P := Tryz.prog) w 89 9 5 ⟨g, 0, none⟩ cap l Tryz.underlying89 Tryz.underlying5 Tryz.underlying9 fun j hj => by
    refine World.ownsRow.cells (g := g) (h := h) rfl j _ ?_
    unfold uL
    rw [List.getElem?_map, List.getElem?_eq_getElem hj]; rfl
  rw [hl] at this
  exact this
theorem Tryz.infoU8 : (Tryz.prog.info? 5).map (fun i => (i.zero, i.size, i.bytes)) = some (some (.int .u8 0), 1, 1) := by kernel_rfl
theorem head_row (w : World) (a b c d : Int) (ha : 0 ≤ a) (ha' : a < 256) (hb : 0 ≤ b) (hb' : b < 256) (hc : 0 ≤ c) (hc' : c < 256) (hd : 0 ≤ d) (hd' : d < 256) :
    (w.alloc (.cells #[.int .u8 a, .int .u8 b, .int .u8 c, .int .u8 d] 5)).ownsRow w.heap.size 5 1 (.slice (some ⟨w.heap.size, 0, none⟩) 4 4) 4 (uL [byteOf a, byteOf b, byteOf c, byteOf d]) := by
  refine ⟨rfl, .inr ⟨w.heap.size, 4, _, rfl, Nat.le_refl _, heap_alloc_new w _, Nat.le_refl _, by unfold maxLen; omega, rfl, ?_⟩⟩
  show [Value.int .u8 a, .int .u8 b, .int .u8 c, .int .u8 d] = [Value.int .u8 ((byteOf a).toNat : Int), .int .u8 ((byteOf b).toNat : Int), .int .u8 ((byteOf c).toNat : Int), .int .u8 ((byteOf d).toNat : Int)]
  rw [byteOf_nat' ha ha', byteOf_nat' hb hb', byteOf_nat' hc hc', byteOf_nat' hd hd']

set_option maxRecDepth 100000 in
set_option maxHeartbeats 1000000 in
theorem image_any (w : World) (v : Value) (ts : List TestV) (hT : TestsAt w v ts) (hl : ts.length ≤ 6) (hh : ∀ i, i < ts.length → (ts.getD i noTest).hidden.size ≤ 32) (i : Nat) (hi : i < ts.length) :
    Calls Tryz.prog 22 #[v, .int .i64 (i : Int)] w fun e w' => e = .returned (.string (mkB (imageL ts i))) ∧ Kept (fun k => k < w.heap.size) w w' := by
  have HA := hide (hidAhead_any w v ts hT hl hh i (by omega))
  have hle := hidL_le hh
  rcases hT with ⟨rfl, a, cap, rfl⟩ | ⟨b, o, cap, rfl, hab, hc⟩
  · simp at hi
  obtain ⟨e0, e1⟩ := hc i hi
  have hs2 := hh i hi
  have hle1 := hle i (by omega)
  obtain ⟨i0, hi0, hz0, hz1, hz2⟩ := info_parts Tryz.infoU8
  have hrow := head_row w (i : Int) (ts.length : Int) (4 + ((hidL ts i).length : Int)) ((ts.getD i noTest).hidden.size : Int) (by omega) (by omega) (by omega) (by omega) (by omega) (by omega) (by omega) (by omega)
  have hhd : [byteOf (i : Int), byteOf (ts.length : Int), byteOf (4 + ((hidL ts i).length : Int)), byteOf ((ts.getD i noTest).hidden.size : Int)] = headL ts i := rfl
  rw [hhd] at hrow
  have HROW := hide hrow
  have hk : Hid (Kept (fun k => k < w.heap.size) w (w.alloc (.cells #[.int .u8 (i : Int), .int .u8 (ts.length : Int), .int .u8 (4 + ((hidL ts i).length : Int)), .int .u8 ((ts.getD i noTest).hidden.size : Int)] 5))) := (Kept.refl _ w).alloc _
  have HC := hide hc
  have HLE := hide hle
  have HH := hide hh
  have HIM : Hid (imageL ts i = headL ts i ++ hidL ts ts.length ++ List.replicate 32 0) := rfl
  have HLN : Hid ((headL ts i).length = 4) := rfl
  obtain ⟨hdL, hhdL⟩ : ∃ x, x = headL ts i := ⟨_, rfl⟩
  rw [← hhdL] at HROW HIM HLN
  obtain ⟨im, him⟩ : ∃ x, x = imageL ts i := ⟨_, rfl⟩
  rw [← him] at HIM ⊢
  clear hc hle hh hrow hhd him hhdL
  generalize (ts.getD i noTest).hidden = hd at *
  generalize (ts.getD i noTest).inp = ip at *
  generalize hL0 : ((hidL ts i).length : Int) = n1 at *
  have hn1 : 0 ≤ n1 := by omega
  have hn2 : n1 ≤ 192 := by omega
  clear hle1 hL0
  go_enter Tryz.func22, Tryz.ntmps22
  go_wp2_with fail
  refine (unhide HA).mono ?_
  rintro e w1 ⟨rfl, rfl⟩
  clear HA
  go_wp2
  go_loopw [7, 8] (fun x j wr => ∃ k : Nat, k ≤ ts.length ∧ j = .int .i64 k ∧ Hid (wr.ownsRow w1.heap.size 5 1 x (4 + (hidL ts k).length) (uL (hdL ++ hidL ts k))) ∧ Hid (Kept (fun k => k < w1.heap.size) w1 wr)) (fun _ j _ => ts.length - (intOf j).toNat)
  case atStart =>
    refine ⟨0, Nat.zero_le _, rfl, ?_, hk⟩
    have : hidL ts 0 = [] := by unfold hidL; rfl
    unfold Hid
    rw [this, List.append_nil]
    exact HROW.out
  case round =>
    obtain ⟨k, hk2, rfl, hrw, hkw⟩ := hrel
    by_cases hlt : k < ts.length
    · obtain ⟨f0, f1⟩ := HC.out k hlt
      have g1 : wr.cell? ⟨b, o + k * 2 + 1, none⟩ = some (.string (ts.getD k noTest).hidden) := by rw [hkw.out.cell (p := ⟨b, o + k * 2 + 1, none⟩) hab hab]; exact f1
      have hbw : b < wr.heap.size := Nat.lt_of_lt_of_le hab hkw.out.size
      have hs1 := HLE.out k (by omega)
      have hs3 := HH.out k hlt
      have hst : Hid (4 + (hidL ts (k + 1)).length = 4 + (hidL ts k).length + (ts.getD k noTest).hidden.size ∧ uL (hdL ++ hidL ts (k + 1)) = uL (hdL ++ hidL ts k) ++ Lib.strCells (ts.getD k noTest).hidden) := by
        refine ⟨?_, ?_⟩
        · rw [hidL_step hlt, List.length_append, toList_len]; omega
        · rw [hidL_step hlt, uL_str, ← uL_append, List.append_assoc]
      generalize (ts.getD k noTest).hidden = hdk at *
      generalize (ts.getD k noTest).inp = ipk at *
      clear f0 f1
      go_wp2_with (at_builtin; refine Lib.wpList_append_own_string _ rfl _ _ 89 9 rfl w1.heap.size 5 i0 Tryz.underlying89 Tryz.underlying9 hi0 hz0 hz1 hz2 _ _ _ rfl hrw.out hdk rfl ?c1 ?c2 ?c3 ?_)
      case c1 => unfold maxLen; omega
      case c2 => omega
      case c3 => exact hkw.out.size
      intro v' w2 hown' hgrow _
      have hro : Hid (w2.ownsRow w1.heap.size 5 1 v' (4 + (hidL ts (k + 1)).length) (uL (hdL ++ hidL ts (k + 1)))) := by unfold Hid; rw [hst.out.1, hst.out.2]; exact hown'
      have hk3 : Hid (Kept (fun k => k < w1.heap.size) w1 w2) := hkw.out.grown hgrow (fun q hq => by have := (World.ownsRow.lt hrw.out q hq).1; omega)
      clear hown' hgrow hst
      go_wp2
      go_roundw
      case rel => exact ⟨k + 1, by omega, by go_num, hro, hk3⟩
      case measure => simp [intOf]; omega
    · have hke : k = ts.length := by omega
      subst hke
      have hs1 := HLE.out ts.length (by omega)
      have hcn : Hid (4 + (hidL ts ts.length).length + 32 = 36 + (hidL ts ts.length).length ∧ uL (hdL ++ hidL ts ts.length) ++ List.replicate 32 (Value.int .u8 0) = uL im) := by
        refine ⟨by omega, ?_⟩
        rw [HIM.out, uL_zeros, ← uL_append]
      go_wp2_with (at_builtin; refine wpList_append_zeros _ rfl _ _ 89 3 rfl w1.heap.size 5 i0 Tryz.underlying89 Tryz.underlying3 hi0 hz0 hz1 hz2 _ _ _ rfl hrw.out ?c0 32 (by decide) rfl ?c1 ?c2 ?c3 ?_)
      case c0 => omega
      case c1 => unfold maxLen; omega
      case c2 => omega
      case c3 => exact hkw.out.size
      intro v' w2 hown' hgrow
      have hown2 : w2.ownsRow w1.heap.size 5 1 v' (36 + (hidL ts ts.length).length) (uL im) := by rw [← hcn.out.2, ← hcn.out.1]; exact hown'
      have hcv := image_conv w2 v' _ _ im hown2 (by omega)
      clear hown2
      have hk3 : Hid (Kept (fun k => k < w1.heap.size) w1 w2) := hkw.out.grown hgrow (fun q hq => by have := (World.ownsRow.lt hrw.out q hq).1; omega)
      clear hown' hgrow hcn
      go_wp2
      go_ret
      exact ⟨rfl, hk3.out⟩
end Go.Proofs.YtnanjomnldfidabGreatDoor

set_option linter.unusedSimpArgs false
set_option linter.unusedVariables false
set_option linter.unusedSectionVars false
namespace Go.Proofs.YtnanjomnldfidabGreatDoor
open Go.RowKit

theorem bsize_app (a b : ByteArray) : (a ++ b).size = a.size + b.size := by rw [← toList_len, toList_append, List.length_append, toList_len, toList_len]

set_option maxRecDepth 100000 in
set_option maxHeartbeats 1000000 in
theorem line_any (r : Res) (ne nu : Nat) (hne : r.err = ne) (hnu : r.used = nu) (h1 : ne ≤ 1000) (h2 : nu ≤ 100000) (h3 : r.out.length ≤ 1000) (w : World) (hT : TenAt w) :
    Calls Tryz.prog 24 #[.agg #[.string (mkB r.out), .string (mkB r.image), .int .i64 r.mark, .int .i64 r.used, .int .i64 r.err]] w fun e w' => e = .returned (.string (mkB (lineL r))) ∧ Kept (fun k => k < w.heap.size) w w' := by
  have hln : lineL r = decL ne ++ [32] ++ decL nu ++ [32] ++ decL r.out.length ++ [58] ++ r.out ++ [10] := by unfold lineL; rw [hne, hnu]; rfl
  rw [hln, hne, hnu]
  clear hln hne hnu
  obtain ⟨so, hso⟩ : ∃ x, x = mkB r.out := ⟨_, rfl⟩
  obtain ⟨si, hsi⟩ : ∃ x, x = mkB r.image := ⟨_, rfl⟩
  have hsz : so.size ≤ 1000 := by rw [hso, mkB_size]; exact h3
  have hrs : r.out.length = so.size := by rw [hso, mkB_size]
  have hro : ∀ a b : List UInt8, mkB (a ++ r.out ++ b) = mkB a ++ so ++ mkB b := fun a b => by rw [hso, mkB_append, mkB_append]
  rw [hro, hrs, ← hso, ← hsi]
  clear hso hsi hro hrs h3
  generalize r.mark = mk at *
  clear r
  obtain ⟨wA, hwA⟩ : ∃ wA, wA = w.alloc (.cells #[.string so, .string si, .int .i64 mk, .int .i64 (nu : Int), .int .i64 (ne : Int)] 69) := ⟨_, rfl⟩
  have hbA : wA.heap[w.heap.size]? = some (.cells #[.string so, .string si, .int .i64 mk, .int .i64 (nu : Int), .int .i64 (ne : Int)] 69 (0, 0)) := by rw [hwA]; exact heap_alloc_new w _
  have KKA : Hid (Kept (fun k => k < w.heap.size) w wA) := by unfold Hid; rw [hwA]; exact (Kept.refl _ w).alloc _
  have hTA : Hid (TenAt wA) := hT.kept KKA.out hT.lt
  have HWA := hide hwA
  have HBA := hide hbA
  have hltA := lt_of_block hbA
  have HItoa := hide itoa_any
  obtain ⟨C, hC⟩ : ∃ C : World → Prop, C = fun w' => Kept (fun k => k < wA.heap.size) wA w' := ⟨_, rfl⟩
  have hC0 : Hid (C { wA with drawn := wA.drawn + 1 }) := by unfold Hid; rw [hC]; exact (Kept.refl _ wA).drew
  have hcell : ∀ w', C w' → w'.heap[w.heap.size]? = some (.cells #[.string so, .string si, .int .i64 mk, .int .i64 (nu : Int), .int .i64 (ne : Int)] 69 (0, 0)) := fun w' hw' => by rw [hC] at hw'; exact hw'.at' HBA.out hltA
  have HLT9 := hide (fun w' (hw' : C w') => lt_of_block (hcell w' hw'))
  have HC0 := hide (fun w' (hw' : C w') => cell_of_block (hcell w' hw') 0 _ rfl)
  have HC3 := hide (fun w' (hw' : C w') => cell_of_block (hcell w' hw') 3 _ rfl)
  have HC4 := hide (fun w' (hw' : C w') => cell_of_block (hcell w' hw') 4 _ rfl)
  have HHC := hide hC
  clear hcell hC hbA hwA hT
  have hd1 : ∀ (n : Nat), n ≤ 1000000 → ∀ w', C w' → Calls Tryz.prog 43 #[.int .i64 (n : Int)] w' fun e w'' => e = .returned (.string (mkB (decL n))) ∧ C w'' := by
    intro n hn w' hw'
    have hw2 : Kept (fun k => k < wA.heap.size) wA w' := by have h1 := HHC.out; subst h1; exact hw'
    refine ((unhide HItoa) n hn w' (hTA.out.kept hw2 hTA.out.lt)).mono ?_
    rintro e w'' ⟨rfl, kq⟩
    refine ⟨rfl, ?_⟩
    have h1 := HHC.out
    subst h1
    exact hw2.trans kq.all
  obtain ⟨dE, hdE⟩ : ∃ x, x = mkB (decL ne) := ⟨_, rfl⟩
  obtain ⟨dU, hdU⟩ : ∃ x, x = mkB (decL nu) := ⟨_, rfl⟩
  obtain ⟨dO, hdO⟩ : ∃ x, x = mkB (decL so.size) := ⟨_, rfl⟩
  have q1 := hd1 ne (by omega)
  have q2 := hd1 nu (by omega)
  have q3 := hd1 so.size (by omega)
  rw [← hdE] at q1
  rw [← hdU] at q2
  rw [← hdO] at q3
  have zE : dE.size ≤ 1001 := by have := decL_le ne; rw [hdE, mkB_size]; omega
  have zU : dU.size ≤ 100001 := by have := decL_le nu; rw [hdU, mkB_size]; omega
  have zO : dO.size ≤ 1001 := by have := decL_le so.size; rw [hdO, mkB_size]; omega
  have Q1 := hide q1
  have Q2 := hide q2
  have Q3 := hide q3
  clear hd1 q1 q2 q3 HItoa
  obtain ⟨x1, hx1⟩ : ∃ x, dE ++ (⟨#[32]⟩ : ByteArray) = x := ⟨_, rfl⟩
  obtain ⟨x2, hx2⟩ : ∃ x, x1 ++ dU = x := ⟨_, rfl⟩
  obtain ⟨x3, hx3⟩ : ∃ x, x2 ++ (⟨#[32]⟩ : ByteArray) = x := ⟨_, rfl⟩
  obtain ⟨x4, hx4⟩ : ∃ x, x3 ++ dO = x := ⟨_, rfl⟩
  obtain ⟨x5, hx5⟩ : ∃ x, x4 ++ (⟨#[58]⟩ : ByteArray) = x := ⟨_, rfl⟩
  obtain ⟨x6, hx6⟩ : ∃ x, x5 ++ so = x := ⟨_, rfl⟩
  obtain ⟨x7, hx7⟩ : ∃ x, x6 ++ (⟨#[10]⟩ : ByteArray) = x := ⟨_, rfl⟩
  have y1 : x1.size = dE.size + 1 := by rw [← hx1, bsize_app]; rfl
  have y2 : x2.size = x1.size + dU.size := by rw [← hx2, bsize_app]
  have y3 : x3.size = x2.size + 1 := by rw [← hx3, bsize_app]; rfl
  have y4 : x4.size = x3.size + dO.size := by rw [← hx4, bsize_app]
  have y5 : x5.size = x4.size + 1 := by rw [← hx5, bsize_app]; rfl
  have y6 : x6.size = x5.size + so.size := by rw [← hx6, bsize_app]
  have a1 : dE.size + (⟨#[32]⟩ : ByteArray).size ≤ 9223372036854775807 := by show dE.size + 1 ≤ _; omega
  have a2 : x1.size + dU.size ≤ 9223372036854775807 := by omega
  have a3 : x2.size + (⟨#[32]⟩ : ByteArray).size ≤ 9223372036854775807 := by show x2.size + 1 ≤ _; omega
  have a4 : x3.size + dO.size ≤ 9223372036854775807 := by omega
  have a5 : x4.size + (⟨#[58]⟩ : ByteArray).size ≤ 9223372036854775807 := by show x4.size + 1 ≤ _; omega
  have a6 : x5.size + so.size ≤ 9223372036854775807 := by omega
  have a7 : x6.size + (⟨#[10]⟩ : ByteArray).size ≤ 9223372036854775807 := by show x6.size + 1 ≤ _; omega
  have hX : mkB (decL ne ++ [32] ++ decL nu ++ [32] ++ decL so.size ++ [58]) ++ so ++ mkB [10] = x7 := by
    rw [← hx7, ← hx6, ← hx5, ← hx4, ← hx3, ← hx2, ← hx1, hdE, hdU, hdO]
    simp only [← mkB_append]
    rfl
  rw [hX]
  clear hX hdE hdU hdO y1 y2 y3 y4 y5 y6 zE zU zO
  go_enter Tryz.func24, Tryz.ntmps24
  go_wp2
  rw [show w.alloc (.cells #[.string so, .string si, .int .i64 mk, .int .i64 (nu : Int), .int .i64 (ne : Int)] 69) = wA from HWA.out.symm]
  have c0 := HC0.out
  have c3 := HC3.out
  have c4 := HC4.out
  have hlt9 := HLT9.out
  have q1 := Q1.out
  have q2 := Q2.out
  have q3 := Q3.out
  refine wp_region_quiet (C := C) (by kernel_rfl) (by kernel_rfl) hC0.out ?_
  simp only [List.toList_toArray]
  quiet_step ((intro hw9; rfl))
  quiet_step ((intro hw9; rw [c4 _ hw9]; exact ⟨rfl, rfl⟩))
  quiet_step ((intro hw9; exact q1 _ hw9))
  quiet_step ((intro hw9; rw [if_neg (by first | omega | exact Nat.not_lt.mpr a1)]; exact ⟨rfl, rfl⟩))
  quiet_step ((intro hw9; rfl))
  quiet_step ((intro hw9; rw [c3 _ hw9]; exact ⟨rfl, rfl⟩))
  quiet_step ((intro hw9; exact q2 _ hw9))
  quiet_step ((intro hw9; rw [if_neg (by first | omega | exact Nat.not_lt.mpr a2)]; exact ⟨rfl, rfl⟩))
  quiet_step ((intro hw9; rw [if_neg (by first | omega | exact Nat.not_lt.mpr a3)]; exact ⟨rfl, rfl⟩))
  quiet_step ((intro hw9; rfl))
  quiet_step ((intro hw9; rw [c0 _ hw9]; exact ⟨rfl, rfl⟩))
  quiet_step ((intro hw9; rfl))
  quiet_step ((intro hw9; exact q3 _ hw9))
  quiet_step ((intro hw9; rw [if_neg (by first | omega | exact Nat.not_lt.mpr a4)]; exact ⟨rfl, rfl⟩))
  quiet_step ((intro hw9; rfl))
  refine wpQuiet_nil ?_
  intro w3 hw3
  have e0 := c0 w3 hw3
  have elt := hlt9 w3 hw3
  have kA3 : Kept (fun k => k < wA.heap.size) wA w3 := by have h1 := HHC.out; subst h1; exact hw3
  have fin : Hid (Kept (fun k => k < w.heap.size) w w3) := KKA.out.trans kA3.all
  clear c0 c3 c4 hlt9 q1 q2 q3 Q1 Q2 Q3 HC0 HC3 HC4 HLT9 HHC kA3 hw3 hC0 a1 a2 a3 a4
  go_wp2
  go_ret
  exact ⟨rfl, fin.out⟩

set_option maxRecDepth 100000 in
set_option maxHeartbeats 1000000 in
theorem mark_any (r : Res) (ne nm : Nat) (hne : r.err = ne) (hnm : r.mark = nm) (h1 : ne ≤ 1000) (h2 : nm ≤ 100000) (w : World) (hT : TenAt w) :
    Calls Tryz.prog 25 #[.agg #[.string (mkB r.out), .string (mkB r.image), .int .i64 r.mark, .int .i64 r.used, .int .i64 r.err]] w fun e w' => e = .returned (.string (mkB (markL r))) ∧ Kept (fun k => k < w.heap.size) w w' := by
  have hln : markL r = decL nm ++ [32] ++ decL ne ++ [10] := by unfold markL; rw [hne, hnm]; rfl
  rw [hln, hne, hnm]
  clear hln hne hnm
  obtain ⟨so, hso⟩ : ∃ x, x = mkB r.out := ⟨_, rfl⟩
  obtain ⟨si, hsi⟩ : ∃ x, x = mkB r.image := ⟨_, rfl⟩
  rw [← hso, ← hsi]
  clear hso hsi
  generalize r.used = us at *
  clear r
  obtain ⟨wA, hwA⟩ : ∃ wA, wA = w.alloc (.cells #[.string so, .string si, .int .i64 (nm : Int), .int .i64 us, .int .i64 (ne : Int)] 69) := ⟨_, rfl⟩
  have hbA : wA.heap[w.heap.size]? = some (.cells #[.string so, .string si, .int .i64 (nm : Int), .int .i64 us, .int .i64 (ne : Int)] 69 (0, 0)) := by rw [hwA]; exact heap_alloc_new w _
  have KKA : Hid (Kept (fun k => k < w.heap.size) w wA) := by unfold Hid; rw [hwA]; exact (Kept.refl _ w).alloc _
  have hTA : Hid (TenAt wA) := hT.kept KKA.out hT.lt
  have HWA := hide hwA
  have HBA := hide hbA
  have hltA := lt_of_block hbA
  have HItoa := hide itoa_any
  obtain ⟨C, hC⟩ : ∃ C : World → Prop, C = fun w' => Kept (fun k => k < wA.heap.size) wA w' := ⟨_, rfl⟩
  have hC0 : Hid (C { wA with drawn := wA.drawn + 1 }) := by unfold Hid; rw [hC]; exact (Kept.refl _ wA).drew
  have hcell : ∀ w', C w' → w'.heap[w.heap.size]? = some (.cells #[.string so, .string si, .int .i64 (nm : Int), .int .i64 us, .int .i64 (ne : Int)] 69 (0, 0)) := fun w' hw' => by rw [hC] at hw'; exact hw'.at' HBA.out hltA
  have HLT9 := hide (fun w' (hw' : C w') => lt_of_block (hcell w' hw'))
  have HC2 := hide (fun w' (hw' : C w') => cell_of_block (hcell w' hw') 2 _ rfl)
  have HC4 := hide (fun w' (hw' : C w') => cell_of_block (hcell w' hw') 4 _ rfl)
  have HHC := hide hC
  clear hcell hC hbA hwA hT
  have hd1 : ∀ (n : Nat), n ≤ 1000000 → ∀ w', C w' → Calls Tryz.prog 43 #[.int .i64 (n : Int)] w' fun e w'' => e = .returned (.string (mkB (decL n))) ∧ C w'' := by
    intro n hn w' hw'
    have hw2 : Kept (fun k => k < wA.heap.size) wA w' := by have h1 := HHC.out; subst h1; exact hw'
    refine ((unhide HItoa) n hn w' (hTA.out.kept hw2 hTA.out.lt)).mono ?_
    rintro e w'' ⟨rfl, kq⟩
    refine ⟨rfl, ?_⟩
    have h1 := HHC.out
    subst h1
    exact hw2.trans kq.all
  obtain ⟨dM, hdM⟩ : ∃ x, x = mkB (decL nm) := ⟨_, rfl⟩
  obtain ⟨dE, hdE⟩ : ∃ x, x = mkB (decL ne) := ⟨_, rfl⟩
  have q1 := hd1 nm (by omega)
  have q2 := hd1 ne (by omega)
  rw [← hdM] at q1
  rw [← hdE] at q2
  have zM : dM.size ≤ 100001 := by have := decL_le nm; rw [hdM, mkB_size]; omega
  have zE : dE.size ≤ 1001 := by have := decL_le ne; rw [hdE, mkB_size]; omega
  have Q1 := hide q1
  have Q2 := hide q2
  clear hd1 q1 q2 HItoa
  obtain ⟨x1, hx1⟩ : ∃ x, dM ++ (⟨#[32]⟩ : ByteArray) = x := ⟨_, rfl⟩
  obtain ⟨x2, hx2⟩ : ∃ x, x1 ++ dE = x := ⟨_, rfl⟩
  obtain ⟨x3, hx3⟩ : ∃ x, x2 ++ (⟨#[10]⟩ : ByteArray) = x := ⟨_, rfl⟩
  have y1 : x1.size = dM.size + 1 := by rw [← hx1, bsize_app]; rfl
  have y2 : x2.size = x1.size + dE.size := by rw [← hx2, bsize_app]
  have a1 : dM.size + (⟨#[32]⟩ : ByteArray).size ≤ 9223372036854775807 := by show dM.size + 1 ≤ _; omega
  have a2 : x1.size + dE.size ≤ 9223372036854775807 := by omega
  have a3 : x2.size + (⟨#[10]⟩ : ByteArray).size ≤ 9223372036854775807 := by show x2.size + 1 ≤ _; omega
  have hX : mkB (decL nm ++ [32] ++ decL ne ++ [10]) = x3 := by
    rw [← hx3, ← hx2, ← hx1, hdM, hdE]
    simp only [← mkB_append]
    rfl
  rw [hX]
  clear hX hdM hdE y1 y2 zM zE
  go_enter Tryz.func25, Tryz.ntmps25
  go_wp2
  rw [show w.alloc (.cells #[.string so, .string si, .int .i64 (nm : Int), .int .i64 us, .int .i64 (ne : Int)] 69) = wA from HWA.out.symm]
  have c2 := HC2.out
  have c4 := HC4.out
  have hlt9 := HLT9.out
  have q1 := Q1.out
  have q2 := Q2.out
  refine wp_region_quiet (C := C) (by kernel_rfl) (by kernel_rfl) hC0.out ?_
  simp only [List.toList_toArray]
  quiet_step ((intro hw9; rfl))
  quiet_step ((intro hw9; rw [c2 _ hw9]; exact ⟨rfl, rfl⟩))
  quiet_step ((intro hw9; exact q1 _ hw9))
  quiet_step ((intro hw9; rw [if_neg (by first | omega | exact Nat.not_lt.mpr a1)]; exact ⟨rfl, rfl⟩))
  quiet_step ((intro hw9; rfl))
  quiet_step ((intro hw9; rw [c4 _ hw9]; exact ⟨rfl, rfl⟩))
  quiet_step ((intro hw9; exact q2 _ hw9))
  quiet_step ((intro hw9; rw [if_neg (by first | omega | exact Nat.not_lt.mpr a2)]; exact ⟨rfl, rfl⟩))
  quiet_step ((intro hw9; rw [if_neg (by first | omega | exact Nat.not_lt.mpr a3)]; exact ⟨rfl, rfl⟩))
  quiet_step ((intro hw9; rfl))
  refine wpQuiet_nil ?_
  intro w3 hw3
  have kA3 : Kept (fun k => k < wA.heap.size) wA w3 := by have h1 := HHC.out; subst h1; exact hw3
  have fin : Hid (Kept (fun k => k < w.heap.size) w w3) := KKA.out.trans kA3.all
  clear c2 c4 hlt9 q1 q2 Q1 Q2 HC2 HC4 HLT9 HHC kA3 hw3 hC0 a1 a2 a3
  go_wp2
  go_ret
  exact ⟨rfl, fin.out⟩
end Go.Proofs.YtnanjomnldfidabGreatDoor

set_option linter.unusedSimpArgs false
set_option linter.unusedVariables false
set_option linter.unusedSectionVars false
namespace Go.Proofs.YtnanjomnldfidabGreatDoor
open Go.RowKit

def zeroRes : Array Value := #[.string ⟨#[]⟩, .string ⟨#[]⟩, .int .i64 0, .int .i64 0, .int .i64 0]
theorem alloc_res (o : Oper) (h : o.op = .alloc 69) (a : Act) (w : World) : (execOp a.eval o).run Tryz.prog w = .ok (.value (.pointer (some ⟨w.heap.size, 0, none⟩))) (w.alloc (.cells zeroRes 69)) := by
  unfold execOp
  simp only [h]
  go_simp
  rfl
theorem call_run (o : Oper) (xs : Array Operand) (ts : Array TypeId) (h : o.op = .call { callee := .value (.func 23), args := xs, argTypes := ts }) (a : Act) (w : World) (f : FuncId) (args : Array Value) (w' : World) (hr : (execOp a.eval o).run Tryz.prog w = .ok (.enter f args) w') : Tryz.prog.inits.idxOf? f = none := by
  unfold execOp at hr
  have e33 : ∀ args w, (callFunc 23 args).run Tryz.prog w = .ok (.enter 23 args) w := enters_of Tryz.func23 (by kernel_rfl) rfl
  simp [h, resolve, invoke, Act.eval, Deferred.ofValue, e33] at hr
  have hf : f = 23 := hr.1.1.symm
  rw [hf]
  exact (show Tryz.prog.inits.idxOf? 23 = none by kernel_rfl)
theorem Tryz.infoRes : (Tryz.prog.info? 69).map (·.size) = some 5 := by kernel_rfl

/-- What a grader that was opened well holds. -/
structure GOk (s : GSt) : Prop where
  err : s.err = 0
  place : s.place = 0
  len : s.ts.length ≤ 6
  fuel : s.fuel ≤ 10000
  hid : ∀ i, i < s.ts.length → (s.ts.getD i noTest).hidden.size ≤ 32
  read : (readM s.ck).1 = 0
  ck : s.ck.size ≤ maxLen

set_option maxRecDepth 100000 in
set_option maxHeartbeats 2000000 in
theorem runTests_any (w : World) (b : Nat) (tv : Value) (ck : ByteArray) (ts : List TestV) (rights fuel : Int) (mk src : ByteArray)
    (hb : w.heap[b]? = some (.cells #[.string ck, tv, .int .i64 rights, .int .i64 fuel, .int .i64 0, .int .i64 0, .string mk] 47 (0, 0))) (hT : TestsIs 42 w tv ts) (hLs : LsAt w)
    (hl : ts.length ≤ 6) (hh : ∀ i, i < ts.length → (ts.getD i noTest).hidden.size ≤ 32) (hfu : fuel ≤ 10000) (hck : ck.size ≤ maxLen) (hs : src.size ≤ maxLen) (hi : ∀ i, (ts.getD i noTest).inp.size ≤ maxLen) (hr1 : (readM src).1 = 0) (hr2 : (readM ck).1 = 0) :
    Calls Tryz.prog 15 #[.pointer (some ⟨b, 0, none⟩), .string src] w fun e w' => e = .returned (.tuple #[.string (mkB (pubTo ts rights fuel src ts.length)), .string (mkB (marksTo ck ts rights fuel src ts.length))]) ∧ Ext w w' := by
  have hhs := hidL_le hh ts.length (Nat.le_refl _)
  have HBl := hide (fun (w1 : World) (hk : Ext w w1) => hk.at' hb (lt_of_block hb))
  have HTs := hide (fun (w1 : World) (hk : Ext w w1) => hT.kept hk (fun k hk2 => (World.ownsRow.lt hT k hk2).2))
  have HHa := hide (fun (w1 : World) (hk : Ext w w1) => hidAhead_any w1 tv ts (TestsAt.ofIs (HTs.out w1 hk)).1 hl hh ts.length (Nat.le_refl _))
  have HIm := hide (fun (w1 : World) (hk : Ext w w1) (i : Nat) (hi : i < ts.length) => image_any w1 tv ts (TestsAt.ofIs (HTs.out w1 hk)).1 hl hh i hi)
  have HLs := hide (fun (w1 : World) (hk : Ext w w1) => hLs.kept hk hLs.lt)
  have HRu := hide (fun (w1 : World) (hk : Ext w w1) (s : ByteArray) (b : BoxV) (h1 : s.size ≤ maxLen) (h2 : b.inp.size ≤ maxLen) (h3 : b.image.size ≤ maxLen) => run_any s b w1 (fun k => k < w1.heap.size) (fun k hk => hk) h1 h2 h3 (HLs.out w1 hk).listed ((HLs.out w1 hk).lt _ (.inl rfl)))
  unfold RunPost at HRu
  have HLi := hide line_any
  have HMa := hide mark_any
  have HHI := hide hi
  obtain ⟨va, vc, hv⟩ := own_slice hT
  subst hv
  have HC := hide (fun (w1 : World) (hk : Ext w w1) (k : Nat) (hlt : k < ts.length) => (HTs.out w1 hk).cells hlt)
  have hlt0 := lt_of_block hb
  have HRef : Hid (Ext w w) := Kept.refl _ w
  clear hb hT hLs hh hi
  obtain ⟨n2, hn2⟩ : ∃ x, x = ((hidL ts ts.length).length : Int) := ⟨_, rfl⟩
  have HN2 := hide hn2
  rw [← hn2] at HHa
  clear hn2
  go_enter Tryz.func15, Tryz.ntmps15
  go_wp2
  -- the secret bytes
  have hC0 : Ext w { w with drawn := w.drawn + 1 } := (Kept.refl _ w).drew
  have cb : ∀ w', Ext w w' → w'.cell? ⟨b, 1, none⟩ = some (.slice va ts.length vc) := fun w' hw' => cell_of_block (HBl.out w' hw') 1 _ rfl
  have hlt9 : ∀ w', Ext w w' → b < w'.heap.size := fun w' hw' => lt_of_block (HBl.out w' hw')
  have q1 : ∀ w', Ext w w' → Calls Tryz.prog 21 #[.slice va ts.length vc, .int .i64 (ts.length : Int)] w' fun e w'' => e = .returned (.int .i64 n2) ∧ Ext w w'' := by
    intro w' hw'
    refine ((unhide HHa) w' hw').mono ?_
    rintro e w'' ⟨rfl, rfl⟩
    exact ⟨rfl, hw'⟩
  obtain ⟨C, hC⟩ : ∃ C : World → Prop, C = Ext w := ⟨_, rfl⟩
  rw [← hC] at hC0 cb hlt9 q1
  have HHC := hide hC
  clear hC
  refine wp_region_quiet (C := C) (by kernel_rfl) (by kernel_rfl) hC0 ?_
  simp only [List.toList_toArray]
  quiet_step ((intro hw9; rfl))
  quiet_step ((intro hw9; rfl))
  quiet_step ((intro hw9; rfl))
  quiet_step ((intro hw9; rw [cb _ hw9]; exact ⟨rfl, rfl⟩))
  quiet_step ((intro hw9; rfl))
  quiet_step ((intro hw9; rfl))
  quiet_step ((intro hw9; rfl))
  quiet_step ((intro hw9; rw [cb _ hw9]; exact ⟨rfl, rfl⟩))
  quiet_step ((intro hw9; rfl))
  quiet_step ((intro hw9; exact q1 _ hw9))
  quiet_step ((intro hw9; rfl))
  refine wpQuiet_nil ?_
  intro w1 hw1
  have K1 : Hid (Ext w w1) := by have h1 := HHC.out; subst h1; exact hw1
  clear cb hlt9 q1 hC0 HHC hw1 HHa
  go_wp2
  go_loopw [7, 8, 9] (fun pu ma i wr => ∃ k : Nat, k ≤ ts.length ∧ i = .int .i64 k ∧ pu = .string (mkB (pubTo ts rights fuel src k)) ∧ ma = .string (mkB (marksTo ck ts rights fuel src k)) ∧ Hid (Ext w wr)) (fun _ _ i _ => ts.length - (intOf i).toNat)
  case atStart => exact ⟨0, Nat.zero_le _, rfl, rfl, rfl, K1⟩
  case round =>
    obtain ⟨k, hk, rfl, rfl, rfl, hkw⟩ := hrel
    have bw := HBl.out wr hkw.out
    have ltw := lt_of_block bw
    have c1 : wr.cell? ⟨b, 1, none⟩ = some (.slice va ts.length vc) := cell_of_block bw 1 _ rfl
    by_cases hlt : k < ts.length
    · have him := hide ((unhide HIm) wr hkw.out k hlt)
      obtain ⟨f, cp, hvv, _, _, _⟩ := (unhide HC) wr hkw.out k hlt
      simp only [Value.slice.injEq, true_and] at hvv
      obtain ⟨rfl, rfl⟩ := hvv
      obtain ⟨im, himg⟩ : ∃ x, x = mkB (imageL ts k) := ⟨_, rfl⟩
      have HIMG := hide himg
      rw [← himg] at him
      clear himg bw
      go_wp2_with fail
      refine (unhide him).mono ?_
      rintro e w2 ⟨rfl, k2⟩
      have K2 : Hid (Ext w w2) := Ext.trans hkw.out k2
      clear him k2 c1 ltw
      -- the student's run
      have hiz : im.size ≤ 256 := by rw [show im = mkB (imageL ts k) from HIMG.out, mkB_size, imageL_len]; omega
      have hbd : (runRes src (testBox ts k rights fuel)).Bd (4 + (hidL ts ts.length).length + 32) := test_bd hr1 (by omega) k rights fuel hfu (HHI.out k)
      have hru := hide (fun (w' : World) (hw' : Ext w w') => (unhide HRu) w' hw' src (testBox ts k rights fuel) hs (HHI.out k) (by show (mkB (imageL ts k)).size ≤ _; rw [← HIMG.out]; unfold maxLen; omega))
      rw [runCells_res src (testBox ts k rights fuel) (HHI.out k)] at hru
      obtain ⟨r, hr⟩ : ∃ r, r = runRes src (testBox ts k rights fuel) := ⟨_, rfl⟩
      rw [← hr] at hru hbd
      have HR := hide hr
      have HBD := hide hbd
      have hru' : Hid (∀ w', Ext w w' → Calls Tryz.prog 23 #[.string src, .string (ts.getD k noTest).inp, .string im, .int .i64 4, .int .i64 n2, .int .i64 rights, .int .i64 fuel] w' fun e w'' => e = .returned (.agg #[.string (mkB r.out), .string (mkB r.image), .int .i64 r.mark, .int .i64 r.used, .int .i64 r.err]) ∧ Ext w' w'') := by
        intro w' hw'
        rw [show im = mkB (imageL ts k) from HIMG.out, show n2 = ((hidL ts ts.length).length : Int) from HN2.out]
        exact (unhide hru) w' hw'
      clear hru hr hbd
      have HCE := hide (fun (w' : World) (hw' : Ext w w') => (unhide HC) w' hw' k hlt)
      have hlti : (k : Int) < (ts.length : Int) := by omega
      obtain ⟨p0, hp0⟩ : ∃ x, x = mkB (pubTo ts rights fuel src k) := ⟨_, rfl⟩
      obtain ⟨m0, hm0⟩ : ∃ x, x = mkB (marksTo ck ts rights fuel src k) := ⟨_, rfl⟩
      rw [← hp0, ← hm0]
      have HP0 := hide hp0
      have HM0 := hide hm0
      clear hp0 hm0
      obtain ⟨ip, hip⟩ : ∃ x, x = (ts.getD k noTest).inp := ⟨_, rfl⟩
      rw [← hip] at hru'
      have HIP := hide hip
      clear hip
      obtain ⟨so, hso⟩ : ∃ x, x = mkB r.out := ⟨_, rfl⟩
      obtain ⟨si, hsi⟩ : ∃ x, x = mkB r.image := ⟨_, rfl⟩
      have hrv : Hid (∀ w', Ext w w' → Calls Tryz.prog 23 #[.string src, .string ip, .string im, .int .i64 4, .int .i64 n2, .int .i64 rights, .int .i64 fuel] w' fun e w'' => e = .returned (.agg #[.string so, .string si, .int .i64 r.mark, .int .i64 r.used, .int .i64 r.err]) ∧ Ext w' w'') := by rw [hso, hsi]; exact hru'
      have HSO := hide (And.intro hso hsi)
      clear hru' hso hsi
      go_wp2
      refine wp_region_alloc 20 21 _ _ zeroRes 69 (by kernel_rfl) (fun p => by kernel_rfl) rfl rfl (by decide) rfl (by kernel_rfl) (by kernel_rfl) (by kernel_rfl) ?hal 19 _ rfl (by kernel_rfl) ?hce ?_
      case hal => exact fun a wz => alloc_res _ rfl a wz
      case hce => exact fun a wz ff args wz' hh => call_run _ _ _ rfl a wz ff args wz' hh
      intro p K hK1 hK2
      have cb1 : ∀ w', K w' → w'.cell? ⟨b, 1, none⟩ = some (.slice (some ⟨f, 0, none⟩) ts.length vc) := fun w' hw' => cell_of_block (HBl.out w' (Ext.trans K2.out (hK1 w' hw'))) 1 _ rfl
      have cb2 : ∀ w', K w' → w'.cell? ⟨b, 2, none⟩ = some (.int .i64 rights) := fun w' hw' => cell_of_block (HBl.out w' (Ext.trans K2.out (hK1 w' hw'))) 2 _ rfl
      have cb3 : ∀ w', K w' → w'.cell? ⟨b, 3, none⟩ = some (.int .i64 fuel) := fun w' hw' => cell_of_block (HBl.out w' (Ext.trans K2.out (hK1 w' hw'))) 3 _ rfl
      have ct : ∀ w', K w' → w'.cell? ⟨f, k * 2, none⟩ = some (.string ip) := fun w' hw' => by
        obtain ⟨f', cp', hvv, _, e0, _⟩ := (unhide HCE) w' (Ext.trans K2.out (hK1 w' hw'))
        simp only [Value.slice.injEq, Option.some.injEq, Addr.mk.injEq, true_and, and_true] at hvv
        obtain ⟨rfl, _⟩ := hvv
        rw [HIP.out]; exact e0
      have hltb : ∀ w', K w' → b < w'.heap.size := fun w' hw' => lt_of_block (HBl.out w' (Ext.trans K2.out (hK1 w' hw')))
      have q1 : ∀ w', K w' → Calls Tryz.prog 23 #[.string src, .string ip, .string im, .int .i64 4, .int .i64 n2, .int .i64 rights, .int .i64 fuel] w' fun e w'' => e = .returned (.agg #[.string so, .string si, .int .i64 r.mark, .int .i64 r.used, .int .i64 r.err]) ∧ K w'' := by
        intro w' hw'
        refine ((unhide hrv) w' (Ext.trans K2.out (hK1 w' hw'))).mono ?_
        rintro e w'' ⟨rfl, hx⟩
        exact ⟨rfl, hK2 w' w'' hw' hx⟩
      simp only [fakeOps, List.set]
      quiet_step ((intro hw9; rfl))
      quiet_step ((intro hw9; rfl))
      quiet_step ((intro hw9; rfl))
      quiet_step ((intro hw9; rfl))
      quiet_step ((intro hw9; rw [cb1 _ hw9]; exact ⟨rfl, rfl⟩))
      quiet_step ((intro hw9; rfl))
      quiet_step ((intro hw9; rfl))
      quiet_step ((intro hw9; rfl))
      quiet_step ((intro hw9; rw [ct _ hw9]; exact ⟨rfl, rfl⟩))
      quiet_step ((intro hw9; rfl))
      quiet_step ((intro hw9; rfl))
      quiet_step ((intro hw9; rfl))
      quiet_step ((intro hw9; rfl))
      quiet_step ((intro hw9; rfl))
      quiet_step ((intro hw9; rw [cb2 _ hw9]; exact ⟨rfl, rfl⟩))
      quiet_step ((intro hw9; rfl))
      quiet_step ((intro hw9; rfl))
      quiet_step ((intro hw9; rfl))
      quiet_step ((intro hw9; rw [cb3 _ hw9]; exact ⟨rfl, rfl⟩))
      quiet_step ((intro hw9; exact q1 _ hw9))
      quiet_step ((intro hw9; rfl))
      refine wpQuiet_end rfl rfl rfl ?_
      clear cb1 cb2 cb3 ct hltb q1 hrv hK1 hK2
      intro w3 hd3
      refine wp_store_row 69 (.tmp 11) (.tmp 57) rfl p #[.string so, .string si, .int .i64 r.mark, .int .i64 r.used, .int .i64 r.err] zeroRes rfl rfl hd3.2.1 rfl Tryz.infoRes (by simp [Value.oneCell']) ?_
      intro w4 hb4 hk4 hs4
      have hp2 := hd3.2.2
      have X4 : Hid (Ext w2 w4) := Kept.trans hd3.1 (hk4.mono (fun j hj => by omega))
      have hs2 : w2.heap.size ≤ w3.heap.size := hd3.1.size
      have K4 : Hid (Ext w w4) := Ext.trans K2.out X4.out
      have ltp := lt_of_block hb4
      have d0 : w4.cell? ⟨p, 0, none⟩ = some (.string so) := cell_of_block hb4 0 _ rfl
      have d1 : w4.cell? ⟨p, 1, none⟩ = some (.string si) := cell_of_block hb4 1 _ rfl
      have d2 : w4.cell? ⟨p, 2, none⟩ = some (.int .i64 r.mark) := cell_of_block hb4 2 _ rfl
      have d3 : w4.cell? ⟨p, 3, none⟩ = some (.int .i64 r.used) := cell_of_block hb4 3 _ rfl
      have d4 : w4.cell? ⟨p, 4, none⟩ = some (.int .i64 r.err) := cell_of_block hb4 4 _ rfl
      obtain ⟨ne, hne⟩ : ∃ n : Nat, r.err = n := ⟨r.err.toNat, by have := HBD.out.err; omega⟩
      obtain ⟨nu, hnu⟩ : ∃ n : Nat, r.used = n := ⟨r.used.toNat, by have := HBD.out.used; omega⟩
      have hli := hide ((unhide HLi) r ne nu hne hnu (by have := HBD.out.err'; omega) (by have := HBD.out.used'; omega) (by have := HBD.out.out; omega) w4 (HLs.out w4 K4.out).ten)
      rw [← HSO.out.1, ← HSO.out.2] at hli
      obtain ⟨ln, hln⟩ : ∃ x, x = mkB (lineL r) := ⟨_, rfl⟩
      rw [← hln] at hli
      have hsz1 : p0.size + ln.size ≤ 9223372036854775807 := by
        have h1 := pubTo_le hr1 (show (hidL ts ts.length).length ≤ 192 by omega) rights fuel hfu HHI.out (k + 1)
        have h2 : mkB (pubTo ts rights fuel src (k + 1)) = p0 ++ ln := by
          show mkB (pubTo ts rights fuel src k ++ lineL (runRes src (testBox ts k rights fuel))) = _
          rw [← HR.out, ← mkB_append, ← HP0.out, ← hln]
        have h3 : (mkB (pubTo ts rights fuel src (k + 1))).size = p0.size + ln.size := by rw [h2, bsize_app]
        rw [mkB_size] at h3
        omega
      have HLN : Hid (p0 ++ ln = mkB (pubTo ts rights fuel src (k + 1))) := by
        unfold Hid
        show _ = mkB (pubTo ts rights fuel src k ++ lineL (runRes src (testBox ts k rights fuel)))
        rw [← HR.out, ← mkB_append, ← HP0.out, ← hln]
      have HB4 := hide hb4
      clear hne hnu hln hd3 hk4 hs4 hs2 hb4 X4
      obtain ⟨x1, hx1⟩ : ∃ x, p0 ++ ln = x := ⟨_, rfl⟩
      rw [hx1] at HLN
      go_wp2_with fail
      refine (unhide hli).mono ?_
      rintro e w5 ⟨rfl, k5⟩
      clear hli d0 d1 d2 d3 d4
      have K5 : Hid (Ext w w5) := Ext.trans K4.out k5
      have B5 : Hid (w5.heap[p]? = some (.cells #[.string so, .string si, .int .i64 r.mark, .int .i64 r.used, .int .i64 r.err] 69 (0, 0))) := k5.at' HB4.out ltp
      clear k5 ltp HB4
      go_wp2
      -- the checker's run
      have hoz : so.size ≤ maxLen := by rw [HSO.out.1, mkB_size]; have := HBD.out.out; unfold maxLen; omega
      have hsz2 : si.size ≤ maxLen := by rw [HSO.out.2, mkB_size, HBD.out.image]; unfold maxLen; omega
      have hcb : (runRes ck (checkBox ts r fuel)).Bd (4 + (hidL ts ts.length).length + 32) := check_bd hr2 (by omega) HBD.out fuel hfu
      have hru := hide (fun (w' : World) (hw' : Ext w w') => (unhide HRu) w' hw' ck (checkBox ts r fuel) hck (by show (mkB r.out).size ≤ _; rw [← HSO.out.1]; exact hoz) (by show (mkB r.image).size ≤ _; rw [← HSO.out.2]; exact hsz2))
      rw [runCells_res ck (checkBox ts r fuel) (by show (mkB r.out).size ≤ _; rw [← HSO.out.1]; exact hoz)] at hru
      obtain ⟨d, hd⟩ : ∃ d, d = runRes ck (checkBox ts r fuel) := ⟨_, rfl⟩
      rw [← hd] at hru hcb
      have HD := hide hd
      have HCB := hide hcb
      obtain ⟨to, hto⟩ : ∃ x, x = mkB d.out := ⟨_, rfl⟩
      obtain ⟨ti, hti⟩ : ∃ x, x = mkB d.image := ⟨_, rfl⟩
      have hrv : Hid (∀ w', Ext w w' → Calls Tryz.prog 23 #[.string ck, .string so, .string si, .int .i64 4, .int .i64 n2, .int .i64 15, .int .i64 fuel] w' fun e w'' => e = .returned (.agg #[.string to, .string ti, .int .i64 d.mark, .int .i64 d.used, .int .i64 d.err]) ∧ Ext w' w'') := by
        intro w' hw'
        rw [hto, hti, HSO.out.1, HSO.out.2, show n2 = ((hidL ts ts.length).length : Int) from HN2.out]
        exact (unhide hru) w' hw'
      have HTO := hide (And.intro hto hti)
      clear hru hto hti hd hcb hoz hsz2 hsz1 hx1
      refine wp_region_alloc 14 15 _ _ zeroRes 69 (by kernel_rfl) (fun p => by kernel_rfl) rfl rfl (by decide) rfl (by kernel_rfl) (by kernel_rfl) (by kernel_rfl) ?hal 13 _ rfl (by kernel_rfl) ?hce ?_
      case hal => exact fun a wz => alloc_res _ rfl a wz
      case hce => exact fun a wz ff args wz' hh => call_run _ _ _ rfl a wz ff args wz' hh
      intro p' K hK1 hK2
      have cb0 : ∀ w', K w' → w'.cell? ⟨b, 0, none⟩ = some (.string ck) := fun w' hw' => cell_of_block (HBl.out w' (Ext.trans K5.out (hK1 w' hw'))) 0 _ rfl
      have cb3 : ∀ w', K w' → w'.cell? ⟨b, 3, none⟩ = some (.int .i64 fuel) := fun w' hw' => cell_of_block (HBl.out w' (Ext.trans K5.out (hK1 w' hw'))) 3 _ rfl
      have cp0 : ∀ w', K w' → w'.cell? ⟨p, 0, none⟩ = some (.string so) := fun w' hw' => cell_of_block ((hK1 w' hw').at' B5.out (lt_of_block B5.out)) 0 _ rfl
      have cp1 : ∀ w', K w' → w'.cell? ⟨p, 1, none⟩ = some (.string si) := fun w' hw' => cell_of_block ((hK1 w' hw').at' B5.out (lt_of_block B5.out)) 1 _ rfl
      have hltb : ∀ w', K w' → b < w'.heap.size := fun w' hw' => lt_of_block (HBl.out w' (Ext.trans K5.out (hK1 w' hw')))
      have q1 : ∀ w', K w' → Calls Tryz.prog 23 #[.string ck, .string so, .string si, .int .i64 4, .int .i64 n2, .int .i64 15, .int .i64 fuel] w' fun e w'' => e = .returned (.agg #[.string to, .string ti, .int .i64 d.mark, .int .i64 d.used, .int .i64 d.err]) ∧ K w'' := by
        intro w' hw'
        refine ((unhide hrv) w' (Ext.trans K5.out (hK1 w' hw'))).mono ?_
        rintro e w'' ⟨rfl, hx⟩
        exact ⟨rfl, hK2 w' w'' hw' hx⟩
      simp only [fakeOps, List.set]
      quiet_step ((intro hw9; rfl))
      quiet_step ((intro hw9; rfl))
      quiet_step ((intro hw9; rfl))
      quiet_step ((intro hw9; rw [cb0 _ hw9]; exact ⟨rfl, rfl⟩))
      quiet_step ((intro hw9; rfl))
      quiet_step ((intro hw9; rw [cp0 _ hw9]; exact ⟨rfl, rfl⟩))
      quiet_step ((intro hw9; rfl))
      quiet_step ((intro hw9; rw [cp1 _ hw9]; exact ⟨rfl, rfl⟩))
      quiet_step ((intro hw9; rfl))
      quiet_step ((intro hw9; rfl))
      quiet_step ((intro hw9; rfl))
      quiet_step ((intro hw9; rfl))
      quiet_step ((intro hw9; rw [cb3 _ hw9]; exact ⟨rfl, rfl⟩))
      quiet_step ((intro hw9; exact q1 _ hw9))
      quiet_step ((intro hw9; rfl))
      refine wpQuiet_end rfl rfl rfl ?_
      clear cb0 cb3 cp0 cp1 hltb q1 hrv hK1 hK2 B5
      intro w6 hd6
      refine wp_store_row 69 (.tmp 12) (.tmp 75) rfl p' #[.string to, .string ti, .int .i64 d.mark, .int .i64 d.used, .int .i64 d.err] zeroRes rfl rfl hd6.2.1 rfl Tryz.infoRes (by simp [Value.oneCell']) ?_
      intro w7 hb7 hk7 hs7
      have hp7 := hd6.2.2
      have X7 : Hid (Ext w5 w7) := Kept.trans hd6.1 (hk7.mono (fun j hj => by omega))
      have K7 : Hid (Ext w w7) := Ext.trans K5.out X7.out
      have ltp := lt_of_block hb7
      have d0 : w7.cell? ⟨p', 0, none⟩ = some (.string to) := cell_of_block hb7 0 _ rfl
      have d1 : w7.cell? ⟨p', 1, none⟩ = some (.string ti) := cell_of_block hb7 1 _ rfl
      have d2 : w7.cell? ⟨p', 2, none⟩ = some (.int .i64 d.mark) := cell_of_block hb7 2 _ rfl
      have d3 : w7.cell? ⟨p', 3, none⟩ = some (.int .i64 d.used) := cell_of_block hb7 3 _ rfl
      have d4 : w7.cell? ⟨p', 4, none⟩ = some (.int .i64 d.err) := cell_of_block hb7 4 _ rfl
      obtain ⟨me, hme⟩ : ∃ n : Nat, d.err = n := ⟨d.err.toNat, by have := HCB.out.err; omega⟩
      obtain ⟨mm, hmm⟩ : ∃ n : Nat, d.mark = n := ⟨d.mark.toNat, by have := HCB.out.mark; omega⟩
      have hli := hide ((unhide HMa) d me mm hme hmm (by have := HCB.out.err'; omega) (by have := HCB.out.mark'; omega) w7 (HLs.out w7 K7.out).ten)
      rw [← HTO.out.1, ← HTO.out.2] at hli
      obtain ⟨ln2, hln2⟩ : ∃ x, x = mkB (markL d) := ⟨_, rfl⟩
      rw [← hln2] at hli
      have HLM : Hid (m0 ++ ln2 = mkB (marksTo ck ts rights fuel src (k + 1))) := by
        unfold Hid
        show _ = mkB (marksTo ck ts rights fuel src k ++ markL (runRes ck (checkBox ts (runRes src (testBox ts k rights fuel)) fuel)))
        rw [← HR.out, ← HD.out, ← mkB_append, ← HM0.out, ← hln2]
      have hsz1 : m0.size + ln2.size ≤ 9223372036854775807 := by
        have h1 := marksTo_le hr1 hr2 (show (hidL ts ts.length).length ≤ 192 by omega) rights fuel hfu HHI.out (k + 1)
        have h3 : (mkB (marksTo ck ts rights fuel src (k + 1))).size = m0.size + ln2.size := by rw [← HLM.out, bsize_app]
        rw [mkB_size] at h3
        omega
      clear hme hmm hln2 hd6 hk7 hs7 hb7 X7 hp7
      obtain ⟨x2, hx2⟩ : ∃ x, m0 ++ ln2 = x := ⟨_, rfl⟩
      rw [hx2] at HLM
      go_wp2_with fail
      refine (unhide hli).mono ?_
      rintro e w8 ⟨rfl, k8⟩
      clear hli d0 d1 d2 d3 d4 ltp
      have K8 : Hid (Ext w w8) := Ext.trans K7.out k8
      clear k8
      go_wp2
      go_roundw
      case rel => exact ⟨k + 1, by omega, by go_num, by rw [HLN.out], by rw [HLM.out], K8⟩
      case measure => simp [intOf]; omega
    · have hke : k = ts.length := by omega
      subst hke
      clear bw
      go_wp2
      go_ret2
      exact ⟨rfl, hkw.out⟩
end Go.Proofs.YtnanjomnldfidabGreatDoor

set_option linter.unusedSimpArgs false
set_option linter.unusedVariables false
set_option linter.unusedSectionVars false
namespace Go.Proofs.YtnanjomnldfidabGreatDoor
open Go.RowKit

theorem TestsAt.cells {w : World} {v : Value} {ts : List TestV} (h : TestsAt w v ts) {k : Nat} (hk : k < ts.length) : ∃ b o cap, v = .slice (some ⟨b, o, none⟩) ts.length cap ∧ b < w.heap.size ∧ w.cell? ⟨b, o + k * 2, none⟩ = some (.string (ts.getD k noTest).inp) ∧ w.cell? ⟨b, o + k * 2 + 1, none⟩ = some (.string (ts.getD k noTest).hidden) := by
  rcases h with ⟨rfl, _⟩ | ⟨b, o, cap, e, hb, hc⟩
  · simp at hk
  · exact ⟨b, o, cap, e, hb, (hc k hk).1, (hc k hk).2⟩
theorem read_place {s : ByteArray} (h : (readM s).1 = 0) : (readM s).2.1 = 0 := by
  unfold readM at h ⊢
  by_cases h1 : 400 < s.size
  · rw [if_pos h1] at h; exact absurd h (by decide)
  · rw [if_neg h1] at h ⊢
    by_cases h2 : (Rd.fresh.read (toksFrom s 0)).1 ≠ 0
    · rw [if_pos h2] at h; exact absurd h h2
    · rw [if_neg h2] at h ⊢
      by_cases h3 : (Rd.fresh.read (toksFrom s 0)).2.2.fin ≠ 0
      · rw [if_pos h3] at h; exact absurd h h3
      · rw [if_neg h3]
theorem opens_place {ck : ByteArray} {ts : List TestV} {fuel : Int} (h : (opensM ck ts fuel).1 = 0) : (opensM ck ts fuel).2 = 0 := by
  have h4 := (opens_ok h).2.2.2
  unfold opensM at h ⊢
  by_cases h1 : 6 < ts.length ∨ 10000 < fuel
  · rw [if_pos h1]
  · rw [if_neg h1]
    by_cases h2 : hidBad ts = true
    · rw [if_pos h2]
    · rw [if_neg h2, ← check_eq]
      exact read_place h4

set_option maxRecDepth 100000 in
set_option maxHeartbeats 1000000 in
theorem checkOpen_any (ck : ByteArray) (w : World) (P : Nat → Prop) (hP : ∀ k, P k → k < w.heap.size) (hs : ck.size ≤ maxLen) (hL : WordsAt w 2 listedL) (hPL : P 2) (v : Value) (ts : List TestV) (hT : TestsAt w v ts) (hl : ts.length ≤ 4503599627370496) (fuel : Int) :
    Calls Tryz.prog 12 #[.string ck, v, .int .i64 fuel] w (ChkPost P (opensM ck ts fuel) w) := by
  have HCh := hide (check_any ck w P hP hs hL hPL)
  rw [show ((readM ck).1, (readM ck).2.1) = refCheckM ck from check_eq ck] at HCh
  have HC := hide (fun k (hk : k < ts.length) => hT.cells hk)
  obtain ⟨va, vc, hv⟩ := hT.form
  subst hv
  unfold opensM
  by_cases h1 : 6 < ts.length ∨ 10000 < fuel
  · rw [if_pos h1]
    have post : Hid (ChkPost P (1, 0) w (.returned (.tuple #[.int .i64 1, .int .i64 0])) w) := ⟨rfl, Kept.refl _ _⟩
    generalize ChkPost P (1, 0) w = QQ at *
    have h1' : 6 < ts.length ∨ (¬ 6 < ts.length ∧ 10000 < fuel) := by omega
    clear HCh HC hT h1 hL
    rcases h1' with q | ⟨q1, q2⟩
    · have q' : (6 : Int) < (ts.length : Int) := by omega
      go_enter Tryz.func12, Tryz.ntmps12
      go_wp2
      exact post.out
    · have q' : (ts.length : Int) ≤ 6 := by omega
      go_enter Tryz.func12, Tryz.ntmps12
      go_wp2
      exact post.out
  · rw [if_neg h1]
    have q1 : (ts.length : Int) ≤ 6 := by omega
    have q2 : fuel ≤ 10000 := by omega
    have HV : Hid (∀ x, (if hidBad ts = true then (1, 0) else refCheckM ck) = x → ChkPost P (if hidBad ts = true then (1, 0) else refCheckM ck) w = ChkPost P x w) := fun x hx => by rw [hx]
    have post : Hid (hidBad ts = true → ChkPost P (if hidBad ts = true then (1, 0) else refCheckM ck) w (.returned (.tuple #[.int .i64 1, .int .i64 0])) w) := fun h => by rw [if_pos h]; exact ⟨rfl, Kept.refl _ _⟩
    have post2 : Hid (hidBad ts = false → ∀ e w', ChkPost P (refCheckM ck) w e w' → ChkPost P (if hidBad ts = true then (1, 0) else refCheckM ck) w e w') := fun h e w' hh => by rw [if_neg (by rw [h]; decide)]; exact hh
    generalize ChkPost P (if hidBad ts = true then (1, 0) else refCheckM ck) w = QQ at *
    clear h1 hT hL HV
    go_enter Tryz.func12, Tryz.ntmps12
    go_wp2
    go_loop [8] (fun i => ∃ k : Nat, k ≤ ts.length ∧ i = .int .i64 k ∧ Hid (hidBad (ts.take k) = false)) (fun i => ts.length - (intOf i).toNat)
    case atStart => exact ⟨0, Nat.zero_le _, rfl, rfl⟩
    case round =>
      obtain ⟨k, hk, rfl, hno⟩ := hrel
      by_cases hlt : k < ts.length
      · obtain ⟨f, fo, cp, hvv, hf, e0, e1⟩ := (unhide HC) k hlt
        simp only [Value.slice.injEq, true_and] at hvv
        obtain ⟨rfl, rfl⟩ := hvv
        have hst := hide (hidBad_take hlt)
        by_cases hbad : 32 < (ts.getD k noTest).hidden.size
        · have hb : hidBad ts = true := by
            have h1 : hidBad (ts.take (k + 1)) = true := by rw [hst.out, decide_eq_true hbad, Bool.or_true]
            unfold hidBad at h1 ⊢
            rw [List.any_eq_true] at h1 ⊢
            obtain ⟨t, t1, t2⟩ := h1
            exact ⟨t, List.take_subset _ _ t1, t2⟩
          have p1 := hide (post.out hb)
          have hbi : (32 : Int) < ((ts.getD k noTest).hidden.size : Int) := by omega
          generalize (ts.getD k noTest).hidden = hd at *
          generalize (ts.getD k noTest).inp = ip at *
          clear HCh HC post post2 hb hst
          go_wp2
          exact p1.out
        · have hn2 : Hid (hidBad (ts.take (k + 1)) = false) := by unfold Hid; rw [hst.out, hno.out, decide_eq_false hbad]; rfl
          have hbi : ((ts.getD k noTest).hidden.size : Int) ≤ 32 := by omega
          generalize (ts.getD k noTest).hidden = hd at *
          generalize (ts.getD k noTest).inp = ip at *
          clear HCh HC post post2 hst
          go_wp2
          go_round
          case rel => exact ⟨k + 1, by omega, by go_num, hn2⟩
          case measure => simp [intOf]; omega
      · have hke : k = ts.length := by omega
        have hn2 : hidBad ts = false := by have := hno.out; rwa [hke, List.take_length] at this
        have p2 := hide (post2.out hn2)
        unfold ChkPost at HCh p2
        generalize refCheckM ck = r at *
        clear HC post post2 hn2
        go_wp2_with fail
        refine (unhide HCh).mono ?_
        rintro e w1 ⟨rfl, k1⟩
        have p3 := hide ((unhide p2) _ w1 ⟨rfl, k1⟩)
        clear HCh p2
        go_wp2
        exact p3.out

/-- Nothing is appended to nothing. -/
theorem run_append_none {P : Program} (w : World) (t ty e : TypeId) (i : TypeInfo) (ht : P.underlying t = some (.slice e)) (hi : P.info? e = some i) (g : Nat) (a : Option Addr) (c : Nat) :
    (Builtin.append_ #[t, t] ty #[.slice (some ⟨g, 0, none⟩) 0 0, .slice a 0 c]).run P w = .ok (.slice (some ⟨g, 0, none⟩) 0 0) w := by
  cases a <;> simp [Builtin.append_, run_underlying ht, sizeOf, typeInfo, hi, Builtin.lenOf, Builtin.firstCells, loadCells, loadCellsFrom, storeCells]
theorem wpList_append_none {P : Program} (w : World) {ops : Array Oper} {rest : List Oper} {o : Oper} {a : Act} {Q : Exit → Act → World → Prop} (hgd : o.guard = none) (s x : Operand) (t : TypeId)
    (ho : o.op = .call { callee := .builtin .append, args := #[s, x], argTypes := #[t, t] }) (e : TypeId) (i : TypeInfo) (ht : P.underlying t = some (.slice e)) (hi : P.info? e = some i)
    (g : Nat) (ad : Option Addr) (c : Nat) (hs : a.eval s = .slice (some ⟨g, 0, none⟩) 0 0) (hx : a.eval x = .slice ad 0 c)
    (h : wpList P ops Q rest (a.put o.dst (.slice (some ⟨g, 0, none⟩) 0 0)) w) : wpList P ops Q (o :: rest) a w := by
  refine wpList_plain hgd fun _ hK => ?_
  have hr := run_append_none (P := P) w t o.type e i ht hi g ad c
  unfold Oper.wp execOp
  simp only [ho, resolve, invoke, builtin, Sem.run_bind, Sem.run_pure, Result.andThen_ok, List.map_toArray, List.map_cons, List.map_nil, hs, hx, hr]
  exact hK _ _ h
/-- A grader in memory: its block, and its tests' block. -/
def GIs (w : World) (F : Nat → Prop) (g : Value) (s : GSt) : Prop :=
  ∃ b tv, g = .pointer (some ⟨b, 0, none⟩) ∧ (∀ k, F k ↔ k = b ∨ tv.ownBlock = some k) ∧
    ((s.err ≠ 0 ∧ s.marks = [] ∧ tv = .slice none 0 0 ∧ w.heap[b]? = some (.cells #[.string ⟨#[]⟩, .slice none 0 0, .int .i64 0, .int .i64 0, .int .i64 s.err, .int .i64 s.place, .string ⟨#[]⟩] 47 (0, 0))) ∨
     (GOk s ∧ TestsIs 42 w tv s.ts ∧ w.heap[b]? = some (.cells #[.string s.ck, tv, .int .i64 s.rights, .int .i64 s.fuel, .int .i64 0, .int .i64 0, .string (mkB s.marks)] 47 (0, 0))))
theorem GIs.lt {w : World} {F : Nat → Prop} {g : Value} {s : GSt} (h : GIs w F g s) : ∀ k, F k → k < w.heap.size := by
  obtain ⟨b, tv, rfl, hF, h⟩ := h
  intro k hk
  rcases (hF k).1 hk with rfl | hk
  · rcases h with ⟨_, _, _, hb⟩ | ⟨_, _, hb⟩ <;> exact lt_of_block hb
  · rcases h with ⟨_, _, rfl, hb⟩ | ⟨_, hT, hb⟩
    · cases hk
    · exact (World.ownsRow.lt hT k hk).2
theorem GIs.frame {w w' : World} {F : Nat → Prop} {g : Value} {s : GSt} {Q : Nat → Prop} (h : GIs w F g s) (hk : Kept Q w w') (hq : ∀ k, F k → Q k) : GIs w' F g s := by
  obtain ⟨b, tv, rfl, hF, h⟩ := h
  have hb := hq b ((hF b).2 (.inl rfl))
  refine ⟨b, tv, rfl, hF, ?_⟩
  rcases h with ⟨h1, h2, h3, h4⟩ | ⟨h1, h2, h3⟩
  · exact .inl ⟨h1, h2, h3, hk.at' h4 hb⟩
  · exact .inr ⟨h1, h2.kept hk (fun k hk2 => hq k ((hF k).2 (.inr hk2))), hk.at' h3 hb⟩

set_option maxRecDepth 100000 in
set_option maxHeartbeats 1000000 in
theorem marks_any (w : World) (F : Nat → Prop) (g : Value) (s : GSt) (h : GIs w F g s) : Calls Tryz.prog 9 #[g] w fun e w' => e = .returned (.string (mkB s.marks)) ∧ w' = w := by
  obtain ⟨b, tv, rfl, hF, h⟩ := h
  have hc : w.cell? ⟨b, 6, none⟩ = some (.string (mkB s.marks)) ∧ b < w.heap.size := by
    rcases h with ⟨_, h2, _, hb⟩ | ⟨_, _, hb⟩
    · rw [h2]; exact ⟨cell_of_block hb 6 _ rfl, lt_of_block hb⟩
    · exact ⟨cell_of_block hb 6 _ rfl, lt_of_block hb⟩
  obtain ⟨hc, hlt⟩ := hc
  generalize mkB s.marks = mk at *
  clear h hF
  go_enter Tryz.func9, Tryz.ntmps9
  go_wp2
  go_ret
  exact ⟨rfl, rfl⟩

set_option maxRecDepth 100000 in
set_option maxHeartbeats 1000000 in
theorem submit_any (w : World) (F : Nat → Prop) (g : Value) (s : GSt) (src : ByteArray) (h : GIs w F g s) (hLs : LsAt w) (hLF : ∀ k, isLs k → ¬ F k) (hs : src.size ≤ maxLen) (hin : ∀ i, (s.ts.getD i noTest).inp.size ≤ maxLen) :
    Calls Tryz.prog 10 #[g, .string src] w fun e w' => ∃ F', e = .returned (.tuple #[.string (mkB (s.pub src)), .int .i64 (s.code src).1, .int .i64 (s.code src).2]) ∧ GIs w' F' g (s.sub src) ∧ (∀ k, F' k → F k ∨ w.heap.size ≤ k) ∧ Kept (fun k => k < w.heap.size ∧ ¬ F k) w w' := by
  have HI := hide h
  obtain ⟨b, tv, rfl, hF, h⟩ := h
  rcases h with ⟨h1, h2, h3, hb⟩ | ⟨hok, hT, hb⟩
  · -- it was not opened
    have hp : s.pub src = [] := by unfold GSt.pub; rw [if_pos h1]
    have hsb : s.sub src = s := by unfold GSt.sub; rw [if_pos h1]
    have hco : s.code src = (s.err, s.place) := by unfold GSt.code; rw [if_pos h1]
    rw [hp, hsb, hco]
    have c4 : w.cell? ⟨b, 4, none⟩ = some (.int .i64 s.err) := cell_of_block hb 4 _ rfl
    have c5 : w.cell? ⟨b, 5, none⟩ = some (.int .i64 s.place) := cell_of_block hb 5 _ rfl
    have hlt := lt_of_block hb
    have HFr : Hid (∀ n, GIs (w.drewN n) F (.pointer (some ⟨b, 0, none⟩)) s) := fun n => HI.out.frame (Kept.drewN (fun _ => True) w n) (fun _ _ => trivial)
    have HKe : Hid (∀ n, Kept (fun k => k < w.heap.size ∧ ¬ F k) w (w.drewN n)) := fun n => Kept.drewN _ w n
    have hne : (s.err == 0) = false := by rw [beq_eq_false_iff_ne]; exact h1
    have hem : mkB [] = (⟨#[]⟩ : ByteArray) := rfl
    clear hb h2 h3 hp hsb hco hF HI hLs hLF hin
    generalize s.err = er at *
    generalize s.place = pl at *
    go_enter Tryz.func10, Tryz.ntmps10
    go_wp2
    go_quiet (fail)
    go_wp2
    go_ret3
    exact ⟨F, rfl, HFr.out _, fun k hk => .inl hk, HKe.out _⟩
  · -- it was opened well
    have c4 : w.cell? ⟨b, 4, none⟩ = some (.int .i64 0) := cell_of_block hb 4 _ rfl
    have hlt := lt_of_block hb
    have hco : s.code src = ((readM src).1, (readM src).2.1) := by unfold GSt.code; rw [if_neg (by simp [hok.err])]
    have HCh := hide (check_any src w (fun k => k < w.heap.size) (fun k hk => hk) hs hLs.listed (hLs.lt _ (.inl rfl)))
    have HRt := hide (fun (w1 : World) (hk : Ext w w1) (h0 : (readM src).1 = 0) => runTests_any w1 b tv s.ck s.ts s.rights s.fuel (mkB s.marks) src (hk.at' hb hlt) (hT.kept hk (fun k hk2 => (World.ownsRow.lt hT k hk2).2)) (hLs.kept hk hLs.lt) hok.len hok.hid hok.fuel hok.ck hs hin h0 hok.read)
    unfold ChkPost at HCh
    have HB := hide hb
    have HT := hide hT
    have HOK := hide hok
    have HF := hide hF
    obtain ⟨nr, hnr⟩ : ∃ n, n = (readM src).1 := ⟨_, rfl⟩
    obtain ⟨np, hnp⟩ : ∃ n, n = (readM src).2.1 := ⟨_, rfl⟩
    have HNR := hide (And.intro hnr hnp)
    rw [hco]
    rw [← hnr, ← hnp] at HCh ⊢
    rw [← hnr] at HRt
    obtain ⟨rp, hrp⟩ : ∃ x, x = mkB (s.pub src) := ⟨_, rfl⟩
    have HRP := hide hrp
    rw [← hrp]
    clear hb hT hok hLs hLF hin hco hnr hnp hrp hF
    go_enter Tryz.func10, Tryz.ntmps10
    go_wp2_with fail
    refine (unhide HCh).mono ?_
    rintro e w1 ⟨rfl, k1⟩
    clear HCh c4
    have K1 := hide k1
    clear k1
    by_cases hz : nr = 0
    · subst hz
      have h0 : (readM src).1 = 0 := HNR.out.1.symm
      have hpl : np = 0 := by rw [HNR.out.2]; exact read_place h0
      subst hpl
      have hrt := hide ((unhide HRt) w1 K1.out rfl)
      have hpub : mkB (pubTo s.ts s.rights s.fuel src s.ts.length) = rp := by
        rw [HRP.out]; unfold GSt.pub; rw [if_neg (by simp [HOK.out.err]), if_neg (by simp [h0])]
      have hsub : Hid (s.sub src = { s with marks := marksTo s.ck s.ts s.rights s.fuel src s.ts.length }) := by
        unfold Hid GSt.sub; rw [if_neg (by simp [HOK.out.err]), if_neg (by simp [h0])]
      rw [hpub] at hrt
      obtain ⟨mm, hmm⟩ : ∃ x, x = mkB (marksTo s.ck s.ts s.rights s.fuel src s.ts.length) := ⟨_, rfl⟩
      rw [← hmm] at hrt
      have HMM := hide hmm
      have hlt1 : b < w1.heap.size := Nat.lt_of_lt_of_le hlt K1.out.size
      clear hpub hmm HRt h0
      go_wp2_with fail
      refine (unhide hrt).mono ?_
      rintro e w2 ⟨rfl, k2⟩
      clear hrt
      have K2 : Hid (Ext w w2) := Ext.trans K1.out k2
      have b2 := K2.out.at' HB.out hlt
      have hlt2 := lt_of_block b2
      have c6 : w2.cell? ⟨b, 6, none⟩ = some (.string (mkB s.marks)) := cell_of_block b2 6 _ rfl
      have f6 : w2.frozen? ⟨b, 6, none⟩ = false := frozen_of_row _ _ _ _ _ b2
      have hset : (w2.setCell ⟨b, 6, none⟩ (.string mm)).heap[b]? = some (.cells #[.string s.ck, tv, .int .i64 s.rights, .int .i64 s.fuel, .int .i64 0, .int .i64 0, .string mm] 47 (0, 0)) := by
        rw [heap_setCell_same w2 b 6 _ _ _ b2]; rfl
      have KS : Hid (Kept (fun k => k ≠ b) w2 (w2.setCell ⟨b, 6, none⟩ (.string mm))) := (Kept.refl _ w2).setCell (p := ⟨b, 6, none⟩) (by simp) _
      have HSET := hide hset
      clear k2 hset b2
      go_wp2
      go_ret3
      have hnb : tv.ownBlock ≠ some b := own_ne HT.out HB.out (by decide)
      refine ⟨F, rfl, ⟨b, tv, rfl, HF.out, .inr ⟨?_, ?_, ?_⟩⟩, fun k hk => .inl hk, ?_⟩
      · rw [hsub.out]; exact ⟨HOK.out.err, HOK.out.place, HOK.out.len, HOK.out.fuel, HOK.out.hid, HOK.out.read, HOK.out.ck⟩
      · rw [hsub.out]
        have h2 := TestsIs.kept HT.out K2.out (fun k hk2 => (World.ownsRow.lt HT.out k hk2).2)
        exact TestsIs.kept h2 KS.out (fun k hk2 e => hnb (by rw [hk2, e]))
      · rw [hsub.out]
        show _ = some (Obj.cells #[.string s.ck, tv, .int .i64 s.rights, .int .i64 s.fuel, .int .i64 0, .int .i64 0, .string (mkB (marksTo s.ck s.ts s.rights s.fuel src s.ts.length))] _ _)
        rw [← HMM.out]; exact HSET.out
      · exact (K2.out.mono (fun k h => h.1)).trans (KS.out.mono (fun k h e => h.2 ((HF.out k).2 (.inl e))))
    · have hnz : (nr == 0) = false := by rw [beq_eq_false_iff_ne]; exact hz
      have hrz : (readM src).1 ≠ 0 := by rw [← HNR.out.1]; exact hz
      have hpub : rp = ⟨#[]⟩ := by
        rw [HRP.out]; unfold GSt.pub; rw [if_neg (by simp [HOK.out.err]), if_pos hrz]; rfl
      have hsub : Hid (s.sub src = s) := by
        unfold Hid GSt.sub; rw [if_neg (by simp [HOK.out.err]), if_pos hrz]
      subst hpub
      clear HRt hrz
      go_wp2
      go_ret3
      refine ⟨F, rfl, ?_, fun k hk => .inl hk, K1.out.all⟩
      rw [hsub.out]
      exact HI.out.frame K1.out HI.out.lt

set_option maxRecDepth 100000 in
set_option maxHeartbeats 1000000 in
theorem open_any (w : World) (ck : ByteArray) (v : Value) (ts : List TestV) (rights fuel : Int) (hLs : LsAt w) (hck : ck.size ≤ maxLen) (hT : TestsAt w v ts) (hl : ts.length * 32 ≤ 140737488351232) (hv : ∀ a n c, v = .slice (some a) n c → a.block < w.heap.size) :
    Calls Tryz.prog 5 #[.string ck, v, .int .i64 rights, .int .i64 fuel] w fun e w' => ∃ g F, e = .returned (.tuple #[g, .int .i64 (opensM ck ts fuel).1, .int .i64 (opensM ck ts fuel).2]) ∧ GIs w' F g (GSt.opened ck ts rights fuel) ∧ (∀ k, F k → w.heap.size ≤ k) ∧ Kept (fun k => k < w.heap.size) w w' := by
  have HCo := hide (checkOpen_any ck w (fun k => k < w.heap.size) (fun k hk => hk) hck hLs.listed (hLs.lt _ (.inl rfl)) v ts hT (by omega) fuel)
  unfold ChkPost at HCo
  have HTk := hide (fun (w1 : World) (hk : Ext w w1) => hT.kept hk hv)
  obtain ⟨va, vc, hvf⟩ := hT.form
  obtain ⟨oe, hoe⟩ : ∃ x, x = (opensM ck ts fuel).1 := ⟨_, rfl⟩
  obtain ⟨op, hop⟩ : ∃ x, x = (opensM ck ts fuel).2 := ⟨_, rfl⟩
  have HOE := hide (And.intro hoe hop)
  rw [← hoe, ← hop] at HCo ⊢
  obtain ⟨i0, hi0, hz0, hz1, hz2⟩ := info_parts Tryz.infoGTest
  subst hvf
  clear hLs hT hv hoe hop
  go_enter Tryz.func5, Tryz.ntmps5
  go_wp2_with fail
  refine (unhide HCo).mono ?_
  rintro e w1 ⟨rfl, k1⟩
  clear HCo
  have K1 := hide k1
  clear k1
  by_cases hz : oe = 0
  · subst hz
    have h0 : (opensM ck ts fuel).1 = 0 := HOE.out.1.symm
    have hpl : op = 0 := by rw [HOE.out.2]; exact opens_place h0
    subst hpl
    have hok : Hid (GOk (GSt.opened ck ts rights fuel)) := by
      obtain ⟨a1, a2, a3, a4⟩ := opens_ok h0
      exact ⟨h0, opens_place h0, a1, a2, a3, a4, hck⟩
    have hT1 := HTk.out w1 K1.out
    have hrow0 : Hid (Row (w1.alloc (.cells #[] 42)) (fun k => k < w1.heap.size) 42 2 (.slice (some ⟨w1.heap.size, 0, none⟩) 0 0) 0 []) :=
      ⟨⟨rfl, .inr ⟨w1.heap.size, 0, #[], rfl, Nat.zero_le _, heap_alloc_new w1 _, Nat.le_refl _, Nat.zero_le _, rfl, rfl⟩⟩, fun k hk hp => by simp [Value.ownBlock] at hk; omega⟩
    have HKA : Hid (Ext w (w1.alloc (.cells #[] 42))) := K1.out.alloc _
    have HBD : Hid (∀ k, k < w1.heap.size → k < (w1.alloc (.cells #[] 42)).heap.size) := fun k hk => by simp; omega
    have HFin : Hid (∀ (w2 : World) (tv : Value), Row w2 (fun k => k < w1.heap.size) 42 2 tv ts.length (testCells ts) → Ext w w2 → ∃ F, GIs (w2.alloc (.cells #[.string ck, tv, .int .i64 rights, .int .i64 fuel, .int .i64 0, .int .i64 0, .string ⟨#[]⟩] 47)) F (.pointer (some ⟨w2.heap.size, 0, none⟩)) (GSt.opened ck ts rights fuel) ∧ (∀ k, F k → w.heap.size ≤ k) ∧ Kept (fun k => k < w.heap.size) w (w2.alloc (.cells #[.string ck, tv, .int .i64 rights, .int .i64 fuel, .int .i64 0, .int .i64 0, .string ⟨#[]⟩] 47))) := by
      intro w2 tv hr hx
      refine ⟨fun k => k = w2.heap.size ∨ tv.ownBlock = some k, ⟨w2.heap.size, tv, rfl, fun k => Iff.rfl, .inr ⟨hok.out, hr.own.alloc _, heap_alloc_new w2 _⟩⟩, fun k hk => ?_, hx.alloc _⟩
      rcases hk with rfl | hk
      · exact hx.size
      · have h1 := hr.out k hk
        have h2 := K1.out.size
        omega
    rcases hT1 with ⟨rfl, a, cap, hva⟩ | ⟨bb, oo, cap, hva, hbb, hcc⟩
    · simp only [List.length_nil] at *
      go_wp2_with (at_builtin; refine wpList_append_none _ rfl _ _ 22 rfl 42 i0 Tryz.underlying22 hi0 w1.heap.size va vc rfl rfl ?_)
      go_wp2
      go_ret3
      obtain ⟨F, q1, q2, q3⟩ := HFin.out _ _ hrow0.out HKA.out
      rw [show (w1.alloc (.cells #[] 42)).heap.size = w1.heap.size + 1 by simp] at q1
      exact ⟨_, F, rfl, q1, q2, q3⟩
    · simp only [Value.slice.injEq, true_and] at hva
      obtain ⟨rfl, rfl⟩ := hva
      have hnews : Hid (∀ j u, (testCells ts)[j]? = some u → (w1.alloc (.cells #[] 42)).cell? ((⟨bb, oo, none⟩ : Addr).add j) = some u) := by
        intro j u hj
        have hjl : j < ts.length * 2 := by rw [← testCells_length]; exact (List.getElem?_eq_some_iff.1 hj).1
        rw [Lib.add_plain]
        have hold : ∀ q : Addr, q.block = bb → (w1.alloc (.cells #[] 42)).cell? q = w1.cell? q := fun q hq => (Kept.refl (fun k => k < w1.heap.size) w1 |>.alloc _).cell (by rw [hq]; exact hbb) (by rw [hq]; exact hbb)
        rw [hold _ rfl]
        obtain ⟨t0, t1⟩ := testCells_at ts (j / 2) (by omega)
        obtain ⟨g0, g1⟩ := hcc (j / 2) (by omega)
        rcases Nat.mod_two_eq_zero_or_one j with hm | hm
        · have e : j = j / 2 * 2 := by omega
          rw [e] at hj ⊢
          rw [t0] at hj
          have e2 : j / 2 * 2 / 2 = j / 2 := by omega
          rw [g0]; exact hj
        · have e : j = j / 2 * 2 + 1 := by omega
          rw [e] at hj ⊢
          rw [t1] at hj
          rw [← Nat.add_assoc, g1]; exact hj
      have hone : Hid (∀ u ∈ testCells ts, u.oneCell' = true) := by
        intro u hu
        unfold testCells at hu
        rw [List.mem_flatMap] at hu
        obtain ⟨t, _, ht⟩ := hu
        simp only [List.mem_cons, List.not_mem_nil, or_false] at ht
        rcases ht with rfl | rfl <;> rfl
      have hln := testCells_length ts
      have HLN := hide hln
      clear hcc hln
      go_wp2_with (at_builtin; refine wpList_append_mine _ rfl _ _ 22 rfl (fun k => k < w1.heap.size) HBD.out 42 i0 (.agg #[.string ByteArray.empty, .string ByteArray.empty]) 2 32 Tryz.underlying22 hi0 hz0 hz1 hz2 rfl (by decide) (.slice (some ⟨w1.heap.size, 0, none⟩) 0 0) 0 [] rfl hrow0.out ⟨bb, oo, none⟩ ts.length vc (testCells ts) rfl HLN.out hnews.out hone.out ?c1 ?c2 ?_)
      case c1 => unfold maxLen; omega
      case c2 => omega
      intro tv w2 hr2 hg2
      have hr3 : Hid (Row w2 (fun k => k < w1.heap.size) 42 2 tv ts.length (testCells ts)) := hr2
      have X2 : Hid (Ext w w2) := HKA.out.grown hg2 (fun k hk hp => by simp [Value.ownBlock] at hk; have := K1.out.size; omega)
      clear hr2 hg2
      obtain ⟨ta, tc, htv⟩ := own_slice hr3.out.own
      subst htv
      go_wp2
      go_ret3
      obtain ⟨F, q1, q2, q3⟩ := HFin.out _ _ hr3.out X2.out
      exact ⟨_, F, rfl, q1, q2, q3⟩
  · have hnz : (oe == 0) = false := by rw [beq_eq_false_iff_ne]; exact hz
    go_wp2
    go_ret3
    refine ⟨_, fun k => k = w1.heap.size, rfl, ⟨w1.heap.size, .slice none 0 0, rfl, fun k => ⟨.inl, fun h => h.elim id (fun h => by cases h)⟩, .inl ⟨?_, rfl, rfl, ?_⟩⟩, fun k hk => by rw [hk]; exact K1.out.size, K1.out.alloc _⟩
    · show (opensM ck ts fuel).1 ≠ 0
      rw [← HOE.out.1]; exact hz
    · show _ = some (Obj.cells #[.string ⟨#[]⟩, .slice none 0 0, .int .i64 0, .int .i64 0, .int .i64 (opensM ck ts fuel).1, .int .i64 (opensM ck ts fuel).2, .string ⟨#[]⟩] _ _)
      rw [← HOE.out.1, ← HOE.out.2]
      exact heap_alloc_new w1 _

/-- The contract is kept. -/
def gSpec : GSpec where
  Is := GIs
  lt := GIs.lt
  frame := GIs.frame
  opens := open_any
  submit := submit_any
  marks := marks_any
end Go.Proofs.YtnanjomnldfidabGreatDoor

set_option linter.unusedSimpArgs false
set_option linter.unusedVariables false
set_option linter.unusedSectionVars false
namespace Go.Proofs.YtnanjomnldfidabGreatDoor
open Go.ChangeShapes Go.WideShapes Go.ChangeAt Go.RowKit Go.Deep

theorem array4 {α : Type} {cs : Array α} (h : cs.size = 4) : ∃ c0 c1 c2 c3, cs = #[c0, c1, c2, c3] := by
  obtain ⟨l⟩ := cs
  match l, h with
  | [c0, c1, c2, c3], _ => exact ⟨c0, c1, c2, c3, rfl⟩
theorem has_lt {P : Program} {w : World} {r : Go.Reach} {base : Nat} {a : Addr} {e : TypeId} {n : Nat} (h : w.has P r base a e n) : a.block < w.heap.size ∧ a.spot = none := by
  obtain ⟨_, hs, row, cells, hr, _⟩ := h
  refine ⟨?_, hs⟩
  unfold World.shape? at hr
  rcases Nat.lt_or_ge a.block w.heap.size with h1 | h1
  · exact h1
  · rw [Array.getElem?_eq_none h1] at hr; simp at hr
theorem cell_slice_lt {P : Program} {w : World} {r : Go.Reach} {base : Nat} {t e : TypeId} {a : Addr} {n c : Nat} (ht : P.underlying t = some (.slice e)) (h : Cell.okWide P w r base t (.slice (some a) n c)) : a.block < w.heap.size ∧ a.spot = none := by
  simp only [Cell.okWide, ht, Cell.ok] at h
  exact has_lt h.2.2

section
variable {H : Type} {enc : TypeId × Value → H} {w : World}
set_option maxRecDepth 100000 in
/-- A slice of tests. -/
theorem open_tests {r : Go.Reach} {base fuel : Nat} {v : Value} {x : DataW H × List MemPlace} (hv : Cell.okWide Tryz.prog w r base 22 v) (h : DataW.trod enc Tryz.prog w 0 (fun _ => true) true fuel 22 [v] = some x) (hw : ∀ n ∈ x.1.weights Tryz.prog 22, n ≤ reachBytes) :
    ∃ ts : List TestV, TestsAt w v ts ∧ (∀ a n c, v = .slice (some a) n c → a.block < w.heap.size) ∧ ts.length * 32 ≤ 140737488351232 ∧ (∀ i, (ts.getD i noTest).inp.size ≤ maxLen) ∧ (∀ i, (ts.getD i noTest).hidden.size ≤ maxLen) := by
  have hblk : ∀ a n c, v = .slice (some a) n c → a.block < w.heap.size := fun a n c e => by subst e; exact (cell_slice_lt Tryz.underlying22 hv).1
  rcases open_slice_pairs Tryz.underlying22 Tryz.underlying42 (by kernel_rfl) rfl rfl (by kernel_rfl) (by kernel_rfl) h with ⟨hcs, _⟩ | ⟨a, len, cap, m, n, V0, V1, D0, D1, P0, P1, hcs, _, hlc, hcm, hm, rfl, hc⟩
  · simp only [List.cons.injEq, and_true] at hcs
    subst hcs
    refine ⟨[], .inl ⟨rfl, none, 0, rfl⟩, hblk, by simp, fun i => ?_, fun i => ?_⟩ <;> (unfold maxLen; exact Nat.zero_le _)
  · simp only [List.cons.injEq, and_true] at hcs
    subst hcs
    obtain ⟨b, o, sp⟩ := a
    obtain ⟨hb, hsp⟩ := cell_slice_lt Tryz.underlying22 hv
    simp only at hb hsp
    subst hsp
    have hlm : len ≤ m := by rw [hm]; split <;> omega
    have each : ∀ i, i < len → ∃ q : TestV, w.cell? ⟨b, o + i * 2, none⟩ = some (.string q.inp) ∧ w.cell? ⟨b, o + i * 2 + 1, none⟩ = some (.string q.hidden) ∧ q.inp.size ≤ maxLen ∧ q.hidden.size ≤ maxLen := fun i hi => by
      obtain ⟨g0, g1, h0, h1⟩ := hc i (by omega)
      obtain ⟨s0, e0, _, q0⟩ := DataW.trod_string Tryz.underlying9 h0
      obtain ⟨s1, e1, _, q1⟩ := DataW.trod_string Tryz.underlying9 h1
      simp only [List.cons.injEq, and_true] at e0 e1
      rw [add_plain] at g0 g1
      exact ⟨⟨s0, s1⟩, by rw [g0, e0], by rw [show o + i * 2 + 1 = o + (i * 2 + 1) by omega, g1, e1], q0, q1⟩
    haveI : Inhabited TestV := ⟨noTest⟩
    obtain ⟨q, hq⟩ := choose_lt each
    have hget : ∀ i, i < len → ((List.range len).map q).getD i noTest = q i := fun i hi => by simp [List.getD, hi]
    have hout : ∀ i, ¬ i < len → ((List.range len).map q).getD i noTest = noTest := fun i hi => by simp [List.getD, Nat.not_lt.1 hi]
    refine ⟨(List.range len).map q, .inr ⟨b, o, cap, by simp, hb, fun k hk => ?_⟩, hblk, ?_, fun i => ?_, fun i => ?_⟩
    · have hk' : k < len := by simpa using hk
      rw [hget k hk']
      exact ⟨(hq k hk').1, (hq k hk').2.1⟩
    · have := hw ((len + (m - len)) * Tryz.prog.bytesOf 42) (by simp [DataW.weights, Tryz.underlying22])
      rw [show Tryz.prog.bytesOf 42 = 32 by kernel_rfl] at this
      simp only [List.length_map, List.length_range]
      unfold reachBytes at this
      omega
    · by_cases hi : i < len
      · rw [hget i hi]; exact (hq i hi).2.2.1
      · rw [hout i hi]; unfold maxLen; exact Nat.zero_le _
    · by_cases hi : i < len
      · rw [hget i hi]; exact (hq i hi).2.2.2
      · rw [hout i hi]; unfold maxLen; exact Nat.zero_le _

set_option maxRecDepth 100000 in
/-- A slice of strings. -/
theorem open_list {r : Go.Reach} {base fuel : Nat} {v : Value} {x : DataW H × List MemPlace} (hv : Cell.okWide Tryz.prog w r base 25 v) (h : DataW.trod enc Tryz.prog w 0 (fun _ => true) true fuel 25 [v] = some x) (hw : ∀ n ∈ x.1.weights Tryz.prog 25, n ≤ reachBytes) :
    ∃ ls : List ByteArray, StrsAt w v ls ∧ (∀ a n c, v = .slice (some a) n c → a.block < w.heap.size) ∧ ls.length ≤ 140737488351232 ∧ (∀ i, (ls.getD i ByteArray.empty).size ≤ maxLen) := by
  have hblk : ∀ a n c, v = .slice (some a) n c → a.block < w.heap.size := fun a n c e => by subst e; exact (cell_slice_lt Tryz.underlying25 hv).1
  rcases open_strs Tryz.underlying25 Tryz.underlying9 (by kernel_rfl) h with ⟨hcs, _⟩ | ⟨a, len, cap, m, Sx, hcs, _, hlc, hcm, hm, rfl, hc⟩
  · simp only [List.cons.injEq, and_true] at hcs
    subst hcs
    refine ⟨[], .inl ⟨rfl, none, 0, rfl⟩, hblk, by simp, fun i => ?_⟩
    unfold maxLen; exact Nat.zero_le _
  · simp only [List.cons.injEq, and_true] at hcs
    subst hcs
    obtain ⟨b, o, sp⟩ := a
    obtain ⟨hb, hsp⟩ := cell_slice_lt Tryz.underlying25 hv
    simp only at hb hsp
    subst hsp
    have hlm : len ≤ m := by rw [hm]; split <;> omega
    have hget : ∀ i, i < len → ((List.range len).map Sx).getD i ByteArray.empty = Sx i := fun i hi => by simp [List.getD, hi]
    have hout : ∀ i, ¬ i < len → ((List.range len).map Sx).getD i ByteArray.empty = ByteArray.empty := fun i hi => by simp [List.getD, Nat.not_lt.1 hi]
    refine ⟨(List.range len).map Sx, .inr ⟨b, o, cap, by simp, hb, fun k hk => ?_⟩, hblk, ?_, fun i => ?_⟩
    · have hk' : k < len := by simpa using hk
      rw [hget k hk']
      have := (hc k (by omega)).1
      rwa [add_plain] at this
    · have := hw ((len + (m - len)) * Tryz.prog.bytesOf 9) (by simp [DataW.weights, Tryz.underlying25])
      rw [show Tryz.prog.bytesOf 9 = 16 by kernel_rfl] at this
      simp only [List.length_map, List.length_range]
      unfold reachBytes at this
      omega
    · by_cases hi : i < len
      · rw [hget i hi]; exact (hc i (by omega)).2
      · rw [hout i hi]; unfold maxLen; exact Nat.zero_le _

theorem open_four {P : Program} {base : Nat} {spare : Nat → Bool} {held : Bool} {t : TypeId} {f0 f1 f2 f3 : Field} {fuel : Nat} {c0 c1 c2 c3 : Value} {x : DataW H × List MemPlace} (ht : P.underlying t = some (.struct #[f0, f1, f2, f3])) (hone : oneCellFields P #[f0, f1, f2, f3] = true) (h : DataW.trod enc P w base spare held fuel t [c0, c1, c2, c3] = some x) :
    ∃ y0 y1 y2 y3 n, x = (.agg [y0.1, y1.1, y2.1, y3.1], y0.2 ++ (y1.2 ++ (y2.2 ++ y3.2))) ∧ DataW.trod enc P w base spare held n f0.type [c0] = some y0 ∧ DataW.trod enc P w base spare held n f1.type [c1] = some y1 ∧ DataW.trod enc P w base spare held n f2.type [c2] = some y2 ∧ DataW.trod enc P w base spare held n f3.type [c3] = some y3 := by
  obtain ⟨xs, n, _, rfl, hl, hlen, hf⟩ := DataW.trod_struct ht h
  obtain ⟨o0, k0⟩ := hone_of hone 0 f0 rfl
  obtain ⟨o1, k1⟩ := hone_of hone 1 f1 rfl
  obtain ⟨o2, k2⟩ := hone_of hone 2 f2 rfl
  obtain ⟨o3, k3⟩ := hone_of hone 3 f3 rfl
  match xs, hlen with
  | [y0, y1, y2, y3], _ => exact ⟨y0, y1, y2, y3, n, by simp, by simpa [o0, k0] using hf 0 f0 rfl, by simpa [o1, k1] using hf 1 f1 rfl, by simpa [o2, k2] using hf 2 f2 rfl, by simpa [o3, k3] using hf 3 f3 rfl⟩

set_option maxRecDepth 100000 in
/-- An Exam by value. -/
theorem open_exam {r : Go.Reach} {base : Nat} {v : Value} {d : DataW H} {p : List MemPlace} (hv : Value.okWide Tryz.prog w r base 24 v) (h : DataW.Trod enc Tryz.prog w 0 (fun _ => true) true 24 v d p) (hw : ∀ n ∈ d.weights Tryz.prog 24, n ≤ reachBytes) :
    ∃ (ck : ByteArray) (tv : Value) (ts : List TestV) (rights fuel : Int), v = .agg #[.string ck, tv, .int .i64 rights, .int .i64 fuel] ∧ ck.size ≤ maxLen ∧ TestsAt w tv ts ∧ (∀ a n c, tv = .slice (some a) n c → a.block < w.heap.size) ∧ ts.length * 32 ≤ 140737488351232 ∧ (∀ i, (ts.getD i noTest).inp.size ≤ maxLen) ∧ (∀ i, (ts.getD i noTest).hidden.size ≤ maxLen) := by
  have hv2 := hv
  simp only [Value.okWide, Tryz.underlying24] at hv2
  obtain ⟨cs, rfl, hsz, tys, hty, _, hrow⟩ := hv2
  obtain ⟨c0, c1, c2, c3, rfl⟩ := array4 (hsz.trans (show Tryz.prog.cellsOf 24 = 4 by kernel_rfl))
  have hty2 : Tryz.prog.cellTypes Tryz.prog.depth 24 = some [9, 22, 3, 3] := by kernel_rfl
  obtain rfl := Option.some.inj (hty2.symm.trans hty)
  obtain ⟨fuel, hf⟩ := h
  have hf4 : DataW.trod enc Tryz.prog w 0 (fun _ => true) true fuel 24 [c0, c1, c2, c3] = some (d, p) := by simpa [Value.cells] using hf
  obtain ⟨y0, y1, y2, y3, n, hx, g0, g1, g2, g3⟩ := open_four Tryz.underlying24 (by kernel_rfl) hf4
  simp only [Prod.mk.injEq] at hx
  obtain ⟨rfl, rfl⟩ := hx
  obtain ⟨s0, e0, _, q0⟩ := DataW.trod_string Tryz.underlying9 g0
  obtain ⟨n2, e2, _, _⟩ := DataW.trod_int Tryz.underlying3 g2
  obtain ⟨n3, e3, _, _⟩ := DataW.trod_int Tryz.underlying3 g3
  simp only [List.cons.injEq, and_true] at e0 e2 e3
  subst e0 e2 e3
  obtain ⟨u, hu, hc1⟩ := hrow 1 c1 rfl
  have hu' : u = 22 := by simpa using hu.symm
  subst hu'
  obtain ⟨ts, a1, a2, a3, a4, a5⟩ := open_tests hc1 g1 (fun k hk => hw k (by
    simp only [DataW.weights, Tryz.underlying24]
    exact DataW.weights_mem_each (j := 1) (t := 22) (d := y1.1) rfl rfl k hk))
  exact ⟨s0, c1, ts, n2, n3, rfl, q0, a1, a2, a3, a4, a5⟩
end
end Go.Proofs.YtnanjomnldfidabGreatDoor

set_option linter.unusedSimpArgs false
set_option linter.unusedVariables false
set_option linter.unusedSectionVars false
namespace Go.Proofs.YtnanjomnldfidabGreatDoor
open Go.ChangeShapes Go.WideShapes Go.ChangeAt Go.RowKit

/-- A listed table of integers, wherever it stands on the list. -/
theorem tab_of_laid {P : Program} {W : World} {name : String} {k : IntKind} {zs : List Int} {g : Nat} {t e : TypeId} {n : Nat}
    (hg : P.globalNamed name = some g) (hty : (P.globals[g]?).map (·.type) = some t) (ht : P.underlying t = some (.array n e)) (he : P.underlying e = some (.int k)) (hce : P.cellsOf e = 1) (hct : P.cellsOf t = n) :
    ∀ (laid : List (String × DataW Unit)) ps, DataW.LaidVars P W laid ps → (name, Lib.tabData k zs) ∈ laid → Lib.TabIs P W name k zs
  | [], ps, h, hm => by simp at hm
  | (n', d) :: r, ps, h, hm => by
    obtain ⟨g', t', cs, fuel, p, q, hg', ht', hvar, hd, hrest, _⟩ := h
    rcases List.mem_cons.1 hm with hm | hm
    · simp only [Prod.mk.injEq] at hm
      obtain ⟨rfl, rfl⟩ := hm
      obtain rfl := Option.some.inj (hg.symm.trans hg')
      obtain rfl := Option.some.inj (hty.symm.trans ht')
      unfold Lib.TabIs
      rw [hvar, ← Lib.cells_of_tab ht he hce hct hd]
    · exact tab_of_laid hg hty ht he hce hct r q hrest hm
theorem ten_type : (Tryz.prog.globals[3]?).map (·.type) = some 136 := by kernel_rfl
theorem ten_cells : Tryz.prog.cellsOf 136 = 20 := by kernel_rfl
theorem ten_one : Tryz.prog.cellsOf 131 = 1 := by kernel_rfl
theorem ten_data : (Rows.laid_internal_strconv_uint64pow10 : DataW Unit) = Lib.tabData .u64 Lib.pow10Tab := by kernel_rfl
theorem listed_data : (Rows.laid_grader_grader_listed : DataW Unit) = .agg (listedL.map fun z => .lit (.string z)) := by kernel_rfl
theorem ls_of_laid {W : World} {laid : List (String × DataW Unit)} (h : laidMet Tryz.prog laid W) (h1 : ("grader/grader.listed", Rows.laid_grader_grader_listed) ∈ laid) (h2 : ("internal/strconv.uint64pow10", Rows.laid_internal_strconv_uint64pow10) ∈ laid) : LsAt W := by
  have h' : laidMet Tryz.prog laid W := h
  obtain ⟨ps, hv, _⟩ := h'
  rw [listed_data] at h1
  rw [ten_data] at h2
  exact ⟨words_of_laid gListed gListedT Tryz.underlying101 Tryz.underlying9 cellsStr cellsArr19 _ ps hv h1, tab_of_laid ten_named ten_type Tryz.underlying136 Tryz.underlying131 ten_one ten_cells _ ps hv h2⟩
theorem forms_data : (Rows.laid_grader_graderref_forms : DataW Unit) = .agg (formsL.map fun z => .lit (.string z)) := by kernel_rfl
theorem rlisted_data : (Rows.laid_grader_graderref_listed : DataW Unit) = .agg (listedL.map fun z => .lit (.string z)) := by kernel_rfl
theorem globs_of_laid {W : World} {laid : List (String × DataW Unit)} (h : laidMet Tryz.prog laid W) (h1 : ("grader/grader.listed", Rows.laid_grader_grader_listed) ∈ laid) (h2 : ("internal/strconv.uint64pow10", Rows.laid_internal_strconv_uint64pow10) ∈ laid)
    (h3 : ("grader/graderref.forms", Rows.laid_grader_graderref_forms) ∈ laid) (h4 : ("grader/graderref.listed", Rows.laid_grader_graderref_listed) ∈ laid) : Globs W := by
  refine ⟨ls_of_laid h h1 h2, ?_, ?_⟩
  all_goals (
    have h' : laidMet Tryz.prog laid W := h
    obtain ⟨ps, hv, _⟩ := h')
  · rw [forms_data] at h3
    exact words_of_laid gRefForms gRefFormsT Tryz.underlying99 Tryz.underlying9 cellsStr cellsArr11 _ ps hv h3
  · rw [rlisted_data] at h4
    exact words_of_laid gRefListed gRefListedT Tryz.underlying101 Tryz.underlying9 cellsStr cellsArr19 _ ps hv h4

/-- A variable's cells, out of its datum: for the witness. -/
def cellOf : DataW Unit → Value
  | .lit (.int k z) => .int k z
  | .lit (.string s) => .string ⟨s.toArray⟩
  | _ => undef
def fillD (d : DataW Unit) (o : Obj) : Obj := match o, d with
  | .cells _ t f, .agg l => .cells (l.map cellOf).toArray t f
  | o, _ => o
theorem laidOut : laidOutB Tryz.prog = true := by kernel_rfl

section
variable {H : Type} {enc : TypeId × Value → H} {W W' : World}
/-- An argument that is only read is handed back as it was. -/
theorem back {t : TypeId} {v : Value} {d : DataW H} {p : List MemPlace} (hr : Tryz.prog.readableRec t = true) (ht : t < Tryz.prog.types.size) (h : DataW.Trod enc Tryz.prog W 0 (fun _ => true) true t v d p) (hk : Below W.heap.size W W') (hlt : ∀ x ∈ p, x.block < W.heap.size) :
    DataW.Trod enc Tryz.prog W' 0 (fun x => decide (x < W.heap.size)) true t v d p :=
  WideElems.Trod_stays laidOut hr ht h (fun x hx => hk.same (hlt x hx)) (fun x hx => by simpa using hlt x hx)
theorem weigh {ts : List TypeId} {ds : List (DataW H)} (h : (DataW.weightsEach Tryz.prog ts ds).all (· ≤ reachBytes) = true) (j : Nat) {t : TypeId} {d : DataW H} (ht : ts[j]? = some t) (hd : ds[j]? = some d) : ∀ n ∈ d.weights Tryz.prog t, n ≤ reachBytes := fun n hn => by
  have := List.all_eq_true.1 h _ (DataW.weights_mem_each ht hd n hn)
  simpa using this
end
end Go.Proofs.YtnanjomnldfidabGreatDoor
