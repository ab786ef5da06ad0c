/-
  Package grader's compiler: codeOrder, placeAt, codePlaces.
  Package grader's compiler: codePlaces.
  Package grader's compiler: writeCode, Compile.
-/
import Derived.Test.YtnanjomnldfidabDoorRdDesToCompSim
import Derived.Test.YtnanjomnldfidabDoorDcOps
import Derived.Test.YtnanjomnldfidabDoorDmRun
import Derived.Deep.OwnRows
import Derived.Test.YtnanjomnldfidabDoorDmNew
set_option linter.unusedSimpArgs false
set_option linter.unusedVariables false
set_option linter.unusedSectionVars false
namespace Go.Proofs.YtnanjomnldfidabDoor
open Go.RowKit

def natI (l : List Nat) : List Int := l.map fun n : Nat => (n : Int)
theorem natI_snoc (l : List Nat) (n : Nat) : intCells (natI (l ++ [n])) = intCells (natI l) ++ [.int .i64 (n : Int)] := by simp [natI, intCells]
theorem natI_append (l m : List Nat) : intCells (natI (l ++ m)) = intCells (natI l) ++ intCells (natI m) := by simp [natI, intCells]
theorem natI_length (l : List Nat) : (intCells (natI l)).length = l.length := by simp [natI, intCells]
theorem natI_at (l : List Nat) (k : Nat) (h : k < l.length) : (intCells (natI l))[k]? = some (.int .i64 ((l.getD k 0 : Nat) : Int)) := by
  simp [natI, intCells, List.getD, h]
def IRow (w : World) (P : Nat → Prop) (v : Value) (l : List Nat) : Prop := Row w P 3 1 v l.length (intCells (natI l))
theorem IRow.cells {w : World} {P : Nat → Prop} {v : Value} {l : List Nat} (h : IRow w P v l) {k : Nat} (hk : k < l.length) : ∃ f cp, v = .slice (some ⟨f, 0, none⟩) l.length cp ∧ f < w.heap.size ∧ w.cell? ⟨f, k, none⟩ = some (.int .i64 ((l.getD k 0 : Nat) : Int)) := by
  obtain ⟨f, cp, rfl⟩ := own_form h.own (by omega)
  exact ⟨f, cp, rfl, (World.ownsRow.lt h.own f rfl).2, by rw [World.ownsRow.cellAt h.own _ (by omega)]; exact natI_at l k hk⟩
theorem IRow.kept {w w' : World} {P Q : Nat → Prop} {v : Value} {l : List Nat} (h : IRow w P v l) (hk : Kept Q w w') (hq : ∀ k, v.ownBlock = some k → Q k) : IRow w' P v l := by
  refine ⟨⟨h.own.1, ?_⟩, h.out⟩
  rcases h.own.2 with hn | ⟨g, cap, cur, rfl, hb, hg, rest⟩
  · exact .inl hn
  · exact .inr ⟨g, cap, cur, rfl, hb, hk.at' hg (hq g rfl), rest⟩
theorem irow_new (w : World) (P : Nat → Prop) (hP : ∀ k, P k → k < w.heap.size) : IRow (w.alloc (.cells #[] 3)) P (.slice (some ⟨w.heap.size, 0, none⟩) 0 0) [] :=
  ⟨⟨rfl, .inr ⟨w.heap.size, 0, #[], rfl, Nat.zero_le _, heap_alloc_new w _, Nat.le_refl _, by unfold maxLen; omega, rfl, rfl⟩⟩, fun k hk hp => by
    have e : w.heap.size = k := by simpa [Value.ownBlock] using hk
    subst e; have := hP _ hp; omega⟩

set_option maxRecDepth 100000 in
set_option maxHeartbeats 3200000 in
theorem codeOrder_any {w : World} {P : Nat → Prop} (hP : ∀ k, P k → k < w.heap.size) (v : Value) (H : List (Int × Int)) (hS : StepsIs w v H) (hv : ∀ k, v.ownBlock = some k → P k) (hl : H.length ≤ 300) (hpos : 0 < H.length) :
    Calls Tryd.prog 41 #[v] w fun e w' => ∃ v', e = .returned v' ∧ IRow w' P v' (orderL H) ∧ Kept P w w' := by
  have HC := hide (fun (w' : World) (k : Nat) (hk : Kept P w w') (hlt : k < H.length) => (hS.kept hk hv).cells hlt)
  obtain ⟨va, vc, rfl⟩ := own_form hS hpos
  have hva := (World.ownsRow.lt hS va rfl).2
  obtain ⟨i0, hi, hz0, hz1, hz2⟩ := info_parts Tryd.infoInt
  have HP := hide hP
  have hr1 := hide (irow_new w P hP)
  have hr2 := hide (irow_new (w.alloc (.cells #[] 3)) P (fun k hk => by have := hP k hk; simp; omega))
  have hva2 : P va := hv va rfl
  clear hS hv hP
  go_enter Tryd.func41, Tryd.ntmps41
  go_wp2
  go_loopw [3, 4, 5, 6] (fun vo vd de i wr => ∃ (k go co gd cd : Nat), k ≤ H.length ∧ i = .int .i64 k ∧ de = .int .i64 (defEnd H k) ∧ vo = .slice (some ⟨go, 0, none⟩) (ownL H k).length co ∧ vd = .slice (some ⟨gd, 0, none⟩) (defL H k).length cd ∧
      IRow wr P (.slice (some ⟨go, 0, none⟩) (ownL H k).length co) (ownL H k) ∧ IRow wr P (.slice (some ⟨gd, 0, none⟩) (defL H k).length cd) (defL H k) ∧ go ≠ gd ∧ Kept P w wr) (fun _ _ _ i _ => H.length - (intOf i).toNat)
  case atStart =>
    refine ⟨0, w.heap.size, 0, w.heap.size + 1, 0, Nat.zero_le _, rfl, rfl, rfl, by simp [defL], ?_, ?_, by omega, ((Kept.refl P w).alloc _).alloc _⟩
    · exact Row.alloc hr1.out _
    · have e : (w.alloc (.cells #[] 3)).heap.size = w.heap.size + 1 := by simp
      have := hr2.out
      rw [e] at this
      exact this
  case round =>
    obtain ⟨k, go, co, gd, cd, hk, rfl, rfl, rfl, rfl, ro, rd, hne, hkw⟩ := hrel
    clear hr1 hr2
    have hgo : go < wr.heap.size := ro.lt rfl
    have hgd : gd < wr.heap.size := rd.lt rfl
    have hvr : va < wr.heap.size := Nat.lt_of_lt_of_le hva hkw.size
    by_cases hlt : k < H.length
    · obtain ⟨f, cp, hvv, hf, e0, e1⟩ := (unhide HC) wr k hkw hlt
      simp only [Value.slice.injEq, Option.some.injEq, Addr.mk.injEq, and_true, true_and] at hvv
      obtain ⟨rfl, rfl⟩ := hvv
      have e0' : wr.cell? ⟨va, k * 2, none⟩ = some (.int .i64 (opS H k)) := e0
      have e1' : wr.cell? ⟨va, k * 2 + 1, none⟩ = some (.int .i64 (argS H k)) := e1
      clear e0 e1
      have l1 := two_len (H := H) k
      by_cases c : opS H k = -1
      · have o1 := ownL_pass c
        have o2 := defL_pass c
        have o3 : defEnd H (k + 1) = argS H k := by show (if opS H k = -1 then _ else _) = _; rw [if_pos c]
        have cb : (opS H k == -1) = true := by rw [c]; rfl
        have fin : Hid (∃ (k_1 go_1 co_1 gd_1 cd_1 : Nat), k_1 ≤ H.length ∧ Value.int .i64 ((k : Int) + 1) = .int .i64 k_1 ∧ Value.int .i64 (argS H k) = .int .i64 (defEnd H k_1) ∧ Value.slice (some ⟨go, 0, none⟩) (ownL H k).length co = .slice (some ⟨go_1, 0, none⟩) (ownL H k_1).length co_1 ∧ Value.slice (some ⟨gd, 0, none⟩) (defL H k).length cd = .slice (some ⟨gd_1, 0, none⟩) (defL H k_1).length cd_1 ∧
            IRow wr P (.slice (some ⟨go_1, 0, none⟩) (ownL H k_1).length co_1) (ownL H k_1) ∧ IRow wr P (.slice (some ⟨gd_1, 0, none⟩) (defL H k_1).length cd_1) (defL H k_1) ∧ go_1 ≠ gd_1 ∧ Kept P w wr) :=
          ⟨k + 1, go, co, gd, cd, by omega, by go_num, by rw [o3], by rw [o1], by rw [o2], by rw [o1]; exact ro, by rw [o2]; exact rd, hne, hkw⟩
        clear o1 o2 o3 ro rd HC hkw
        generalize (ownL H k).length = no at *
        generalize (defL H k).length = nd at *
        generalize opS H k = op at *
        generalize argS H k = arg at *
        go_wp2
        go_roundw
        case rel => exact fin.out
        case measure => simp [intOf]; omega
      · have cb : (opS H k == -1) = false := beq_eq_false_iff_ne.2 c
        have o3 : defEnd H (k + 1) = defEnd H k := by show (if opS H k = -1 then _ else _) = _; rw [if_neg c]
        by_cases c2 : (k : Int) < defEnd H k
        · have o1 := ownL_def c c2
          have o2 := defL_def c c2
          have hrow : Row wr (fun j => P j ∨ j = go) 3 1 (.slice (some ⟨gd, 0, none⟩) (defL H k).length cd) (defL H k).length (intCells (natI (defL H k))) := ⟨rd.own, fun j hj hp => hp.elim (rd.out j hj) (fun e => by cases hj; exact hne e.symm)⟩
          have hbd : Hid (∀ j, P j ∨ j = go → j < (wr.alloc (.cells #[.int .i64 (k : Int)] 3)).heap.size) := by
            intro j hj
            rcases hj with hj | hj
            · have := HP.out j hj; have := hkw.size; simp; omega
            · simp; omega
          have hro := hide ro
          have hrd := hide rd
          have KW := hide hkw
          have ln : (defL H k).length ≤ 300 := by omega
          have hrow2 := hide (hrow.alloc (.cells #[.int .i64 (k : Int)] 3))
          have O1 := hide o1
          have O2 := hide o2
          have O3 := hide o3
          have HNE := hide hne
          clear o1 o2 o3 ro rd hkw hrow HC hne
          generalize opS H k = op at *
          go_wp2_with (at_builtin; refine wpList_append_mine _ rfl _ _ 87 rfl _ hbd.out 3 i0 _ 1 8 Tryd.underlying87 hi hz0 hz1 hz2 rfl (by decide) _ _ _ rfl hrow2.out ⟨wr.heap.size, 0, none⟩ 1 1 [.int .i64 (k : Int)] rfl rfl ?c1 ?c2 ?c3 ?c4 ?_)
          case c1 => exact cell_one_new _ _ _
          case c2 => intro u hu; simp at hu; subst hu; rfl
          case c3 => unfold maxLen; omega
          case c4 => omega
          intro v' w1 hown' hgrow
          obtain ⟨g', cp', hvv⟩ := own_form hown'.own (by omega)
          subst hvv
          have hro2 : IRow w1 P (.slice (some ⟨go, 0, none⟩) (ownL H k).length co) (ownL H k) := (Row.alloc hro.out _).kept hgrow (.inr fun e => by simp [Value.ownBlock] at e; exact HNE.out e)
          have hkk : Kept P w w1 := (KW.out.alloc _).grown hgrow (fun j hj => hrd.out.out j hj)
          have fin : Hid (∃ (k_1 go_1 co_1 gd_1 cd_1 : Nat), k_1 ≤ H.length ∧ Value.int .i64 ((k : Int) + 1) = .int .i64 k_1 ∧ Value.int .i64 (defEnd H k) = .int .i64 (defEnd H k_1) ∧ Value.slice (some ⟨go, 0, none⟩) (ownL H k).length co = .slice (some ⟨go_1, 0, none⟩) (ownL H k_1).length co_1 ∧ Value.slice (some ⟨g', 0, none⟩) ((defL H k).length + 1) cp' = .slice (some ⟨gd_1, 0, none⟩) (defL H k_1).length cd_1 ∧
              IRow w1 P (.slice (some ⟨go_1, 0, none⟩) (ownL H k_1).length co_1) (ownL H k_1) ∧ IRow w1 P (.slice (some ⟨gd_1, 0, none⟩) (defL H k_1).length cd_1) (defL H k_1) ∧ go_1 ≠ gd_1 ∧ Kept P w w1) := by
            refine ⟨k + 1, go, co, g', cp', by omega, by go_num, by rw [O3.out], by rw [O1.out], by rw [O2.out]; simp, by rw [O1.out]; exact hro2, ?_, fun e => hown'.out g' rfl (.inr e.symm), hkk⟩
            rw [O2.out]
            unfold IRow
            rw [natI_snoc, List.length_append, List.length_singleton]
            exact hown'.mono fun j hj => .inl hj
          clear O1 O2 O3 hro hrd KW hown' hgrow hro2 hkk hrow2 hbd HNE
          go_wp2
          go_roundw
          case rel => exact fin.out
          case measure => simp [intOf]; omega
        · have o1 := ownL_own c c2
          have o2 := defL_own c c2
          have hrow : Row wr (fun j => P j ∨ j = gd) 3 1 (.slice (some ⟨go, 0, none⟩) (ownL H k).length co) (ownL H k).length (intCells (natI (ownL H k))) := ⟨ro.own, fun j hj hp => hp.elim (ro.out j hj) (fun e => by cases hj; exact hne e)⟩
          have hbd : Hid (∀ j, P j ∨ j = gd → j < (wr.alloc (.cells #[.int .i64 (k : Int)] 3)).heap.size) := by
            intro j hj
            rcases hj with hj | hj
            · have := HP.out j hj; have := hkw.size; simp; omega
            · simp; omega
          have hro := hide ro
          have hrd := hide rd
          have KW := hide hkw
          have ln : (ownL H k).length ≤ 300 := by omega
          have hrow2 := hide (hrow.alloc (.cells #[.int .i64 (k : Int)] 3))
          have O1 := hide o1
          have O2 := hide o2
          have O3 := hide o3
          have HNE := hide hne
          clear o1 o2 o3 ro rd hkw hrow HC hne
          generalize opS H k = op at *
          go_wp2_with (at_builtin; refine wpList_append_mine _ rfl _ _ 87 rfl _ hbd.out 3 i0 _ 1 8 Tryd.underlying87 hi hz0 hz1 hz2 rfl (by decide) _ _ _ rfl hrow2.out ⟨wr.heap.size, 0, none⟩ 1 1 [.int .i64 (k : Int)] rfl rfl ?c1 ?c2 ?c3 ?c4 ?_)
          case c2 => first | rfl | (intro u hu; simp at hu; subst hu; rfl)
          case c3 => unfold maxLen; omega
          case c4 => omega
          intro v' w1 hown' hgrow
          obtain ⟨g', cp', hvv⟩ := own_form hown'.own (by omega)
          subst hvv
          have hrd2 : IRow w1 P (.slice (some ⟨gd, 0, none⟩) (defL H k).length cd) (defL H k) := (Row.alloc hrd.out _).kept hgrow (.inr fun e => by simp [Value.ownBlock] at e; exact HNE.out e.symm)
          have hkk : Kept P w w1 := (KW.out.alloc _).grown hgrow (fun j hj => hro.out.out j hj)
          have fin : Hid (∃ (k_1 go_1 co_1 gd_1 cd_1 : Nat), k_1 ≤ H.length ∧ Value.int .i64 ((k : Int) + 1) = .int .i64 k_1 ∧ Value.int .i64 (defEnd H k) = .int .i64 (defEnd H k_1) ∧ Value.slice (some ⟨g', 0, none⟩) ((ownL H k).length + 1) cp' = .slice (some ⟨go_1, 0, none⟩) (ownL H k_1).length co_1 ∧ Value.slice (some ⟨gd, 0, none⟩) (defL H k).length cd = .slice (some ⟨gd_1, 0, none⟩) (defL H k_1).length cd_1 ∧
              IRow w1 P (.slice (some ⟨go_1, 0, none⟩) (ownL H k_1).length co_1) (ownL H k_1) ∧ IRow w1 P (.slice (some ⟨gd_1, 0, none⟩) (defL H k_1).length cd_1) (defL H k_1) ∧ go_1 ≠ gd_1 ∧ Kept P w w1) := by
            refine ⟨k + 1, g', cp', gd, cd, by omega, by go_num, by rw [O3.out], by rw [O1.out]; simp, by rw [O2.out], ?_, by rw [O2.out]; exact hrd2, fun e => hown'.out g' rfl (.inr e), hkk⟩
            rw [O1.out]
            unfold IRow
            rw [natI_snoc, List.length_append, List.length_singleton]
            exact hown'.mono fun j hj => .inl hj
          clear O1 O2 O3 hro hrd KW hown' hgrow hrd2 hkk hrow2 hbd HNE
          go_wp2
          go_roundw
          case rel => exact fin.out
          case measure => simp [intOf]; omega
    · have hke : k = H.length := by omega
      subst hke
      have hbd : Hid (∀ j, P j → j < wr.heap.size) := fun j hj => by have := HP.out j hj; have := hkw.size; omega
      have l1 := two_len (H := H) H.length
      have hcells : Hid (∀ (j : Nat) u, (intCells (natI (defL H H.length)))[j]? = some u → wr.cell? ((⟨gd, 0, none⟩ : Addr).add j) = some u) := by
        intro j u hu
        have e : (⟨gd, 0, none⟩ : Addr).add j = ⟨gd, j, none⟩ := by unfold Addr.add; split <;> simp_all
        have hj : j < (intCells (natI (defL H H.length))).length := by
          rcases Nat.lt_or_ge j (intCells (natI (defL H H.length))).length with h | h
          · exact h
          · rw [List.getElem?_eq_none h] at hu; cases hu
        rw [natI_length] at hj
        rw [e, World.ownsRow.cellAt rd.own j (by omega)]
        exact hu
      have hone : Hid (∀ u ∈ intCells (natI (defL H H.length)), u.oneCell' = true) := by
        intro u hu
        unfold intCells at hu
        obtain ⟨x, _, rfl⟩ := List.mem_map.1 hu
        rfl
      have hlen : Hid ((intCells (natI (defL H H.length))).length = (defL H H.length).length * 1) := by unfold Hid; rw [natI_length, Nat.mul_one]
      have hro := hide ro
      have KW := hide hkw
      have hor : Hid (orderL H = ownL H H.length ++ defL H H.length) := rfl
      clear ro rd hkw HC
      go_wp2_with (at_builtin; refine wpList_append_mine _ rfl _ _ 87 rfl P hbd.out 3 i0 _ 1 8 Tryd.underlying87 hi hz0 hz1 hz2 rfl (by decide) _ _ _ rfl hro.out ⟨gd, 0, none⟩ (defL H H.length).length cd (intCells (natI (defL H H.length))) rfl hlen.out hcells.out hone.out (by unfold maxLen; omega) (by omega) ?_)
      intro v' w1 hown' hgrow
      obtain ⟨a', cp', hvv⟩ := own_slice hown'.own
      subst hvv
      have hkk : Kept P w w1 := KW.out.grown hgrow (fun j hj => hro.out.out j hj)
      have fin : Hid (IRow w1 P (.slice a' ((ownL H H.length).length + (defL H H.length).length) cp') (orderL H) ∧ Kept P w w1) := by
        refine ⟨?_, hkk⟩
        unfold IRow
        rw [hor.out, natI_append, List.length_append]
        exact hown'
      clear hro KW hown' hgrow hkk hor hcells hone hlen hbd
      go_wp2
      go_ret
      exact ⟨_, rfl, fin.out⟩

set_option maxRecDepth 100000 in
set_option maxHeartbeats 800000 in
/-- placeAt, over a row that is written. -/
theorem placeAt_any (w : World) (g n : Nat) (f : Nat → Int) (h : w.rowIs g 3 n (fun i => .int .i64 (f i))) (hn : n ≤ 300) (p : Int) :
    Calls Tryd.prog 46 #[.slice (some ⟨g, 0, none⟩) n n, .int .i64 p] w fun e w' => e = .returned (.int .i64 (if 0 ≤ p ∧ p < (n : Int) then f p.toNat else 0)) ∧ w' = w := by
  have hg := h.lt
  by_cases hin : 0 ≤ p ∧ p < (n : Int)
  · rw [if_pos hin]
    obtain ⟨k, rfl⟩ := Int.eq_ofNat_of_zero_le hin.1
    have hk : k < n := by omega
    have hc := h.cell hk
    rw [Int.toNat_natCast]
    generalize f k = x at *
    clear h
    go_enter Tryd.func46, Tryd.ntmps46
    go_wp2
    go_ret
    exact ⟨rfl, rfl⟩
  · rw [if_neg hin]
    clear h
    by_cases h0 : p < 0
    · clear hin
      go_enter Tryd.func46, Tryd.ntmps46
      go_wp2
      go_ret
      exact ⟨rfl, rfl⟩
    · have h1 : (n : Int) ≤ p := by omega
      clear hin
      go_enter Tryd.func46, Tryd.ntmps46
      go_wp2
      go_ret
      exact ⟨rfl, rfl⟩
end Go.Proofs.YtnanjomnldfidabDoor

set_option linter.unusedSimpArgs false
set_option linter.unusedVariables false
set_option linter.unusedSectionVars false
namespace Go.Proofs.YtnanjomnldfidabDoor
open Go.RowKit

/-- The places that have been written so far. -/
structure Places (w : World) (g n : Nat) (f : Nat → Int) (w' : World) : Prop where
  row : w'.rowIs g 3 n (fun i => .int .i64 (f i))
  kept : Kept (fun k => k < w.heap.size) w w'
theorem Places.grow {w : World} {g n : Nat} {f : Nat → Int} {w1 w2 : World} (h : Places w g n f w1) (hk : Kept (fun k => k < w1.heap.size) w1 w2) : Places w g n f w2 :=
  ⟨h.row.of_block (hk.block g h.row.lt h.row.lt), h.kept.trans hk.all⟩
theorem Places.alloc {w : World} {g n : Nat} {f : Nat → Int} {w1 : World} (h : Places w g n f w1) (o : Obj) : Places w g n f (w1.alloc o) := ⟨h.row.alloc o, h.kept.alloc o⟩
theorem Places.set {w : World} {g n : Nat} {f : Nat → Int} {w1 : World} (h : Places w g n f w1) (hg : w.heap.size ≤ g) (p : Nat) (x : Int) (f' : Nat → Int) (hf : ∀ i, i < n → f' i = if i = p then x else f i) : Places w g n f' (w1.setCell ⟨g, p, none⟩ (.int .i64 x)) :=
  ⟨(h.row.set p (.int .i64 x)).congr fun i hi => by
    rw [hf i hi]
    by_cases c : i = p
    · rw [if_pos c, if_pos c]
    · rw [if_neg c, if_neg c], h.kept.setCell (p := ⟨g, p, none⟩) (by show ¬ g < w.heap.size; omega) _⟩
theorem Places.made (w : World) (n : Nat) : Places w w.heap.size n (fun _ => 0) (w.alloc (.cells (madeCells #[.int .i64 0] n) 3)) :=
  ⟨World.rowIs_made w (.int .i64 0) n 3, (Kept.refl _ w).alloc _⟩
theorem Places.congr {w : World} {g n : Nat} {f f' : Nat → Int} {w1 : World} (h : Places w g n f w1) (hf : ∀ i, i < n → f i = f' i) : Places w g n f' w1 := ⟨h.row.congr fun i hi => by rw [hf i hi], h.kept⟩

/-- The places behind k steps of the order; behind the passing steps from m on. -/
def plK (H : List (Int × Int)) (k : Nat) (j : Nat) : Int := if j ∈ (orderL H).take k then (placeI H j : Int) else 0
def plM (H : List (Int × Int)) (m : Nat) (j : Nat) : Int := if opS H j = -1 ∧ j < m then 0 else (placeI H j : Int)
structure At (H : List (Int × Int)) (k x : Nat) : Prop where
  lt : x < H.length
  np : opS H x ≠ -1
  take : (orderL H).take (k + 1) = (orderL H).take k ++ [x]
  sum : sumZ H ((orderL H).take k) = placeI H x
  sum2 : sumZ H ((orderL H).take (k + 1)) = placeI H x + szI (opS H x)
theorem order_get (H : List (Int × Int)) {k : Nat} (hk : k < (orderL H).length) : At H k ((orderL H).getD k 0) := by
  have hx : (orderL H).getD k 0 = (orderL H)[k] := by simp [List.getD, hk]
  have hsp : orderL H = (orderL H).take k ++ (orderL H)[k] :: (orderL H).drop (k + 1) := by
    conv => lhs; rw [← List.take_append_drop k (orderL H)]
    rw [List.drop_eq_getElem_cons hk]
  have ht : (orderL H).take (k + 1) = (orderL H).take k ++ [(orderL H)[k]] := by rw [List.take_add_one, List.getElem?_eq_getElem hk]; rfl
  have hm := order_mem (H := H) (i := (orderL H)[k]) (List.getElem_mem hk)
  have hs := order_at hsp
  rw [hx]
  exact ⟨hm.1, hm.2, ht, hs, by rw [ht, sumZ_append, sumZ_one, hs]⟩
theorem plK_step {H : List (Int × Int)} {k x : Nat} (h : At H k x) (j : Nat) : plK H (k + 1) j = if j = x then (placeI H x : Int) else plK H k j := by
  unfold plK
  rw [h.take]
  by_cases c : j = x
  · subst c; rw [if_pos (by simp), if_pos rfl]
  · rw [if_neg c]
    by_cases c2 : j ∈ (orderL H).take k
    · rw [if_pos (List.mem_append_left _ c2), if_pos c2]
    · rw [if_neg (by simp [c, c2]), if_neg c2]
theorem plK_zero (H : List (Int × Int)) (j : Nat) : plK H 0 j = 0 := by unfold plK; simp
theorem plK_end (H : List (Int × Int)) {j : Nat} (hj : j < H.length) : plK H (orderL H).length j = plM H H.length j := by
  unfold plK plM
  rw [List.take_of_length_le (Nat.le_refl _)]
  by_cases c : opS H j = -1
  · rw [if_neg (fun h => (order_mem h).2 c), if_pos ⟨c, hj⟩]
  · obtain ⟨A, B, h1, _⟩ := order_split hj c
    rw [if_pos (by rw [h1]; simp), if_neg (fun h => c h.1)]
theorem plM_pass {H : List (Int × Int)} (D : DesH H) {q : Nat} (hq : q < H.length) (hp : opS H q = -1) : ∃ e : Nat, argS H q = (e : Int) ∧ e < H.length ∧ plM H (q + 1) e = (placeI H q : Int) ∧ ∀ j, plM H q j = if j = q then (placeI H q : Int) else plM H (q + 1) j := by
  obtain ⟨e, e1, _⟩ := D.pass q hq hp
  obtain ⟨s1, s2, s3⟩ := D.skip hq hp e1
  refine ⟨e, e1, s3, ?_, fun j => ?_⟩
  · unfold plM; rw [if_neg (fun h => by omega), s1]
  · unfold plM
    by_cases c : j = q
    · subst c; rw [if_pos rfl, if_neg (fun h => by omega)]
    · rw [if_neg c]
      by_cases c2 : opS H j = -1 ∧ j < q
      · rw [if_pos c2, if_pos ⟨c2.1, by omega⟩]
      · rw [if_neg c2, if_neg (fun h => c2 ⟨h.1, by omega⟩)]
theorem plM_plain {H : List (Int × Int)} {q : Nat} (hp : opS H q ≠ -1) (j : Nat) : plM H (q + 1) j = plM H q j := by
  unfold plM
  by_cases c : opS H j = -1 ∧ j < q
  · rw [if_pos c, if_pos ⟨c.1, by omega⟩]
  · rw [if_neg c]
    by_cases c2 : opS H j = -1 ∧ j < q + 1
    · exfalso; have : j = q := by
        rcases Nat.lt_or_ge j q with h | h
        · exact absurd ⟨c2.1, h⟩ c
        · omega
      subst this; exact hp c2.1
    · rw [if_neg c2]
theorem plM_zero (H : List (Int × Int)) (j : Nat) : plM H 0 j = (placeI H j : Int) := by unfold plM; rw [if_neg (fun h => by omega)]
theorem atS_nat {H : List (Int × Int)} {x : Nat} (h : x < H.length) : atS H (x : Int) = (opS H x, argS H x) := by
  unfold atS opS argS; rw [if_pos (by omega), Int.toNat_natCast]

set_option maxRecDepth 100000 in
set_option maxHeartbeats 3200000 in
theorem codePlaces_any {w : World} {P : Nat → Prop} (v vo : Value) (H : List (Int × Int)) (D : DesH H) (hS : StepsIs w v H) (hO : IRow w P vo (orderL H)) :
    Calls Tryd.prog 42 #[v, vo] w fun e w' => e = .returned (.slice (some ⟨w.heap.size, 0, none⟩) H.length H.length) ∧ Places w w.heap.size H.length (fun j => (placeI H j : Int)) w' := by
  have hl := D.len
  have hpos := D.pos
  have hol := order_len (H := H)
  have hos := order_sum (H := H)
  have hv : ∀ k, v.ownBlock = some k → k < w.heap.size := fun k hk => (World.ownsRow.lt hS k hk).2
  have hvo : ∀ k, vo.ownBlock = some k → k < w.heap.size := fun k hk => hO.lt hk
  have HSt := hide (fun (w' : World) (p : Int) (hk : Kept (fun k => k < w.heap.size) w w') => stepAt_any v H (hS.kept hk hv) (by omega) p)
  have HCS := hide (fun (w' : World) (k : Nat) (hk : Kept (fun k => k < w.heap.size) w w') (hlt : k < H.length) => (hS.kept hk hv).cells hlt)
  have HCO := hide (fun (w' : World) (k : Nat) (hk : Kept (fun k => k < w.heap.size) w w') (hlt : k < (orderL H).length) => (hO.kept hk hvo).cells hlt)
  have HSz := hide (fun op w' => insSize_any op w')
  have HPl := hide (fun (w' : World) (f : Nat → Int) (h : w'.rowIs w.heap.size 3 H.length (fun i => .int .i64 (f i))) (p : Int) => placeAt_any w' w.heap.size H.length f h hl p)
  obtain ⟨va, vc, rfl⟩ := own_form hS hpos
  obtain ⟨oa, oc, rfl⟩ := own_slice hO.own
  have hva : va < w.heap.size := hv va rfl
  have hoa : ∀ a, oa = some a → a.block < w.heap.size := fun a ha => hvo a.block (by rw [ha]; rfl)
  have HOA := hide hoa
  have hmk := run_make_row' (P := Tryd.prog) 87 3 (.int .i64 0) 8 Tryd.underlying87 Tryd.infoInt rfl .i64 .i64 H.length (by omega) (by omega)
  have HF0 := hide ((Places.made w H.length).congr fun j _ => (plK_zero H j).symm)
  have HD := hide D
  clear hS hO hv hvo hoa D
  generalize hL : (orderL H).length = L at *
  go_enter Tryd.func42, Tryd.ntmps42
  go_wp2
  go_loopw [6, 7] (fun pl i wr => ∃ (k : Nat), k ≤ L ∧ i = .int .i64 k ∧ pl = .int .i64 (sumZ H ((orderL H).take k) : Nat) ∧ Hid (Places w w.heap.size H.length (plK H k) wr)) (fun _ i _ => L - (intOf i).toNat)
  case atStart => exact ⟨0, Nat.zero_le _, rfl, by simp [sumZ], HF0⟩
  case round =>
    obtain ⟨k, hk, rfl, rfl, hpl⟩ := hrel
    clear HF0
    have hgr : w.heap.size < wr.heap.size := hpl.out.row.lt
    have hvr : va < wr.heap.size := Nat.lt_of_lt_of_le hva hpl.out.kept.size
    by_cases hlt : k < L
    · have hat := order_get H (k := k) (by rw [hL]; exact hlt)
      obtain ⟨f, cp, hvv, hf, e0⟩ := (unhide HCO) wr k hpl.out.kept hlt
      obtain ⟨x, hx⟩ : ∃ x, x = (orderL H).getD k 0 := ⟨_, rfl⟩
      rw [← hx] at e0 hat
      simp only [Value.slice.injEq, true_and] at hvv
      obtain ⟨rfl, rfl⟩ := hvv
      have hxl := hat.lt
      have hsm := hat.sum
      have hsm2 := hat.sum2
      have hsl : sumZ H ((orderL H).take k) ≤ 900 := by
        have := sumZ_le (H := H) ((orderL H).take k)
        rw [List.length_take] at this
        omega
      have hz3 := szI_le (opS H x)
      have fz := hpl.out.row.frozen x
      have cz := hpl.out.row.cell hxl
      have f2 : Hid (Places w w.heap.size H.length (plK H (k + 1)) (wr.setCell ⟨w.heap.size, x, none⟩ (.int .i64 (sumZ H ((orderL H).take k) : Nat)))) :=
        hpl.out.set (Nat.le_refl _) x _ _ fun j _ => by rw [plK_step hat, hsm]
      have hsa := hide ((unhide HSt) _ (x : Int) f2.out.kept)
      rw [atS_nat hxl] at hsa
      have hsz := hide (fun w' => (unhide HSz) (opS H x) w')
      have S2 : Hid (sumZ H ((orderL H).take (k + 1)) = sumZ H ((orderL H).take k) + szI (opS H x)) := by unfold Hid; rw [hsm2, hsm]
      generalize hpv : sumZ H ((orderL H).take k) = pv at *
      generalize szI (opS H x) = z at *
      generalize opS H x = op at *
      generalize argS H x = arg at *
      clear hsm hsm2 hpl hat hx HCO HCS HSt HSz HPl hpv
      have hg2 : w.heap.size < (wr.setCell ⟨w.heap.size, x, none⟩ (.int .i64 (pv : Int))).heap.size := by simpa [World.setCell] using hgr
      go_wp2_with fail
      refine (unhide hsa).mono ?_
      rintro e w1 ⟨rfl, k1⟩
      have f3 := hide ((f2.out.grow k1).alloc (.cells #[.int .i64 op, .int .i64 arg] 92))
      clear hsa k1 f2
      go_wp2_with fail
      refine ((unhide hsz) _).mono ?_
      rintro e w2 ⟨rfl, rfl⟩
      clear hsz
      go_wp2
      go_roundw
      case rel => exact ⟨k + 1, by omega, by go_num, by rw [S2.out]; go_num, f3⟩
      case measure => simp [intOf]; omega
    · have hke : k = L := by omega
      subst hke
      have hp2 : Hid (Places w w.heap.size H.length (plM H H.length) wr) := hpl.out.congr fun j hj => by rw [← hL]; exact plK_end H hj
      generalize sumZ H ((orderL H).take k) = pv at *
      clear hpl HCO HSt HSz
      go_wp2
      go_loopw [10] (fun i wq => ∃ (m : Nat), m ≤ H.length ∧ i = .int .i64 ((m : Int) - 1) ∧ Hid (Places w w.heap.size H.length (plM H m) wq)) (fun i _ => (intOf i + 1).toNat)
      case atStart => exact ⟨H.length, Nat.le_refl _, by go_num, hp2⟩
      case round =>
        obtain ⟨m, hm, rfl, hpl⟩ := hrel
        clear hp2
        have hgr2 : w.heap.size < wr.heap.size := hpl.out.row.lt
        have hvr2 : va < wr.heap.size := Nat.lt_of_lt_of_le hva hpl.out.kept.size
        cases m with
        | zero =>
          have fin : Hid (Places w w.heap.size H.length (fun j => (placeI H j : Int)) wr) := hpl.out.congr fun j _ => plM_zero H j
          clear hpl HCS HPl
          have hz : (((0 : Nat) : Int) - 1) = -1 := rfl
          rw [hz]
          go_wp2
          go_ret
          exact ⟨rfl, fin.out⟩
        | succ q =>
          have hq : q < H.length := by omega
          obtain ⟨f, cp, hvv, hf, e0, e1⟩ := (unhide HCS) wr q hpl.out.kept hq
          simp only [Value.slice.injEq, Option.some.injEq, Addr.mk.injEq, and_true, true_and] at hvv
          obtain ⟨rfl, rfl⟩ := hvv
          have e0' : wr.cell? ⟨va, q * 2, none⟩ = some (.int .i64 (opS H q)) := e0
          have e1' : wr.cell? ⟨va, q * 2 + 1, none⟩ = some (.int .i64 (argS H q)) := e1
          have hqi : (((q + 1 : Nat) : Int) - 1) = (q : Int) := by omega
          rw [hqi]
          clear e0 e1
          by_cases c : opS H q = -1
          · obtain ⟨x, x1, x2, x3, x4⟩ := plM_pass HD.out hq c
            have hpa := hide ((unhide HPl) wr _ hpl.out.row (x : Int))
            rw [if_pos (by omega), Int.toNat_natCast, x3] at hpa
            have cz := hpl.out.row.cell hq
            have fz := hpl.out.row.frozen q
            have f2 : Hid (Places w w.heap.size H.length (plM H q) (wr.setCell ⟨w.heap.size, q, none⟩ (.int .i64 (placeI H q : Nat)))) := hpl.out.set (Nat.le_refl _) q _ _ fun j _ => x4 j
            rw [x1] at e1'
            rw [c] at e0'
            generalize placeI H q = pq at *
            clear HPl HCS hpl x1 x3 x4 c
            go_wp2_with fail
            refine (unhide hpa).mono ?_
            rintro e w1 ⟨rfl, rfl⟩
            clear hpa
            go_wp2
            go_roundw
            case rel => exact ⟨q, by omega, rfl, f2⟩
            case measure => simp [intOf]
          · have cb : (opS H q == -1) = false := beq_eq_false_iff_ne.2 c
            have f2 : Hid (Places w w.heap.size H.length (plM H q) wr) := hpl.out.congr fun j _ => plM_plain c j
            generalize opS H q = op at *
            clear HPl HCS hpl c
            go_wp2
            go_roundw
            case rel => exact ⟨q, by omega, rfl, f2⟩
            case measure => simp [intOf]
end Go.Proofs.YtnanjomnldfidabDoor

set_option linter.unusedSimpArgs false
set_option linter.unusedVariables false
set_option linter.unusedSectionVars false
namespace Go.Proofs.YtnanjomnldfidabDoor
open Go.RowKit

def codeK (H : List (Int × Int)) (k : Nat) : List UInt8 := ((orderL H).take k).flatMap (encI H)
theorem codeK_zero (H : List (Int × Int)) : codeK H 0 = [] := by unfold codeK; simp
theorem codeK_end (H : List (Int × Int)) : codeK H (orderL H).length = codeI H := by unfold codeK codeI; rw [List.take_of_length_le (Nat.le_refl _)]
theorem codeK_step {H : List (Int × Int)} {k x : Nat} (h : At H k x) : codeK H (k + 1) = codeK H k ++ encI H x := by unfold codeK; rw [h.take, List.flatMap_append]; simp
theorem codeK_len {H : List (Int × Int)} (D : DesH H) {k : Nat} : (codeK H k).length ≤ 900 := by
  have h1 : (codeK H k).length ≤ (codeI H).length := by
    unfold codeK codeI
    conv => rhs; rw [← List.take_append_drop k (orderL H)]
    rw [List.flatMap_append, List.length_append]; omega
  have h2 := order_sum (H := H)
  rw [← code_len D] at h2
  have := D.len
  omega
theorem op_bd {H : List (Int × Int)} (D : DesH H) {i : Nat} (hi : i < H.length) (hp : opS H i ≠ -1) : 0 ≤ opS H i ∧ opS H i < 256 := by
  by_cases c : i + 1 < H.length
  · have := (D.ops i c).elim (fun e => absurd e hp) id
    unfold opOk at this; omega
  · have e : i = H.length - 1 := by omega
    rw [e, D.halt]; decide
theorem brow_new (w : World) (P : Nat → Prop) (hP : ∀ k, P k → k < w.heap.size) : Row (w.alloc (.cells #[] 5)) P 5 1 (.slice (some ⟨w.heap.size, 0, none⟩) 0 0) 0 [] :=
  ⟨⟨rfl, .inr ⟨w.heap.size, 0, #[], rfl, Nat.zero_le _, heap_alloc_new w _, Nat.le_refl _, by unfold maxLen; omega, rfl, rfl⟩⟩, fun k hk hp => by
    have e : w.heap.size = k := by simpa [Value.ownBlock] using hk
    subst e; have := hP _ hp; omega⟩

set_option maxRecDepth 100000 in
set_option maxHeartbeats 3200000 in
theorem writeCode_any {w : World} {P : Nat → Prop} (hP : ∀ k, P k → k < w.heap.size) (v : Value) (H : List (Int × Int)) (D : DesH H) (hS : StepsIs w v H) (hv : ∀ k, v.ownBlock = some k → P k) :
    Calls Tryd.prog 24 #[v] w fun e w' => e = .returned (.string (mkB (codeI H))) ∧ Kept P w w' := by
  have hl := D.len
  have hpos := D.pos
  have hol := order_len (H := H)
  have hvl : ∀ k, v.ownBlock = some k → k < w.heap.size := fun k hk => hP k (hv k hk)
  have HOrd := hide (codeOrder_any hP v H hS hv hl hpos)
  have HS := hide hS
  have HV := hide hvl
  have HVP := hide hv
  have HSz := hide (fun op w' => insSize_any op w')
  have HLd := hide (fun op w' => leads_any op w')
  obtain ⟨i0, hi, hz0, hz1, hz2⟩ := info_parts Tryd.infoByte
  have HD := hide D
  obtain ⟨va, vc, rfl⟩ := own_form hS hpos
  have hva : va < w.heap.size := hvl va rfl
  clear hS hv hvl D
  go_enter Tryd.func24, Tryd.ntmps24
  go_wp2_with fail
  refine (unhide HOrd).mono ?_
  rintro e w1 ⟨vo, rfl, ro, k1⟩
  have hS1 := HS.out.kept k1 HVP.out
  have hpl := hide (codePlaces_any (.slice (some ⟨va, 0, none⟩) H.length vc) vo H HD.out hS1 ro)
  obtain ⟨oa, oc, rfl⟩ := own_slice ro.own
  have RO := hide ro
  have HS1 := hide hS1
  have K1 := hide k1
  have hva1 : va < w1.heap.size := Nat.lt_of_lt_of_le hva k1.size
  clear HOrd ro hS1 k1 HS
  go_wp2_with fail
  refine (unhide hpl).mono ?_
  rintro e w2 ⟨rfl, pl2⟩
  have PL := hide pl2
  have hg2 := pl2.row.lt
  have hva2 : va < w2.heap.size := Nat.lt_of_lt_of_le hva1 pl2.kept.size
  have hR0 := hide (brow_new w2 (fun j => j < w2.heap.size) (fun k hk => hk))
  clear hpl pl2
  generalize hL : (orderL H).length = L at *
  have HCO := hide (fun (w' : World) (k : Nat) (hk : Kept (fun j => j < w2.heap.size) w2 w') (hlt : k < L) => (RO.out.kept (PL.out.kept.trans (hk.mono fun j hj => by have := PL.out.kept.size; show j < w2.heap.size; omega)) (fun k hk => RO.out.lt hk)).cells (k := k) (by rw [hL]; exact hlt))
  have HSt := hide (fun (w' : World) (p : Int) (hk : Kept (fun j => j < w2.heap.size) w2 w') => stepAt_any _ H (HS1.out.kept (PL.out.kept.trans (hk.mono fun j hj => by have := PL.out.kept.size; show j < w2.heap.size; omega)) (fun k hk => by cases hk; exact hva1)) (by omega) p)
  have HPl := hide (fun (w' : World) (hk : Kept (fun j => j < w2.heap.size) w2 w') (p : Int) => placeAt_any w' w1.heap.size H.length (fun j => (placeI H j : Int)) (PL.out.row.of_block (hk.block _ hg2 hg2)) hl p)
  go_wp2
  go_loopw [5, 6] (fun cv i wr => ∃ (k gc cc : Nat), k ≤ L ∧ i = .int .i64 k ∧ cv = .slice (some ⟨gc, 0, none⟩) (codeK H k).length cc ∧ Hid (Row wr (fun j => j < w2.heap.size) 5 1 (.slice (some ⟨gc, 0, none⟩) (codeK H k).length cc) (codeK H k).length (byteCells (codeK H k))) ∧ Hid (Kept (fun j => j < w2.heap.size) w2 wr)) (fun _ i _ => L - (intOf i).toNat)
  case atStart => exact ⟨0, w2.heap.size, 0, Nat.zero_le _, rfl, by rw [codeK_zero]; rfl, by rw [codeK_zero]; exact hR0, (Kept.refl _ w2).alloc _⟩
  case round =>
    obtain ⟨k, gc, cc, hk, rfl, rfl, hrow, hkw⟩ := hrel
    clear hR0
    have hgc : gc < wr.heap.size := hrow.out.lt rfl
    have hgc2 : ¬ gc < w2.heap.size := fun h => hrow.out.out gc rfl h
    by_cases hlt : k < L
    · have hat := order_get H (k := k) (by rw [hL]; exact hlt)
      obtain ⟨f, cp, hvv, hf, e0⟩ := (unhide HCO) wr k hkw.out hlt
      obtain ⟨x, hx⟩ : ∃ x, x = (orderL H).getD k 0 := ⟨_, rfl⟩
      rw [← hx] at e0 hat
      rw [hL] at hvv
      simp only [Value.slice.injEq, true_and] at hvv
      obtain ⟨rfl, rfl⟩ := hvv
      have hxl := hat.lt
      have hsa := hide ((unhide HSt) wr (x : Int) hkw.out)
      rw [atS_nat hxl] at hsa
      have hcl := codeK_len HD.out (k := k)
      obtain ⟨hop0, hop1⟩ := op_bd HD.out hxl hat.np
      have hab := argI_bd HD.out hxl
      have HST := hide (codeK_step hat)
      obtain ⟨ga1, _, ga3⟩ := HD.out.args x hxl
      have hal : Hid (leadI (opS H x) = true → argI H x = (placeI H (argS H x).toNat : Int) ∧ argS H x < H.length) := fun h => ⟨by unfold argI; rw [if_pos h], ga3 (fun e => by rw [e] at h; revert h; decide)⟩
      have han : Hid (leadI (opS H x) = false → argI H x = argS H x) := fun h => by unfold argI; rw [if_neg (by rw [h]; decide)]
      have hen : Hid (encI H x = byteOf (opS H x) :: (if szI (opS H x) = 3 then [byteOf (argI H x / 256), byteOf (argI H x % 256)] else [])) := rfl
      have hsz := hide (fun w' => (unhide HSz) (opS H x) w')
      have hld := hide (fun w' => (unhide HLd) (opS H x) w')
      clear hx ga3
      generalize hcn : codeK H k = cK at *
      generalize argI H x = A at *
      generalize opS H x = op at *
      generalize argS H x = arg at *
      go_wp2_with fail
      refine (unhide hsa).mono ?_
      rintro e w3 ⟨rfl, k3⟩
      have hk3 : Hid (Kept (fun j => j < w2.heap.size) w2 w3) := hkw.out.trans k3.all
      have hg3 : wr.heap.size ≤ w3.heap.size := k3.size
      have hgn : gc ≠ w3.heap.size := by omega
      have hr3 : Row w3 (fun j => j < w2.heap.size) 5 1 (.slice (some ⟨gc, 0, none⟩) cK.length cc) cK.length (byteCells cK) := hrow.out.ext (fun k hk => k3.block k hk hk)
      have hrA : Row (w3.alloc (.cells #[.int .i64 op, .int .i64 arg] 92)) (fun j => j < w2.heap.size ∨ j = w3.heap.size) 5 1 (.slice (some ⟨gc, 0, none⟩) cK.length cc) cK.length (byteCells cK) :=
        ⟨(hr3.alloc _).own, fun j hj hp => hp.elim (hr3.out j hj) (fun e => by
          have e2 : gc = j := by simpa [Value.ownBlock] using hj
          omega)⟩
      have HRA := hide (hrA.alloc (.cells #[.int .u8 op] 5))
      have hbd : Hid (∀ j, (j < w2.heap.size ∨ j = w3.heap.size) → j < ((w3.alloc (.cells #[.int .i64 op, .int .i64 arg] 92)).alloc (.cells #[.int .u8 op] 5)).heap.size) := by
        intro j hj
        have := hk3.out.size
        rcases hj with hj | hj
        · simp; omega
        · simp; omega
      have hstp : Hid (((w3.alloc (.cells #[.int .i64 op, .int .i64 arg] 92)).alloc (.cells #[.int .u8 op] 5)).heap[w3.heap.size]? = some (.cells #[.int .i64 op, .int .i64 arg] 92 (0, 0))) := alloc_block (heap_alloc_new w3 _)
      have hsize : Hid ((w3.alloc (.cells #[.int .i64 op, .int .i64 arg] 92)).heap.size = w3.heap.size + 1) := by unfold Hid; simp
      have hc1 : Hid (∀ (j : Nat) u, [Value.int .u8 op][j]? = some u → ((w3.alloc (.cells #[.int .i64 op, .int .i64 arg] 92)).alloc (.cells #[.int .u8 op] 5)).cell? ((⟨w3.heap.size + 1, 0, none⟩ : Addr).add j) = some u) := by
        unfold Hid
        rw [← hsize.out]
        exact cell_one_new _ _ _
      have K4 : Hid (Kept (fun j => j < w2.heap.size) w2 ((w3.alloc (.cells #[.int .i64 op, .int .i64 arg] 92)).alloc (.cells #[.int .u8 op] 5))) := (hk3.out.alloc _).alloc _
      clear hsa k3 hrow hkw hr3 hrA hk3
      go_wp2_with (at_builtin; refine wpList_append_mine _ rfl _ _ 90 rfl _ hbd.out 5 i0 _ 1 1 Tryd.underlying90 hi hz0 hz1 hz2 rfl (by decide) _ _ _ rfl HRA.out ⟨w3.heap.size + 1, 0, none⟩ 1 1 [.int .u8 op] rfl rfl hc1.out (by intro u hu; simp at hu; subst hu; rfl) (by unfold maxLen; omega) (by omega) ?_)
      intro v' w5 hown' hgrow
      obtain ⟨g5, cp5, hvv⟩ := own_form hown'.own (by omega)
      subst hvv
      have hb5 := grown_block hgrow hstp.out (by simp [Value.ownBlock]; exact hgn)
      have s0 : w5.cell? ⟨w3.heap.size, 0, none⟩ = some (.int .i64 op) := cell_of_block hb5 0 _ rfl
      have s1 : w5.cell? ⟨w3.heap.size, 1, none⟩ = some (.int .i64 arg) := cell_of_block hb5 1 _ rfl
      have hlt5 := lt_of_block hb5
      have K5 : Hid (Kept (fun j => j < w2.heap.size) w2 w5) := K4.out.grown hgrow (fun j hj hp => hgc2 (by simp [Value.ownBlock] at hj; omega))
      have hby : byteCells (cK ++ [byteOf op]) = byteCells cK ++ [.int .u8 op] := by rw [byteCells_snoc, byteOf_nat hop0 hop1]
      have hr5 : Hid (Row w5 (fun j => j < w2.heap.size) 5 1 (.slice (some ⟨g5, 0, none⟩) (cK ++ [byteOf op]).length cp5) (cK ++ [byteOf op]).length (byteCells (cK ++ [byteOf op]))) := by
        unfold Hid
        rw [hby, List.length_append, List.length_singleton]
        exact hown'.mono fun j hj => .inl hj
      have hlen5 : (cK ++ [byteOf op]).length = cK.length + 1 := by simp
      have hgc5 : g5 < w5.heap.size := hown'.lt rfl
      have hgc6 : ¬ g5 < w2.heap.size := fun h => hown'.out g5 rfl (.inl h)
      clear hown' hgrow hb5 hby K4 hc1 hsize hstp hbd HRA
      by_cases hz3 : szI op = 3
      · have hen2 : Hid (codeK H (k + 1) = cK ++ [byteOf op] ++ [byteOf (A / 256), byteOf (A % 256)]) := by unfold Hid; rw [HST.out, hen.out, if_pos hz3]; simp
        rw [hz3] at hsz
        obtain ⟨hA0, hA1⟩ := hab
        have hr5' : Row w5 (fun j => j < w2.heap.size) 5 1 (.slice (some ⟨g5, 0, none⟩) (cK.length + 1) cp5) (cK.length + 1) (byteCells (cK ++ [byteOf op])) := by rw [← hlen5]; exact hr5.out
        have HR5 := hide (hr5'.alloc (.cells #[.int .u8 (A / 256), .int .u8 (A % 256)] 5))
        have hbd5 : Hid (∀ j, j < w2.heap.size → j < (w5.alloc (.cells #[.int .u8 (A / 256), .int .u8 (A % 256)] 5)).heap.size) := by
          intro j hj
          have := K5.out.size
          simp; omega
        have hc5 : Hid (∀ (j : Nat) u, [Value.int .u8 (A / 256), Value.int .u8 (A % 256)][j]? = some u → (w5.alloc (.cells #[.int .u8 (A / 256), .int .u8 (A % 256)] 5)).cell? ((⟨w5.heap.size, 0, none⟩ : Addr).add j) = some u) := cell_two_new _ _ _ _
        have K6 : Hid (Kept (fun j => j < w2.heap.size) w2 (w5.alloc (.cells #[.int .u8 (A / 256), .int .u8 (A % 256)] 5))) := K5.out.alloc _
        have hby2 : Hid (byteCells (cK ++ [byteOf op] ++ [byteOf (A / 256), byteOf (A % 256)]) = byteCells (cK ++ [byteOf op]) ++ [.int .u8 (A / 256), .int .u8 (A % 256)]) := by
          unfold Hid byteCells
          rw [List.map_append]
          show _ ++ [Value.int .u8 ((byteOf (A / 256)).toNat : Int), Value.int .u8 ((byteOf (A % 256)).toNat : Int)] = _
          rw [byteOf_nat (by omega) (by omega), byteOf_nat (by omega) (by omega)]
        clear hr5'
        by_cases hlv : leadI op = true
        · obtain ⟨hAe, hAl⟩ := hal.out hlv
          rw [hlv] at hld
          have hpa := hide ((unhide HPl) w5 K5.out arg)
          rw [if_pos ⟨ga1, hAl⟩, ← hAe] at hpa
          clear hal han hlv hAe HPl HCO HSt HSz HLd hz3
          go_wp2_with fail
          refine ((unhide hsz) _).mono ?_
          rintro e w6 ⟨rfl, rfl⟩
          clear hsz
          go_wp2_with fail
          refine ((unhide hld) _).mono ?_
          rintro e w6 ⟨rfl, rfl⟩
          clear hld
          go_wp2_with fail
          refine (unhide hpa).mono ?_
          rintro e w6 ⟨rfl, rfl⟩
          clear hpa
          go_wp2_with (at_builtin; refine wpList_append_mine _ rfl _ _ 90 rfl _ hbd5.out 5 i0 _ 1 1 Tryd.underlying90 hi hz0 hz1 hz2 rfl (by decide) _ _ _ rfl HR5.out ⟨w6.heap.size, 0, none⟩ 2 2 [.int .u8 (A / 256), .int .u8 (A % 256)] rfl rfl hc5.out (by intro u hu; simp at hu; rcases hu with rfl | rfl <;> rfl) (by unfold maxLen; omega) (by omega) ?_)
          intro v' w7 hown' hgrow
          obtain ⟨g7, cp7, hvv⟩ := own_form hown'.own (by omega)
          subst hvv
          have K7 : Hid (Kept (fun j => j < w2.heap.size) w2 w7) := K6.out.grown hgrow (fun j hj hp => hgc6 (by simp [Value.ownBlock] at hj; omega))
          have hlen7 : (cK ++ [byteOf op] ++ [byteOf (A / 256), byteOf (A % 256)]).length = cK.length + 1 + 2 := by simp
          have hr7 : Hid (Row w7 (fun j => j < w2.heap.size) 5 1 (.slice (some ⟨g7, 0, none⟩) (cK.length + 1 + 2) cp7) (cK.length + 1 + 2) (byteCells (cK ++ [byteOf op] ++ [byteOf (A / 256), byteOf (A % 256)]))) := by
            unfold Hid
            rw [hby2.out]
            exact hown'
          clear hown' hgrow K6 hc5 hbd5 HR5 hr5 K5 hby2
          go_wp2
          go_roundw
          case rel => exact ⟨k + 1, g7, cp7, by omega, by go_num, by rw [hen2.out, hlen7], by rw [hen2.out, hlen7]; exact hr7, K7⟩
          case measure => simp [intOf]; omega
        · have hlf : leadI op = false := by simpa using hlv
          have hAe := han.out hlf
          rw [hlf] at hld
          subst hAe
          clear hal han hlv hlf HPl HCO HSt HSz HLd hz3
          go_wp2_with fail
          refine ((unhide hsz) _).mono ?_
          rintro e w6 ⟨rfl, rfl⟩
          clear hsz
          go_wp2_with fail
          refine ((unhide hld) _).mono ?_
          rintro e w6 ⟨rfl, rfl⟩
          clear hld
          go_wp2_with (at_builtin; refine wpList_append_mine _ rfl _ _ 90 rfl _ hbd5.out 5 i0 _ 1 1 Tryd.underlying90 hi hz0 hz1 hz2 rfl (by decide) _ _ _ rfl HR5.out ⟨w6.heap.size, 0, none⟩ 2 2 [.int .u8 (A / 256), .int .u8 (A % 256)] rfl rfl hc5.out (by intro u hu; simp at hu; rcases hu with rfl | rfl <;> rfl) (by unfold maxLen; omega) (by omega) ?_)
          intro v' w7 hown' hgrow
          obtain ⟨g7, cp7, hvv⟩ := own_form hown'.own (by omega)
          subst hvv
          have K7 : Hid (Kept (fun j => j < w2.heap.size) w2 w7) := K6.out.grown hgrow (fun j hj hp => hgc6 (by simp [Value.ownBlock] at hj; omega))
          have hlen7 : (cK ++ [byteOf op] ++ [byteOf (A / 256), byteOf (A % 256)]).length = cK.length + 1 + 2 := by simp
          have hr7 : Hid (Row w7 (fun j => j < w2.heap.size) 5 1 (.slice (some ⟨g7, 0, none⟩) (cK.length + 1 + 2) cp7) (cK.length + 1 + 2) (byteCells (cK ++ [byteOf op] ++ [byteOf (A / 256), byteOf (A % 256)]))) := by
            unfold Hid
            rw [hby2.out]
            exact hown'
          clear hown' hgrow K6 hc5 hbd5 HR5 hr5 K5 hby2
          go_wp2
          go_roundw
          case rel => exact ⟨k + 1, g7, cp7, by omega, by go_num, by rw [hen2.out, hlen7], by rw [hen2.out, hlen7]; exact hr7, K7⟩
          case measure => simp [intOf]; omega
      · have hen2 : Hid (codeK H (k + 1) = cK ++ [byteOf op]) := by unfold Hid; rw [HST.out, hen.out, if_neg hz3]
        have hzl : ((szI op : Nat) : Int) < 3 := by have := szI_le op; omega
        generalize szI op = z at *
        clear hld HPl HCO HSt HSz HLd
        go_wp2_with fail
        refine ((unhide hsz) _).mono ?_
        rintro e w6 ⟨rfl, rfl⟩
        clear hsz
        go_wp2
        go_roundw
        case rel => exact ⟨k + 1, g5, cp5, by omega, by go_num, by rw [hen2.out, hlen5], by rw [hen2.out]; exact hr5, K5⟩
        case measure => simp [intOf]; omega
    · have hke : k = L := by omega
      have hce : codeK H k = codeI H := by rw [hke, ← hL]; exact codeK_end H
      have hcl := codeK_len HD.out (k := k)
      rw [hce] at hrow hcl ⊢
      have hcells : ∀ j, j < (codeI H).length → wr.cell? ⟨gc, j, none⟩ = (byteCells (codeI H))[j]? := fun j hj => World.ownsRow.cellAt hrow.out.own j (by omega)
      have kc : (convert 90 9 (.slice (some ⟨gc, 0, none⟩) (codeI H).length cc)).run Tryd.prog wr = .ok (.string (mkB (codeI H))) wr := by
        refine run_convert_bytes_back wr 90 9 5 ⟨gc, 0, none⟩ cc (codeI H) Tryd.underlying90 Tryd.underlying5 Tryd.underlying9 fun j hj => ?_
        have e : (⟨gc, 0, none⟩ : Addr).add j = ⟨gc, j, none⟩ := by unfold Addr.add; split <;> simp_all
        rw [e, hcells j hj]
        unfold byteCells
        rw [List.getElem?_map, List.getElem?_eq_getElem hj]
        rfl
      have fin : Hid (Kept P w wr) := K1.out.trans ((PL.out.kept.trans (hkw.out.mono fun j hj => by have := PL.out.kept.size; show j < w2.heap.size; omega)).all)
      clear hrow hkw hcells HCO HSt HPl HSz HLd
      go_wp2
      go_ret
      exact ⟨rfl, fin.out⟩

set_option maxRecDepth 100000 in
set_option maxHeartbeats 800000 in
/-- Compile. -/
theorem compile_any (s : ByteArray) (w : World) (P : Nat → Prop) (hP : ∀ k, P k → k < w.heap.size) (hs : s.size ≤ maxLen) (hT : WordsAt w 2 listedL) (hPT : P 2) :
    Calls Tryd.prog 8 #[.string s] w fun e w' => e = .returned (.tuple #[.string (if (readM s).1 = 0 then mkB (codeI (withH (readM s).2.2.steps)) else ⟨#[]⟩), .int .i64 (readM s).1, .int .i64 (readM s).2.1]) ∧ Kept P w w' := by
  have hc := hide (readProgram_any s w P hP hs hT hPT)
  have hd := hide (desH_read s)
  have h00 : Hid ((readM s).1 = 0 → (readM s).2.1 = 0) := by
    intro h0
    by_cases hlong : 400 < s.size
    · have : readM s = (1, 0, Rd.fresh) := by unfold readM; rw [if_pos hlong]
      rw [this] at h0; cases h0
    · by_cases h1 : (Rd.fresh.read (toksFrom s 0)).1 ≠ 0
      · have : readM s = Rd.fresh.read (toksFrom s 0) := by unfold readM; rw [if_neg hlong, if_pos h1]
        rw [this] at h0; exact absurd h0 h1
      · by_cases h2 : (Rd.fresh.read (toksFrom s 0)).2.2.fin ≠ 0
        · have : readM s = ((Rd.fresh.read (toksFrom s 0)).2.2.fin, s.size, Rd.fresh) := by unfold readM; rw [if_neg hlong, if_neg h1, if_pos h2]
          rw [this] at h0; exact absurd h0 h2
        · have : readM s = (0, 0, (Rd.fresh.read (toksFrom s 0)).2.2) := by unfold readM; rw [if_neg hlong, if_neg h1, if_neg h2]
          rw [this]
  obtain ⟨r, hr⟩ : ∃ r, r = readM s := ⟨_, rfl⟩
  rw [← hr] at hc hd h00 ⊢
  have HP := hide hP
  clear hr hP hT
  by_cases h0 : r.1 = 0
  · rw [if_pos h0]
    have hb : (r.1 != 0) = false := by rw [h0]; rfl
    have hr2 := h00.out h0
    have D := hd.out h0
    have HD := hide D
    have H0 := hide h0
    rw [h0, hr2]
    generalize hHH : withH r.2.2.steps = HH at *
    clear hd h00 D
    go_enter Tryd.func8, Tryd.ntmps8
    go_wp2_with fail
    refine (unhide hc).mono ?_
    rintro e w1 ⟨v, rfl, hrow, k1⟩
    have hrow' := hrow H0.out
    rw [hHH] at hrow'
    have hSt : StepsIs w1 v HH := hrow'.own
    have hw := hide (writeCode_any (P := fun k => k < w1.heap.size) (fun k hk => hk) v HH HD.out hSt (fun k hk => hrow'.lt hk))
    obtain ⟨va, vc, hv⟩ := own_slice hrow'.own
    subst hv
    clear hc hrow hrow' hSt hHH
    go_wp2_with fail
    refine (unhide hw).mono ?_
    rintro e w2 ⟨rfl, k2⟩
    have fin : Hid (Kept P w w2) := k1.trans k2.all
    clear hw k1 k2
    go_wp2
    go_ret3
    exact ⟨rfl, fin.out⟩
  · rw [if_neg h0]
    have hb : (r.1 != 0) = true := bne_iff_ne.2 h0
    clear hd h00
    go_enter Tryd.func8, Tryd.ntmps8
    go_wp2_with fail
    refine (unhide hc).mono ?_
    rintro e w1 ⟨v, rfl, hrow, k1⟩
    clear hc hrow
    go_wp2
    go_ret3
    exact ⟨rfl, k1⟩
end Go.Proofs.YtnanjomnldfidabDoor
