/-
  graderref's machine: Number, Take, Pass, Call, Return.
  graderref's machine: Call, Return; takes, gives, right, one, sum, hidden.
  graderref's machine: sum, hidden.
-/
import Derived.Test.YtnanjomnldfidabGreatDoorRmMem
set_option linter.unusedSimpArgs false
set_option linter.unusedVariables false
set_option linter.unusedSectionVars false
namespace Go.Proofs.YtnanjomnldfidabGreatDoor
open Go.RowKit

theorem RmIs.used {w : World} {P : Nat → Prop} {b : Nat} {M : Ma} (h : RmIs w P b M) (n : Int) : RmIs (w.setCell ⟨b, 11, none⟩ (.int .i64 n)) P b { M with used := n } ∧ Kept P w (w.setCell ⟨b, 11, none⟩ (.int .i64 n)) := by
  obtain ⟨vs, vc, h⟩ := h
  obtain ⟨r1, r2⟩ := h.field { M with used := n } 11 (.int .i64 n) rfl rfl rfl
  exact ⟨⟨_, _, r1⟩, r2⟩
theorem RmIs.view {w : World} {P : Nat → Prop} {b : Nat} {M : Ma} (h : RmIs w P b M) : ∃ a0 k0 a1 k1, b < w.heap.size ∧ w.cell? ⟨b, 0, none⟩ = some (.slice a0 M.stack.length k0) ∧ w.cell? ⟨b, 1, none⟩ = some (.slice a1 M.calls.length k1) ∧
    w.cell? ⟨b, 2, none⟩ = some (.string (mkB M.image)) ∧ w.cell? ⟨b, 3, none⟩ = some (.int .i64 M.kernel) ∧ w.cell? ⟨b, 4, none⟩ = some (.int .i64 M.fence) ∧ w.cell? ⟨b, 5, none⟩ = some (.string M.inp) ∧ w.cell? ⟨b, 6, none⟩ = some (.int .i64 M.pos) ∧
    w.cell? ⟨b, 7, none⟩ = some (.int .i64 M.rights) ∧ w.cell? ⟨b, 8, none⟩ = some (.int .i64 M.fuel) ∧ w.cell? ⟨b, 9, none⟩ = some (.string (mkB M.out)) ∧ w.cell? ⟨b, 10, none⟩ = some (.int .i64 M.mark) ∧ w.cell? ⟨b, 11, none⟩ = some (.int .i64 M.used) ∧ (∀ j, w.frozen? ⟨b, j, none⟩ = false) := by
  obtain ⟨vs, vc, h⟩ := h
  obtain ⟨a0, k0, rfl⟩ := own_slice h.stack.own
  obtain ⟨a1, k1, rfl⟩ := own_slice h.calls.own
  exact ⟨a0, k0, a1, k1, h.lt, h.cell 0 _ rfl, h.cell 1 _ rfl, h.cell 2 _ rfl, h.cell 3 _ rfl, h.cell 4 _ rfl, h.cell 5 _ rfl, h.cell 6 _ rfl, h.cell 7 _ rfl, h.cell 8 _ rfl, h.cell 9 _ rfl, h.cell 10 _ rfl, h.cell 11 _ rfl, h.free⟩

section
variable {w : World} {P : Nat → Prop} {b : Nat} {M : Ma}

/-- What a step leaves: the error, the state. -/
def StepPost (P : Nat → Prop) (b : Nat) (r : Int × Ma) (w : World) (e : Ending) (w' : World) : Prop := e = .returned (.int .i64 r.1) ∧ RmIs w' P b r.2 ∧ Kept P w w'
def Step2Post (P : Nat → Prop) (b : Nat) (r : Int × Int × Ma) (w : World) (e : Ending) (w' : World) : Prop := e = .returned (.tuple #[.int .i64 r.1, .int .i64 r.2.1]) ∧ RmIs w' P b r.2.2 ∧ Kept P w w'

set_option maxRecDepth 100000 in
set_option maxHeartbeats 400000 in
theorem number_any (h : RmIs w P b M) (hok : M.Ok) (n : Int) : Calls Tryz.prog 72 #[.pointer (some ⟨b, 0, none⟩), .int .i64 n] w (StepPost P b (M.number n) w) := by
  have hroom := hide (room_any w P b M 0 1 h hok (by omega) (by omega) (by omega) (by omega))
  by_cases hr : M.room 0 1 = 0
  · have e1 : M.number n = (0, (M.push n).tick) := by unfold Ma.number; rw [if_neg (by simp [hr])]
    rw [e1]
    have hb : (M.room 0 1 == 0) = true := by rw [hr]; rfl
    have o1 := hok.stack
    have o2 := hok.used
    have o3 := hok.used'
    generalize M.room 0 1 = rm at hroom hb hr
    have HR : Hid (rm = 0) := hr
    clear hr hok h e1
    go_enter Tryz.func72, Tryz.ntmps72
    go_wp2_with fail
    refine (unhide hroom).mono ?_
    rintro e w1 ⟨rfl, h1, k1⟩
    go_wp2_with fail
    refine (push_any _ P b M n h1 (by omega)).mono ?_
    rintro e w2 ⟨rfl, h2, k2⟩
    obtain ⟨a0, k0, a1, k1', hlt, c0, c1, c2, c3, c4, c5, c6, c7, c8, c9, c10, c11, fr⟩ := h2.view
    have f11 := fr 11
    have c11' : w2.cell? ⟨b, 11, none⟩ = some (.int .i64 M.used) := c11
    obtain ⟨r1, r2⟩ := h2.used (M.used + 1)
    have post : Hid (StepPost P b (0, (M.push n).tick) w (.returned (.int .i64 rm)) (w2.setCell ⟨b, 11, none⟩ (.int .i64 (M.used + 1)))) := ⟨by rw [HR.out], r1, k1.trans (k2.trans r2)⟩
    clear c0 c1 c2 c3 c4 c5 c6 c7 c8 c9 c10 c11 fr r1 r2 h1 h2 k1 k2 hroom
    go_wp2
    go_ret
    exact post.out
  · have e1 : M.number n = (M.room 0 1, M) := by unfold Ma.number; rw [if_pos hr]
    rw [e1]
    have hb : (M.room 0 1 == 0) = false := by simpa using hr
    generalize M.room 0 1 = rm at hroom hb ⊢
    clear hr hok h e1
    go_enter Tryz.func72, Tryz.ntmps72
    go_wp2_with fail
    refine (unhide hroom).mono ?_
    rintro e w1 ⟨rfl, h1, k1⟩
    have post : Hid (StepPost P b (rm, M) w (.returned (.int .i64 rm)) w1) := ⟨rfl, h1, k1⟩
    clear h1 k1 hroom
    go_wp2
    go_ret
    exact post.out

set_option maxRecDepth 100000 in
set_option maxHeartbeats 400000 in
theorem pass_any (h : RmIs w P b M) (hok : M.Ok) : Calls Tryz.prog 65 #[.pointer (some ⟨b, 0, none⟩)] w (StepPost P b M.pass w) := by
  have hroom := hide (room_any w P b M 0 0 h hok (by omega) (by omega) (by omega) (by omega))
  by_cases hr : M.room 0 0 = 0
  · have e1 : M.pass = (0, M.tick) := by unfold Ma.pass; rw [if_neg (by simp [hr])]
    rw [e1]
    have hb : (M.room 0 0 == 0) = true := by rw [hr]; rfl
    have o2 := hok.used
    have o3 := hok.used'
    generalize M.room 0 0 = rm at hroom hb hr
    have HR : Hid (rm = 0) := hr
    clear hr hok h e1
    go_enter Tryz.func65, Tryz.ntmps65
    go_wp2_with fail
    refine (unhide hroom).mono ?_
    rintro e w2 ⟨rfl, h2, k2⟩
    obtain ⟨a0, k0, a1, k1', hlt, c0, c1, c2, c3, c4, c5, c6, c7, c8, c9, c10, c11, fr⟩ := h2.view
    have f11 := fr 11
    obtain ⟨r1, r2⟩ := h2.used (M.used + 1)
    have post : Hid (StepPost P b (0, M.tick) w (.returned (.int .i64 rm)) (w2.setCell ⟨b, 11, none⟩ (.int .i64 (M.used + 1)))) := ⟨by rw [HR.out], r1, k2.trans r2⟩
    clear c0 c1 c2 c3 c4 c5 c6 c7 c8 c9 c10 fr r1 r2 h2 k2 hroom
    go_wp2
    go_ret
    exact post.out
  · have e1 : M.pass = (M.room 0 0, M) := by unfold Ma.pass; rw [if_pos hr]
    rw [e1]
    have hb : (M.room 0 0 == 0) = false := by simpa using hr
    generalize M.room 0 0 = rm at hroom hb ⊢
    clear hr hok h e1
    go_enter Tryz.func65, Tryz.ntmps65
    go_wp2_with fail
    refine (unhide hroom).mono ?_
    rintro e w1 ⟨rfl, h1, k1⟩
    have post : Hid (StepPost P b (rm, M) w (.returned (.int .i64 rm)) w1) := ⟨rfl, h1, k1⟩
    clear h1 k1 hroom
    go_wp2
    go_ret
    exact post.out

set_option maxRecDepth 100000 in
set_option maxHeartbeats 400000 in
theorem takeN_any (h : RmIs w P b M) (hok : M.Ok) : Calls Tryz.prog 92 #[.pointer (some ⟨b, 0, none⟩)] w (Step2Post P b M.takeN w) := by
  have hroom := hide (room_any w P b M 1 0 h hok (by omega) (by omega) (by omega) (by omega))
  by_cases hr : M.room 1 0 = 0
  · have e1 : M.takeN = (M.top, 0, M.tick.pop) := by unfold Ma.takeN; rw [if_neg (by simp [hr])]
    rw [e1]
    have hne : Hid (M.stack ≠ []) := by
      unfold Ma.room at hr
      intro hn
      rw [hn] at hr
      revert hr
      split <;> simp
    have hb : (M.room 1 0 != 0) = false := by rw [hr]; rfl
    have o1 := hok.stack
    have o2 := hok.used
    have o3 := hok.used'
    generalize M.room 1 0 = rm at hroom hb hr
    clear hr hok h e1
    go_enter Tryz.func92, Tryz.ntmps92
    go_wp2_with fail
    refine (unhide hroom).mono ?_
    rintro e w2 ⟨rfl, h2, k2⟩
    obtain ⟨a0, k0, a1, k1', hlt, c0, c1, c2, c3, c4, c5, c6, c7, c8, c9, c10, c11, fr⟩ := h2.view
    have f11 := fr 11
    obtain ⟨r1, r2⟩ := h2.used (M.used + 1)
    have hpop := hide (pop_any _ P b M.tick r1 (by show M.stack.length ≤ _; omega) hne.out)
    have k3 := k2.trans r2
    clear c0 c1 c2 c3 c4 c5 c6 c7 c8 c9 c10 fr r1 r2 h2 k2 hroom
    go_wp2_with fail
    refine (unhide hpop).mono ?_
    rintro e w3 ⟨rfl, h3, k4⟩
    have post : Hid (Step2Post P b (M.top, 0, M.tick.pop) w (.returned (.tuple #[.int .i64 M.tick.top, .int .i64 0])) w3) := ⟨rfl, h3, k3.trans k4⟩
    clear h3 k4 k3 hpop
    go_wp2
    go_ret2
    exact post.out
  · have e1 : M.takeN = (0, M.room 1 0, M) := by unfold Ma.takeN; rw [if_pos hr]
    rw [e1]
    have hb : (M.room 1 0 != 0) = true := bne_iff_ne.2 hr
    generalize M.room 1 0 = rm at hroom hb ⊢
    clear hr hok h e1
    go_enter Tryz.func92, Tryz.ntmps92
    go_wp2_with fail
    refine (unhide hroom).mono ?_
    rintro e w1 ⟨rfl, h1, k1⟩
    have post : Hid (Step2Post P b (0, rm, M) w (.returned (.tuple #[.int .i64 0, .int .i64 rm])) w1) := ⟨rfl, h1, k1⟩
    clear h1 k1 hroom
    go_wp2
    go_ret2
    exact post.out
end
end Go.Proofs.YtnanjomnldfidabGreatDoor

set_option linter.unusedSimpArgs false
set_option linter.unusedVariables false
set_option linter.unusedSectionVars false
namespace Go.Proofs.YtnanjomnldfidabGreatDoor
open Go.RowKit

section
variable {w : World} {P : Nat → Prop} {b : Nat} {M : Ma}

set_option maxRecDepth 100000 in
set_option maxHeartbeats 800000 in
theorem call_any (h : RmIs w P b M) (hok : M.Ok) (back : Int) : Calls Tryz.prog 69 #[.pointer (some ⟨b, 0, none⟩), .int .i64 back] w (StepPost P b (M.call back) w) := by
  have hroom := hide (room_any w P b M 0 0 h hok (by omega) (by omega) (by omega) (by omega))
  by_cases hr : M.room 0 0 = 0
  · have hb : (M.room 0 0 != 0) = false := by rw [hr]; rfl
    have o2 := hok.used
    have o3 := hok.used'
    have o4 := hok.calls
    by_cases h12 : 12 ≤ M.calls.length
    · have e1 : M.call back = (9, M) := by unfold Ma.call; rw [if_neg (by simp [hr]), if_pos h12]
      rw [e1]
      generalize M.room 0 0 = rm at hroom hb hr
      clear hr hok h e1
      go_enter Tryz.func69, Tryz.ntmps69
      go_wp2_with fail
      refine (unhide hroom).mono ?_
      rintro e w2 ⟨rfl, h2, k2⟩
      obtain ⟨a0, k0, a1, k1', hlt, c0, c1, c2, c3, c4, c5, c6, c7, c8, c9, c10, c11, fr⟩ := h2.view
      have post : Hid (StepPost P b (9, M) w (.returned (.int .i64 9)) w2) := ⟨rfl, h2, k2⟩
      clear c0 c2 c3 c4 c5 c6 c7 c8 c9 c10 c11 fr h2 k2 hroom
      go_wp2
      go_ret
      exact post.out
    · have e1 : M.call back = (0, { M.tick with calls := M.calls ++ [back] }) := by unfold Ma.call; rw [if_neg (by simp [hr]), if_neg h12]
      rw [e1]
      have h12' : M.calls.length < 12 := by omega
      generalize M.room 0 0 = rm at hroom hb hr
      clear hr hok h e1 h12
      go_enter Tryz.func69, Tryz.ntmps69
      go_wp2_with fail
      refine (unhide hroom).mono ?_
      rintro e w2 ⟨rfl, h2, k2⟩
      obtain ⟨vs, vc, h⟩ := h2
      have hlt := h.lt
      obtain ⟨ac, kc, hvc⟩ := own_slice h.calls.own
      subst hvc
      have c1 := h.cell 1 _ rfl
      have c11 : w2.cell? ⟨b, 11, none⟩ = some (.int .i64 M.used) := h.cell 11 _ rfl
      have f11 := h.free 11
      obtain ⟨g, r2⟩ := h.field M.tick 11 (.int .i64 (M.used + 1)) rfl rfl rfl
      obtain ⟨i0, hi, hz0, hz1, hz2⟩ := info_parts Tryz.infoInt
      have hrow : Row ((w2.setCell ⟨b, 11, none⟩ (.int .i64 (M.used + 1))).alloc (.cells #[.int .i64 back] 3)) (fun k => P k ∨ vs.ownBlock = some k) 3 1 (.slice ac M.calls.length kc) M.calls.length (intCells M.calls) :=
        Row.alloc ⟨g.calls.own, fun k hk hp => hp.elim (g.calls.out k hk) (fun hv => g.sep k hv hk)⟩ _
      have hbd : Hid (∀ k, P k ∨ vs.ownBlock = some k → k < ((w2.setCell ⟨b, 11, none⟩ (.int .i64 (M.used + 1))).alloc (.cells #[.int .i64 back] 3)).heap.size) := by
        intro k hk
        rcases hk with hk | hk
        · exact (g.alloc _).bound k hk
        · exact (g.stack.alloc _).lt hk
      have CE : Hid (∀ j u, [Value.int .i64 back][j]? = some u → ((w2.setCell ⟨b, 11, none⟩ (.int .i64 (M.used + 1))).alloc (.cells #[.int .i64 back] 3)).cell? ((⟨w2.heap.size, 0, none⟩ : Addr).add j) = some u) := by
        intro j u hj
        have := cell_one_new (w2.setCell ⟨b, 11, none⟩ (.int .i64 (M.used + 1))) (.int .i64 back) 3 j u hj
        simpa [World.setCell] using this
      clear hroom
      go_wp2_with (at_builtin; refine wpList_append_mine _ rfl _ _ 107 rfl _ hbd.out 3 i0 _ 1 8 Tryz.underlying107 hi hz0 hz1 hz2 rfl (by decide) _ _ _ rfl hrow ⟨w2.heap.size, 0, none⟩ 1 1 [.int .i64 back] rfl rfl ?c1 ?c2 ?c3 ?c4 ?_)
      case c1 => exact CE.out
      case c2 => intro u hu; simp at hu; subst hu; rfl
      case c3 => unfold maxLen; omega
      case c4 => omega
      intro v' w1 hown' hgrow
      have ha := g.alloc (.cells #[.int .i64 back] 3)
      have hb1 := grown_block hgrow ha.box (own_ne ha.calls.own ha.box (by decide))
      have hs1 := ha.stack.kept hgrow (by
        cases hvs : vs.ownBlock with
        | none => exact .inl rfl
        | some k => exact .inr fun e => g.sep k hvs e.symm)
      have cc := cell_of_block hb1 1 _ rfl
      have ff : w1.frozen? ⟨b, 1, none⟩ = false := frozen_of_row _ _ _ _ _ hb1
      have hlt1 := lt_of_block hb1
      have hkk : Kept P w w1 := ((k2.trans r2).alloc (.cells #[.int .i64 back] 3)).grown hgrow g.calls.out
      obtain ⟨g', cp', hv⟩ := own_form hown'.own (by omega)
      have fin : Hid (RmIs (w1.setCell ⟨b, 1, none⟩ v') P b { M.tick with calls := M.calls ++ [back] } ∧ Kept P w1 (w1.setCell ⟨b, 1, none⟩ v')) := by
        refine ⟨⟨vs, v', fun k hk => ?_, h.out, ?_, hs1.set (own_ne hs1.own hb1 (by decide)) _, ?_, fun k hk hk2 => hown'.out k hk2 (.inr hk)⟩, (Kept.refl P w1).setCell h.out _⟩
        · have := Nat.lt_of_lt_of_le (ha.bound k hk) hgrow.size; simpa [World.setCell] using this
        · rw [heap_setCell_same _ _ _ _ _ _ hb1]; rfl
        · show Row _ _ _ _ _ (M.calls ++ [back]).length (intCells (M.calls ++ [back]))
          rw [intCells_snoc]
          simp only [List.length_append, List.length_cons, List.length_nil]
          exact Row.set ⟨hown'.own, fun k hk hp => hown'.out k hk (.inl hp)⟩ (own_ne hown'.own hb1 (by decide)) _
      rw [hv] at fin
      rw [hv]
      have post : Hid (StepPost P b (0, { M.tick with calls := M.calls ++ [back] }) w (.returned (.int .i64 0)) (w1.setCell ⟨b, 1, none⟩ (.slice (some ⟨g', 0, none⟩) (M.calls.length + 1) cp'))) := ⟨rfl, fin.out.1, hkk.trans fin.out.2⟩
      clear hown' hgrow hv hb1 hs1 ha hrow h g CE k2 r2 hkk fin c1 c11 f11 hlt
      go_wp2
      go_ret
      exact post.out
  · have e1 : M.call back = (M.room 0 0, M) := by unfold Ma.call; rw [if_pos hr]
    rw [e1]
    have hb : (M.room 0 0 != 0) = true := bne_iff_ne.2 hr
    generalize M.room 0 0 = rm at hroom hb ⊢
    clear hr hok h e1
    go_enter Tryz.func69, Tryz.ntmps69
    go_wp2_with fail
    refine (unhide hroom).mono ?_
    rintro e w1 ⟨rfl, h1, k1⟩
    have post : Hid (StepPost P b (rm, M) w (.returned (.int .i64 rm)) w1) := ⟨rfl, h1, k1⟩
    clear h1 k1 hroom
    go_wp2
    go_ret
    exact post.out
end

set_option maxRecDepth 100000 in
set_option maxHeartbeats 800000 in
theorem ret_any {w : World} {P : Nat → Prop} {b : Nat} {M : Ma} (h : RmIs w P b M) (hok : M.Ok) : Calls Tryz.prog 68 #[.pointer (some ⟨b, 0, none⟩)] w (Step2Post P b M.ret w) := by
  have hroom := hide (room_any w P b M 0 0 h hok (by omega) (by omega) (by omega) (by omega))
  by_cases hr : M.room 0 0 = 0
  · have hb : (M.room 0 0 != 0) = false := by rw [hr]; rfl
    have o2 := hok.used
    have o3 := hok.used'
    have o4 := hok.calls
    by_cases h12 : M.calls = []
    · have e1 : M.ret = (0, 7, M) := by unfold Ma.ret; rw [if_neg (by simp [hr]), if_pos h12]
      rw [e1]
      have hl0 : ((M.calls.length : Int) == 0) = true := by rw [h12]; rfl
      generalize M.room 0 0 = rm at hroom hb hr
      clear hr hok h e1 h12
      go_enter Tryz.func68, Tryz.ntmps68
      go_wp2_with fail
      refine (unhide hroom).mono ?_
      rintro e w2 ⟨rfl, h2, k2⟩
      obtain ⟨a0, k0, a1, k1', hlt, c0, c1, c2, c3, c4, c5, c6, c7, c8, c9, c10, c11, fr⟩ := h2.view
      have post : Hid (Step2Post P b (0, 7, M) w (.returned (.tuple #[.int .i64 0, .int .i64 7])) w2) := ⟨rfl, h2, k2⟩
      clear c0 c2 c3 c4 c5 c6 c7 c8 c9 c10 c11 fr h2 k2 hroom
      go_wp2
      go_ret2
      exact post.out
    · have e1 : M.ret = (M.calls.getLastD 0, 0, { M.tick with calls := M.calls.dropLast }) := by unfold Ma.ret; rw [if_neg (by simp [hr]), if_neg h12]
      rw [e1]
      obtain ⟨lc, hlc⟩ : ∃ lc, lc = M.calls.getLastD 0 := ⟨_, rfl⟩
      rw [← hlc]
      have hpos : 0 < M.calls.length := List.length_pos_iff.2 h12
      have hl0 : ((M.calls.length : Int) == 0) = false := by rw [beq_eq_false_iff_ne]; omega
      generalize M.room 0 0 = rm at hroom hb hr
      clear hr hok h e1
      go_enter Tryz.func68, Tryz.ntmps68
      go_wp2_with fail
      refine (unhide hroom).mono ?_
      rintro e w2 ⟨rfl, h2, k2⟩
      obtain ⟨vs, vc, h⟩ := h2
      have hlt := h.lt
      obtain ⟨f, cp, rfl, hflt, hcp1, hcp2, hlast, hrow⟩ := row_last h.calls h12
      rw [← hlc] at hlast
      have c1 := h.cell 1 _ rfl
      have c11 := h.cell 11 _ rfl
      have f11 := h.free 11
      have f1 := h.free 1
      have hfb : f ≠ b := fun e => own_ne h.calls.own h.box (by decide) (by rw [e]; rfl)
      obtain ⟨g, r2⟩ := h.field M.tick 11 (.int .i64 (M.used + 1)) rfl rfl rfl
      have hrow2 := hrow.set (a := ⟨b, 11, none⟩) (fun e => hfb (Option.some.inj e)) (.int .i64 (M.used + 1))
      obtain ⟨r3, r4⟩ := g.newCalls M.calls.dropLast _ hrow2 g.sep
      have post : Hid (Step2Post P b (lc, 0, { M.tick with calls := M.calls.dropLast }) w (.returned (.tuple #[.int .i64 lc, .int .i64 0])) ((w2.setCell ⟨b, 11, none⟩ (.int .i64 (M.used + 1))).setCell ⟨b, 1, none⟩ (.slice (some ⟨f, 0, none⟩) (M.calls.length - 1) cp))) := ⟨rfl, ⟨_, _, r3⟩, k2.trans (r2.trans r4)⟩
      clear hrow hrow2 r3 r4 r2 g h k2 hroom h12 hlc
      go_wp2
      go_ret2
      exact post.out
  · have e1 : M.ret = (0, M.room 0 0, M) := by unfold Ma.ret; rw [if_pos hr]
    rw [e1]
    have hb : (M.room 0 0 != 0) = true := bne_iff_ne.2 hr
    generalize M.room 0 0 = rm at hroom hb ⊢
    clear hr hok h e1
    go_enter Tryz.func68, Tryz.ntmps68
    go_wp2_with fail
    refine (unhide hroom).mono ?_
    rintro e w1 ⟨rfl, h1, k1⟩
    have post : Hid (Step2Post P b (0, rm, M) w (.returned (.tuple #[.int .i64 0, .int .i64 rm])) w1) := ⟨rfl, h1, k1⟩
    clear h1 k1 hroom
    go_wp2
    go_ret2
    exact post.out

theorem cases19 {n : Int} (h0 : 0 ≤ n) (h1 : n ≤ 18) : n = 0 ∨ n = 1 ∨ n = 2 ∨ n = 3 ∨ n = 4 ∨ n = 5 ∨ n = 6 ∨ n = 7 ∨ n = 8 ∨ n = 9 ∨ n = 10 ∨ n = 11 ∨ n = 12 ∨ n = 13 ∨ n = 14 ∨ n = 15 ∨ n = 16 ∨ n = 17 ∨ n = 18 := by omega

set_option maxRecDepth 100000 in
set_option maxHeartbeats 1600000 in
theorem takes_any (n : Int) (w : World) (h0 : 0 ≤ n) (h1 : n ≤ 18) : Calls Tryz.prog 94 #[.int .i64 n] w fun e w' => e = .returned (.int .i64 (takesN n)) ∧ w' = w := by
  rcases cases19 h0 h1 with rfl | rfl | rfl | rfl | rfl | rfl | rfl | rfl | rfl | rfl | rfl | rfl | rfl | rfl | rfl | rfl | rfl | rfl | rfl
  all_goals
    clear h0 h1
    go_enter Tryz.func94, Tryz.ntmps94
    go_wp2
    go_ret
    exact ⟨rfl, rfl⟩

set_option maxRecDepth 100000 in
set_option maxHeartbeats 1600000 in
theorem gives_any (n : Int) (w : World) (h0 : 0 ≤ n) (h1 : n ≤ 18) : Calls Tryz.prog 95 #[.int .i64 n] w fun e w' => e = .returned (.int .i64 (givesN n)) ∧ w' = w := by
  rcases cases19 h0 h1 with rfl | rfl | rfl | rfl | rfl | rfl | rfl | rfl | rfl | rfl | rfl | rfl | rfl | rfl | rfl | rfl | rfl | rfl | rfl
  all_goals
    clear h0 h1
    go_enter Tryz.func95, Tryz.ntmps95
    go_wp2
    go_ret
    exact ⟨rfl, rfl⟩

/-- The right that the listed word n needs. -/
def rightN (n : Int) : Int := if n = 16 then 1 else if n = 17 then 2 else if n = 18 then 8 else 0
set_option maxRecDepth 100000 in
set_option maxHeartbeats 1600000 in
theorem right_any (n : Int) (w : World) (h0 : 0 ≤ n) (h1 : n ≤ 18) : Calls Tryz.prog 109 #[.int .i64 n] w fun e w' => e = .returned (.int .i64 (rightN n)) ∧ w' = w := by
  rcases cases19 h0 h1 with rfl | rfl | rfl | rfl | rfl | rfl | rfl | rfl | rfl | rfl | rfl | rfl | rfl | rfl | rfl | rfl | rfl | rfl | rfl
  all_goals
    clear h0 h1
    go_enter Tryz.func109, Tryz.ntmps109
    go_wp2
    go_ret
    exact ⟨rfl, rfl⟩

set_option maxRecDepth 100000 in
theorem one_any (v : Bool) (w : World) : Calls Tryz.prog 117 #[.bool v] w fun e w' => e = .returned (.int .i64 (oneN v)) ∧ w' = w := by
  cases v
  all_goals
    go_enter Tryz.func117, Tryz.ntmps117
    go_wp2
    go_ret
    exact ⟨rfl, rfl⟩
end Go.Proofs.YtnanjomnldfidabGreatDoor

set_option linter.unusedSimpArgs false
set_option linter.unusedVariables false
set_option linter.unusedSectionVars false
namespace Go.Proofs.YtnanjomnldfidabGreatDoor
open Go.RowKit

theorem mul_bd {a b : Int} (ha : 0 ≤ a) (ha' : a < 65536) (hb : 0 ≤ b) (hb' : b < 65536) : 0 ≤ a * b ∧ a * b ≤ 4294836225 := by
  refine ⟨Int.mul_nonneg ha hb, ?_⟩
  have h1 : a * b ≤ 65535 * b := Int.mul_le_mul_of_nonneg_right (by omega) hb
  omega

set_option maxRecDepth 100000 in
set_option maxHeartbeats 1600000 in
theorem sum_any (n a b : Int) (w : World) (h0 : 4 ≤ n) (h1 : n ≤ 13) (ha : 0 ≤ a) (ha' : a < 65536) (hb : 0 ≤ b) (hb' : b < 65536) (hz : n = 7 ∨ n = 8 → b ≠ 0) :
    Calls Tryz.prog 111 #[.int .i64 n, .int .i64 a, .int .i64 b] w fun e w' => e = .returned (.int .i64 (sumN n a b)) ∧ w' = w := by
  obtain ⟨m1, m2⟩ := mul_bd ha ha' hb hb'
  rcases (show n = 4 ∨ n = 5 ∨ n = 6 ∨ n = 7 ∨ n = 8 ∨ n = 9 ∨ n = 10 ∨ n = 11 ∨ n = 12 ∨ n = 13 by omega) with rfl | rfl | rfl | rfl | rfl | rfl | rfl | rfl | rfl | rfl
  · have e : Hid (sumN 4 a b = (a + b) % 65536) := rfl
    clear hz h0 h1 m1 m2
    go_enter Tryz.func111, Tryz.ntmps111
    go_wp2
    go_ret
    exact ⟨ret_int e.out.symm, rfl⟩
  · have e : Hid (sumN 5 a b = (a + 65536 - b) % 65536) := rfl
    clear hz h0 h1 m1 m2
    go_enter Tryz.func111, Tryz.ntmps111
    go_wp2
    go_ret
    exact ⟨ret_int e.out.symm, rfl⟩
  · have e : Hid (sumN 6 a b = (a * b) % 65536) := rfl
    clear hz h0 h1
    go_enter Tryz.func111, Tryz.ntmps111
    go_wp2
    go_ret
    exact ⟨ret_int e.out.symm, rfl⟩
  · have e : Hid (sumN 7 a b = a / b) := rfl
    have hb1 : 1 ≤ b := by have := hz (.inl rfl); omega
    clear hz h0 h1 m1 m2
    go_enter Tryz.func111, Tryz.ntmps111
    go_wp2
    go_ret
    exact ⟨ret_int e.out.symm, rfl⟩
  · have e : Hid (sumN 8 a b = a % b) := rfl
    have hb1 : 1 ≤ b := by have := hz (.inr rfl); omega
    clear hz h0 h1 m1 m2
    go_enter Tryz.func111, Tryz.ntmps111
    go_wp2
    go_ret
    exact ⟨ret_int e.out.symm, rfl⟩
  · have e : Hid (sumN 9 a b = bits BinOp.and IntKind.i64 a b) := rfl
    clear hz h0 h1 m1 m2
    go_enter Tryz.func111, Tryz.ntmps111
    go_wp2
    go_ret
    exact ⟨ret_int e.out.symm, rfl⟩
  · have e : Hid (sumN 10 a b = bits BinOp.or IntKind.i64 a b) := rfl
    clear hz h0 h1 m1 m2
    go_enter Tryz.func111, Tryz.ntmps111
    go_wp2
    go_ret
    exact ⟨ret_int e.out.symm, rfl⟩
  · have e : Hid (sumN 11 a b = bits BinOp.xor IntKind.i64 a b) := rfl
    clear hz h0 h1 m1 m2
    go_enter Tryz.func111, Tryz.ntmps111
    go_wp2
    go_ret
    exact ⟨ret_int e.out.symm, rfl⟩
  · have e : Hid (sumN 12 a b = oneN (a == b)) := rfl
    clear hz h0 h1 m1 m2
    go_enter Tryz.func111, Tryz.ntmps111
    go_wp2_with (go_at_call 117; refine (one_any _ _).mono ?_; rintro e w1 ⟨rfl, rfl⟩)
    go_ret
    exact ⟨ret_int e.out.symm, rfl⟩
  · have e : Hid (sumN 13 a b = oneN (decide (a < b))) := rfl
    clear hz h0 h1 m1 m2
    go_enter Tryz.func111, Tryz.ntmps111
    go_wp2_with (go_at_call 117; refine (one_any _ _).mono ?_; rintro e w1 ⟨rfl, rfl⟩)
    go_ret
    exact ⟨ret_int e.out.symm, rfl⟩

/-- May the byte at a not be looked at? -/
def Ma.hidden (M : Ma) (a : Int) : Bool := decide ((M.image.length : Int) ≤ a) || (decide (M.kernel ≤ a) && decide (a < M.fence) && noRight M.rights 4)

set_option maxRecDepth 100000 in
set_option maxHeartbeats 800000 in
theorem hidden_any {w : World} {P : Nat → Prop} {b : Nat} {M : Ma} (h : RmIs w P b M) (hok : M.Ok) (a : Int) :
    Calls Tryz.prog 110 #[.pointer (some ⟨b, 0, none⟩), .int .i64 a] w fun e w' => e = .returned (.bool (M.hidden a)) ∧ w' = w := by
  obtain ⟨a0, k0, a1, k1', hlt, c0, c1, c2, c3, c4, c5, c6, c7, c8, c9, c10, c11, fr⟩ := h.view
  have o1 := hok.image
  have z1 : (mkB M.image).size = M.image.length := mkB_size _
  clear c0 c1 c5 c6 c8 c9 c10 c11 fr hok h
  by_cases q1 : (M.image.length : Int) ≤ a
  · have e : Hid (M.hidden a = true) := by unfold Hid Ma.hidden; rw [decide_eq_true q1]; rfl
    go_enter Tryz.func110, Tryz.ntmps110
    go_wp2
    go_ret
    exact ⟨ret_bool e.out.symm, rfl⟩
  · by_cases q2 : M.kernel ≤ a
    · by_cases q3 : a < M.fence
      · have e : Hid (M.hidden a = noRight M.rights 4) := by unfold Hid Ma.hidden; rw [decide_eq_false q1, decide_eq_true q2, decide_eq_true q3]; rfl
        go_enter Tryz.func110, Tryz.ntmps110
        go_wp2
        go_ret
        exact ⟨ret_bool e.out.symm, rfl⟩
      · have e : Hid (M.hidden a = false) := by unfold Hid Ma.hidden; rw [decide_eq_false q1, decide_eq_true q2, decide_eq_false q3]; rfl
        go_enter Tryz.func110, Tryz.ntmps110
        go_wp2
        go_ret
        exact ⟨ret_bool e.out.symm, rfl⟩
    · have e : Hid (M.hidden a = false) := by unfold Hid Ma.hidden; rw [decide_eq_false q1, decide_eq_false q2]; rfl
      have q2' : a < M.kernel := by omega
      go_enter Tryz.func110, Tryz.ntmps110
      go_wp2
      go_ret
      exact ⟨ret_bool e.out.symm, rfl⟩
end Go.Proofs.YtnanjomnldfidabGreatDoor
