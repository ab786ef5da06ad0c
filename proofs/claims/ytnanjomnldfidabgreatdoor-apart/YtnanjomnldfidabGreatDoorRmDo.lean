/-
  graderref's machine: key, two, Do.
-/
import Derived.Test.YtnanjomnldfidabGreatDoorRmFault
import Derived.Deep.RegionWith
set_option linter.unusedSimpArgs false
set_option linter.unusedVariables false
set_option linter.unusedSectionVars false
namespace Go.Proofs.YtnanjomnldfidabGreatDoor
open Go.RowKit

section
variable {w : World} {P : Nat → Prop} {b : Nat} {M : Ma}

theorem RmIs.setPos (h : RmIs w P b M) (n : Int) : RmIs (w.setCell ⟨b, 6, none⟩ (.int .i64 n)) P b { M with pos := n } ∧ Kept P w (w.setCell ⟨b, 6, none⟩ (.int .i64 n)) := by
  obtain ⟨vs, vc, h⟩ := h
  obtain ⟨r1, r2⟩ := h.field { M with pos := n } 6 (.int .i64 n) rfl rfl rfl
  exact ⟨⟨_, _, r1⟩, r2⟩
theorem RmIs.setMark (h : RmIs w P b M) (n : Int) : RmIs (w.setCell ⟨b, 10, none⟩ (.int .i64 n)) P b { M with mark := n } ∧ Kept P w (w.setCell ⟨b, 10, none⟩ (.int .i64 n)) := by
  obtain ⟨vs, vc, h⟩ := h
  obtain ⟨r1, r2⟩ := h.field { M with mark := n } 10 (.int .i64 n) rfl rfl rfl
  exact ⟨⟨_, _, r1⟩, r2⟩
theorem RmIs.setOut (h : RmIs w P b M) (l : List UInt8) : RmIs (w.setCell ⟨b, 9, none⟩ (.string (mkB l))) P b { M with out := l } ∧ Kept P w (w.setCell ⟨b, 9, none⟩ (.string (mkB l))) := by
  obtain ⟨vs, vc, h⟩ := h
  obtain ⟨r1, r2⟩ := h.field { M with out := l } 9 (.string (mkB l)) rfl rfl rfl
  exact ⟨⟨_, _, r1⟩, r2⟩
theorem RmIs.setImage (h : RmIs w P b M) (l : List UInt8) : RmIs (w.setCell ⟨b, 2, none⟩ (.string (mkB l))) P b { M with image := l } ∧ Kept P w (w.setCell ⟨b, 2, none⟩ (.string (mkB l))) := by
  obtain ⟨vs, vc, h⟩ := h
  obtain ⟨r1, r2⟩ := h.field { M with image := l } 2 (.string (mkB l)) rfl rfl rfl
  exact ⟨⟨_, _, r1⟩, r2⟩

theorem wrap_in (x : Int) (h0 : 0 ≤ x) (h1 : x ≤ 9223372036854775807) : IntKind.i64.wrap x = x := by
  rw [IntKind.wrap_i64]; omega
/-- What a method without a result leaves. -/
def DonePost (P : Nat → Prop) (b : Nat) (M : Ma) (w : World) (e : Ending) (w' : World) : Prop := e = .returned (.tuple #[]) ∧ RmIs w' P b M ∧ Kept P w w'

set_option maxRecDepth 100000 in
set_option maxHeartbeats 800000 in
theorem key_end (h : RmIs w P b M) (hl : M.stack.length ≤ 1000) (hin : M.inp.size ≤ 9223372036854775807) (hp : ¬ M.pos < M.inp.size) :
    Calls Tryz.prog 97 #[.pointer (some ⟨b, 0, none⟩)] w (DonePost P b (M.push 65535) w) := by
  obtain ⟨a0, k0, a1, k1', hlt, c0, c1, c2, c3, c4, c5, c6, c7, c8, c9, c10, c11, fr⟩ := h.view
  clear c0 c1 c2 c3 c4 c7 c8 c9 c10 c11 fr
  have hp' : (M.inp.size : Int) ≤ M.pos := by omega
  clear hp
  go_enter Tryz.func97, Tryz.ntmps97
  go_wp2
  go_quiet (fail)
  go_wp2_with fail
  refine (push_any _ P b M 65535 (h.drewN _) hl).mono ?_
  rintro e w2 ⟨rfl, h2, k2⟩
  have post : Hid (DonePost P b (M.push 65535) w (.returned (.tuple #[])) w2) := ⟨rfl, h2, (Kept.drewN _ _ _).trans k2⟩
  clear h2 k2
  go_wp2
  go_end0
  exact post.out

set_option maxRecDepth 100000 in
set_option maxHeartbeats 800000 in
theorem key_more (h : RmIs w P b M) (hl : M.stack.length ≤ 1000) (hin : M.inp.size ≤ 9223372036854775807) (hp0 : 0 ≤ M.pos) (hp : M.pos < M.inp.size) :
    Calls Tryz.prog 97 #[.pointer (some ⟨b, 0, none⟩)] w (DonePost P b { (M.push ((M.inp.toList.getD M.pos.toNat 0).toNat : Int)) with pos := M.pos + 1 } w) := by
  obtain ⟨p, hpn⟩ := Int.eq_ofNat_of_zero_le hp0
  have hps : p < M.inp.size := by omega
  have hby : M.inp.toList.getD M.pos.toNat 0 = M.inp[p] := by
    rw [hpn, Int.toNat_natCast, ByteArray.toList_eq]
    have : p < M.inp.data.toList.length := by rw [len_data]; exact hps
    rw [List.getD_eq_getElem?_getD, List.getElem?_eq_getElem this]
    rfl
  rw [hby, hpn]
  obtain ⟨a0, k0, a1, k1', hlt, c0, c1, c2, c3, c4, c5, c6, c7, c8, c9, c10, c11, fr⟩ := h.view
  rw [hpn] at c6
  have HPN := hide hpn
  clear c0 c1 c2 c3 c4 c7 c8 c9 c10 c11 fr hby hp hp0 hpn
  have hby : M.inp[p].toNat < 256 := M.inp[p].toNat_lt
  have hwr : IntKind.i64.wrap (M.inp[p].toNat : Int) = (M.inp[p].toNat : Int) := wrap_in _ (by omega) (by omega)
  go_enter Tryz.func97, Tryz.ntmps97
  go_wp2
  go_quiet (fail)
  go_wp2
  go_region_with (go_at_call 99; (refine (push_any _ P b M _ (h.drewN _) hl).mono ?_; rintro e w3 ⟨rfl, h3, k3⟩; obtain ⟨b0, d0, b1, d1, hlt3, e0, e1, e2, e3, e4, e5, e6, e7, e8, e9, e10, e11, fr3⟩ := h3.view; have g6 := fr3 6; have e6' : w3.cell? ⟨b, 6, none⟩ = some (.int .i64 (p : Int)) := e6.trans (congrArg (fun x => some (Value.int .i64 x)) HPN.out); clear e0 e1 e2 e3 e4 e5 e6 e7 e8 e9 e10 e11 fr3))
  all_goals
    obtain ⟨r1, r2⟩ := h3.setPos ((p : Int) + 1)
    have post : Hid (DonePost P b { (M.push (M.inp[p].toNat : Int)) with pos := (p : Int) + 1 } w (.returned (.tuple #[])) (w3.setCell ⟨b, 6, none⟩ (.int .i64 ((p : Int) + 1)))) := ⟨rfl, r1, (Kept.drewN _ _ _).trans (k3.trans r2)⟩
    clear r1 r2 h3 k3
    go_wp2
    go_end0
    exact post.out
end
end Go.Proofs.YtnanjomnldfidabGreatDoor
