/-
  graderref's machine: two.
  graderref's machine: Do.
  graderref's machine: Do, the words that take one number; Do in all.
  graderref's machine: Do in all; clamp, newMach, end, limits.
-/
import Derived.Test.YtnanjomnldfidabGreatDoorRmDo
import Derived.Test.YtnanjomnldfidabGreatDoorBase5
import Derived.Laws.BytesArg
set_option linter.unusedSimpArgs false
set_option linter.unusedVariables false
set_option linter.unusedSectionVars false
namespace Go.Proofs.YtnanjomnldfidabGreatDoor
open Go.RowKit

/-- One byte as a text. -/
theorem run_byte_string (w : World) (y : Int) : (convert 89 9 (.slice (some ⟨w.heap.size, 0, none⟩) 1 1)).run Tryz.prog (w.alloc (.cells #[.int .u8 y] 5)).drew = .ok (.string (strOfNums [y])) (w.alloc (.cells #[.int .u8 y] 5)).drew :=
  run_convert_bytes_arg (P := Tryz.prog) (w.alloc (.cells #[.int .u8 y] 5)).drew 89 5 Tryz.underlying89 Tryz.underlying5 w.heap.size 0 1 1 [y] rfl (fun i hi => by
    have : i = 0 := by omega
    subst this
    simp) 9 Tryz.underlying9
theorem strOfNums_one (x : Int) : (strOfNums [x % 256]).toList = [byteOf x] := by
  rw [ByteArray.toList_eq]; rfl

section
variable {w : World} {P : Nat → Prop} {b : Nat} {M : Ma}

set_option maxRecDepth 100000 in
set_option maxHeartbeats 800000 in
theorem two_swap (h : RmIs w P b M) (hl : M.stack.length ≤ 900) (x y : Int) : Calls Tryz.prog 100 #[.pointer (some ⟨b, 0, none⟩), .int .i64 2, .int .i64 x, .int .i64 y] w (DonePost P b ((M.push y).push x) w) := by
  go_enter Tryz.func100, Tryz.ntmps100
  go_wp2_with fail
  refine (push_any _ P b M y h (by omega)).mono ?_
  rintro e w2 ⟨rfl, h2, k2⟩
  go_wp2_with fail
  refine (push_any _ P b _ x h2 (by simp [Ma.push]; omega)).mono ?_
  rintro e w3 ⟨rfl, h3, k3⟩
  have post : Hid (DonePost P b ((M.push y).push x) w (.returned (.tuple #[])) w3) := ⟨rfl, h3, k2.trans k3⟩
  clear h2 h3 k2 k3
  go_wp2
  go_end0
  exact post.out

set_option maxRecDepth 100000 in
set_option maxHeartbeats 800000 in
theorem two_over (h : RmIs w P b M) (hl : M.stack.length ≤ 900) (x y : Int) : Calls Tryz.prog 100 #[.pointer (some ⟨b, 0, none⟩), .int .i64 3, .int .i64 x, .int .i64 y] w (DonePost P b (((M.push x).push y).push x) w) := by
  go_enter Tryz.func100, Tryz.ntmps100
  go_wp2_with fail
  refine (push_any _ P b M x h (by omega)).mono ?_
  rintro e w2 ⟨rfl, h2, k2⟩
  go_wp2_with fail
  refine (push_any _ P b _ y h2 (by simp [Ma.push]; omega)).mono ?_
  rintro e w3 ⟨rfl, h3, k3⟩
  go_wp2_with fail
  refine (push_any _ P b _ x h3 (by simp [Ma.push]; omega)).mono ?_
  rintro e w4 ⟨rfl, h4, k4⟩
  have post : Hid (DonePost P b (((M.push x).push y).push x) w (.returned (.tuple #[])) w4) := ⟨rfl, h4, k2.trans (k3.trans k4)⟩
  clear h2 h3 k2 k3 h4 k4
  go_wp2
  go_end0
  exact post.out

set_option maxRecDepth 100000 in
set_option maxHeartbeats 1600000 in
theorem two_sum (h : RmIs w P b M) (hl : M.stack.length ≤ 900) (n x y : Int) (h0 : 4 ≤ n) (h1 : n ≤ 13) (hx : 0 ≤ x) (hx' : x < 65536) (hy : 0 ≤ y) (hy' : y < 65536) (hz : n = 7 ∨ n = 8 → y ≠ 0) :
    Calls Tryz.prog 100 #[.pointer (some ⟨b, 0, none⟩), .int .i64 n, .int .i64 x, .int .i64 y] w (DonePost P b (M.push (sumN n x y)) w) := by
  have hs := hide (fun w' => sum_any n x y w' h0 h1 hx hx' hy hy' hz)
  have q1 : (n == 2) = false := by rw [beq_eq_false_iff_ne]; omega
  have q2 : (n == 3) = false := by rw [beq_eq_false_iff_ne]; omega
  have q3 : (n == 15) = false := by rw [beq_eq_false_iff_ne]; omega
  generalize sumN n x y = sm at hs ⊢
  clear hz
  go_enter Tryz.func100, Tryz.ntmps100
  go_wp2_with fail
  refine ((unhide hs) _).mono ?_
  rintro e w1 ⟨rfl, rfl⟩
  go_wp2_with fail
  refine (push_any _ P b M sm h (by omega)).mono ?_
  rintro e w2 ⟨rfl, h2, k2⟩
  have post : Hid (DonePost P b (M.push sm) w1 (.returned (.tuple #[])) w2) := ⟨rfl, h2, k2⟩
  clear h2 k2
  go_wp2
  go_end0
  exact post.out

set_option maxRecDepth 100000 in
set_option maxHeartbeats 1600000 in
theorem two_store (h : RmIs w P b M) (hi : M.image.length ≤ 256) (x : Int) (k : Nat) (hx : 0 ≤ x) (hx' : x < 65536) (hk : k < M.image.length) :
    Calls Tryz.prog 100 #[.pointer (some ⟨b, 0, none⟩), .int .i64 15, .int .i64 x, .int .i64 (k : Int)] w (DonePost P b { M with image := M.image.set k (byteOf x) } w) := by
  obtain ⟨a0, k0, a1, k1', hlt, c0, c1, c2, c3, c4, c5, c6, c7, c8, c9, c10, c11, fr⟩ := h.view
  have f2 := fr 2
  have z1 : (mkB M.image).size = M.image.length := mkB_size _
  have hcv := run_byte_string w (x % 256)
  have s1 : ((mkB M.image).extract 0 k).size = k := by rw [ByteArray.size_extract, z1]; omega
  have s2 : (strOfNums [x % 256]).size = 1 := strOfNums_size _
  have s3 : ((mkB M.image).extract 0 k ++ strOfNums [x % 256]).size = k + 1 := by rw [ByteArray.size_append, s1, s2]
  have s4 : ((mkB M.image).extract (k + 1) M.image.length).size = M.image.length - (k + 1) := by rw [ByteArray.size_extract, z1]; omega
  have himg : (mkB M.image).extract 0 k ++ strOfNums [x % 256] ++ (mkB M.image).extract (k + 1) M.image.length = mkB (M.image.set k (byteOf x)) := by
    refine eq_mk ?_
    rw [toList_append, toList_append, toList_extract, toList_extract, strOfNums_one, mkB_toList, List.set_eq_take_append_cons_drop, if_pos hk]
    simp
  obtain ⟨r1, r2⟩ := h.setImage (M.image.set k (byteOf x))
  rw [← himg] at r1 r2
  have post : Hid (DonePost P b { M with image := M.image.set k (byteOf x) } w (.returned (.tuple #[])) ((w.setCell ⟨b, 2, none⟩ (.string ((mkB M.image).extract 0 k ++ strOfNums [x % 256] ++ (mkB M.image).extract (k + 1) M.image.length))).alloc (.cells #[.int .u8 (x % 256)] 5)).drew) := ⟨rfl, (r1.alloc _).drew, (r2.alloc _).drew⟩
  clear c0 c1 c3 c4 c5 c6 c7 c8 c9 c10 c11 fr himg r1 r2
  go_enter Tryz.func100, Tryz.ntmps100
  go_wp2
  go_region
  go_wp2
  go_end0
  exact post.out
end
end Go.Proofs.YtnanjomnldfidabGreatDoor

set_option linter.unusedSimpArgs false
set_option linter.unusedVariables false
set_option linter.unusedSectionVars false
namespace Go.Proofs.YtnanjomnldfidabGreatDoor
open Go.RowKit

theorem Ma.room_len {M : Ma} {t g : Int} (h : M.room t g = 0) : t ≤ M.stack.length := by
  unfold Ma.room at h
  split at h
  · cases h
  · split at h
    · cases h
    · omega
theorem Ma.pop_push {M : Ma} (h : M.stack ≠ []) : M.pop.push M.top = M := by
  unfold Ma.pop Ma.push Ma.top
  have : M.stack.dropLast ++ [M.stack.getLastD 0] = M.stack := by
    rw [List.getLastD_eq_getLast?, List.getLast?_eq_some_getLast h]
    exact List.dropLast_concat_getLast h
  simp only [this]
theorem Ma.pop_ne {M : Ma} (h : 2 ≤ M.stack.length) : M.pop.stack ≠ [] := by
  intro hn
  have : M.stack.dropLast.length = 0 := by rw [show M.stack.dropLast = [] from hn]; rfl
  rw [List.length_dropLast] at this
  omega
theorem Ma.ne_of_len {M : Ma} (h : 1 ≤ M.stack.length) : M.stack ≠ [] := List.length_pos_iff.1 h
theorem Ma.top_mem {M : Ma} (h : M.stack ≠ []) : M.top ∈ M.stack := by
  unfold Ma.top
  rw [List.getLastD_eq_getLast?, List.getLast?_eq_some_getLast h]
  exact List.getLast_mem h
theorem Ma.Ok.top {M : Ma} (h : M.Ok) (hne : M.stack ≠ []) : 0 ≤ M.top ∧ M.top < 65536 := h.nums _ (Ma.top_mem hne)
theorem Ma.Ok.top2 {M : Ma} (h : M.Ok) (hne : M.pop.stack ≠ []) : 0 ≤ M.pop.top ∧ M.pop.top < 65536 := h.nums _ ((List.dropLast_sublist _).subset (Ma.top_mem hne))

section
variable {w : World} {P : Nat → Prop} {b : Nat} {M : Ma}

theorem takesN_bd {n : Int} : 0 ≤ takesN n ∧ takesN n ≤ 2 := by unfold takesN; split; omega; split <;> omega
theorem givesN_bd {n : Int} : 0 ≤ givesN n ∧ givesN n ≤ 3 := by unfold givesN; split; omega; split; omega; split <;> omega

set_option maxRecDepth 100000 in
set_option maxHeartbeats 800000 in
theorem do_room (h : RmIs w P b M) (hok : M.Ok) (n : Int) (h0 : 0 ≤ n) (h1 : n ≤ 18) (hr : M.room (takesN n) (givesN n) ≠ 0) :
    Calls Tryz.prog 71 #[.pointer (some ⟨b, 0, none⟩), .int .i64 n] w (StepPost P b (M.room (takesN n) (givesN n), M) w) := by
  obtain ⟨t1, t2⟩ := takesN_bd (n := n)
  obtain ⟨g1, g2⟩ := givesN_bd (n := n)
  have hroom := hide (room_any w P b M (takesN n) (givesN n) h hok t1 (by omega) g1 (by omega))
  have ht := hide (takes_any n w h0 h1)
  have hg := hide (gives_any n w h0 h1)
  have hb : (M.room (takesN n) (givesN n) != 0) = true := bne_iff_ne.2 hr
  generalize M.room (takesN n) (givesN n) = rm at hroom hb ⊢
  clear hr hok h t1 t2 g1 g2
  generalize takesN n = tk at ht hroom
  generalize givesN n = gv at hg hroom
  go_enter Tryz.func71, Tryz.ntmps71
  go_wp2_with fail
  refine (unhide ht).mono ?_
  rintro e w1 ⟨rfl, rfl⟩
  go_wp2_with fail
  refine (unhide hg).mono ?_
  rintro e w2 ⟨rfl, rfl⟩
  go_wp2_with fail
  refine (unhide hroom).mono ?_
  rintro e w3 ⟨rfl, h3, k3⟩
  have post : Hid (StepPost P b (rm, M) w2 (.returned (.int .i64 rm)) w3) := ⟨rfl, h3, k3⟩
  clear h3 k3
  go_wp2
  go_ret
  exact post.out

set_option maxRecDepth 100000 in
set_option maxHeartbeats 800000 in
/-- Do, where the step has no error of room: what stands behind the fault. -/
theorem do_fault (h : RmIs w P b M) (hok : M.Ok) (n : Int) (h0 : 0 ≤ n) (h1 : n ≤ 18) (hr : M.room (takesN n) (givesN n) = 0) (hf : M.fault n ≠ 0) (hne : n ≠ 17 → M.stack ≠ []) :
    Calls Tryz.prog 71 #[.pointer (some ⟨b, 0, none⟩), .int .i64 n] w (StepPost P b (M.fault n, M) w) := by
  obtain ⟨t1, t2⟩ := takesN_bd (n := n)
  obtain ⟨g1, g2⟩ := givesN_bd (n := n)
  have hroom := hide (fun w' (h' : RmIs w' P b M) => room_any w' P b M (takesN n) (givesN n) h' hok t1 (by omega) g1 (by omega))
  have ht := hide (fun w' => takes_any n w' h0 h1)
  have hg := hide (fun w' => gives_any n w' h0 h1)
  have hfl := hide (fun w' (h' : RmIs w' P b M) => fault_any (P := P) h' hok n h0 h1 hne)
  have hb : (M.room (takesN n) (givesN n) != 0) = false := by rw [hr]; rfl
  have hb2 : (M.fault n != 0) = true := bne_iff_ne.2 hf
  generalize M.room (takesN n) (givesN n) = rm at hroom hb
  generalize M.fault n = ft at hfl hb2 ⊢
  clear hr hok t1 t2 g1 g2 hf hne
  generalize takesN n = tk at ht hroom
  generalize givesN n = gv at hg hroom
  go_enter Tryz.func71, Tryz.ntmps71
  go_wp2_with fail
  refine ((unhide ht) _).mono ?_
  rintro e w1 ⟨rfl, rfl⟩
  go_wp2_with fail
  refine ((unhide hg) _).mono ?_
  rintro e w2 ⟨rfl, rfl⟩
  go_wp2_with fail
  refine ((unhide hroom) _ h).mono ?_
  rintro e w3 ⟨rfl, h3, k3⟩
  go_wp2_with fail
  refine ((unhide hfl) _ h3).mono ?_
  rintro e w4 ⟨rfl, h4, k4⟩
  have post : Hid (StepPost P b (ft, M) w2 (.returned (.int .i64 ft)) w4) := ⟨rfl, h4, k3.trans k4⟩
  clear h3 k3 h4 k4
  go_wp2
  go_ret
  exact post.out

set_option maxRecDepth 100000 in
set_option maxHeartbeats 800000 in
theorem do_key (h : RmIs w P b M) (hok : M.Ok) (hr : M.room (takesN 17) (givesN 17) = 0) (hf : M.fault 17 = 0) :
    Calls Tryz.prog 71 #[.pointer (some ⟨b, 0, none⟩), .int .i64 17] w (StepPost P b (0, M.tick.act 17) w) := by
  obtain ⟨t1, t2⟩ := takesN_bd (n := 17)
  obtain ⟨g1, g2⟩ := givesN_bd (n := 17)
  have hroom := hide (fun w' (h' : RmIs w' P b M) => room_any w' P b M (takesN 17) (givesN 17) h' hok t1 (by omega) g1 (by omega))
  have ht := hide (fun w' => takes_any 17 w' (by decide) (by decide))
  have hg := hide (fun w' => gives_any 17 w' (by decide) (by decide))
  have hfl := hide (fun w' (h' : RmIs w' P b M) => fault_any (P := P) h' hok 17 (by decide) (by decide) (fun h => absurd rfl h))
  have hb : (M.room (takesN 17) (givesN 17) != 0) = false := by rw [hr]; rfl
  have hb2 : (M.fault 17 != 0) = false := by rw [hf]; rfl
  have hkey : Hid (∀ w', RmIs w' P b M.tick → Calls Tryz.prog 97 #[.pointer (some ⟨b, 0, none⟩)] w' (DonePost P b (M.tick.act 17) w')) := by
    intro w' h'
    have o1 := hok.stack
    unfold Ma.act
    rw [if_pos rfl]
    by_cases hp : M.tick.pos < M.tick.inp.size
    · rw [if_pos hp]; exact key_more h' (by show M.stack.length ≤ _; omega) hok.inp hok.pos hp
    · rw [if_neg hp]; exact key_end h' (by show M.stack.length ≤ _; omega) hok.inp hp
  have o2 := hok.used
  have o3 := hok.used'
  generalize M.room (takesN 17) (givesN 17) = rm at hroom hb
  generalize M.fault 17 = ft at hfl hb2
  generalize M.tick.act 17 = res at hkey ⊢
  clear hr hok t1 t2 g1 g2 hf
  generalize takesN 17 = tk at ht hroom
  generalize givesN 17 = gv at hg hroom
  go_enter Tryz.func71, Tryz.ntmps71
  go_wp2_with fail
  refine ((unhide ht) _).mono ?_
  rintro e w1 ⟨rfl, rfl⟩
  go_wp2_with fail
  refine ((unhide hg) _).mono ?_
  rintro e w2 ⟨rfl, rfl⟩
  go_wp2_with fail
  refine ((unhide hroom) _ h).mono ?_
  rintro e w3 ⟨rfl, h3, k3⟩
  go_wp2_with fail
  refine ((unhide hfl) _ h3).mono ?_
  rintro e w4 ⟨rfl, h4, k4⟩
  obtain ⟨a0, k0, a1, k1', hlt, c0, c1, c2, c3, c4, c5, c6, c7, c8, c9, c10, c11, fr⟩ := h4.view
  have f11 := fr 11
  obtain ⟨r1, r2⟩ := h4.used (M.used + 1)
  have hkq := hide ((unhide hkey) _ r1)
  have kk := k3.trans (k4.trans r2)
  clear c0 c1 c2 c3 c4 c5 c6 c7 c8 c9 c10 fr r1 r2 h3 k3 h4 k4
  go_wp2_with fail
  refine (unhide hkq).mono ?_
  rintro e w5 ⟨rfl, h5, k5⟩
  have post : Hid (StepPost P b (0, res) w2 (.returned (.int .i64 0)) w5) := ⟨rfl, h5, kk.trans k5⟩
  clear h5 k5 kk hkq
  go_wp2
  go_ret
  exact post.out

set_option maxRecDepth 100000 in
set_option maxHeartbeats 800000 in
theorem do_two (h : RmIs w P b M) (hok : M.Ok) (n : Int) (h0 : 0 ≤ n) (h1 : n ≤ 18) (hn : n ≠ 17 ∧ n ≠ 1 ∧ n ≠ 0 ∧ n ≠ 14 ∧ n ≠ 16 ∧ n ≠ 18) (hr : M.room (takesN n) (givesN n) = 0) (hf : M.fault n = 0) (hl : 2 ≤ M.stack.length) (R : Ma)
    (htwo : ∀ w', RmIs w' P b M.tick.pop.pop → Calls Tryz.prog 100 #[.pointer (some ⟨b, 0, none⟩), .int .i64 n, .int .i64 M.pop.top, .int .i64 M.top] w' (DonePost P b R w')) :
    Calls Tryz.prog 71 #[.pointer (some ⟨b, 0, none⟩), .int .i64 n] w (StepPost P b (0, R) w) := by
  obtain ⟨t1, t2⟩ := takesN_bd (n := n)
  obtain ⟨g1, g2⟩ := givesN_bd (n := n)
  have hne1 : M.stack ≠ [] := Ma.ne_of_len (by omega)
  have hroom := hide (fun w' (h' : RmIs w' P b M) => room_any w' P b M (takesN n) (givesN n) h' hok t1 (by omega) g1 (by omega))
  have ht := hide (fun w' => takes_any n w' h0 h1)
  have hg := hide (fun w' => gives_any n w' h0 h1)
  have hfl := hide (fun w' (h' : RmIs w' P b M) => fault_any (P := P) h' hok n h0 h1 (fun _ => hne1))
  have o1 := hok.stack
  have hp1 := hide (fun w' (h' : RmIs w' P b M.tick) => pop_any w' P b M.tick h' (by show M.stack.length ≤ _; omega) hne1)
  have hp2 := hide (fun w' (h' : RmIs w' P b M.tick.pop) => pop_any w' P b M.tick.pop h' (by show M.stack.dropLast.length ≤ _; rw [List.length_dropLast]; omega) (Ma.pop_ne hl))
  have htw := hide htwo
  have hb : (M.room (takesN n) (givesN n) != 0) = false := by rw [hr]; rfl
  have hb2 : (M.fault n != 0) = false := by rw [hf]; rfl
  have q1 : (n == 17) = false := by simpa using hn.1
  have q2 : (n == 1) = false := by simpa using hn.2.1
  have q3 : (n == 0) = false := by simpa using hn.2.2.1
  have q4 : (n == 14) = false := by simpa using hn.2.2.2.1
  have q5 : (n == 16) = false := by simpa using hn.2.2.2.2.1
  have q6 : (n == 18) = false := by simpa using hn.2.2.2.2.2
  have o2 := hok.used
  have o3 := hok.used'
  generalize M.room (takesN n) (givesN n) = rm at hroom hb
  generalize M.fault n = ft at hfl hb2
  clear hr hok t1 t2 g1 g2 hf hn htwo hne1
  generalize takesN n = tk at ht hroom
  generalize givesN n = gv at hg hroom
  go_enter Tryz.func71, Tryz.ntmps71
  go_wp2_with fail
  refine ((unhide ht) _).mono ?_
  rintro e w1 ⟨rfl, rfl⟩
  go_wp2_with fail
  refine ((unhide hg) _).mono ?_
  rintro e w2 ⟨rfl, rfl⟩
  go_wp2_with fail
  refine ((unhide hroom) _ h).mono ?_
  rintro e w3 ⟨rfl, h3, k3⟩
  go_wp2_with fail
  refine ((unhide hfl) _ h3).mono ?_
  rintro e w4 ⟨rfl, h4, k4⟩
  obtain ⟨a0, k0, a1, k1', hlt, c0, c1, c2, c3, c4, c5, c6, c7, c8, c9, c10, c11, fr⟩ := h4.view
  have f11 := fr 11
  obtain ⟨r1, r2⟩ := h4.used (M.used + 1)
  have hkq := hide ((unhide hp1) _ r1)
  have kk := k3.trans (k4.trans r2)
  clear c0 c1 c2 c3 c4 c5 c6 c7 c8 c9 c10 fr r1 r2 h3 k3 h4 k4
  go_wp2_with fail
  refine (unhide hkq).mono ?_
  rintro e w5 ⟨rfl, h5, k5⟩
  go_wp2_with fail
  refine ((unhide hp2) _ h5).mono ?_
  rintro e w6 ⟨rfl, h6, k6⟩
  go_wp2_with fail
  refine ((unhide htw) _ h6).mono ?_
  rintro e w7 ⟨rfl, h7, k7⟩
  have post : Hid (StepPost P b (0, R) w2 (.returned (.int .i64 0)) w7) := ⟨rfl, h7, kk.trans (k5.trans (k6.trans k7))⟩
  clear h5 k5 kk hkq h6 k6 h7 k7
  go_wp2
  go_ret
  exact post.out
end
end Go.Proofs.YtnanjomnldfidabGreatDoor

set_option linter.unusedSimpArgs false
set_option linter.unusedVariables false
set_option linter.unusedSectionVars false
namespace Go.Proofs.YtnanjomnldfidabGreatDoor
open Go.RowKit

section
variable {w : World} {P : Nat → Prop} {b : Nat} {M : Ma}

set_option maxRecDepth 100000 in
set_option maxHeartbeats 800000 in
theorem do_drop (h : RmIs w P b M) (hok : M.Ok) (hr : M.room (takesN 1) (givesN 1) = 0) (hf : M.fault 1 = 0) (hl : 1 ≤ M.stack.length) :
    Calls Tryz.prog 71 #[.pointer (some ⟨b, 0, none⟩), .int .i64 1] w (StepPost P b (0, M.tick.pop) w) := by
  obtain ⟨t1, t2⟩ := takesN_bd (n := 1)
  obtain ⟨g1, g2⟩ := givesN_bd (n := 1)
  have hne1 : M.stack ≠ [] := Ma.ne_of_len hl
  have hroom := hide (fun w' (h' : RmIs w' P b M) => room_any w' P b M (takesN 1) (givesN 1) h' hok t1 (by omega) g1 (by omega))
  have ht := hide (fun w' => takes_any 1 w' (by decide) (by decide))
  have hg := hide (fun w' => gives_any 1 w' (by decide) (by decide))
  have hfl := hide (fun w' (h' : RmIs w' P b M) => fault_any (P := P) h' hok 1 (by decide) (by decide) (fun _ => hne1))
  have o1 := hok.stack
  have hp1 := hide (fun w' (h' : RmIs w' P b M.tick) => pop_any w' P b M.tick h' (by show M.stack.length ≤ _; omega) hne1)
  have hb : (M.room (takesN 1) (givesN 1) != 0) = false := by rw [hr]; rfl
  have hb2 : (M.fault 1 != 0) = false := by rw [hf]; rfl
  have o2 := hok.used
  have o3 := hok.used'
  have hdl : M.stack.dropLast.length ≤ 16 := by rw [List.length_dropLast]; omega
  generalize M.room (takesN 1) (givesN 1) = rm at hroom hb
  generalize M.fault 1 = ft at hfl hb2
  clear hr t1 t2 g1 g2 hf hne1 hok
  generalize takesN 1 = tk at ht hroom
  generalize givesN 1 = gv at hg hroom
  go_enter Tryz.func71, Tryz.ntmps71
  go_wp2_with fail
  refine ((unhide ht) _).mono ?_
  rintro e w1 ⟨rfl, rfl⟩
  go_wp2_with fail
  refine ((unhide hg) _).mono ?_
  rintro e w2 ⟨rfl, rfl⟩
  go_wp2_with fail
  refine ((unhide hroom) _ h).mono ?_
  rintro e w3 ⟨rfl, h3, k3⟩
  go_wp2_with fail
  refine ((unhide hfl) _ h3).mono ?_
  rintro e w4 ⟨rfl, h4, k4⟩
  obtain ⟨a0, k0, a1, k1', hlt, c0, c1, c2, c3, c4, c5, c6, c7, c8, c9, c10, c11, fr⟩ := h4.view
  have f11 := fr 11
  obtain ⟨r1, r2⟩ := h4.used (M.used + 1)
  have hkq := hide ((unhide hp1) _ r1)
  have kk := k3.trans (k4.trans r2)
  clear c0 c1 c2 c3 c4 c5 c6 c7 c8 c9 c10 fr r1 r2 h3 k3 h4 k4
  go_wp2_with fail
  refine (unhide hkq).mono ?_
  rintro e w5 ⟨rfl, h5, k5⟩
  have post : Hid (StepPost P b (0, M.tick.pop) w2 (.returned (.int .i64 0)) w5) := ⟨rfl, h5, kk.trans k5⟩
  clear h5 k5 kk hkq
  go_wp2
  go_ret
  exact post.out

set_option maxRecDepth 100000 in
set_option maxHeartbeats 800000 in
theorem do_dup (h : RmIs w P b M) (hok : M.Ok) (hr : M.room (takesN 0) (givesN 0) = 0) (hf : M.fault 0 = 0) (hl : 1 ≤ M.stack.length) :
    Calls Tryz.prog 71 #[.pointer (some ⟨b, 0, none⟩), .int .i64 0] w (StepPost P b (0, (M.tick.pop.push M.top).push M.top) w) := by
  obtain ⟨t1, t2⟩ := takesN_bd (n := 0)
  obtain ⟨g1, g2⟩ := givesN_bd (n := 0)
  have hne1 : M.stack ≠ [] := Ma.ne_of_len hl
  have hroom := hide (fun w' (h' : RmIs w' P b M) => room_any w' P b M (takesN 0) (givesN 0) h' hok t1 (by omega) g1 (by omega))
  have ht := hide (fun w' => takes_any 0 w' (by decide) (by decide))
  have hg := hide (fun w' => gives_any 0 w' (by decide) (by decide))
  have hfl := hide (fun w' (h' : RmIs w' P b M) => fault_any (P := P) h' hok 0 (by decide) (by decide) (fun _ => hne1))
  have o1 := hok.stack
  have hp1 := hide (fun w' (h' : RmIs w' P b M.tick) => pop_any w' P b M.tick h' (by show M.stack.length ≤ _; omega) hne1)
  have hb : (M.room (takesN 0) (givesN 0) != 0) = false := by rw [hr]; rfl
  have hb2 : (M.fault 0 != 0) = false := by rw [hf]; rfl
  have o2 := hok.used
  have o3 := hok.used'
  have hdl : M.stack.dropLast.length ≤ 16 := by rw [List.length_dropLast]; omega
  generalize M.room (takesN 0) (givesN 0) = rm at hroom hb
  generalize M.fault 0 = ft at hfl hb2
  clear hr t1 t2 g1 g2 hf hne1 hok
  generalize takesN 0 = tk at ht hroom
  generalize givesN 0 = gv at hg hroom
  go_enter Tryz.func71, Tryz.ntmps71
  go_wp2_with fail
  refine ((unhide ht) _).mono ?_
  rintro e w1 ⟨rfl, rfl⟩
  go_wp2_with fail
  refine ((unhide hg) _).mono ?_
  rintro e w2 ⟨rfl, rfl⟩
  go_wp2_with fail
  refine ((unhide hroom) _ h).mono ?_
  rintro e w3 ⟨rfl, h3, k3⟩
  go_wp2_with fail
  refine ((unhide hfl) _ h3).mono ?_
  rintro e w4 ⟨rfl, h4, k4⟩
  obtain ⟨a0, k0, a1, k1', hlt, c0, c1, c2, c3, c4, c5, c6, c7, c8, c9, c10, c11, fr⟩ := h4.view
  have f11 := fr 11
  obtain ⟨r1, r2⟩ := h4.used (M.used + 1)
  have hkq := hide ((unhide hp1) _ r1)
  have kk := k3.trans (k4.trans r2)
  clear c0 c1 c2 c3 c4 c5 c6 c7 c8 c9 c10 fr r1 r2 h3 k3 h4 k4
  go_wp2_with fail
  refine (unhide hkq).mono ?_
  rintro e w5 ⟨rfl, h5, k5⟩
  go_wp2_with fail
  refine (push_any _ P b _ M.top h5 (by show M.stack.dropLast.length ≤ _; omega)).mono ?_
  rintro e w6 ⟨rfl, h6, k6⟩
  go_wp2_with fail
  refine (push_any _ P b _ M.top h6 (by show (M.stack.dropLast ++ [M.top]).length ≤ _; simp; omega)).mono ?_
  rintro e w7 ⟨rfl, h7, k7⟩
  have post : Hid (StepPost P b (0, (M.tick.pop.push M.top).push M.top) w2 (.returned (.int .i64 0)) w7) := ⟨rfl, h7, kk.trans (k5.trans (k6.trans k7))⟩
  clear h5 k5 kk hkq h6 k6 h7 k7
  go_wp2
  go_ret
  exact post.out

set_option maxRecDepth 100000 in
set_option maxHeartbeats 800000 in
theorem do_mark (h : RmIs w P b M) (hok : M.Ok) (hr : M.room (takesN 18) (givesN 18) = 0) (hf : M.fault 18 = 0) (hl : 1 ≤ M.stack.length) :
    Calls Tryz.prog 71 #[.pointer (some ⟨b, 0, none⟩), .int .i64 18] w (StepPost P b (0, { M.tick.pop with mark := M.top }) w) := by
  obtain ⟨t1, t2⟩ := takesN_bd (n := 18)
  obtain ⟨g1, g2⟩ := givesN_bd (n := 18)
  have hne1 : M.stack ≠ [] := Ma.ne_of_len hl
  have hroom := hide (fun w' (h' : RmIs w' P b M) => room_any w' P b M (takesN 18) (givesN 18) h' hok t1 (by omega) g1 (by omega))
  have ht := hide (fun w' => takes_any 18 w' (by decide) (by decide))
  have hg := hide (fun w' => gives_any 18 w' (by decide) (by decide))
  have hfl := hide (fun w' (h' : RmIs w' P b M) => fault_any (P := P) h' hok 18 (by decide) (by decide) (fun _ => hne1))
  have o1 := hok.stack
  have hp1 := hide (fun w' (h' : RmIs w' P b M.tick) => pop_any w' P b M.tick h' (by show M.stack.length ≤ _; omega) hne1)
  have hb : (M.room (takesN 18) (givesN 18) != 0) = false := by rw [hr]; rfl
  have hb2 : (M.fault 18 != 0) = false := by rw [hf]; rfl
  have o2 := hok.used
  have o3 := hok.used'
  have hdl : M.stack.dropLast.length ≤ 16 := by rw [List.length_dropLast]; omega
  generalize M.room (takesN 18) (givesN 18) = rm at hroom hb
  generalize M.fault 18 = ft at hfl hb2
  clear hr t1 t2 g1 g2 hf hne1 hok
  generalize takesN 18 = tk at ht hroom
  generalize givesN 18 = gv at hg hroom
  go_enter Tryz.func71, Tryz.ntmps71
  go_wp2_with fail
  refine ((unhide ht) _).mono ?_
  rintro e w1 ⟨rfl, rfl⟩
  go_wp2_with fail
  refine ((unhide hg) _).mono ?_
  rintro e w2 ⟨rfl, rfl⟩
  go_wp2_with fail
  refine ((unhide hroom) _ h).mono ?_
  rintro e w3 ⟨rfl, h3, k3⟩
  go_wp2_with fail
  refine ((unhide hfl) _ h3).mono ?_
  rintro e w4 ⟨rfl, h4, k4⟩
  obtain ⟨a0, k0, a1, k1', hlt, c0, c1, c2, c3, c4, c5, c6, c7, c8, c9, c10, c11, fr⟩ := h4.view
  have f11 := fr 11
  obtain ⟨r1, r2⟩ := h4.used (M.used + 1)
  have hkq := hide ((unhide hp1) _ r1)
  have kk := k3.trans (k4.trans r2)
  clear c0 c1 c2 c3 c4 c5 c6 c7 c8 c9 c10 fr r1 r2 h3 k3 h4 k4
  go_wp2_with fail
  refine (unhide hkq).mono ?_
  rintro e w5 ⟨rfl, h5, k5⟩
  obtain ⟨b0, d0, b1, d1, hlt5, e0, e1, e2, e3, e4, e5, e6, e7, e8, e9, e10, e11, fr5⟩ := h5.view
  have f10 := fr5 10
  obtain ⟨r1, r2⟩ := h5.setMark M.top
  have post : Hid (StepPost P b (0, { M.tick.pop with mark := M.top }) w2 (.returned (.int .i64 0)) (w5.setCell ⟨b, 10, none⟩ (.int .i64 M.top))) := ⟨rfl, r1, kk.trans (k5.trans r2)⟩
  have htt : M.tick.top = M.top := rfl
  clear h5 k5 kk hkq r1 r2 e0 e1 e2 e3 e4 e5 e6 e7 e8 e9 e11 fr5
  go_wp2
  go_ret
  exact post.out

set_option maxRecDepth 100000 in
set_option maxHeartbeats 800000 in
theorem do_at (h : RmIs w P b M) (hok : M.Ok) (k : Nat) (hk : M.top = (k : Int)) (hk2 : k < M.image.length) (hr : M.room (takesN 14) (givesN 14) = 0) (hf : M.fault 14 = 0) (hl : 1 ≤ M.stack.length) :
    Calls Tryz.prog 71 #[.pointer (some ⟨b, 0, none⟩), .int .i64 14] w (StepPost P b (0, M.tick.pop.push ((M.image.getD k 0).toNat : Int)) w) := by
  obtain ⟨t1, t2⟩ := takesN_bd (n := 14)
  obtain ⟨g1, g2⟩ := givesN_bd (n := 14)
  have hne1 : M.stack ≠ [] := Ma.ne_of_len hl
  have hroom := hide (fun w' (h' : RmIs w' P b M) => room_any w' P b M (takesN 14) (givesN 14) h' hok t1 (by omega) g1 (by omega))
  have ht := hide (fun w' => takes_any 14 w' (by decide) (by decide))
  have hg := hide (fun w' => gives_any 14 w' (by decide) (by decide))
  have hfl := hide (fun w' (h' : RmIs w' P b M) => fault_any (P := P) h' hok 14 (by decide) (by decide) (fun _ => hne1))
  have o1 := hok.stack
  have hp1 := hide (fun w' (h' : RmIs w' P b M.tick) => pop_any w' P b M.tick h' (by show M.stack.length ≤ _; omega) hne1)
  have hb : (M.room (takesN 14) (givesN 14) != 0) = false := by rw [hr]; rfl
  have hb2 : (M.fault 14 != 0) = false := by rw [hf]; rfl
  have o2 := hok.used
  have o3 := hok.used'
  have hdl : M.stack.dropLast.length ≤ 16 := by rw [List.length_dropLast]; omega
  have o4 := hok.image
  have z1 : (mkB M.image).size = M.image.length := mkB_size _
  have hks : k < (mkB M.image).size := by omega
  have hby : M.image.getD k 0 = (mkB M.image)[k] := by
    rw [List.getD_eq_getElem?_getD, List.getElem?_eq_getElem hk2]
    rfl
  rw [hby]
  have hlt256 : (mkB M.image)[k].toNat < 256 := (mkB M.image)[k].toNat_lt
  have htt : M.tick.top = (k : Int) := hk
  rw [htt] at hp1
  clear hby hk
  generalize M.room (takesN 14) (givesN 14) = rm at hroom hb
  generalize M.fault 14 = ft at hfl hb2
  clear hr t1 t2 g1 g2 hf hne1 hok
  generalize takesN 14 = tk at ht hroom
  generalize givesN 14 = gv at hg hroom
  go_enter Tryz.func71, Tryz.ntmps71
  go_wp2_with fail
  refine ((unhide ht) _).mono ?_
  rintro e w1 ⟨rfl, rfl⟩
  go_wp2_with fail
  refine ((unhide hg) _).mono ?_
  rintro e w2 ⟨rfl, rfl⟩
  go_wp2_with fail
  refine ((unhide hroom) _ h).mono ?_
  rintro e w3 ⟨rfl, h3, k3⟩
  go_wp2_with fail
  refine ((unhide hfl) _ h3).mono ?_
  rintro e w4 ⟨rfl, h4, k4⟩
  obtain ⟨a0, k0, a1, k1', hlt, c0, c1, c2, c3, c4, c5, c6, c7, c8, c9, c10, c11, fr⟩ := h4.view
  have f11 := fr 11
  obtain ⟨r1, r2⟩ := h4.used (M.used + 1)
  have hkq := hide ((unhide hp1) _ r1)
  have kk := k3.trans (k4.trans r2)
  clear c0 c1 c2 c3 c4 c5 c6 c7 c8 c9 c10 fr r1 r2 h3 k3 h4 k4
  go_wp2_with fail
  refine (unhide hkq).mono ?_
  rintro e w5 ⟨rfl, h5, k5⟩
  obtain ⟨b0, d0, b1, d1, hlt5, e0, e1, e2, e3, e4, e5, e6, e7, e8, e9, e10, e11, fr5⟩ := h5.view
  have e2' : w5.cell? ⟨b, 2, none⟩ = some (.string (mkB M.image)) := e2
  have hpu := hide (fun v => push_any w5 P b _ v h5 (by show M.stack.dropLast.length ≤ _; omega))
  clear e0 e1 e2 e3 e4 e5 e6 e7 e8 e9 e10 e11 fr5
  go_wp2_with fail
  refine ((unhide hpu) _).mono ?_
  rintro e w6 ⟨rfl, h6, k6⟩
  have post : Hid (StepPost P b (0, M.tick.pop.push ((mkB M.image)[k].toNat : Int)) w2 (.returned (.int .i64 0)) w6) := ⟨rfl, h6, kk.trans (k5.trans k6)⟩
  clear h5 k5 kk hkq h6 k6 hpu
  go_wp2
  go_ret
  exact post.out

set_option maxRecDepth 100000 in
set_option maxHeartbeats 800000 in
theorem do_emit (h : RmIs w P b M) (hok : M.Ok) (hr : M.room (takesN 16) (givesN 16) = 0) (hf : M.fault 16 = 0) (hl : 1 ≤ M.stack.length) :
    Calls Tryz.prog 71 #[.pointer (some ⟨b, 0, none⟩), .int .i64 16] w (StepPost P b (0, { M.tick.pop with out := M.out ++ [byteOf M.top] }) w) := by
  obtain ⟨t1, t2⟩ := takesN_bd (n := 16)
  obtain ⟨g1, g2⟩ := givesN_bd (n := 16)
  have hne1 : M.stack ≠ [] := Ma.ne_of_len hl
  have hroom := hide (fun w' (h' : RmIs w' P b M) => room_any w' P b M (takesN 16) (givesN 16) h' hok t1 (by omega) g1 (by omega))
  have ht := hide (fun w' => takes_any 16 w' (by decide) (by decide))
  have hg := hide (fun w' => gives_any 16 w' (by decide) (by decide))
  have hfl := hide (fun w' (h' : RmIs w' P b M) => fault_any (P := P) h' hok 16 (by decide) (by decide) (fun _ => hne1))
  have o1 := hok.stack
  have hp1 := hide (fun w' (h' : RmIs w' P b M.tick) => pop_any w' P b M.tick h' (by show M.stack.length ≤ _; omega) hne1)
  have hb : (M.room (takesN 16) (givesN 16) != 0) = false := by rw [hr]; rfl
  have hb2 : (M.fault 16 != 0) = false := by rw [hf]; rfl
  have o2 := hok.used
  have o3 := hok.used'
  have hdl : M.stack.dropLast.length ≤ 16 := by rw [List.length_dropLast]; omega
  have o4 := hok.out
  obtain ⟨x1, x2⟩ := hok.top hne1
  have z1 : (mkB M.out).size = M.out.length := mkB_size _
  obtain ⟨tp, htp⟩ : ∃ tp, tp = M.top := ⟨_, rfl⟩
  have htt : M.tick.top = tp := htp.symm
  rw [htt] at hp1
  rw [← htp] at x1 x2 ⊢
  clear htp htt
  generalize M.room (takesN 16) (givesN 16) = rm at hroom hb
  generalize M.fault 16 = ft at hfl hb2
  clear hr t1 t2 g1 g2 hf hne1 hok
  generalize takesN 16 = tk at ht hroom
  generalize givesN 16 = gv at hg hroom
  go_enter Tryz.func71, Tryz.ntmps71
  go_wp2_with fail
  refine ((unhide ht) _).mono ?_
  rintro e w1 ⟨rfl, rfl⟩
  go_wp2_with fail
  refine ((unhide hg) _).mono ?_
  rintro e w2 ⟨rfl, rfl⟩
  go_wp2_with fail
  refine ((unhide hroom) _ h).mono ?_
  rintro e w3 ⟨rfl, h3, k3⟩
  go_wp2_with fail
  refine ((unhide hfl) _ h3).mono ?_
  rintro e w4 ⟨rfl, h4, k4⟩
  obtain ⟨a0, k0, a1, k1', hlt, c0, c1, c2, c3, c4, c5, c6, c7, c8, c9, c10, c11, fr⟩ := h4.view
  have f11 := fr 11
  obtain ⟨r1, r2⟩ := h4.used (M.used + 1)
  have hkq := hide ((unhide hp1) _ r1)
  have kk := k3.trans (k4.trans r2)
  clear c0 c1 c2 c3 c4 c5 c6 c7 c8 c9 c10 fr r1 r2 h3 k3 h4 k4
  go_wp2_with fail
  refine (unhide hkq).mono ?_
  rintro e w5 ⟨rfl, h5, k5⟩
  obtain ⟨b0, d0, b1, d1, hlt5, e0, e1, e2, e3, e4, e5, e6, e7, e8, e9, e10, e11, fr5⟩ := h5.view
  have f9 := fr5 9
  have e9' : w5.cell? ⟨b, 9, none⟩ = some (.string (mkB M.out)) := e9
  have hcv := run_byte_string w5 (tp % 256)
  have s2 : (strOfNums [tp % 256]).size = 1 := strOfNums_size _
  have himg : mkB M.out ++ strOfNums [tp % 256] = mkB (M.out ++ [byteOf tp]) := by
    refine eq_mk ?_
    rw [toList_append, strOfNums_one, mkB_toList]
  obtain ⟨r1, r2⟩ := h5.setOut (M.out ++ [byteOf tp])
  rw [← himg] at r1 r2
  have post : Hid (StepPost P b (0, { M.tick.pop with out := M.out ++ [byteOf tp] }) w2 (.returned (.int .i64 0)) ((w5.setCell ⟨b, 9, none⟩ (.string (mkB M.out ++ strOfNums [tp % 256]))).alloc (.cells #[.int .u8 (tp % 256)] 5)).drew) := ⟨rfl, (r1.alloc _).drew, kk.trans (k5.trans ((r2.alloc _).drew))⟩
  clear h5 k5 kk hkq r1 r2 himg e0 e1 e2 e3 e4 e5 e6 e7 e8 e9 e10 e11 fr5
  go_wp2
  go_region
  go_wp2
  go_ret
  exact post.out
end
end Go.Proofs.YtnanjomnldfidabGreatDoor

set_option linter.unusedSimpArgs false
set_option linter.unusedVariables false
set_option linter.unusedSectionVars false
namespace Go.Proofs.YtnanjomnldfidabGreatDoor
open Go.RowKit

section
variable {w : World} {P : Nat → Prop} {b : Nat} {M : Ma}

theorem act_two {n : Int} (hn : n ≠ 17 ∧ n ≠ 1 ∧ n ≠ 0 ∧ n ≠ 14 ∧ n ≠ 16 ∧ n ≠ 18) (h2 : n ≠ 2) (h3 : n ≠ 3) (h15 : n ≠ 15) : M.tick.act n = M.tick.pop.pop.push (sumN n M.pop.top M.top) := by
  unfold Ma.act
  rw [if_neg hn.1, if_neg hn.2.1, if_neg hn.2.2.1, if_neg hn.2.2.2.1, if_neg hn.2.2.2.2.1, if_neg hn.2.2.2.2.2, if_neg h2, if_neg h3, if_neg h15]
  rfl

theorem do_any (h : RmIs w P b M) (hok : M.Ok) (n : Int) (h0 : 0 ≤ n) (h1 : n ≤ 18) :
    Calls Tryz.prog 71 #[.pointer (some ⟨b, 0, none⟩), .int .i64 n] w (StepPost P b (M.doN n) w) := by
  unfold Ma.doN
  by_cases hr : M.room (takesN n) (givesN n) ≠ 0
  · rw [if_pos hr]; exact do_room h hok n h0 h1 hr
  rw [if_neg hr]
  have hr' : M.room (takesN n) (givesN n) = 0 := by simpa using hr
  have hlen := Ma.room_len hr'
  have hne : n ≠ 17 → M.stack ≠ [] := by
    intro hn
    have ht : 1 ≤ takesN n := by unfold takesN; rw [if_neg hn]; split <;> omega
    exact Ma.ne_of_len (by omega)
  by_cases hf : M.fault n ≠ 0
  · rw [if_pos hf]; exact do_fault h hok n h0 h1 hr' hf hne
  rw [if_neg hf]
  have hf' : M.fault n = 0 := by simpa using hf
  by_cases e17 : n = 17
  · subst e17; exact do_key h hok hr' hf'
  have hne1 := hne e17
  have hl1 : 1 ≤ M.stack.length := List.length_pos_iff.2 hne1
  by_cases e1 : n = 1
  · subst e1; exact do_drop h hok hr' hf' hl1
  by_cases e0 : n = 0
  · subst e0
    have : M.tick.act 0 = (M.tick.pop.push M.top).push M.top := by
      have := Ma.pop_push (M := M.tick) hne1
      show M.tick.push M.tick.top = _
      rw [show M.top = M.tick.top from rfl, this]
    rw [this]
    exact do_dup h hok hr' hf' hl1
  by_cases e14 : n = 14
  · subst e14
    have hb := hok.top hne1
    obtain ⟨k, hk⟩ := Int.eq_ofNat_of_zero_le hb.1
    have hkl : k < M.image.length := by
      by_cases hc : (M.image.length : Int) ≤ M.top
      · have : M.fault 14 = 13 := by simp [Ma.fault, hc]
        rw [this] at hf'; cases hf'
      · omega
    have : M.tick.act 14 = M.tick.pop.push ((M.image.getD k 0).toNat : Int) := by
      show M.tick.pop.push ((M.image.getD M.top.toNat 0).toNat : Int) = _
      rw [hk, Int.toNat_natCast]
    rw [this]
    exact do_at h hok k hk hkl hr' hf' hl1
  by_cases e16 : n = 16
  · subst e16; exact do_emit h hok hr' hf' hl1
  by_cases e18 : n = 18
  · subst e18; exact do_mark h hok hr' hf' hl1
  have hnn : n ≠ 17 ∧ n ≠ 1 ∧ n ≠ 0 ∧ n ≠ 14 ∧ n ≠ 16 ∧ n ≠ 18 := ⟨e17, e1, e0, e14, e16, e18⟩
  have ht2 : takesN n = 2 := by unfold takesN; rw [if_neg e17, if_neg (fun hc => by omega)]
  have hl2 : 2 ≤ M.stack.length := by omega
  have hp2 := Ma.pop_ne hl2
  obtain ⟨x1, x2⟩ := hok.top2 hp2
  obtain ⟨y1, y2⟩ := hok.top hne1
  have o1 := hok.stack
  have hlp : M.tick.pop.pop.stack.length ≤ 900 := by show M.stack.dropLast.dropLast.length ≤ _; simp; omega
  refine do_two h hok n h0 h1 hnn hr' hf' hl2 _ fun w' h' => ?_
  by_cases e2 : n = 2
  · subst e2; exact two_swap h' hlp _ _
  by_cases e3 : n = 3
  · subst e3
    have : M.tick.act 3 = ((M.tick.pop.pop.push M.pop.top).push M.top).push M.pop.top := by
      have q1 := Ma.pop_push (M := M.tick.pop) hp2
      have q2 := Ma.pop_push (M := M.tick) hne1
      show M.tick.push M.tick.pop.top = _
      rw [show M.pop.top = M.tick.pop.top from rfl, show M.top = M.tick.top from rfl, q1, q2]
    rw [this]
    exact two_over h' hlp _ _
  by_cases e15 : n = 15
  · subst e15
    obtain ⟨k, hk⟩ := Int.eq_ofNat_of_zero_le y1
    have hkl : k < M.image.length := by
      by_cases hc : (M.image.length : Int) ≤ M.top
      · have : M.fault 15 = 13 := by simp [Ma.fault, hc]
        rw [this] at hf'; cases hf'
      · omega
    have : M.tick.act 15 = { M.tick.pop.pop with image := M.image.set k (byteOf M.pop.top) } := by
      show { M.tick.pop.pop with image := M.image.set M.top.toNat (byteOf M.pop.top) } = _
      rw [hk, Int.toNat_natCast]
    rw [this, hk]
    exact two_store h' hok.image _ k x1 x2 hkl
  rw [act_two hnn e2 e3 e15]
  refine two_sum h' hlp n _ _ (by omega) (by omega) x1 x2 y1 y2 fun hz hc => ?_
  have : M.fault n = 12 := by
    rcases hz with rfl | rfl <;> simp [Ma.fault, hc]
  rw [this] at hf'; cases hf'
end

/-- clamp. -/
def clampN (n most : Int) : Int := if n < 0 then 0 else if most < n then most else n
set_option maxRecDepth 100000 in
theorem refClamp_any (n most : Int) (w : World) : Calls Tryz.prog 63 #[.int .i64 n, .int .i64 most] w fun e w' => e = .returned (.int .i64 (clampN n most)) ∧ w' = w := by
  by_cases q1 : n < 0
  · have e : Hid (clampN n most = 0) := by unfold Hid clampN; rw [if_pos q1]
    go_enter Tryz.func63, Tryz.ntmps63
    go_wp2
    go_ret
    exact ⟨ret_int e.out.symm, rfl⟩
  · by_cases q2 : most < n
    · have e : Hid (clampN n most = most) := by unfold Hid clampN; rw [if_neg q1, if_pos q2]
      go_enter Tryz.func63, Tryz.ntmps63
      go_wp2
      go_ret
      exact ⟨ret_int e.out.symm, rfl⟩
    · have e : Hid (clampN n most = n) := by unfold Hid clampN; rw [if_neg q1, if_neg q2]
      go_enter Tryz.func63, Tryz.ntmps63
      go_wp2
      go_ret
      exact ⟨ret_int e.out.symm, rfl⟩
theorem clampN_bd (n most : Int) (h : 0 ≤ most) : 0 ≤ clampN n most ∧ clampN n most ≤ most := by
  unfold clampN; split; omega; split <;> omega

/-- The machine at its start. -/
def Ma.start (inp : ByteArray) (image : List UInt8) (kernel secret rights fuel : Int) : Ma :=
  { stack := [], calls := [], image := image, kernel := clampN kernel image.length, fence := clampN kernel image.length + clampN secret (image.length - clampN kernel image.length), inp := inp, pos := 0, rights := rights, fuel := clampN fuel 10000, out := [], mark := 0, used := 0 }
theorem Ma.start_ok (inp : ByteArray) (image : List UInt8) (kernel secret rights fuel : Int) (hi : image.length ≤ 256) (hin : inp.size ≤ 9223372036854775807) : (Ma.start inp image kernel secret rights fuel).Ok := by
  have h1 := clampN_bd kernel image.length (by omega)
  have h2 := clampN_bd secret (image.length - clampN kernel image.length) (by omega)
  have h3 := clampN_bd fuel 10000 (by omega)
  refine ⟨by simp [Ma.start], by simp [Ma.start], by simp [Ma.start], hi, h1.1, ?_, ?_, hin, ?_, ?_, h3.2, ?_, ?_, by simp [Ma.start], ?_, ?_⟩
  all_goals (simp only [Ma.start]; omega)

set_option maxRecDepth 100000 in
set_option maxHeartbeats 800000 in
theorem newMach_any (inp image : ByteArray) (kernel secret rights fuel : Int) (w : World) (P : Nat → Prop) (hP : ∀ k, P k → k < w.heap.size) (hi : image.size ≤ 256) :
    Calls Tryz.prog 45 #[.string inp, .string image, .int .i64 kernel, .int .i64 secret, .int .i64 rights, .int .i64 fuel] w fun e w' =>
      e = .returned (.pointer (some ⟨w.heap.size, 0, none⟩)) ∧ RmIs w' P w.heap.size (Ma.start inp image.toList kernel secret rights fuel) ∧ Kept P w w' := by
  have hl : image.toList.length = image.size := toList_len image
  have him : mkB image.toList = image := by
    have := eq_mk (t := image) rfl
    exact this.symm
  have hc1 := hide (fun w' => refClamp_any kernel (image.size : Int) w')
  have hc2 := hide (fun w' => refClamp_any secret ((image.size : Int) - clampN kernel image.size) w')
  have hc3 := hide (fun w' => refClamp_any fuel 10000 w')
  obtain ⟨b1, b2⟩ := clampN_bd kernel image.size (by omega)
  obtain ⟨b3, b4⟩ := clampN_bd secret ((image.size : Int) - clampN kernel image.size) (by omega)
  have fin : Hid (∀ o, o = Obj.cells #[.slice none 0 0, .slice none 0 0, .string image, .int .i64 (clampN kernel image.size), .int .i64 (clampN kernel image.size + clampN secret ((image.size : Int) - clampN kernel image.size)), .string inp, .int .i64 0, .int .i64 rights, .int .i64 (clampN fuel 10000), .string ⟨#[]⟩, .int .i64 0, .int .i64 0] 114 →
      RmIs (w.alloc o) P w.heap.size (Ma.start inp image.toList kernel secret rights fuel) ∧ Kept P w (w.alloc o)) := by
    intro o ho
    subst ho
    refine ⟨⟨.slice none 0 0, .slice none 0 0, fun k hk => by have := hP k hk; simp; omega, fun hp => by have := hP _ hp; omega, ?_, Row.nil _ _ _ _, Row.nil _ _ _ _, fun k hk => by cases hk⟩, (Kept.refl P w).alloc _⟩
    rw [heap_alloc_new]
    simp only [Ma.start, hl, him]
    rfl
  generalize clampN kernel image.size = ck at hc1 hc2 fin b1 b2 b3 b4
  generalize clampN secret ((image.size : Int) - ck) = cs at hc2 fin b3 b4
  generalize clampN fuel 10000 = cf at hc3 fin
  generalize Ma.start inp image.toList kernel secret rights fuel = MM at fin ⊢
  clear him hl hP
  go_enter Tryz.func45, Tryz.ntmps45
  go_wp2_with fail
  refine ((unhide hc1) _).mono ?_
  rintro e w1 ⟨rfl, rfl⟩
  go_wp2_with fail
  refine ((unhide hc2) _).mono ?_
  rintro e w2 ⟨rfl, rfl⟩
  go_wp2_with fail
  refine ((unhide hc3) _).mono ?_
  rintro e w3 ⟨rfl, rfl⟩
  go_wp2
  go_ret
  exact ⟨rfl, fin.out _ rfl⟩

set_option maxRecDepth 100000 in
set_option maxHeartbeats 800000 in
theorem limits_any (image : ByteArray) (fuel : Int) (w : World) (hs : image.size ≤ maxLen) :
    Calls Tryz.prog 44 #[.string image, .int .i64 fuel] w fun e w' => e = .returned (.int .i64 (if 256 < image.size ∨ 10000 < fuel then 1 else 0)) ∧ w' = w := by
  unfold maxLen at hs
  by_cases q1 : 256 < image.size
  · rw [if_pos (.inl q1)]
    go_enter Tryz.func44, Tryz.ntmps44
    go_wp2
    go_ret
    exact ⟨rfl, rfl⟩
  · by_cases q2 : 10000 < fuel
    · rw [if_pos (.inr q2)]
      go_enter Tryz.func44, Tryz.ntmps44
      go_wp2
      go_ret
      exact ⟨rfl, rfl⟩
    · rw [if_neg (fun h => h.elim q1 q2)]
      go_enter Tryz.func44, Tryz.ntmps44
      go_wp2
      go_ret
      exact ⟨rfl, rfl⟩

/-- The result's cells. -/
def resCells (M : Ma) (e : Int) : Array Value := #[.string (mkB M.out), .string (mkB M.image), .int .i64 M.mark, .int .i64 M.used, .int .i64 e]
set_option maxRecDepth 100000 in
set_option maxHeartbeats 1600000 in
theorem end_any {w : World} {P : Nat → Prop} {b : Nat} {M : Ma} (h : RmIs w P b M) (n : Int) :
    Calls Tryz.prog 47 #[.pointer (some ⟨b, 0, none⟩), .int .i64 n] w fun e w' => e = .returned (.agg (resCells M n)) ∧ Kept P w w' := by
  obtain ⟨a0, k0, a1, k1', hlt, c0, c1, c2, c3, c4, c5, c6, c7, c8, c9, c10, c11, fr⟩ := h.view
  clear c0 c1 c3 c4 c5 c6 c7 c8 fr
  have hk : Kept P w (w.alloc (.cells (resCells M n) 74)).drew := ((Kept.refl P w).alloc _).drew
  unfold resCells at hk ⊢
  go_enter Tryz.func47, Tryz.ntmps47
  go_wp2
  go_region
  go_wp2
  exact bodyPost_ret (v := .agg #[.string (mkB M.out), .string (mkB M.image), .int .i64 M.mark, .int .i64 M.used, .int .i64 n]) (by simp [results, Tryz.results47, go_sem]) rfl ⟨rfl, hk⟩
def usedOf (w : World) (b : Nat) : Int := match w.cell? ⟨b, 11, none⟩ with | some (.int _ n) => n | _ => 0
theorem usedOf_is {w : World} {P : Nat → Prop} {b : Nat} {M : Ma} (h : RmIs w P b M) : usedOf w b = M.used := by
  obtain ⟨a0, k0, a1, k1', hlt, c0, c1, c2, c3, c4, c5, c6, c7, c8, c9, c10, c11, fr⟩ := h.view
  unfold usedOf; rw [c11]
end Go.Proofs.YtnanjomnldfidabGreatDoor
