/-
  The machine as plain data: a step keeps it in its bounds and costs one. No memory.
-/
import Derived.Test.YtnanjomnldfidabGreatDoorDmFaultAnyToStepPure
set_option linter.unusedSimpArgs false
set_option linter.unusedVariables false
set_option linter.unusedSectionVars false
namespace Go.Proofs.YtnanjomnldfidabGreatDoor

theorem Ma.Ok.stk {M : Ma} (h : M.Ok) (l : List Int) (hl : l.length ≤ 16) (hn : ∀ x ∈ l, 0 ≤ x ∧ x < 65536) : ({ M with stack := l } : Ma).Ok :=
  ⟨hl, hn, h.calls, h.image, h.kernel, h.fence, h.fence', h.inp, h.pos, h.pos', h.fuel, h.used, h.used', h.out, h.mark, h.mark'⟩
theorem nums_push {l : List Int} {n : Int} (h : ∀ x ∈ l, 0 ≤ x ∧ x < 65536) (hn : 0 ≤ n ∧ n < 65536) : ∀ x ∈ l ++ [n], 0 ≤ x ∧ x < 65536 := by
  intro x hx
  rcases List.mem_append.1 hx with hx | hx
  · exact h x hx
  · simp at hx; subst hx; exact hn
theorem nums_pop {l : List Int} (h : ∀ x ∈ l, 0 ≤ x ∧ x < 65536) : ∀ x ∈ l.dropLast, 0 ≤ x ∧ x < 65536 := fun x hx => h x ((List.dropLast_sublist _).subset hx)
theorem Ma.Ok.push {M : Ma} (h : M.Ok) {n : Int} (hl : M.stack.length + 1 ≤ 16) (hn : 0 ≤ n ∧ n < 65536) : (M.push n).Ok := h.stk _ (by simp; omega) (nums_push h.nums hn)
theorem Ma.Ok.pop {M : Ma} (h : M.Ok) : M.pop.Ok := h.stk _ (by have := h.stack; simp; omega) (nums_pop h.nums)

theorem bits_nat3 (a b : Nat) (ha : a < 65536) (hb : b < 65536) : (0 ≤ bits BinOp.and IntKind.i64 (a : Int) (b : Int) ∧ bits BinOp.and IntKind.i64 (a : Int) (b : Int) < 65536) ∧ (0 ≤ bits BinOp.or IntKind.i64 (a : Int) (b : Int) ∧ bits BinOp.or IntKind.i64 (a : Int) (b : Int) < 65536) ∧ (0 ≤ bits BinOp.xor IntKind.i64 (a : Int) (b : Int) ∧ bits BinOp.xor IntKind.i64 (a : Int) (b : Int) < 65536) := by
  have ha' : a % 18446744073709551616 = a := Nat.mod_eq_of_lt (by omega)
  have hb' : b % 18446744073709551616 = b := Nat.mod_eq_of_lt (by omega)
  have n1 : a &&& b < 65536 := Nat.and_lt_two_pow (n := 16) a hb
  have n2 : a ||| b < 65536 := Nat.or_lt_two_pow (n := 16) ha hb
  have n3 : a ^^^ b < 65536 := Nat.xor_lt_two_pow (n := 16) ha hb
  have e1 : bits BinOp.and IntKind.i64 (a : Int) (b : Int) = IntKind.i64.wrap ((a &&& b : Nat) : Int) := by
    have t : (BitVec.ofInt 64 (a : Int) &&& BitVec.ofInt 64 (b : Int)).toNat = a &&& b := by
      rw [BitVec.ofInt_natCast, BitVec.ofInt_natCast, BitVec.toNat_and, BitVec.toNat_ofNat, BitVec.toNat_ofNat, show (2 : Nat) ^ 64 = 18446744073709551616 from rfl, ha', hb']
    show IntKind.i64.wrap (((BitVec.ofInt 64 (a : Int) &&& BitVec.ofInt 64 (b : Int)).toNat : Nat) : Int) = _
    rw [t]
  have e2 : bits BinOp.or IntKind.i64 (a : Int) (b : Int) = IntKind.i64.wrap ((a ||| b : Nat) : Int) := by
    have t : (BitVec.ofInt 64 (a : Int) ||| BitVec.ofInt 64 (b : Int)).toNat = a ||| b := by
      rw [BitVec.ofInt_natCast, BitVec.ofInt_natCast, BitVec.toNat_or, BitVec.toNat_ofNat, BitVec.toNat_ofNat, show (2 : Nat) ^ 64 = 18446744073709551616 from rfl, ha', hb']
    show IntKind.i64.wrap (((BitVec.ofInt 64 (a : Int) ||| BitVec.ofInt 64 (b : Int)).toNat : Nat) : Int) = _
    rw [t]
  have e3 : bits BinOp.xor IntKind.i64 (a : Int) (b : Int) = IntKind.i64.wrap ((a ^^^ b : Nat) : Int) := by
    have t : (BitVec.ofInt 64 (a : Int) ^^^ BitVec.ofInt 64 (b : Int)).toNat = a ^^^ b := by
      rw [BitVec.ofInt_natCast, BitVec.ofInt_natCast, BitVec.toNat_xor, BitVec.toNat_ofNat, BitVec.toNat_ofNat, show (2 : Nat) ^ 64 = 18446744073709551616 from rfl, ha', hb']
    show IntKind.i64.wrap (((BitVec.ofInt 64 (a : Int) ^^^ BitVec.ofInt 64 (b : Int)).toNat : Nat) : Int) = _
    rw [t]
  rw [e1, e2, e3]
  simp only [IntKind.wrap_i64]
  omega
theorem oneN_bd (v : Bool) : 0 ≤ oneN v ∧ oneN v < 65536 := by cases v <;> decide
theorem sumN_bd (n a b : Int) (ha : 0 ≤ a ∧ a < 65536) (hb : 0 ≤ b ∧ b < 65536) (hz : n = 7 ∨ n = 8 → b ≠ 0) : 0 ≤ sumN n a b ∧ sumN n a b < 65536 := by
  obtain ⟨x, rfl⟩ := Int.eq_ofNat_of_zero_le ha.1
  obtain ⟨y, rfl⟩ := Int.eq_ofNat_of_zero_le hb.1
  obtain ⟨b1, b2, b3⟩ := bits_nat3 x y (by omega) (by omega)
  unfold sumN
  by_cases c1 : n = 4
  · rw [if_pos c1]; omega
  rw [if_neg c1]
  by_cases c2 : n = 5
  · rw [if_pos c2]; omega
  rw [if_neg c2]
  by_cases c3 : n = 6
  · rw [if_pos c3]; omega
  rw [if_neg c3]
  by_cases c4 : n = 7
  · rw [if_pos c4]
    have h0 : 0 ≤ (x : Int) / (y : Int) := Int.ediv_nonneg (by omega) (by omega)
    have h1 : (x : Int) / (y : Int) ≤ x := Int.ediv_le_self _ (by omega)
    omega
  rw [if_neg c4]
  by_cases c5 : n = 8
  · rw [if_pos c5]
    have hy : (y : Int) ≠ 0 := hz (.inr c5)
    have h0 := Int.emod_nonneg (x : Int) hy
    have h1 := Int.emod_lt_of_pos (x : Int) (show (0 : Int) < y by omega)
    omega
  rw [if_neg c5]
  by_cases c6 : n = 9
  · rw [if_pos c6]; exact b1
  rw [if_neg c6]
  by_cases c7 : n = 10
  · rw [if_pos c7]; exact b2
  rw [if_neg c7]
  by_cases c8 : n = 11
  · rw [if_pos c8]; exact b3
  rw [if_neg c8]
  by_cases c9 : n = 12
  · rw [if_pos c9]; exact oneN_bd _
  rw [if_neg c9]; exact oneN_bd _

theorem room_over {M : Ma} {t g : Int} (h : M.room t g = 0) : (M.stack.length : Int) - t + g ≤ 16 := by
  rw [room_eq] at h
  by_cases q1 : M.fuel ≤ M.used
  · rw [if_pos q1] at h; cases h
  · rw [if_neg q1] at h
    by_cases q2 : (M.stack.length : Int) < t
    · rw [if_pos q2] at h; cases h
    · rw [if_neg q2] at h
      by_cases q3 : 16 < (M.stack.length : Int) - t + g
      · rw [if_pos q3] at h; cases h
      · omega

/-- A listed word. -/
theorem act_ok {M : Ma} (h : M.Ok) (n : Int) (h0 : 0 ≤ n) (h1 : n ≤ 18) (hr : M.room (takesN n) (givesN n) = 0) (hf : M.fault n = 0) : (M.tick.act n).Ok ∧ (M.tick.act n).used = M.used + 1 ∧ (M.tick.act n).calls = M.calls := by
  have ht := h.tick (room_used hr)
  have hlen := stack_of_room hr
  have hov := room_over hr
  have hst := h.stack
  have byte_bd : ∀ x : UInt8, 0 ≤ (x.toNat : Int) ∧ (x.toNat : Int) < 65536 := fun x => by have := x.toNat_lt; omega
  unfold Ma.act
  by_cases c17 : n = 17
  · subst c17
    have e1 : takesN 17 = 0 := rfl
    have e2 : givesN 17 = 1 := rfl
    rw [e1, e2] at hov
    rw [if_pos rfl]
    by_cases hp : M.tick.pos < M.tick.inp.size
    · rw [if_pos hp]
      have hp' : M.pos < M.inp.size := hp
      have hk := ht.push (n := ((M.tick.inp.toList.getD M.tick.pos.toNat 0).toNat : Int)) (by show M.stack.length + 1 ≤ 16; omega) (byte_bd _)
      refine ⟨⟨hk.stack, hk.nums, hk.calls, hk.image, hk.kernel, hk.fence, hk.fence', hk.inp, ?_, ?_, hk.fuel, hk.used, hk.used', hk.out, hk.mark, hk.mark'⟩, rfl, rfl⟩
      · show 0 ≤ M.pos + 1; have := h.pos; omega
      · show M.pos + 1 ≤ (M.inp.size : Int); omega
    · rw [if_neg hp]
      exact ⟨ht.push (by show M.stack.length + 1 ≤ 16; omega) (by omega), rfl, rfl⟩
  rw [if_neg c17]
  have hne : M.stack ≠ [] := by
    have ht1 : 1 ≤ takesN n := by unfold takesN; rw [if_neg c17]; split <;> omega
    exact Ma.ne_of_len (by omega)
  have htop := h.top hne
  by_cases c1 : n = 1
  · rw [if_pos c1]; exact ⟨ht.pop, rfl, rfl⟩
  rw [if_neg c1]
  by_cases c0 : n = 0
  · subst c0
    have e1 : takesN 0 = 1 := rfl
    have e2 : givesN 0 = 2 := rfl
    rw [e1, e2] at hov
    rw [if_pos rfl]
    exact ⟨ht.push (by show M.stack.length + 1 ≤ 16; omega) htop, rfl, rfl⟩
  rw [if_neg c0]
  have hpl : M.stack.dropLast.length + 1 = M.stack.length := by rw [List.length_dropLast]; have := List.length_pos_iff.2 hne; omega
  by_cases c14 : n = 14
  · rw [if_pos c14]
    exact ⟨ht.pop.push (by show M.stack.dropLast.length + 1 ≤ 16; omega) (byte_bd _), rfl, rfl⟩
  rw [if_neg c14]
  by_cases c16 : n = 16
  · rw [if_pos c16]
    have hk := ht.pop
    refine ⟨⟨hk.stack, hk.nums, hk.calls, hk.image, hk.kernel, hk.fence, hk.fence', hk.inp, hk.pos, hk.pos', hk.fuel, hk.used, hk.used', ?_, hk.mark, hk.mark'⟩, rfl, rfl⟩
    show (M.out ++ [byteOf M.top]).length ≤ 64
    by_cases hc : 64 ≤ M.out.length
    · exfalso
      unfold Ma.fault at hf
      subst c16
      by_cases a1 : ((16 : Int) = 16 ∧ noRight M.rights 1 = true) ∨ ((16 : Int) = 17 ∧ noRight M.rights 2 = true) ∨ ((16 : Int) = 18 ∧ noRight M.rights 8 = true)
      · rw [if_pos a1] at hf; cases hf
      · rw [if_neg a1, if_pos ⟨rfl, hc⟩] at hf; cases hf
    · simp; omega
  rw [if_neg c16]
  by_cases c18 : n = 18
  · rw [if_pos c18]
    have hk := ht.pop
    exact ⟨⟨hk.stack, hk.nums, hk.calls, hk.image, hk.kernel, hk.fence, hk.fence', hk.inp, hk.pos, hk.pos', hk.fuel, hk.used, hk.used', hk.out, htop.1, htop.2⟩, rfl, rfl⟩
  rw [if_neg c18]
  have ht2 : takesN n = 2 := by unfold takesN; rw [if_neg c17, if_neg (fun hc => by omega)]
  have l2 : 2 ≤ M.stack.length := by omega
  have htop2 := h.top2 (Ma.pop_ne l2)
  have hpl2 : M.stack.dropLast.dropLast.length + 2 = M.stack.length := by rw [List.length_dropLast, List.length_dropLast]; omega
  by_cases c2 : n = 2
  · rw [if_pos c2]
    exact ⟨(ht.pop.pop.push (by show M.stack.dropLast.dropLast.length + 1 ≤ 16; omega) htop).push (by show (M.stack.dropLast.dropLast ++ [M.top]).length + 1 ≤ 16; simp; omega) htop2, rfl, rfl⟩
  rw [if_neg c2]
  by_cases c3 : n = 3
  · subst c3
    have e2 : givesN 3 = 3 := rfl
    rw [ht2, e2] at hov
    rw [if_pos rfl]
    exact ⟨ht.push (by show M.stack.length + 1 ≤ 16; omega) htop2, rfl, rfl⟩
  rw [if_neg c3]
  by_cases c15 : n = 15
  · rw [if_pos c15]
    have hk := ht.pop.pop
    exact ⟨⟨hk.stack, hk.nums, hk.calls, by show (M.image.set _ _).length ≤ 256; simpa using h.image, hk.kernel, hk.fence, by show M.fence ≤ ((M.image.set _ _).length : Int); simpa using h.fence', hk.inp, hk.pos, hk.pos', hk.fuel, hk.used, hk.used', hk.out, hk.mark, hk.mark'⟩, rfl, rfl⟩
  rw [if_neg c15]
  refine ⟨ht.pop.pop.push (by show M.stack.dropLast.dropLast.length + 1 ≤ 16; omega) (sumN_bd _ _ _ htop2 htop fun hz hc => ?_), rfl, rfl⟩
  have : M.fault n = 12 := by
    rcases hz with rfl | rfl <;> (have hc' : M.top = 0 := hc; simp [Ma.fault, hc'])
  rw [this] at hf; cases hf

/-- What a step leaves of a machine: one step more, the bounds. -/
structure Kpt (M M' : Ma) : Prop where
  ok : M'.Ok
  used : M'.used = M.used + 1
theorem doN_ok {M : Ma} (h : M.Ok) (n : Int) (h0 : 0 ≤ n) (h1 : n ≤ 18) (he : (M.doN n).1 = 0) : Kpt M (M.doN n).2 ∧ (M.doN n).2.calls = M.calls := by
  unfold Ma.doN at he ⊢
  by_cases q : M.room (takesN n) (givesN n) ≠ 0
  · rw [if_pos q] at he; exact absurd he q
  · rw [if_neg q] at he ⊢
    by_cases q2 : M.fault n ≠ 0
    · rw [if_pos q2] at he; exact absurd he q2
    · rw [if_neg q2]
      obtain ⟨a, b, c⟩ := act_ok h n h0 h1 (by simpa using q) (by simpa using q2)
      exact ⟨⟨a, b⟩, c⟩
theorem number_ok {M : Ma} (h : M.Ok) (n : Int) (hn : 0 ≤ n ∧ n < 65536) (he : (M.number n).1 = 0) : Kpt M (M.number n).2 ∧ (M.number n).2.calls = M.calls := by
  unfold Ma.number at he ⊢
  by_cases q : M.room 0 1 ≠ 0
  · rw [if_pos q] at he; exact absurd he q
  · rw [if_neg q]
    have hr : M.room 0 1 = 0 := by simpa using q
    have := room_over hr
    exact ⟨⟨(h.tick (room_used hr)).push (by show M.stack.length + 1 ≤ 16; omega) hn, rfl⟩, rfl⟩
theorem pass_ok {M : Ma} (h : M.Ok) (he : M.pass.1 = 0) : Kpt M M.pass.2 ∧ M.pass.2.calls = M.calls := by
  unfold Ma.pass at he ⊢
  by_cases q : M.room 0 0 ≠ 0
  · rw [if_pos q] at he; exact absurd he q
  · rw [if_neg q]
    exact ⟨⟨h.tick (room_used (by simpa using q)), rfl⟩, rfl⟩
theorem takeN_ok {M : Ma} (h : M.Ok) (he : M.takeN.2.1 = 0) : Kpt M M.takeN.2.2 ∧ M.takeN.2.2.calls = M.calls := by
  unfold Ma.takeN at he ⊢
  by_cases q : M.room 1 0 ≠ 0
  · rw [if_pos q] at he; exact absurd he q
  · rw [if_neg q]
    exact ⟨⟨(h.tick (room_used (by simpa using q))).pop, rfl⟩, rfl⟩
theorem call_ok {M : Ma} (h : M.Ok) (x : Int) (he : (M.call x).1 = 0) : Kpt M (M.call x).2 ∧ (M.call x).2.calls = M.calls ++ [x] := by
  unfold Ma.call at he ⊢
  by_cases q : M.room 0 0 ≠ 0
  · rw [if_pos q] at he; exact absurd he q
  · rw [if_neg q] at he ⊢
    by_cases q2 : 12 ≤ M.calls.length
    · rw [if_pos q2] at he; cases he
    · rw [if_neg q2]
      have hk := h.tick (room_used (M := M) (t := 0) (g := 0) (by simpa using q))
      exact ⟨⟨⟨hk.stack, hk.nums, by show (M.calls ++ [x]).length ≤ 12; simp; omega, hk.image, hk.kernel, hk.fence, hk.fence', hk.inp, hk.pos, hk.pos', hk.fuel, hk.used, hk.used', hk.out, hk.mark, hk.mark'⟩, rfl⟩, rfl⟩
theorem ret_ok {M : Ma} (h : M.Ok) (he : M.ret.2.1 = 0) : Kpt M M.ret.2.2 ∧ M.calls ≠ [] ∧ M.ret.1 = M.calls.getLastD 0 ∧ M.ret.2.2.calls = M.calls.dropLast := by
  unfold Ma.ret at he ⊢
  by_cases q : M.room 0 0 ≠ 0
  · rw [if_pos q] at he; exact absurd he q
  · rw [if_neg q] at he ⊢
    by_cases q2 : M.calls = []
    · rw [if_pos q2] at he; cases he
    · rw [if_neg q2]
      have hk := h.tick (room_used (M := M) (t := 0) (g := 0) (by simpa using q))
      exact ⟨⟨⟨hk.stack, hk.nums, by show M.calls.dropLast.length ≤ 12; have := h.calls; simp; omega, hk.image, hk.kernel, hk.fence, hk.fence', hk.inp, hk.pos, hk.pos', hk.fuel, hk.used, hk.used', hk.out, hk.mark, hk.mark'⟩, rfl⟩, q2, rfl, rfl⟩

/-- The same machine with other calls, and some steps and some fuel more. -/
def liftM (du df : Int) (C : List Int) (M : Ma) : Ma := { M with used := M.used + du, fuel := M.fuel + df, calls := C }
section
variable {du df : Int} {C : List Int}
theorem lift_room (hd : du ≤ df) (M : Ma) (t g : Int) (h : M.room t g ≠ 6) : (liftM du df C M).room t g = M.room t g := by
  rw [room_eq] at h
  by_cases q1 : M.fuel ≤ M.used
  · rw [if_pos q1] at h; exact absurd rfl h
  · rw [room_eq, room_eq, if_neg q1, if_neg (show ¬ (liftM du df C M).fuel ≤ (liftM du df C M).used by show ¬ M.fuel + df ≤ M.used + du; omega)]
    rfl
theorem lift_act (M : Ma) (n : Int) : (liftM du df C M).tick.act n = liftM du df C (M.tick.act n) := by
  have ht : (liftM du df C M).tick = liftM du df C M.tick := by
    show ({ M with used := M.used + du + 1, fuel := M.fuel + df, calls := C } : Ma) = { M with used := M.used + 1 + du, fuel := M.fuel + df, calls := C }
    congr 1; omega
  rw [ht]
  generalize M.tick = N
  unfold Ma.act
  by_cases c1 : n = 17
  · rw [if_pos c1, if_pos c1]
    have e1 : (liftM du df C N).pos = N.pos := rfl
    have e2 : (liftM du df C N).inp = N.inp := rfl
    rw [e1, e2]
    by_cases c : N.pos < N.inp.size
    · rw [if_pos c, if_pos c]; rfl
    · rw [if_neg c, if_neg c]; rfl
  rw [if_neg c1, if_neg c1]
  by_cases c2 : n = 1
  · rw [if_pos c2, if_pos c2]; rfl
  rw [if_neg c2, if_neg c2]
  by_cases c3 : n = 0
  · rw [if_pos c3, if_pos c3]; rfl
  rw [if_neg c3, if_neg c3]
  by_cases c4 : n = 14
  · rw [if_pos c4, if_pos c4]; rfl
  rw [if_neg c4, if_neg c4]
  by_cases c5 : n = 16
  · rw [if_pos c5, if_pos c5]; rfl
  rw [if_neg c5, if_neg c5]
  by_cases c6 : n = 18
  · rw [if_pos c6, if_pos c6]; rfl
  rw [if_neg c6, if_neg c6]
  by_cases c7 : n = 2
  · rw [if_pos c7, if_pos c7]; rfl
  rw [if_neg c7, if_neg c7]
  by_cases c8 : n = 3
  · rw [if_pos c8, if_pos c8]; rfl
  rw [if_neg c8, if_neg c8]
  by_cases c9 : n = 15
  · rw [if_pos c9, if_pos c9]; rfl
  rw [if_neg c9, if_neg c9]; rfl
end
/-- The fuel of a machine stays; the steps stay within it. -/
structure Fine (M : Ma) : Prop where
  ok : M.Ok
  used : M.used ≤ M.fuel
theorem act_fuel (M : Ma) (n : Int) : (M.act n).fuel = M.fuel := by
  unfold Ma.act
  repeat' split
  all_goals rfl
theorem step_fuel (op arg b : Int) (M : Ma) : (stepM op arg b M).2.2.fuel = M.fuel := by
  unfold stepM Ma.number Ma.pass Ma.takeN Ma.call Ma.ret Ma.doN
  repeat' split
  all_goals first | rfl | (show (M.tick.act _).fuel = _; rw [act_fuel]; rfl)
theorem room_six {M : Ma} {t g : Int} (h : M.room t g = 6) : M.fuel ≤ M.used := by
  rw [room_eq] at h
  by_cases q1 : M.fuel ≤ M.used
  · exact q1
  · rw [if_neg q1] at h
    by_cases q2 : (M.stack.length : Int) < t
    · rw [if_pos q2] at h; cases h
    · rw [if_neg q2] at h
      by_cases q3 : 16 < (M.stack.length : Int) - t + g
      · rw [if_pos q3] at h; cases h
      · rw [if_neg q3] at h; cases h
theorem fault_six (M : Ma) (n : Int) : M.fault n ≠ 6 := by
  unfold Ma.fault
  repeat' split
  all_goals decide
theorem step_six (op arg b : Int) (M : Ma) (h : (stepM op arg b M).2.1 = 6) : M.fuel ≤ M.used := by
  unfold stepM at h
  by_cases c1 : op = 1
  · rw [if_pos c1] at h
    unfold Ma.number at h
    by_cases q : M.room 0 1 ≠ 0
    · rw [if_pos q] at h; exact room_six h
    · rw [if_neg q] at h; cases h
  rw [if_neg c1] at h
  by_cases c2 : op = 2
  · rw [if_pos c2] at h
    unfold Ma.pass at h
    by_cases q : M.room 0 0 ≠ 0
    · rw [if_pos q] at h; exact room_six h
    · rw [if_neg q] at h; cases h
  rw [if_neg c2] at h
  by_cases c3 : op = 3
  · rw [if_pos c3] at h
    have h' : M.takeN.2.1 = 6 := h
    unfold Ma.takeN at h'
    by_cases q : M.room 1 0 ≠ 0
    · rw [if_pos q] at h'; exact room_six h'
    · rw [if_neg q] at h'; cases h'
  rw [if_neg c3] at h
  by_cases c4 : op = 4
  · rw [if_pos c4] at h
    unfold Ma.call at h
    by_cases q : M.room 0 0 ≠ 0
    · rw [if_pos q] at h; exact room_six h
    · rw [if_neg q] at h
      by_cases q2 : 12 ≤ M.calls.length
      · rw [if_pos q2] at h; cases h
      · rw [if_neg q2] at h; cases h
  rw [if_neg c4] at h
  by_cases c5 : op = 5
  · rw [if_pos c5] at h
    unfold Ma.ret at h
    by_cases q : M.room 0 0 ≠ 0
    · rw [if_pos q] at h; exact room_six h
    · rw [if_neg q] at h
      by_cases q2 : M.calls = []
      · rw [if_pos q2] at h; cases h
      · rw [if_neg q2] at h; cases h
  rw [if_neg c5] at h
  unfold Ma.doN at h
  by_cases q : M.room (takesN (op - 16)) (givesN (op - 16)) ≠ 0
  · rw [if_pos q] at h; exact room_six h
  · rw [if_neg q] at h
    by_cases q2 : M.fault (op - 16) ≠ 0
    · rw [if_pos q2] at h; exact absurd h (fault_six M _)
    · rw [if_neg q2] at h; cases h
theorem step_room (op arg b : Int) (M : Ma) (h : (stepM op arg b M).2.1 = 0) : M.used < M.fuel := by
  unfold stepM at h
  by_cases c1 : op = 1
  · rw [if_pos c1] at h
    unfold Ma.number at h
    by_cases q : M.room 0 1 ≠ 0
    · rw [if_pos q] at h; exact absurd h q
    · exact room_used (M := M) (t := 0) (g := 1) (by simpa using q)
  rw [if_neg c1] at h
  by_cases c2 : op = 2
  · rw [if_pos c2] at h
    unfold Ma.pass at h
    by_cases q : M.room 0 0 ≠ 0
    · rw [if_pos q] at h; exact absurd h q
    · exact room_used (M := M) (t := 0) (g := 0) (by simpa using q)
  rw [if_neg c2] at h
  by_cases c3 : op = 3
  · rw [if_pos c3] at h
    have h' : M.takeN.2.1 = 0 := h
    unfold Ma.takeN at h'
    by_cases q : M.room 1 0 ≠ 0
    · rw [if_pos q] at h'; exact absurd h' q
    · exact room_used (M := M) (t := 1) (g := 0) (by simpa using q)
  rw [if_neg c3] at h
  by_cases c4 : op = 4
  · rw [if_pos c4] at h
    unfold Ma.call at h
    by_cases q : M.room 0 0 ≠ 0
    · rw [if_pos q] at h; exact absurd h q
    · exact room_used (M := M) (t := 0) (g := 0) (by simpa using q)
  rw [if_neg c4] at h
  by_cases c5 : op = 5
  · rw [if_pos c5] at h
    unfold Ma.ret at h
    by_cases q : M.room 0 0 ≠ 0
    · rw [if_pos q] at h; exact absurd h q
    · exact room_used (M := M) (t := 0) (g := 0) (by simpa using q)
  rw [if_neg c5] at h
  unfold Ma.doN at h
  by_cases q : M.room (takesN (op - 16)) (givesN (op - 16)) ≠ 0
  · rw [if_pos q] at h; exact absurd h q
  · exact room_used (M := M) (by simpa using q)
theorem step_used (op arg b : Int) (M : Ma) (h : (stepM op arg b M).2.1 = 0) (ho : opOk op) (hok : M.Ok) (ha : op = 1 → 0 ≤ arg ∧ arg < 65536) : (stepM op arg b M).2.2.used = M.used + 1 ∧ (stepM op arg b M).2.2.Ok := by
  unfold stepM at h ⊢
  by_cases c1 : op = 1
  · rw [if_pos c1] at h ⊢; have := number_ok hok arg (ha c1) h; exact ⟨this.1.used, this.1.ok⟩
  rw [if_neg c1] at h ⊢
  by_cases c2 : op = 2
  · rw [if_pos c2] at h ⊢; have := pass_ok hok h; exact ⟨this.1.used, this.1.ok⟩
  rw [if_neg c2] at h ⊢
  by_cases c3 : op = 3
  · rw [if_pos c3] at h ⊢; have := takeN_ok hok h; exact ⟨this.1.used, this.1.ok⟩
  rw [if_neg c3] at h ⊢
  by_cases c4 : op = 4
  · rw [if_pos c4] at h ⊢; have := call_ok hok b h; exact ⟨this.1.used, this.1.ok⟩
  rw [if_neg c4] at h ⊢
  by_cases c5 : op = 5
  · rw [if_pos c5] at h ⊢; have := ret_ok hok h; exact ⟨this.1.used, this.1.ok⟩
  rw [if_neg c5] at h ⊢
  have := doN_ok hok (op - 16) (by unfold opOk at ho; omega) (by unfold opOk at ho; omega) h
  exact ⟨this.1.used, this.1.ok⟩
end Go.Proofs.YtnanjomnldfidabGreatDoor
