/-
  graderlaw's fits and grown.
-/
import Derived.Test.YtnanjomnldfidaaDoorNamedPure
set_option linter.unusedSimpArgs false
set_option linter.unusedVariables false
set_option linter.unusedSectionVars false
namespace Go.Proofs.YtnanjomnldfidaaDoor
open Go.ChangeShapes Go.WideShapes Go.ChangeAt Go.RowKit

/-- What fits leaves: if it says yes, the text and the Box are what it asks. -/
def FitsPost (P : Nat → Prop) (s : ByteArray) (b : BoxV) (w : World) (e : Ending) (w' : World) : Prop := ∃ v : Bool, e = .returned (.bool v) ∧ (v = true → Fit s ∧ b.image.size ≤ 256 ∧ 0 ≤ b.fuel ∧ b.fuel ≤ 9992) ∧ Kept P w w'

set_option maxRecDepth 100000 in
set_option maxHeartbeats 3200000 in
theorem fits_any (s : ByteArray) (b : BoxV) (w : World) (P : Nat → Prop) (hP : ∀ k, P k → k < w.heap.size) (hs : s.size ≤ maxLen) (hsi : b.image.size ≤ maxLen) (hT : WordsAt w 2 listedL) (hPT : P 2) :
    Calls Tryd.prog 15 #[.string s, b.val] w (FitsPost P s b w) := by
  obtain ⟨w0, hw0⟩ : ∃ w0, w0 = w.alloc (.cells #[.string b.inp, .string b.image, .int .i64 b.kernel, .int .i64 b.secret, .int .i64 b.rights, .int .i64 b.fuel] 30) := ⟨_, rfl⟩
  have hk0 : Kept P w w0 := by rw [hw0]; exact (Kept.refl P w).alloc _
  have hsz0 : w0.heap.size = w.heap.size + 1 := by rw [hw0]; simp
  have hno : Hid (FitsPost P s b w (.returned (.bool false)) w0) := ⟨false, rfl, (fun h => by cases h), hk0⟩
  have hck := hide (check_any s w0 P (fun k hk => by have := hP k hk; omega) hs (hT.kept hk0 (hP _ hPT) hPT) hPT)
  have hyes : Hid (s.size ≤ 368 → (∀ c ∈ s.toList, c ≠ 58) → b.image.size ≤ 256 → 0 ≤ b.fuel → b.fuel ≤ 9992 → ∀ w', Kept P w0 w' → ∀ v : Bool, v = ((readM s).1 == 0) → FitsPost P s b w (.returned (.bool v)) w') := by
    intro h1 h2 h3 h4 h5 w' hk v hv
    exact ⟨v, rfl, fun h => ⟨⟨h1, h2, by rw [h] at hv; simpa using hv.symm⟩, h3, h4, h5⟩, hk0.trans hk⟩
  have HN := hide (fun n w' => num_any n w')
  unfold maxLen at hs hsi
  have hbs : b.val = .agg #[.string b.inp, .string b.image, .int .i64 b.kernel, .int .i64 b.secret, .int .i64 b.rights, .int .i64 b.fuel] := rfl
  rw [hbs]
  have HW := hide hw0
  generalize FitsPost P s b w = QQ at hno hyes ⊢
  generalize (readM s).1 = er at hck hyes
  generalize (readM s).2.1 = pl at hck
  generalize b.inp = bi at *
  generalize b.image = bm at *
  generalize b.kernel = bk at *
  generalize b.secret = bs at *
  generalize b.rights = br at *
  generalize b.fuel = bf at *
  unfold ChkPost at hck
  clear hk0 hw0 hbs hT hP
  have hwr : w.alloc (.cells #[.string bi, .string bm, .int .i64 bk, .int .i64 bs, .int .i64 br, .int .i64 bf] 30) = w0 := HW.out.symm
  have hno' : Hid (QQ (.returned (.bool false)) (w.alloc (.cells #[.string bi, .string bm, .int .i64 bk, .int .i64 bs, .int .i64 br, .int .i64 bf] 30))) := by rw [hwr]; exact hno
  have HWR := hide hwr
  clear hwr HW hno
  by_cases q1 : 368 < s.size
  · clear hck hyes HN
    go_enter Tryd.func15, Tryd.ntmps15
    go_wp2
    exact hno'.out
  by_cases q2 : 256 < bm.size
  · clear hck hyes HN
    go_enter Tryd.func15, Tryd.ntmps15
    go_wp2
    exact hno'.out
  by_cases q3 : bf < 0
  · clear hck hyes HN
    go_enter Tryd.func15, Tryd.ntmps15
    go_wp2
    exact hno'.out
  by_cases q4 : 9992 < bf
  · clear hck hyes HN
    go_enter Tryd.func15, Tryd.ntmps15
    go_wp2
    exact hno'.out
  go_enter Tryd.func15, Tryd.ntmps15
  go_wp2
  go_loop [5] (fun i => ∃ k : Nat, k ≤ s.size ∧ i = .int .i64 k ∧ Hid (∀ j (h : j < s.size), j < k → s[j] ≠ 58)) (fun i => s.size - (intOf i).toNat)
  case atStart => exact ⟨0, Nat.zero_le _, rfl, fun j h hj => by omega⟩
  case round =>
    obtain ⟨k, hk, rfl, hd⟩ := hrel
    by_cases hlt : k < s.size
    · by_cases hc : s[k] = 58
      · have hcb : ((s[k].toNat : Int) == 58) = true := by rw [hc]; rfl
        clear hck hyes HN hd
        go_wp2
        exact hno'.out
      · have hcb : ((s[k].toNat : Int) == 58) = false := by
          rw [beq_eq_false_iff_ne]
          intro h
          apply hc
          apply UInt8.toNat_inj.1
          show s[k].toNat = 58
          omega
        have hd2 : Hid (∀ j (h : j < s.size), j < k + 1 → s[j] ≠ 58) := by
          intro j h hj
          by_cases e : j = k
          · subst e; exact hc
          · exact hd.out j h (by omega)
        clear hck hyes HN hd hc
        go_wp2
        go_round
        case rel => exact ⟨k + 1, by omega, by go_num, hd2⟩
        case measure => simp [intOf] <;> omega
    · have hall : Hid (∀ c ∈ s.toList, c ≠ 58) := by
        intro c hcm
        rw [ByteArray.toList_eq] at hcm
        obtain ⟨j, hj, rfl⟩ := List.getElem_of_mem hcm
        have hj' : j < s.size := by rw [len_data] at hj; exact hj
        exact hd.out j hj' (by omega)
      have hy := hide (hyes.out (by omega) hall.out (by omega) (by omega) (by omega))
      clear hyes hd hall
      go_wp2_with fail
      rw [HWR.out]
      refine (unhide hck).mono ?_
      rintro e w1 ⟨rfl, k1⟩
      have hy2 := hide ((unhide hy) w1 k1)
      clear hy hck k1 HWR hno'
      go_wp2_with (go_at_call 11; refine ((unhide HN) _ _).mono ?_; rintro e w2 ⟨rfl, rfl⟩)
      exact (unhide hy2) _ rfl

set_option maxRecDepth 100000 in
set_option maxHeartbeats 3200000 in
/-- grown, of two results that are as it asks. -/
theorem grown_yes (x y : ByteArray) (a c c2 d first last n : Int) (w : World) (P : Nat → Prop) (hn : n = if d = 0 then first + last else first) (hc : c2 = c + n) (h1 : 0 ≤ first ∧ first ≤ 100) (h2 : 0 ≤ last ∧ last ≤ 100) (h3 : 0 ≤ c ∧ c ≤ 100000) :
    Calls Tryd.prog 16 #[.agg #[.string x, .string y, .int .i64 a, .int .i64 c, .int .i64 d], .agg #[.string x, .string y, .int .i64 a, .int .i64 c2, .int .i64 d], .int .i64 first, .int .i64 last] w fun e w' => e = .returned (.bool true) ∧ Kept P w w' := by
  have q1 : (x.toList == x.toList) = true := by simp
  have q2 : (y.toList == y.toList) = true := by simp
  have q3 : (a == a) = true := by simp
  have q5 : (d == d) = true := by simp
  have hnum := hide (fun w' => num_any d w')
  obtain ⟨w0, hw0⟩ : ∃ w0, w0 = (w.alloc (.cells #[.string x, .string y, .int .i64 a, .int .i64 c, .int .i64 d] 32)).alloc (.cells #[.string x, .string y, .int .i64 a, .int .i64 c2, .int .i64 d] 32) := ⟨_, rfl⟩
  have hk0 : Kept P w w0 := by rw [hw0]; exact ((Kept.refl P w).alloc _).alloc _
  have HW := hide hw0
  have hpost : Hid (Kept P w ((w.alloc (.cells #[.string x, .string y, .int .i64 a, .int .i64 c, .int .i64 d] 32)).alloc (.cells #[.string x, .string y, .int .i64 a, .int .i64 c2, .int .i64 d] 32))) := by rw [← hw0]; exact hk0
  clear hk0 hw0 HW
  by_cases hd : d = 0
  · subst hd
    rw [if_pos rfl] at hn
    have q4 : (c2 == c + (first + last)) = true := by rw [hc, hn]; simp
    have q6 : (0 : Int) ≤ c2 := by omega
    clear hc hn
    go_enter Tryd.func16, Tryd.ntmps16
    go_wp2_with (go_at_call 11; refine ((unhide hnum) _).mono ?_; rintro e w2 ⟨rfl, rfl⟩)
    go_ret
    exact ⟨rfl, hpost.out⟩
  · rw [if_neg hd] at hn
    have q4 : (c2 == c + first) = true := by rw [hc, hn]; simp
    have hdb : (d == 0) = false := by simpa using hd
    clear hc hn hd
    go_enter Tryd.func16, Tryd.ntmps16
    go_wp2_with (go_at_call 11; refine ((unhide hnum) _).mono ?_; rintro e w2 ⟨rfl, rfl⟩)
    go_ret
    exact ⟨rfl, hpost.out⟩
end Go.Proofs.YtnanjomnldfidaaDoor
