/-
  What the rows' lists give: the tables' words lie in their blocks. And the witness' world.
-/
import Derived.Test.YtnanjomnldfidabGreatDoorRows
import Derived.Test.YtnanjomnldfidabGreatDoorCards
import Derived.Test.YtnanjomnldfidabGreatDoorTie
import Derived.Test.YtnanjomnldfidabGreatDoorListed
import Derived.WalkKit
import Derived.ProofKit
import Derived.OpenShut
import Derived.Deep.DeepHandedRow
import Derived.Lib.LaidTab
set_option linter.unusedSimpArgs false
set_option linter.unusedVariables false
set_option linter.unusedSectionVars false
namespace Go.Proofs.YtnanjomnldfidabGreatDoor
open Go.ChangeShapes Go.WideShapes Go.ChangeAt Go.RowKit

/-- An array of strings that reads as a table of words holds them, cell for cell. -/
theorem cells_of_words {H : Type} {enc : TypeId × Value → H} {P : Program} {w : World} {base : Nat} {sp : Nat → Bool} {held : Bool} {fuel : Nat} {t e : TypeId} {n : Nat} {cs : List Value} {zs : List (List UInt8)} {p : List MemPlace}
    (ht : P.underlying t = some (.array n e)) (he : P.underlying e = some .string) (hce : P.cellsOf e = 1) (hct : P.cellsOf t = n)
    (h : DataW.trod enc P w base sp held fuel t cs = some (.agg (zs.map fun z => .lit (.string z)), p)) : cs = zs.map fun z => Value.string ⟨z.toArray⟩ := by
  cases fuel with
  | zero => simp [DataW.trod] at h
  | succ fuel =>
    simp only [DataW.trod, ht, hce, hct, Nat.mul_one] at h
    split at h
    · rename_i hl
      obtain ⟨xs, hm, hx⟩ := Option.map_eq_some_iff.1 h
      have hxs : xs.map (·.1) = zs.map fun z => (DataW.lit (.string z) : DataW H) := by
        have := congrArg Prod.fst hx
        simpa using this
      have hxl : xs.length = n := by simpa using Lib.mapM_length hm
      have hzl : zs.length = n := by
        have := congrArg List.length hxs
        simp at this
        omega
      apply List.ext_getElem?
      intro i
      by_cases hi : i < n
      · obtain ⟨b, hb, hf⟩ := Lib.mapM_at hm i i (by simp [hi])
        obtain ⟨s, hc, rfl, _⟩ := DataW.trod_string he hf
        have h1 : cs[i]? = some (.string s) := by
          have := congrArg (·[0]?) hc
          simpa [List.getElem?_take, List.getElem?_drop] using this
        have h2 : (xs.map (·.1))[i]? = some (DataW.lit (.string s.data.toList) : DataW H) := by simp [hb]
        rw [hxs] at h2
        simp only [List.getElem?_map, Option.map_eq_some_iff, DataW.lit.injEq, Lit.string.injEq] at h2
        obtain ⟨z', hz', rfl⟩ := h2
        simp [h1, hz']
      · rw [List.getElem?_eq_none (by omega), List.getElem?_eq_none (by simp; omega)]
    · cases h

/-- A listed table, wherever it stands on the list. -/
theorem words_of_laid {P : Program} {W : World} {name : String} {zs : List (List UInt8)} {g : Nat} {t e : TypeId} {n : Nat}
    (hg : P.globalNamed name = some g) (hty : (P.globals[g]?).map (·.type) = some t) (ht : P.underlying t = some (.array n e)) (he : P.underlying e = some .string) (hce : P.cellsOf e = 1) (hct : P.cellsOf t = n) :
    ∀ (laid : List (String × DataW Unit)) ps, DataW.LaidVars P W laid ps → (name, .agg (zs.map fun z => .lit (.string z))) ∈ laid → WordsAt W g zs
  | [], ps, h, hm => by simp at hm
  | (n', d) :: r, ps, h, hm => by
    obtain ⟨g', t', cs, fuel, p, q, hg', ht', hvar, hd, hrest, _⟩ := h
    rcases List.mem_cons.1 hm with hm | hm
    · simp only [Prod.mk.injEq] at hm
      obtain ⟨rfl, rfl⟩ := hm
      obtain rfl := Option.some.inj (hg.symm.trans hg')
      obtain rfl := Option.some.inj (hty.symm.trans ht')
      have hcs := cells_of_words ht he hce hct hd
      intro i hi
      have := World.var?_cell hg hvar i
      rw [this]
      have h2 : cs.toList[i]? = some (Value.string ⟨(zs.getD i []).toArray⟩) := by rw [hcs]; simp [List.getD, hi]
      simpa using h2
    · exact words_of_laid hg hty ht he hce hct r q hrest hm

theorem own : ownKnob Tryz.prog.godebug = none := by kernel_rfl
theorem gListed : Tryz.prog.globalNamed "grader/grader.listed" = some 2 := by kernel_rfl
theorem gListedT : (Tryz.prog.globals[2]?).map (·.type) = some 101 := by kernel_rfl
theorem gRefListed : Tryz.prog.globalNamed "grader/graderref.listed" = some 1 := by kernel_rfl
theorem gRefListedT : (Tryz.prog.globals[1]?).map (·.type) = some 101 := by kernel_rfl
theorem gRefForms : Tryz.prog.globalNamed "grader/graderref.forms" = some 0 := by kernel_rfl
theorem gRefFormsT : (Tryz.prog.globals[0]?).map (·.type) = some 99 := by kernel_rfl
theorem cellsArr19 : Tryz.prog.cellsOf 101 = 19 := by kernel_rfl
theorem cellsArr11 : Tryz.prog.cellsOf 99 = 11 := by kernel_rfl
theorem cellsStr : Tryz.prog.cellsOf 9 = 1 := by kernel_rfl

theorem words_lt {W : World} {g : Nat} {l : List (List UInt8)} (h : WordsAt W g l) (hl : 0 < l.length) : g < W.heap.size := World.block_lt_of_cell? W ⟨g, 0, none⟩ (h 0 hl)
/-- A table's block, its words laid. -/
def fillWords (l : List (List UInt8)) (o : Obj) : Obj := match o with
  | .cells _ t frozen => .cells (l.map fun z => Value.string ⟨z.toArray⟩).toArray t frozen
  | o => o

end Go.Proofs.YtnanjomnldfidabGreatDoor
