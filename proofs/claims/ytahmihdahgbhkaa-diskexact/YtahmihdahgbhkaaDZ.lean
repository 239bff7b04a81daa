/-
  An argument that can be read as data, opened: its two slices.
  Conditions: as each theorem states them.
-/
import Derived.Test.YtahmihdahgbhkaaRows
import Derived.ProofKit
import Derived.ChangeSlices
import Derived.Deep.Slices
import Derived.OpenShut
import Derived.HandedShaped
import Derived.ChangeOld
import Derived.Lib.SmallJoins
namespace Go.Proofs.Ytahmihdahgbhkaa
open Go.ChangeShapes Go.WideShapes Go.ChangeAt Go.RowKit Go.Deep Go.Joins

theorem Try.own : ownKnob Try.prog.godebug = none := by kernel_rfl
theorem Try.laidOut : laidOutB Try.prog = true := by kernel_rfl
theorem Try.cells25 : Try.prog.cellsOf 25 = 2 := by kernel_rfl
theorem Try.cells40 : Try.prog.cellsOf 40 = 6 := by kernel_rfl
theorem Try.cells37 : Try.prog.cellsOf 37 = 1 := by kernel_rfl
theorem Try.cells5 : Try.prog.cellsOf 5 = 1 := by kernel_rfl
theorem Try.cells38 : Try.prog.cellsOf 38 = 1 := by kernel_rfl
theorem Try.cells3 : Try.prog.cellsOf 3 = 1 := by kernel_rfl

/-- What can be read as a slice is one. -/
theorem slice_of_trod {H : Type} {enc : TypeId × Value → H} {w : World} {base : Nat} {sp : Nat → Bool} {held : Bool} {fuel : Nat} {t e : TypeId} {v : Value} {x : DataW H × List MemPlace} (ht : Try.prog.underlying t = some (.slice e)) (h : DataW.trod enc Try.prog w base sp held fuel t [v] = some x) :
    ∃ A n c, v = .slice A n c ∧ n < 9223372036854775808 := by
  rcases open_slice ht h with ⟨hv, _⟩ | ⟨a, len, cap, m, n, D, Pl, hv, _, hl, hm, _⟩
  · simp only [List.cons.injEq, and_true] at hv
    exact ⟨none, 0, 0, hv, by decide⟩
  · simp only [List.cons.injEq, and_true] at hv
    exact ⟨some a, len, cap, hv, by unfold maxLen at hm; omega⟩
end Go.Proofs.Ytahmihdahgbhkaa
