/-
  What the rows of this program list: the library's table of powers of ten; a world for the witness.
  Conditions: as each theorem states them.
-/
import Derived.Test.YtaglobnfdgencaaDoorCards
import Derived.Test.YtaglobnfdgencaaDoorTie
import Derived.Test.YtaglobnfdgencaaDoorKeysW
import Derived.ProofKit
import Derived.OpenShut
import Derived.Deep.DeepHandedRow
import Derived.LaidSub
namespace Go.Proofs.YtaglobnfdgencaaDoor
open Go.ChangeShapes Go.WideShapes Go.ChangeAt Go.RowKit

theorem gTabType : (Tryd.prog.globals[0]?).map (·.type) = some 75 := by kernel_rfl
theorem Tryd.cells75 : Tryd.prog.cellsOf 75 = 20 := by kernel_rfl
theorem Tryd.cells65 : Tryd.prog.cellsOf 65 = 1 := by kernel_rfl

theorem tab_of_laid {W : World} (h : laidMetH Tryd.prog Rows.greyKeysRow.laid W) : Tab W := by
  have h1 := h.filter (fun x => x.1 == "internal/strconv.uint64pow10")
  have h2 : laidMetH Tryd.prog [("internal/strconv.uint64pow10", Lib.tabData .u64 Lib.pow10Tab)] W := h1
  exact Lib.tabIs_of_head (rest := []) gTab gTabType Tryd.underlying75 Tryd.underlying65 Tryd.cells65 Tryd.cells75 h2

/-- The numbers of the first table of bits. -/
def tab32 : List Int := [0, 1, 28, 2, 29, 14, 24, 3, 30, 22, 20, 15, 25, 17, 4, 8, 31, 27, 13, 23, 21, 19, 16, 7, 26, 12, 18, 6, 11, 5, 10, 9]
/-- The numbers of the second one. -/
def tab64 : List Int := [0, 1, 56, 2, 57, 49, 28, 3, 61, 58, 42, 50, 38, 29, 17, 4, 62, 47, 59, 36, 45, 43, 51, 22, 53, 39, 33, 30, 24, 18, 12, 5, 63, 55, 48, 27, 60, 41, 37, 16, 46, 35, 44, 21, 52, 32, 23, 11, 54, 26, 40, 15, 34, 20, 31, 10, 25, 14, 19, 9, 13, 8, 7, 6]

/-- A block with other cells. -/
def laidCells (cs : Array Value) : Obj → Obj
  | .cells _ t frozen => .cells cs t frozen
  | o => o

/-- A world with the three listed tables as their initialisers lay them. -/
def tabled (w : World) : World :=
  { w with heap := ((w.heap.modify 0 (laidCells (Lib.pow10Tab.map fun z => Value.int .u64 z).toArray)).modify 2 (laidCells (tab32.map fun z => Value.int .u8 z).toArray)).modify 3 (laidCells (tab64.map fun z => Value.int .u8 z).toArray) }

theorem laid_met (os : Os) : laidMet Tryd.prog Rows.greyKeysRow.laid ((tabled (World.holding Tryd.prog os ⟨#[], #[], []⟩)).forCall (fun _ _ => 0) ⟨#[], #[.slice none 0 0], []⟩).memory :=
  laidMet_of_run' 8 (by kernel_rfl) (by kernel_rfl)
theorem witness_reads (os : Os) {H : Type} (enc : TypeId × Value → H) : ∃ places, DataW.whole enc Tryd.prog ((tabled (World.holding Tryd.prog os ⟨#[], #[], []⟩)).forCall (fun _ _ => 0) ⟨#[], #[.slice none 0 0], []⟩).memory Tryd.f3.params.toList Rows.greyKeysSpec.vars false #[Value.slice none 0 0].toList 8 = some ([.nil], [], places) :=
  ⟨[], by kernel_rfl⟩
end Go.Proofs.YtaglobnfdgencaaDoor
