/-
  DERIVED. GIVEN WITH THE SEED: THE CARDS: each row of YtaglobnfdgencaaDoorRows.lean that lists a variable, with what it lists TIED to the program's text (the seventh form; the later family's looks); each row that meets fmt, with fmt's text TOLD by the authors' own Lean function (tested against real Go, not proved from fmt's source: count such statements apart). THE CARD IS WHAT COUNTS. Prove the row's statement (the work); the ties are given (YtaglobnfdgencaaDoorTie.lean); close each card by the builder's one call (the guide's Derived/Test/ToyasCard.lean, 'card_holds'). Laid BY PROGRAM, IN A SANDBOX (cutbox-door.mjs). By AI agents, Wed Nov 11 2026. No macro, syntax, notation, axiom, sorry.
-/
import Derived.Test.YtaglobnfdgencaaDoorRows
import GoSem.ClaimSeven
namespace Go.Proofs.YtaglobnfdgencaaDoor
namespace Rows

/-- THE TIED CARD OF 'pouchlaw9.GreyKeys'. -/
def greyKeysCard : Claim7 := { stood := { row := greyKeysRow, standIns := [], harness := (true, "ee1d3502f61c0b79efb9523c0e3fc07cc451e77fd323bfe9fae4975e458e53f3"), looks := true }, kinds := [], alts := [], laidByText := true, laidKinds := [.data, .data, .data], laidTests := true, laidLooks := .later }
def GreyKeysCardSaid : Prop := Claim7.holds Tryd.pinned (.plain (OpenSpec.ofChange greyKeysSpec)) greyKeysCard

/-- THE SECOND FORM's CARD OF 'pouchlaw9.GreyKeys'. -/
def greyKeysUptoCard : Claim7 := { stood := { row := greyKeysUptoRow, standIns := [], harness := (true, "ee1d3502f61c0b79efb9523c0e3fc07cc451e77fd323bfe9fae4975e458e53f3"), looks := true }, kinds := [], alts := [], laidByText := true, laidKinds := [.data, .data, .data], laidTests := true, laidLooks := .later }
def GreyKeysUptoCardSaid : Prop := Claim7.holds Tryd.pinned (.plain (OpenSpec.upto greyKeysSpec)) greyKeysUptoCard
end Rows
end Go.Proofs.YtaglobnfdgencaaDoor
