/-
  No cell of these rows narrows 'for every input' (looked for: loops, veiled, ifaces, maps, wideKeys, modest, calm, conditions, laid).
  DERIVED. THE GIVEN ROWS OF THIS SEAT. 5 by the template 'for every input the law returns true; each argument reads behind the call as it read before'; 0 by the template 'total and deterministic' (their statements: YthkgahdnjhjobaaTotals.lean).
  GIVEN WITH THE SEED: the statements are not yours to turn. If you find one false, say at which input.
  Laid BY PROGRAM, IN A SANDBOX (cutbox-rows.mjs): the forced cells as the released guide's own fill.sh prints them over the translation f47908bc9cd080e2… (all of the seat's roots in one cut). By AI agents, Wed Nov 11 2026. No macro, syntax, notation, axiom, sorry.
-/
import Derived.Test.YthkgahdnjhjobaaChecked
import GoSem.Claim
import GoSem.ClaimJoined
import GoSem.ClaimMapViews
import Derived.JoinedTies
import Derived.KernelRfl
namespace Go.Proofs.Ythkgahdnjhjobaa
/- THE CELL 'sum', in the pinned program and in every row, IS THE sha256 OF THE DUMP (.gsa) THAT YthkgahdnjhjobaaProg.lean LOADS. Nothing in Lean hashes anything: it is a label: what it is worth is what the hold of that sum in a sandbox is worth. -/
noncomputable def Try.pinned : Pinned := { name := "ythkgahdnjhjobaa", sum := "f47908bc9cd080e23a57a45e834fbd9688484cc8823dbbdd80b2360e4cabc6a5", checked := Try.checked }
namespace Rows
def none {H : Type} : Left H := { results := [], args := [] }

/-- 'pouchlaw7.HealthNotes': WHATEVER THE INPUT: true; the input reads as it did. -/
def healthNotesSpec : ChangeSpec := { name := "healthNotes", fn := fun _ => fun
  | [d] => { results := [.lit (.bool true)], args := [d] }
  | _ => none }
def healthNotesRow : OpenClaim := { program := "ythkgahdnjhjobaa", sum := "f47908bc9cd080e23a57a45e834fbd9688484cc8823dbbdd80b2360e4cabc6a5", func := "pouch/pouchlaw7.HealthNotes", spec := "healthNotes", inPlace := ["math.Float64frombits", "math.Float64bits"], apart := false }
def HealthNotesSaid : Prop := healthNotesRow.holds Try.pinned (OpenSpec.ofChange healthNotesSpec)

/-- ITS FALSE NEIGHBOUR: 'it returns false'. Refute it at one input. -/
def healthNotesWrong : ChangeSpec := { name := "healthNotes", fn := fun _ => fun
  | [d] => { results := [.lit (.bool false)], args := [d] }
  | _ => none }
def HealthNotesWrongFalsely : Prop := healthNotesRow.holds Try.pinned (OpenSpec.ofChange healthNotesWrong)

/-- 'pouchlaw7.HealthGoods': WHATEVER THE INPUT: true; the input reads as it did. -/
def healthGoodsSpec : ChangeSpec := { name := "healthGoods", fn := fun _ => fun
  | [d] => { results := [.lit (.bool true)], args := [d] }
  | _ => none }
def healthGoodsRow : OpenClaim := { program := "ythkgahdnjhjobaa", sum := "f47908bc9cd080e23a57a45e834fbd9688484cc8823dbbdd80b2360e4cabc6a5", func := "pouch/pouchlaw7.HealthGoods", spec := "healthGoods", inPlace := ["math.Float64frombits", "math.Float64bits"], apart := false }
def HealthGoodsSaid : Prop := healthGoodsRow.holds Try.pinned (OpenSpec.ofChange healthGoodsSpec)

/-- ITS FALSE NEIGHBOUR: 'it returns false'. Refute it at one input. -/
def healthGoodsWrong : ChangeSpec := { name := "healthGoods", fn := fun _ => fun
  | [d] => { results := [.lit (.bool false)], args := [d] }
  | _ => none }
def HealthGoodsWrongFalsely : Prop := healthGoodsRow.holds Try.pinned (OpenSpec.ofChange healthGoodsWrong)

/-- 'pouchlaw7.HealthStays': WHATEVER THE INPUT: true; the input reads as it did. -/
def healthStaysSpec : ChangeSpec := { name := "healthStays", fn := fun _ => fun
  | [d] => { results := [.lit (.bool true)], args := [d] }
  | _ => none }
def healthStaysRow : OpenClaim := { program := "ythkgahdnjhjobaa", sum := "f47908bc9cd080e23a57a45e834fbd9688484cc8823dbbdd80b2360e4cabc6a5", func := "pouch/pouchlaw7.HealthStays", spec := "healthStays", inPlace := ["math.Float64frombits", "math.Float64bits"], apart := false }
def HealthStaysSaid : Prop := healthStaysRow.holds Try.pinned (OpenSpec.ofChange healthStaysSpec)

/-- ITS FALSE NEIGHBOUR: 'it returns false'. Refute it at one input. -/
def healthStaysWrong : ChangeSpec := { name := "healthStays", fn := fun _ => fun
  | [d] => { results := [.lit (.bool false)], args := [d] }
  | _ => none }
def HealthStaysWrongFalsely : Prop := healthStaysRow.holds Try.pinned (OpenSpec.ofChange healthStaysWrong)

/-- 'pouchlaw7.HealthEdges': WHATEVER THE INPUT: true; the input reads as it did. -/
def healthEdgesSpec : ChangeSpec := { name := "healthEdges", fn := fun _ => fun
  | [d] => { results := [.lit (.bool true)], args := [d] }
  | _ => none }
def healthEdgesRow : OpenClaim := { program := "ythkgahdnjhjobaa", sum := "f47908bc9cd080e23a57a45e834fbd9688484cc8823dbbdd80b2360e4cabc6a5", func := "pouch/pouchlaw7.HealthEdges", spec := "healthEdges", inPlace := ["math.Float64frombits", "math.Float64bits"], apart := false }
def HealthEdgesSaid : Prop := healthEdgesRow.holds Try.pinned (OpenSpec.ofChange healthEdgesSpec)

/-- ITS FALSE NEIGHBOUR: 'it returns false'. Refute it at one input. -/
def healthEdgesWrong : ChangeSpec := { name := "healthEdges", fn := fun _ => fun
  | [d] => { results := [.lit (.bool false)], args := [d] }
  | _ => none }
def HealthEdgesWrongFalsely : Prop := healthEdgesRow.holds Try.pinned (OpenSpec.ofChange healthEdgesWrong)

/-- 'pouchlaw7.HealthRises': WHATEVER THE INPUT: true; the input reads as it did. -/
def healthRisesSpec : ChangeSpec := { name := "healthRises", fn := fun _ => fun
  | [d] => { results := [.lit (.bool true)], args := [d] }
  | _ => none }
def healthRisesRow : OpenClaim := { program := "ythkgahdnjhjobaa", sum := "f47908bc9cd080e23a57a45e834fbd9688484cc8823dbbdd80b2360e4cabc6a5", func := "pouch/pouchlaw7.HealthRises", spec := "healthRises", inPlace := ["math.Float64frombits", "math.Float64bits"], apart := false }
def HealthRisesSaid : Prop := healthRisesRow.holds Try.pinned (OpenSpec.ofChange healthRisesSpec)

/-- ITS FALSE NEIGHBOUR: 'it returns false'. Refute it at one input. -/
def healthRisesWrong : ChangeSpec := { name := "healthRises", fn := fun _ => fun
  | [d] => { results := [.lit (.bool false)], args := [d] }
  | _ => none }
def HealthRisesWrongFalsely : Prop := healthRisesRow.holds Try.pinned (OpenSpec.ofChange healthRisesWrong)

/- THE SECOND FORM. 'bulk': how many values and letters a reading holds, each counted each time it is reached (what is shared counts as often as it is met; a slice's spare places count too). A statement '..UptoSaid' is the law's where the arguments, and the package variables that the reading takes, are together of bulk at most 1048576: NARROWER than '..Said'. Prove '..Said' where nothing that the law and all that it calls make is longer than what came in: it says more and counts as full. Else prove '..UptoSaid'. A law counts once. -/
mutual
def uptoBulk {H : Type} : DataW H → Nat
  | .lit (.string bytes) => bytes.length + 1
  | .lit _ => 1
  | .nil => 1
  | .ptr d => uptoBulk d + 1
  | .slice elems spare => uptoBulkAll elems + uptoBulkAll spare + 1
  | .agg parts => uptoBulkAll parts + 1
  | .iface _ d => uptoBulk d + 1
  | .map entries => uptoBulkEntries entries + 1
  | .held _ => 1
def uptoBulkAll {H : Type} : List (DataW H) → Nat
  | [] => 0
  | d :: r => uptoBulk d + uptoBulkAll r
def uptoBulkEntries {H : Type} : List (Lit × DataW H) → Nat
  | [] => 0
  | x :: r => uptoBulkEntry x + uptoBulkEntries r
def uptoBulkEntry {H : Type} : Lit × DataW H → Nat
  | (.string bytes, d) => bytes.length + uptoBulk d + 1
  | (_, d) => uptoBulk d + 1
 end
def uptoSmall : (H : Type) → List (DataW H) → Bool := fun _ ds => decide (uptoBulkAll ds ≤ 1048576)
def OpenSpec.upto (s : _root_.Go.ChangeSpec) : _root_.Go.OpenSpec := { _root_.Go.OpenSpec.ofChange s with cond := some uptoSmall }

/-- 'pouchlaw7.HealthNotes', WHERE WHAT IT READS IS OF BULK AT MOST 1048576: true; the input reads as it did. -/
def healthNotesUptoRow : OpenClaim := { program := "ythkgahdnjhjobaa", sum := "f47908bc9cd080e23a57a45e834fbd9688484cc8823dbbdd80b2360e4cabc6a5", func := "pouch/pouchlaw7.HealthNotes", spec := "healthNotes", inPlace := ["math.Float64frombits", "math.Float64bits"], apart := false, narrowed := true }
def HealthNotesUptoSaid : Prop := healthNotesUptoRow.holds Try.pinned (OpenSpec.upto healthNotesSpec)

/-- 'pouchlaw7.HealthGoods', WHERE WHAT IT READS IS OF BULK AT MOST 1048576: true; the input reads as it did. -/
def healthGoodsUptoRow : OpenClaim := { program := "ythkgahdnjhjobaa", sum := "f47908bc9cd080e23a57a45e834fbd9688484cc8823dbbdd80b2360e4cabc6a5", func := "pouch/pouchlaw7.HealthGoods", spec := "healthGoods", inPlace := ["math.Float64frombits", "math.Float64bits"], apart := false, narrowed := true }
def HealthGoodsUptoSaid : Prop := healthGoodsUptoRow.holds Try.pinned (OpenSpec.upto healthGoodsSpec)

/-- 'pouchlaw7.HealthStays', WHERE WHAT IT READS IS OF BULK AT MOST 1048576: true; the input reads as it did. -/
def healthStaysUptoRow : OpenClaim := { program := "ythkgahdnjhjobaa", sum := "f47908bc9cd080e23a57a45e834fbd9688484cc8823dbbdd80b2360e4cabc6a5", func := "pouch/pouchlaw7.HealthStays", spec := "healthStays", inPlace := ["math.Float64frombits", "math.Float64bits"], apart := false, narrowed := true }
def HealthStaysUptoSaid : Prop := healthStaysUptoRow.holds Try.pinned (OpenSpec.upto healthStaysSpec)

/-- 'pouchlaw7.HealthEdges', WHERE WHAT IT READS IS OF BULK AT MOST 1048576: true; the input reads as it did. -/
def healthEdgesUptoRow : OpenClaim := { program := "ythkgahdnjhjobaa", sum := "f47908bc9cd080e23a57a45e834fbd9688484cc8823dbbdd80b2360e4cabc6a5", func := "pouch/pouchlaw7.HealthEdges", spec := "healthEdges", inPlace := ["math.Float64frombits", "math.Float64bits"], apart := false, narrowed := true }
def HealthEdgesUptoSaid : Prop := healthEdgesUptoRow.holds Try.pinned (OpenSpec.upto healthEdgesSpec)

/-- 'pouchlaw7.HealthRises', WHERE WHAT IT READS IS OF BULK AT MOST 1048576: true; the input reads as it did. -/
def healthRisesUptoRow : OpenClaim := { program := "ythkgahdnjhjobaa", sum := "f47908bc9cd080e23a57a45e834fbd9688484cc8823dbbdd80b2360e4cabc6a5", func := "pouch/pouchlaw7.HealthRises", spec := "healthRises", inPlace := ["math.Float64frombits", "math.Float64bits"], apart := false, narrowed := true }
def HealthRisesUptoSaid : Prop := healthRisesUptoRow.holds Try.pinned (OpenSpec.upto healthRisesSpec)

end Rows
end Go.Proofs.Ythkgahdnjhjobaa
