/-
  What the rows of this program list: the library's tables as the walks want them; an argument that is a list of words, opened; a world for the witness.
  Conditions: as each theorem states them.
-/
import Derived.Test.YtfbkokkpcgmapaaDoorCards
import Derived.Test.YtfbkokkpcgmapaaDoorTie
import Derived.Test.YtfbkokkpcgmapaaDoorRG
import Derived.ProofKit
import Derived.ChangeSlices
import Derived.Deep.Slices
import Derived.OpenShut
import Derived.Deep.DeepHandedRow
import Derived.Lib.LaidTab
import Derived.LaidSub
import Derived.MakeChecks
import Derived.Lay
import Derived.Shelf.Vars
namespace Go.Proofs.YtfbkokkpcgmapaaDoor
open Go.ChangeShapes Go.WideShapes Go.ChangeAt Go.RowKit Go.Deep

theorem Tryd.own : ownKnob Tryd.prog.godebug = none := by kernel_rfl
theorem Tryd.laidOut : laidOutB Tryd.prog = true := by kernel_rfl
theorem gPowType : (Tryd.prog.globals[2]?).map (·.type) = some 85 := by kernel_rfl
theorem gDebType : (Tryd.prog.globals[1]?).map (·.type) = some 76 := by kernel_rfl
theorem Tryd.cells85 : Tryd.prog.cellsOf 85 = 20 := by kernel_rfl
theorem Tryd.cells32 : Tryd.prog.cellsOf 32 = 1 := by kernel_rfl
theorem Tryd.cells76 : Tryd.prog.cellsOf 76 = 64 := by kernel_rfl
theorem Tryd.cells5 : Tryd.prog.cellsOf 5 = 1 := by kernel_rfl

theorem laid_one {W : World} {n : String} {d : DataW Unit} (h : laidMetH Tryd.prog [(n, d)] W) (hd : d.handleName?.isNone = true) : laidMet Tryd.prog [(n, d)] W := by
  rw [MakeChecks.laidMetH_plain _ _ _ (by simp [hd])] at h
  exact h
set_option maxRecDepth 100000 in
theorem tabs_of {W : World} (h1 : laidMetH Tryd.prog [("internal/strconv.uint64pow10", Rows.laid_internal_strconv_uint64pow10)] W) (h2 : laidMetH Tryd.prog [("math/bits.deBruijn64tab", Rows.laid_math_bits_deBruijn64tab)] W) : Tabs W := by
  have k1 : laidMet Tryd.prog [("internal/strconv.uint64pow10", Lib.tabData .u64 Lib.pow10Tab)] W := laid_one h1 rfl
  have k2 : laidMet Tryd.prog [("math/bits.deBruijn64tab", Lib.tabData .u8 dbTab)] W := laid_one h2 rfl
  exact ⟨Lib.tabIs_of_head (rest := []) gPow gPowType Tryd.underlying85 Tryd.underlying32 Tryd.cells32 Tryd.cells85 k1, Lib.tabIs_of_head (rest := []) gDeb gDebType Tryd.underlying76 Tryd.underlying5 Tryd.cells5 Tryd.cells76 k2⟩

section
variable {H : Type} {enc : TypeId × Value → H} {w : World} {base : Nat} {held : Bool}
/-- An argument that reads as a list of words lies in memory as the walks want it. -/
theorem us_of_trod {fuel : Nat} {v : Value} {d : DataW H} {pl : List MemPlace} (h : DataW.trod enc Tryd.prog w base (fun _ => true) held fuel 22 [v] = some (d, pl)) : ∃ l, UsAt w v l := by
  rcases open_ints Tryd.underlying22 Tryd.underlying32 Tryd.cells32 h with ⟨hv, _⟩ | ⟨a, len, cap, zs, hv, _, hlc, hcm, hzl, _, hcell, hwf⟩
  · simp only [List.cons.injEq, and_true] at hv
    exact ⟨[], none, 0, hv, Nat.zero_le _, by simp, fun h => absurd rfl h⟩
  · simp only [List.cons.injEq, and_true] at hv
    simp only [if_true] at hzl
    have hlen : ((zs.take len).map Int.toNat).length = len := by simp; omega
    refine ⟨(zs.take len).map Int.toNat, some a, cap, by rw [hlen]; exact hv, by rw [hlen]; omega, ?_, fun hne => ?_⟩
    · intro x hx
      obtain ⟨z, hz, rfl⟩ := List.mem_map.1 hx
      have := hwf z (List.mem_of_mem_take hz)
      simp [Lit.wf, IntKind.min, IntKind.max, IntKind.signed, IntKind.bits] at this
      omega
    · have hpos : 0 < len := by
        apply Nat.pos_of_ne_zero
        rintro rfl
        exact hne (List.eq_nil_of_length_eq_zero hlen)
      obtain ⟨b, o, spot⟩ := a
      have hsp : spot = none := by simpa [Addr.add] using World.cell?_spot (hcell 0 (by omega))
      subst hsp
      have h0 := hcell 0 (by omega)
      rw [Addr.add_lit] at h0
      refine ⟨b, o, rfl, World.block_lt_of_cell? w _ h0, fun i hi => ?_⟩
      have hi' : i < len := by rw [hlen] at hi; exact hi
      have h1 := hcell i (by omega)
      rw [Addr.add_lit] at h1
      rw [h1]
      have h2 : zs.getD i 0 = zs[i]'(by omega) := by simp [List.getD, List.getElem?_eq_getElem (show i < zs.length by omega)]
      have h3 := hwf _ (List.getElem_mem (show i < zs.length by omega))
      simp [Lit.wf, IntKind.min, IntKind.max, IntKind.signed, IntKind.bits] at h3
      rw [h2, List.getElem_map, List.getElem_take, Int.toNat_of_nonneg h3.1]
end

theorem witness_row_shaped {H : Type} {enc : TypeId × Value → H} {C : Checked} {os : Os} {f : FuncId} {fn : Func} {s : OpenSpec} {conds : List PathCond} {apart : Bool} {laid : List (String × DataW Unit)} (w0 : World) (args : Array Value) (hos : w0.os = os)
    (hsh : (w0.forCall (fun _ _ => 0) ⟨#[], args, []⟩).Shaped C.prog)
    (hok : Input.okWideB C.prog (w0.forCall (fun _ _ => 0) ⟨#[], args, []⟩) f ⟨#[], args, []⟩ = true)
    (hrow : s.preRow enc C.prog fn conds apart laid (w0.forCall (fun _ _ => 0) ⟨#[], args, []⟩).memory args) :
    ∃ (w : World) (tape : Tape) (i : Input), w.os = os ∧ (w.forCall tape i).Shaped C.prog ∧ i.vars = [] ∧ Input.okWide C.prog (w.forCall tape i) .any w.heap.size f i ∧
      s.preRow enc C.prog fn conds apart laid (w.forCall tape i).memory i.args ∧ ({} : Assume).holds C.prog (lone (Frame.enter C.prog f i.args .normal) [] (w.forCall tape i)) :=
  ⟨w0, fun _ _ => 0, ⟨#[], args, []⟩, hos, hsh, (Input.okWide_of_okWideB (base := 0) hok).1, (Input.okWide_of_okWideB hok).2, hrow, by
    simp only [Assume.holds]
    exact ⟨by simp, by simp, fun _ => Modest.zero, by simp, by simp⟩⟩
end Go.Proofs.YtfbkokkpcgmapaaDoor
