/-
  An argument that can be read as data, opened: its two lists of numbers lie in memory as the walks want them.
  Conditions: as each theorem states them.
-/
import Derived.Test.YtaeehblmffidmaaNG
import Derived.ProofKit
import Derived.ChangeSlices
import Derived.Deep.Slices
import Derived.OpenShut
import Derived.HandedShaped
import Derived.ChangeOld
import Derived.Lib.SmallJoins
namespace Go.Proofs.Ytaeehblmffidmaa
open Go.ChangeShapes Go.WideShapes Go.ChangeAt Go.RowKit Go.Deep Go.Joins

theorem Try.own : ownKnob Try.prog.godebug = none := by kernel_rfl
theorem Try.laidOut : laidOutB Try.prog = true := by kernel_rfl
theorem Try.cells24 : Try.prog.cellsOf 24 = 2 := by kernel_rfl
theorem Try.cells3 : Try.prog.cellsOf 3 = 1 := by kernel_rfl

/-- A list of numbers that can be read. -/
theorem ints_of_trod {H : Type} {enc : TypeId × Value → H} {w : World} {base : Nat} {held : Bool} {fuel : Nat} {v : Value} {x : DataW H × List MemPlace} (h : DataW.trod enc Try.prog w base (fun _ => true) held fuel 22 [v] = some x) : ∃ l : List Int, NAt w v l := by
  rcases open_ints Try.underlying22 Try.underlying3 Try.cells3 h with ⟨hv, _⟩ | ⟨a, len, cap, zs, hv, _, hlc, hcm, hzl, _, hcell, hwf⟩
  · simp only [List.cons.injEq, and_true] at hv
    subst hv
    exact ⟨[], NAt.nil w⟩
  · simp only [List.cons.injEq, and_true] at hv
    simp only [if_true] at hzl
    have hlen : (zs.take len).length = len := by simp; omega
    refine ⟨zs.take len, some a, cap, by rw [hlen]; exact hv, by rw [hlen]; omega, by rw [hlen]; exact hlc, fun hne => ?_⟩
    have hpos : 0 < len := by
      apply Nat.pos_of_ne_zero
      rintro rfl
      exact hne (List.eq_nil_of_length_eq_zero hlen)
    obtain ⟨b, o, spot⟩ := a
    have hsp : spot = none := by simpa [Addr.add] using World.cell?_spot (hcell 0 (by omega))
    subst hsp
    have h0 := hcell 0 (by omega)
    rw [Addr.add_lit] at h0
    refine ⟨b, o, rfl, World.block_lt_of_cell? w _ h0, fun i hi => ?_⟩
    have hi' : i < len := by rw [hlen] at hi; exact hi
    have h1 := hcell i (by omega)
    rw [Addr.add_lit] at h1
    rw [h1]
    have h2 : zs.getD i 0 = zs[i]'(by omega) := by simp [List.getD, List.getElem?_eq_getElem (show i < zs.length by omega)]
    rw [h2, List.getElem_take]
end Go.Proofs.Ytaeehblmffidmaa
