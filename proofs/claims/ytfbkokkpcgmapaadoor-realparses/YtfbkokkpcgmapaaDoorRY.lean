/-
  What the rows of this program list, continued: the library's two errors as the walks want them; an argument that is a list of texts, opened.
  Conditions: as each theorem states them.
-/
import Derived.Test.YtfbkokkpcgmapaaDoorRX
import Derived.Test.YtfbkokkpcgmapaaDoorRQ
import Derived.Stop.LaidErr
import Derived.SliceStrings
namespace Go.Proofs.YtfbkokkpcgmapaaDoor
open Go.ChangeShapes Go.WideShapes Go.ChangeAt Go.RowKit Go.Deep

theorem gSynType : (Tryd.prog.globals[4]?).map (·.type) = some 68 := by kernel_rfl
theorem gRngType : (Tryd.prog.globals[5]?).map (·.type) = some 68 := by kernel_rfl
theorem Tryd.cells112 : Tryd.prog.cellsOf 112 = 1 := by kernel_rfl
theorem Tryd.cells9 : Tryd.prog.cellsOf 9 = 1 := by kernel_rfl
theorem star_name : "*" ++ "errors.errorString" = "*errors.errorString" := by decide
theorem row_err (u : TypeId) (h : Tryd.prog.typeName? 3 u = some "*errors.errorString") : u = 110 :=
  typeName_ptr_named (nm := "errors.errorString") (by rw [star_name]; kernel_rfl) (by kernel_rfl) (by decide) u (by rw [star_name]; exact h)
theorem errs_of {W : World} (h1 : laidMetH Tryd.prog [("strconv.ErrRange", Rows.laid_strconv_ErrRange)] W) (h2 : laidMetH Tryd.prog [("strconv.ErrSyntax", Rows.laid_strconv_ErrSyntax)] W) : Errs W := by
  obtain ⟨a0, s0, hv0, -, -, -⟩ := laid_sentinel (laid_one h2 rfl) gSyn gSynType Tryd.underlying68 row_err Tryd.underlying110 Tryd.underlying112 rfl rfl Tryd.underlying9 Tryd.cells112 Tryd.cells9
  obtain ⟨a1, s1, hv1, -, -, -⟩ := laid_sentinel (laid_one h1 rfl) gRng gRngType Tryd.underlying68 row_err Tryd.underlying110 Tryd.underlying112 rfl rfl Tryd.underlying9 Tryd.cells112 Tryd.cells9
  exact ⟨⟨_, _, hv0⟩, ⟨_, _, hv1⟩⟩

/-- A list of texts in memory. -/
def StrsAt (w : World) (v : Value) (l : List (List UInt8)) : Prop :=
  ∃ A c, v = .slice A l.length c ∧ l.length ≤ maxLen ∧ (l ≠ [] → ∃ b o, A = some ⟨b, o, none⟩ ∧ b < w.heap.size ∧ ∀ i (hi : i < l.length), w.cell? ⟨b, o + i, none⟩ = some (.string ⟨l[i].toArray⟩))
theorem StrsAt.cell {w : World} {A : Option Addr} {c n : Nat} {l : List (List UInt8)} (h : StrsAt w (.slice A n c) l) {i : Nat} (hi : i < l.length) {B : Nat} {w' : World} (hB : B = w.heap.size) (hb : Below B w w') : ∃ b o, A = some ⟨b, o, none⟩ ∧ w'.cell? ⟨b, o + i, none⟩ = some (.string ⟨l[i].toArray⟩) := by
  obtain ⟨A', c', hv, _, hc⟩ := h
  obtain ⟨b, o, hA, hbl, hat⟩ := hc (fun e => by rw [e] at hi; simp at hi)
  injection hv with h1 h2 h3
  subst h1
  exact ⟨b, o, hA, (hb.cell (p := ⟨b, o + i, none⟩) (by rw [hB]; exact hbl)).trans (hat i hi)⟩

section
variable {H : Type} {enc : TypeId × Value → H} {w : World} {base : Nat} {held : Bool}
/-- An argument that reads as a list of texts lies in memory as the walks want it. -/
theorem strs_of_trod {fuel : Nat} {v : Value} {d : DataW H} {pl : List MemPlace} (h : DataW.trod enc Tryd.prog w base (fun _ => true) held fuel 40 [v] = some (d, pl)) : ∃ l, StrsAt w v l := by
  rcases open_strings Tryd.underlying40 Tryd.underlying9 Tryd.cells9 h with ⟨hv, _⟩ | ⟨a, len, cap, zs, hv, _, hlc, hcm, hzl, _, hcell, _⟩
  · simp only [List.cons.injEq, and_true] at hv
    exact ⟨[], none, 0, hv, Nat.zero_le _, fun h => absurd rfl h⟩
  · simp only [List.cons.injEq, and_true] at hv
    simp only [if_true] at hzl
    have hlen : ((zs.take len).map fun s => s.data.toList).length = len := by simp; omega
    refine ⟨(zs.take len).map fun s => s.data.toList, some a, cap, by rw [hlen]; exact hv, by rw [hlen]; omega, fun hne => ?_⟩
    have hpos : 0 < len := by
      apply Nat.pos_of_ne_zero
      rintro rfl
      exact hne (List.eq_nil_of_length_eq_zero hlen)
    obtain ⟨b, o, spot⟩ := a
    have hsp : spot = none := by simpa [Addr.add] using World.cell?_spot (hcell 0 (by omega))
    subst hsp
    have h0 := hcell 0 (by omega)
    rw [Addr.add_lit] at h0
    refine ⟨b, o, rfl, World.block_lt_of_cell? w _ h0, fun i hi => ?_⟩
    have hi' : i < len := by rw [hlen] at hi; exact hi
    have h1 := hcell i (by omega)
    rw [Addr.add_lit] at h1
    rw [h1]
    simp [List.getElem?_eq_getElem (show i < zs.length by omega)]
end
end Go.Proofs.YtfbkokkpcgmapaaDoor
