/-
  An entry stored into a row of the call's own; package grey's ask, walked.
  Conditions: as each theorem states them.
-/
import Derived.Test.YtaglobnfdgencaaDoorGL
namespace Go.Proofs.YtaglobnfdgencaaDoor
open Go.RowKit

def set4 (w : World) (g o : Nat) (x : Gy) : World :=
  (((w.setCell ⟨g, o, none⟩ (.string x.k)).setCell ⟨g, o + 1, none⟩ (.int .i64 x.b)).setCell ⟨g, o + 2, none⟩ (.int .i64 x.l)).setCell ⟨g, o + 3, none⟩ (.bool x.p)
theorem set4_row {w : World} {g o : Nat} {cur : Array Value} {t : TypeId} (x : Gy) (hg : w.heap[g]? = some (.cells cur t (0, 0))) :
    set4 w g o x = w.setRow g ((((cur.setIfInBounds o (.string x.k)).setIfInBounds (o + 1) (.int .i64 x.b)).setIfInBounds (o + 2) (.int .i64 x.l)).setIfInBounds (o + 3) (.bool x.p)) := by
  unfold set4
  rw [setCell_eq_setRow w g o cur t (0, 0) _ hg,
    setCell_eq_setRow _ g (o + 1) _ t (0, 0) _ (setRow_heap w g cur _ t (0, 0) hg), setRow_setRow,
    setCell_eq_setRow _ g (o + 2) _ t (0, 0) _ (setRow_heap w g cur _ t (0, 0) hg), setRow_setRow,
    setCell_eq_setRow _ g (o + 3) _ t (0, 0) _ (setRow_heap w g cur _ t (0, 0) hg), setRow_setRow]
theorem below_set4 {B : Nat} {w w' : World} {g : Nat} (h : Below B w w') (hg : B ≤ g) (o : Nat) (x : Gy) : Below B w (set4 w' g o x) :=
  (((h.setCell (p := ⟨g, o, none⟩) hg _).setCell (p := ⟨g, o + 1, none⟩) hg _).setCell (p := ⟨g, o + 2, none⟩) hg _).setCell (p := ⟨g, o + 3, none⟩) hg _
theorem gcs_set (x : Gy) : ∀ (l : List Gy) (p : Nat), p < l.length → gcs (l.set p x) = ((((gcs l).set (p * 4) (.string x.k)).set (p * 4 + 1) (.int .i64 x.b)).set (p * 4 + 2) (.int .i64 x.l)).set (p * 4 + 3) (.bool x.p)
  | y :: r, 0, _ => by simp [gcs, gc]
  | y :: r, p + 1, h => by
    have ih := gcs_set x r p (by simpa using h)
    rw [List.set_cons_succ, gcs, gcs, ih]
    have hl : (gc y).length = 4 := rfl
    rw [show (p + 1) * 4 = (gc y).length + p * 4 by omega]
    rw [List.set_append_right _ _ (by omega), Nat.add_sub_cancel_left,
      List.set_append_right _ _ (by omega), show (gc y).length + p * 4 + 1 - (gc y).length = p * 4 + 1 by omega,
      List.set_append_right _ _ (by omega), show (gc y).length + p * 4 + 2 - (gc y).length = p * 4 + 2 by omega,
      List.set_append_right _ _ (by omega), show (gc y).length + p * 4 + 3 - (gc y).length = p * 4 + 3 by omega]
theorem GRow.put {w : World} {g cap : Nat} {cur : List Value} {l : List Gy} (h : GRow w g cap cur l) (p : Nat) (hp : p < l.length) (x : Gy) : ∃ cur', GRow (set4 w g (p * 4) x) g cap cur' (l.set p x) := by
  refine ⟨(((cur.set (p * 4) (.string x.k)).set (p * 4 + 1) (.int .i64 x.b)).set (p * 4 + 2) (.int .i64 x.l)).set (p * 4 + 3) (.bool x.p), ?_⟩
  rw [set4_row x h.blk]
  have e : ((((cur.toArray.setIfInBounds (p * 4) (.string x.k)).setIfInBounds (p * 4 + 1) (.int .i64 x.b)).setIfInBounds (p * 4 + 2) (.int .i64 x.l)).setIfInBounds (p * 4 + 3) (.bool x.p)) = ((((cur.set (p * 4) (.string x.k)).set (p * 4 + 1) (.int .i64 x.b)).set (p * 4 + 2) (.int .i64 x.l)).set (p * 4 + 3) (.bool x.p)).toArray := by simp
  rw [e]
  refine h.set _ _ (by simp) (by rw [List.length_set]; exact h.le) ?_
  rw [List.length_set, gcs_set x l p hp, ← h.take]
  simp only [List.take_set]
theorem GRow.at {w : World} {g cap : Nat} {cur : List Value} {l : List Gy} (h : GRow w g cap cur l) {i : Nat} (hi : i < l.length) :
    w.cell? ⟨g, i * 4, none⟩ = some (.string l[i].k) ∧ w.cell? ⟨g, i * 4 + 1, none⟩ = some (.int .i64 l[i].b) ∧ w.cell? ⟨g, i * 4 + 2, none⟩ = some (.int .i64 l[i].l) ∧ w.cell? ⟨g, i * 4 + 3, none⟩ = some (.bool l[i].p) := by
  have k : ∀ j u, j < 4 → (gc l[i])[j]? = some u → w.cell? ⟨g, i * 4 + j, none⟩ = some u := fun j u hj hu => h.cell ((gcs_at l i hi j hj).trans hu)
  exact ⟨k 0 _ (by omega) rfl, k 1 _ (by omega) rfl, k 2 _ (by omega) rfl, k 3 _ (by omega) rfl⟩
theorem GRow.fz {w : World} {g cap : Nat} {cur : List Value} {l : List Gy} (h : GRow w g cap cur l) (j : Nat) : w.frozen? ⟨g, j, none⟩ = false := by
  have hb := h.blk
  simp [World.frozen?, hb]
end Go.Proofs.YtaglobnfdgencaaDoor
