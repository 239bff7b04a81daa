/-
  What the statements do with an answer's texts, walked: they are written over, and nothing else is.
  Conditions: as the theorem states them: the texts are the call's own.
-/
import Derived.Test.YtlefeebhilfkjaaI
namespace Go.Proofs.Ytlefeebhilfkjaa
open Go.RowKit

theorem strs_set (rows : List (List UInt8)) (j : Nat) (t : List UInt8) : (strsOf rows).set j (.string ⟨t.toArray⟩) = strsOf (rows.set j t) := by
  simp [strsOf, List.map_set]

set_option maxHeartbeats 1000000 in
set_option maxRecDepth 100000 in
theorem spoil_any (B : Nat) (rows : List (List UInt8)) (v : Value) (w : World) (hr : StrRow w B v rows) (hB : B ≤ w.heap.size) (hn : rows.length ≤ 10000) :
    Calls Try.prog 12 #[v] w fun e w' => e = .returned (.tuple #[]) ∧ Below B w w' := by
  have HN := Lib.hid hn
  obtain ⟨A, c, hv, hA⟩ : ∃ A c, v = .slice A rows.length c ∧ (rows.length ≠ 0 → ∃ g, A = some ⟨g, 0, none⟩) := by
    rcases hr.2 with ⟨h, h0⟩ | ⟨g, cap, cur, h, _⟩
    · exact ⟨none, 0, by rw [h, h0], fun k => absurd h0 k⟩
    · exact ⟨_, cap, h, fun _ => ⟨g, rfl⟩⟩
  subst hv
  have HR := Lib.hid hr
  have HA := Lib.hid hA
  clear hr hA
  go_enter Try.func12, Try.ntmps12
  go_wp2_with fail
  go_loopw [2] (fun iv wr => ∃ (j : Nat) (rs : List (List UInt8)), j ≤ rows.length ∧ iv = .int .i64 j ∧ rs.length = rows.length ∧ StrRow wr B (.slice A rows.length c) rs ∧ Below B w wr) (fun iv _ => rows.length - (intOf iv).toNat)
  case atStart => exact ⟨0, rows, Nat.zero_le _, rfl, rfl, HR.out, Below.refl _ _⟩
  case round =>
    obtain ⟨j, rs, hj, rfl, hrs, hrow, hb⟩ := hrel
    have HW := Lib.hid hrow
    have HB := Lib.hid hb
    have HS := Lib.hid hrs
    have hsz := hb.size
    clear hrow hb hrs
    by_cases hlt : j < rows.length
    · obtain ⟨g, rfl⟩ := HA.out (by omega)
      have hc : wr.cell? ⟨g, j, none⟩ = some (.string ⟨(rs[j]'(by rw [HS.out]; exact hlt)).toArray⟩) := by
        have := World.ownsRow.cellAt (by have := HW.out; unfold StrRow at this; rw [HS.out] at this; exact this) j (by omega)
        rw [this]
        simp [strsOf, HS.out, hlt]
      have hz : wr.frozen? ⟨g, j, none⟩ = false := World.ownsRow.frozenAt (by have := HW.out; unfold StrRow at this; rw [HS.out] at this; exact this) j
      have HST := Lib.hid (show StrRow (wr.setCell ⟨g, j, none⟩ (.string ⟨[63].toArray⟩)) B (.slice (some ⟨g, 0, none⟩) rows.length c) (rs.set j [63]) from by
        have h1 : wr.ownsRow B 9 1 (.slice (some ⟨g, 0, none⟩) rows.length c) rows.length (strsOf rs) := by have := HW.out; unfold StrRow at this; rw [HS.out] at this; exact this
        have h2 := World.ownsRow.stored h1 j (.string ⟨[63].toArray⟩)
        unfold StrRow
        rw [List.length_set, HS.out, ← strs_set]
        exact h2.1)
      have hgB : B ≤ g := (World.ownsRow.lt HW.out g rfl).1
      generalize (rs[j]'(by rw [HS.out]; exact hlt)) = s at *
      go_wp2_with fail
      exact ⟨⟨j + 1, rs.set j [63], hlt, by go_num, by rw [List.length_set, HS.out], HST.out, HB.out.setCell (p := ⟨g, j, none⟩) hgB _⟩, by simp [intOf]; omega⟩
    · have hrl := HN.out
      have hsl := HS.out
      have HRW := Lib.hid (show StrRow (wr.alloc (.cells #[.string ⟨#[63]⟩] 9)) B (.slice A rows.length c) rs from World.ownsRow.alloc HW.out _)
      have HBK := Lib.hid (show (wr.alloc (.cells #[.string ⟨#[63]⟩] 9)).heap[wr.heap.size]? = some (.cells #[.string ⟨[63].toArray⟩] 9 (0, 0)) from heap_alloc_new wr _)
      go_wp2_with (at_builtin; refine wpList_append_str _ (.tmp 12) (.tmp 13) B wr.heap.size (.slice A rows.length c) rs [63] rfl rfl rfl rfl HRW.out HBK.out (by simp; omega) (by omega) ?_)
      intro g cap w2 hrow2 hgrow
      have HB2 := Lib.hid (show Below B w w2 from (HB.out.alloc (by omega) _).grown hgrow (by simp; omega) (fun k hk => (World.ownsRow.lt HRW.out k hk).1))
      clear hrow2
      go_wp2_with fail
      go_end0
      exact ⟨rfl, HB2.out⟩
end Go.Proofs.Ytlefeebhilfkjaa
