/-
  slices.Insert of one entry, wherever; package grey's copySince, add, walked.
  Conditions: as each theorem states them.
-/
import Derived.Test.YtaglobnfdgencaaDoorGH
namespace Go.Proofs.YtaglobnfdgencaaDoor
open Go.RowKit

theorem insert_any (l : List Gy) (x : Gy) (v : Value) (B p n : Nat) (w : World) (h : GO w B v l) (hx : EAt w n x) (hne : ∀ k, v.ownBlock = some k → n ≠ k) (hp : p ≤ l.length) (hB : B ≤ w.heap.size) (hl : l.length < 1000000) :
    Calls Tryd.prog 33 #[v, .int .i64 p, .slice (some ⟨n, 0, none⟩) 1 1] w fun e w' => ∃ u, e = .returned u ∧ GO w' B u (l.take p ++ x :: l.drop p) ∧ Below B w w' ∧ Keeps v w w' := by
  by_cases he : p = l.length
  · subst he
    have := insert_end l x v B n w h hx hB hl
    rwa [List.take_length, List.drop_length]
  · obtain ⟨g, cap, cur, rfl, hBg, hr⟩ := h.row (by omega)
    by_cases hroom : l.length + 1 ≤ cap
    · exact insert_shift l x B p n g cap cur w hr hBg hx (hne g rfl) (by omega) hroom
    · exact insert_grow l x B p n g cap cur w hr hBg hx (by omega) (by omega) hl

theorem since_take {l : List Gy} {i : Nat} (h : i < l.length) (t : Int) : sinceL (l.take (i + 1)) t = if t ≤ (l[i]).l then sinceL (l.take i) t ++ [l[i]] else sinceL (l.take i) t := by
  unfold sinceL
  rw [take_next h, List.filter_append]
  split <;> rename_i hh <;> simp [hh]
theorem since_len (l : List Gy) (t : Int) : (sinceL l t).length ≤ l.length := List.length_filter_le _ _
set_option maxHeartbeats 2000000 in
theorem since_any (l : List Gy) (t : Int) (v : Value) (w : World) (h : GR w v l) (hl : l.length < 1000000) :
    Calls Tryd.prog 22 #[v, .int .i64 t] w fun e w' => ∃ u, e = .returned u ∧ GO w' w.heap.size u (sinceL l t) ∧ Below w.heap.size w w' := by
  have HU := Lib.hid h
  obtain ⟨A, c, rfl, hlc, hc⟩ := h.slice
  clear h
  go_enter Tryd.func22, Tryd.ntmps22
  go_wp2_with fail
  go_loopw [5, 10] (fun xv iv wr => ∃ (i : Nat), iv = .int .i64 i ∧ i ≤ l.length ∧ GO wr w.heap.size xv (sinceL (l.take i) t) ∧ Below w.heap.size w wr) (fun _ iv _ => l.length - (intOf iv).toNat)
  case atStart => exact ⟨0, rfl, Nat.zero_le _, GO.nil _ _, Below.refl _ _⟩
  case round =>
    obtain ⟨i, rfl, hil, hrow, hb⟩ := hrel
    have HW := Lib.hid hrow
    have HB := Lib.hid hb
    have hsz := hb.size
    obtain ⟨gA, gC, rfl, _, _⟩ := hrow.slice
    clear hrow hb
    by_cases hlt : i < l.length
    · have hlti : (i : Int) < (l.length : Int) := by omega
      obtain ⟨b, o, hA, hbl, c0, c1, c2, c3⟩ := HU.out.at (i := i) hlt rfl HB.out
      subst hA
      have HT := Lib.hid (since_take hlt t)
      have htl : (sinceL (l.take i) t).length < 1000000 := by have := since_len (l.take i) t; rw [List.length_take] at this; omega
      generalize l[i] = x at *
      have HRW := Lib.hid (show GO ((wr.alloc (.cells #[.string x.k, .int .i64 x.b, .int .i64 x.l, .bool x.p] 53)).alloc (.cells #[.string x.k, .int .i64 x.b, .int .i64 x.l, .bool x.p] 53)) w.heap.size (.slice gA (sinceL (l.take i) t).length gC) (sinceL (l.take i) t) from World.ownsRow.alloc (World.ownsRow.alloc HW.out _) _)
      have HBK := Lib.hid (show ((wr.alloc (.cells #[.string x.k, .int .i64 x.b, .int .i64 x.l, .bool x.p] 53)).alloc (.cells #[.string x.k, .int .i64 x.b, .int .i64 x.l, .bool x.p] 53)).heap[wr.heap.size + 1]? = some (.cells #[.string x.k, .int .i64 x.b, .int .i64 x.l, .bool x.p] 53 (0, 0)) from by have := heap_alloc_new (wr.alloc (.cells #[.string x.k, .int .i64 x.b, .int .i64 x.l, .bool x.p] 53)) (.cells #[.string x.k, .int .i64 x.b, .int .i64 x.l, .bool x.p] 53); simpa using this)
      generalize hrr : sinceL (l.take i) t = rows at *
      by_cases hg : t ≤ x.l
      · rw [if_pos hg] at HT
        go_wp2_with (at_builtin; refine wpList_append_g _ (.tmp 18) (.tmp 20) w.heap.size (wr.heap.size + 1) (.slice gA rows.length gC) rows x rfl rfl rfl rfl HRW.out HBK.out (by simp; omega) htl ?_)
        intro g cap w2 hrow2 hgrow
        have HB2 := Lib.hid (show Below w.heap.size w w2 from below_grown_g ((HB.out.alloc (by omega) _).alloc (by simp; omega) _) (by simp; omega) HRW.out hgrow)
        have HR2 := Lib.hid hrow2
        clear hrow2 hgrow
        go_wp2_with fail
        refine ⟨⟨i + 1, by go_num, by omega, ?_, HB2.out⟩, by simp [intOf]; omega⟩
        rw [HT.out]
        exact HR2.out
      · rw [if_neg hg] at HT
        go_wp2_with fail
        refine ⟨⟨i + 1, by go_num, by omega, ?_, HB.out.alloc (by omega) _⟩, by simp [intOf]; omega⟩
        rw [HT.out]
        exact World.ownsRow.alloc HW.out _
    · have hlti : ¬ ((i : Int) < (l.length : Int)) := by omega
      obtain rfl : i = l.length := by omega
      rw [List.take_length] at HW
      go_wp2_with fail
      go_ret
      exact ⟨_, rfl, HW.out, HB.out⟩
end Go.Proofs.YtaglobnfdgencaaDoor
