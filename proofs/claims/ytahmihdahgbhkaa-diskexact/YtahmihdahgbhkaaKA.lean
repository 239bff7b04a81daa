/-
  What the statements weigh of their argument, walked.
  Conditions: as each theorem states them.
-/
import Derived.Test.YtahmihdahgbhkaaDY
namespace Go.Proofs.Ytahmihdahgbhkaa
open Go.RowKit

set_option maxHeartbeats 1000000 in
theorem weight_any (ls : List (List UInt8)) (v : Value) (w : World) (h : RC w v ls) (hll : ls.length ≤ 140737488355328) (hle0 : ∀ l ∈ ls, l.length ≤ 140737488355328) : Calls Try.prog 36 #[v] w fun e w' => ∃ s : Nat, e = .returned (.int .i64 s) ∧ s < 4611686018427387904 ∧ (s < 1048576 → ls.length ≤ s ∧ ∀ l ∈ ls, l.length ≤ s) ∧ w' = w := by
  have HU := Lib.hid h
  obtain ⟨A, c, rfl, hlc, hcm⟩ := h.slice
  clear h
  go_enter Try.func36, Try.ntmps36
  go_wp2_with fail
  go_loopw [3, 4] (fun nv iv wr => ∃ (i s : Nat), iv = .int .i64 i ∧ nv = .int .i64 s ∧ i ≤ ls.length ∧ s ≤ 140737488355328 + 1048576 + 140737488355328 ∧ ls.length ≤ s ∧ (∀ j (hj : j < ls.length), j < i → ls[j].length ≤ s) ∧ wr = w) (fun _ iv _ => ls.length - (intOf iv).toNat)
  case atStart => exact ⟨0, ls.length, rfl, rfl, Nat.zero_le _, by omega, Nat.le_refl _, fun j hj h => absurd h (Nat.not_lt_zero _), rfl⟩
  case round =>
    obtain ⟨i, s, rfl, rfl, hil, hs, hls, hj, he⟩ := hrel
    have he := he.symm
    subst he
    by_cases hlt : i < ls.length
    · have hlti : (i : Int) < (ls.length : Int) := by omega
      by_cases hsm : s < 1048576
      · have hsmi : (s : Int) < 1048576 := by omega
        obtain ⟨b, o, u, rfl, _, hcell, hrb⟩ := HU.out.at hlt
        have hle := hle0 _ (List.getElem_mem hlt)
        obtain ⟨uA, uc, rfl, _, _⟩ := hrb.slice
        have HJ := Lib.hid (show ∀ j (h : j < ls.length), j < i + 1 → ls[j].length ≤ s + ls[i].length from fun j h h' => by
          by_cases e : j = i
          · subst e; omega
          · have := hj j h (by omega); omega)
        have hw : IntKind.i64.wrap ((s : Int) + (ls[i].length : Int)) = ((s + ls[i].length : Nat) : Int) := by rw [wrap_id (by omega) (by omega)]; omega
        generalize hx : ls[i].length = x at *
        rw [Int.natCast_add] at hw
        clear hrb hj
        go_wp2_with fail
        exact ⟨⟨i + 1, s + x, by go_num, by rw [Int.natCast_add], by omega, by omega, by omega, HJ.out, by first | rfl | trivial⟩, by simp [intOf]; omega⟩
      · have hsmi : ¬ ((s : Int) < 1048576) := by omega
        go_wp2_with fail
        go_ret
        exact ⟨s, rfl, by omega, fun h => absurd h hsm, rfl⟩
    · have hlti : ¬ ((i : Int) < (ls.length : Int)) := by omega
      obtain rfl : i = ls.length := by omega
      have HJ := Lib.hid (show ∀ l ∈ ls, l.length ≤ s from fun l hl => by
        obtain ⟨j, hj', rfl⟩ := List.getElem_of_mem hl
        exact hj j hj' hj')
      clear hj
      go_wp2_with fail
      go_ret
      exact ⟨s, rfl, by omega, fun _ => ⟨hls, HJ.out⟩, rfl⟩
/-- Not heavy. -/
def lightP (F : List (List UInt8)) (L : List Ac) : Prop := F.length ≤ 8000 ∧ (∀ l ∈ F, l.length ≤ 8000) ∧ L.length ≤ 200 ∧ ∀ a ∈ L, a.b.length ≤ 8000 ∧ a.p.length ≤ 8000
/-- How what weighs ends: where it says no, all is short. -/
def HvB (F : List (List UInt8)) (L : List Ac) (e : Ending) : Prop := ∃ b : Bool, e = .returned (.bool b) ∧ (b = false → lightP F L)
set_option maxHeartbeats 2000000 in
theorem heavy_any (F : List (List UInt8)) (L : List Ac) (u v : Value) (w : World) (hF : RC w u F) (hF1 : F.length ≤ 140737488355328) (hF2 : ∀ l ∈ F, l.length ≤ 140737488355328) (hL : AcsAt w v L) :
    Calls Try.prog 8 #[.agg #[u, v]] w fun e w' => HvB F L e ∧ Below w.heap.size w w' := by
  have HL := Lib.hid hL
  obtain ⟨A0, c0, rfl, _, _⟩ := hF.slice
  obtain ⟨A1, c1, rfl, hlc, hcm⟩ := hL.slice
  obtain ⟨W0, hW0⟩ : ∃ W0, w.alloc (.cells #[.slice A0 F.length c0, .slice A1 L.length c1] 25) = W0 := ⟨_, rfl⟩
  have hX := show Blk W0 w.heap.size #[.slice A0 F.length c0, .slice A1 L.length c1] 25 by rw [← hW0]; exact Blk.new w _ _
  have hB := show Below w.heap.size w W0 by rw [← hW0]; exact (Below.refl _ w).alloc (Nat.le_refl _) _
  have HW := Lib.hid (weight_any F _ W0 (hF.later hB) hF1 hF2)
  have HB := Lib.hid hB
  have HL0 := Lib.hid (hL.later hB)
  have HX := Lib.hid hX
  have hsB := hB.size
  have e0 := hX.c 0 (u := .slice A0 F.length c0) rfl
  have e1 := hX.c 1 (u := .slice A1 L.length c1) rfl
  clear hF hL hX hB
  go_enter Try.func8, Try.ntmps8
  go_wp2_with fail
  refine Calls.mono HW.out ?_
  rintro e w1 ⟨s0, rfl, hs0, hsF, he⟩
  have he := he.symm
  subst he
  have HSF := Lib.hid hsF
  clear hsF hW0 e0 e1
  go_wp2_with fail
  go_loopw [3, 4] (fun nv iv wr => ∃ (i s : Nat), iv = .int .i64 i ∧ nv = .int .i64 s ∧ i ≤ L.length ∧ s < 4611686018427387904 + 562949953421312 ∧ s0 ≤ s ∧ (∀ j (hj : j < L.length), j < i → L[j].b.length ≤ s ∧ L[j].p.length ≤ s) ∧ Below W0.heap.size W0 wr) (fun _ iv _ => L.length - (intOf iv).toNat)
  case atStart => exact ⟨0, s0, rfl, rfl, Nat.zero_le _, by omega, Nat.le_refl _, fun j hj h => absurd h (Nat.not_lt_zero _), Below.refl _ _⟩
  case round =>
    obtain ⟨i, s, rfl, rfl, hil, hs, hss, hj, hbz⟩ := hrel
    have HBZ := Lib.hid hbz
    have HBF := Lib.hid (HB.out.trans (hbz.mono hsB))
    have e1 := (HX.out.later hbz).c 1 (u := .slice A1 L.length c1) rfl
    by_cases hlt : i < L.length
    · have hlti : (i : Int) < (L.length : Int) := by omega
      by_cases hsm : s < 1048576
      · have hsmi : (s : Int) < 1048576 := by omega
        obtain ⟨b, o, bv, pv, rfl, _, d0, d1, d2, d3, d4, d5, hrb, hia, _, hle, hlp⟩ := (HL0.out.later hbz).at hlt
        obtain ⟨bA, bc, rfl, _, _⟩ := hrb.slice
        obtain ⟨pA, pc, rfl, _, _⟩ := hia.slice
        have HJ := Lib.hid (show ∀ j (h : j < L.length), j < i + 1 → L[j].b.length ≤ s + L[i].b.length + L[i].p.length ∧ L[j].p.length ≤ s + L[i].b.length + L[i].p.length from fun j h h' => by
          by_cases e : j = i
          · subst e; omega
          · have := hj j h (by omega); omega)
        have hw1 : IntKind.i64.wrap ((s : Int) + (L[i].b.length : Int)) = (s : Int) + (L[i].b.length : Int) := wrap_id (by omega) (by omega)
        have hw2 : IntKind.i64.wrap ((s : Int) + (L[i].b.length : Int) + (L[i].p.length : Int)) = (s : Int) + (L[i].b.length : Int) + (L[i].p.length : Int) := wrap_id (by omega) (by omega)
        generalize L[i].b.length = x at *
        generalize L[i].p.length = y at *
        clear hrb hj hia d0 d1 d2 d3 hbz
        go_wp2_with fail
        go_quiet (fail)
        go_wp2_with fail
        exact ⟨⟨i + 1, s + x + y, by go_num, by rw [Int.natCast_add, Int.natCast_add], by omega, by omega, by omega, HJ.out, below_drewN HBZ.out _⟩, by simp [intOf]; omega⟩
      · have hsmi : ¬ ((s : Int) < 1048576) := by omega
        have hbig : (8000 : Int) < (s : Int) := by omega
        go_wp2_with fail
        go_ret
        exact ⟨⟨true, rfl, fun h => (nomatch h)⟩, HBF.out⟩
    · have hlti : ¬ ((i : Int) < (L.length : Int)) := by omega
      obtain rfl : i = L.length := by omega
      have HJ := Lib.hid (show ∀ a ∈ L, a.b.length ≤ s ∧ a.p.length ≤ s from fun a ha => by
        obtain ⟨j, hj', rfl⟩ := List.getElem_of_mem ha
        exact hj j hj' hj')
      clear hj
      by_cases hbig : 8000 < s
      · have hbigi : (8000 : Int) < (s : Int) := by omega
        go_wp2_with fail
        go_ret
        exact ⟨⟨true, rfl, fun h => (nomatch h)⟩, HBF.out⟩
      · have hbigi : ¬ ((8000 : Int) < (s : Int)) := by omega
        obtain ⟨q, hq⟩ : ∃ q, decide ((200 : Int) < (L.length : Int)) = q := ⟨_, rfl⟩
        have HQ := Lib.hid hq
        go_wp2_with fail
        go_ret
        refine ⟨⟨q, rfl, fun h => ?_⟩, HBF.out⟩
        have hq' := HQ.out
        rw [h] at hq'
        have hq2 := of_decide_eq_false hq'
        obtain ⟨f1, f2⟩ := HSF.out (by omega)
        exact ⟨by omega, fun l hl => by have := f2 l hl; omega, by omega, fun a ha => by have := HJ.out a ha; omega⟩
end Go.Proofs.Ytahmihdahgbhkaa
