/-
  The law AddrQuotes, walked: it answers true and turns nothing that was there.
  Conditions: as the theorem states them.
-/
import Derived.Test.YtlnpenmcpcmidaaO
namespace Go.Proofs.Ytlnpenmcpcmidaa
open Go.RowKit

def qIn : List (List UInt8) := [[34, 97, 46, 98, 34, 64, 120], [34, 97, 92, 98, 34, 64, 120], [34, 97, 32, 98, 34, 64, 120], [34, 97, 92, 32, 98, 34, 64, 120], [34, 97, 92, 34, 98, 34, 64, 120], [34, 34, 64, 120], [34, 97, 46, 46, 98, 34, 64, 120], [34, 97, 64, 98, 34, 64, 120]]
def qOut : List (List UInt8) := [[97, 46, 98], [97, 98], [34, 97, 32, 98, 34], [34, 97, 32, 98, 34], [34, 97, 92, 34, 98, 34], [34, 34], [34, 97, 46, 46, 98, 34], [34, 97, 64, 98, 34]]
def qBad : List (List UInt8) := [[97, 46, 46, 98, 64, 120], [46, 97, 64, 120], [97, 46, 64, 120], [97, 64], [64, 120], [97], [97, 32, 98, 64, 120], [97, 64, 98, 32, 99], [97, 64, 45, 98], [97, 64, 98, 45], [97, 64, 98, 46, 46, 99], [34, 97, 64, 120], [97, 34, 98, 64, 120], [97, 64, 91, 49, 46, 50, 46, 51, 93], [97, 64, 91, 49, 46, 50, 46, 51, 46, 50, 53, 54, 93], [97, 64, 91, 48, 49, 46, 50, 46, 51, 46, 52, 93], [34, 97, 34, 98, 64, 120], [34, 97, 92, 34, 64, 120]]

theorem q_good : ∀ j, j < 8 → parseL (qIn.getD j []) = some (qOut.getD j [], [120]) := by decide +kernel
theorem q_bad : ∀ j, j < 18 → parseL (qBad.getD j []) = none := by decide +kernel
theorem q_last : parseL [97, 64, 91, 49, 48, 46, 48, 46, 50, 53, 53, 46, 49, 93] = some ([97], [91, 49, 48, 46, 48, 46, 50, 53, 53, 46, 49, 93]) := by decide +kernel
theorem q_short : ∀ j, j < 8 → (qIn.getD j []).length ≤ 100 := by decide +kernel
theorem q_short2 : ∀ j, j < 18 → (qBad.getD j []).length ≤ 100 := by decide +kernel

/-- The cells of a row of texts. -/
def cellsOfL (l : List (List UInt8)) : Array Value := (l.map fun s => Value.string ⟨s.toArray⟩).toArray
theorem cellsOf_at (l : List (List UInt8)) (j : Nat) (h : j < l.length) : (cellsOfL l)[j]? = some (.string ⟨(l.getD j []).toArray⟩) := by
  unfold cellsOfL
  rw [List.getElem?_toArray, List.getElem?_map, List.getElem?_eq_getElem h, List.getD_eq_getElem?_getD, List.getElem?_eq_getElem h]
  rfl
theorem block_at {w : World} {b : Nat} {l : List (List UInt8)} (hb : w.heap[b]? = some (.cells (cellsOfL l) 9 (0, 0))) (j : Nat) (h : j < l.length) : w.cell? ⟨b, j, none⟩ = some (.string ⟨(l.getD j []).toArray⟩) := by
  rw [Lib.cell_of_heap hb]
  exact cellsOf_at l j h

theorem num_same (n : Int) (w : World) : Calls Try.prog 13 #[.int .i64 n] w fun e w' => e = .returned (.int .i64 n) ∧ w' = w :=
  (num_any n w).mono fun _ _ h => ⟨h.1, h.2.symm⟩

set_option maxHeartbeats 1000000 in
set_option maxRecDepth 100000 in
theorem quotes_any (n0 : Nat) (A0 : Option Addr) (k0 : Nat) (w : World) (hn0 : n0 ≤ maxLen) :
    Calls Try.prog 8 #[.slice A0 n0 k0] w fun e w' => e = .returned (.bool true) ∧ Below w.heap.size w w' := by
  unfold maxLen at hn0
  have hn0i : (0 : Int) ≤ (n0 : Int) := by omega
  obtain ⟨W2, hW2⟩ : ∃ W, W = (w.alloc (.cells (cellsOfL qIn) 9)).alloc (.cells (cellsOfL qOut) 9) := ⟨_, rfl⟩
  have HW2 := Lib.hid hW2
  have hs2 : W2.heap.size = w.heap.size + 2 := by rw [hW2]; simp
  have HI := Lib.hid (show W2.heap[w.heap.size]? = some (.cells (cellsOfL qIn) 9 (0, 0)) by rw [hW2, Below.heap_alloc _ _ _ (by simp)]; exact heap_alloc_new w _)
  have HO := Lib.hid (show W2.heap[w.heap.size + 1]? = some (.cells (cellsOfL qOut) 9 (0, 0)) by rw [hW2]; have := heap_alloc_new (w.alloc (.cells (cellsOfL qIn) 9)) (.cells (cellsOfL qOut) 9); rwa [World.size_alloc] at this)
  have HB2 := Lib.hid (show Below w.heap.size w W2 by rw [hW2]; exact ((Below.refl _ w).alloc (Nat.le_refl _) _).alloc (by simp) _)
  have HS2 := Lib.hid hs2
  clear hW2 hs2
  go_enter Try.func8, Try.ntmps8
  go_wp2_with fail
  go_loopw [5] (fun iv wr => ∃ j : Nat, j ≤ 8 ∧ iv = .int .i64 j ∧ Below (w.heap.size + 2) W2 wr) (fun iv _ => 8 - (intOf iv).toNat)
  case atStart => exact ⟨0, Nat.zero_le _, rfl, by rw [HW2.out]; exact Below.refl _ _⟩
  case round =>
    obtain ⟨j, hj, rfl, hB⟩ := hrel
    have HB := Lib.hid hB
    have hsz : w.heap.size + 2 ≤ wr.heap.size := by have := hB.size; rw [HS2.out] at this; exact this
    have hI := block_at ((hB.block w.heap.size (by omega)).trans HI.out)
    have hO := block_at ((hB.block (w.heap.size + 1) (by omega)).trans HO.out)
    clear hB
    by_cases hlt : j < 8
    · have hji : (j : Int) < 8 := by omega
      have c0 := hI j hlt
      have c1 := hO j hlt
      have HP := Lib.hid (parse_any (qIn.getD j []) wr (by have := q_short j hlt; omega))
      rw [q_good j hlt] at HP
      have HP' := Lib.hid (show Calls Try.prog 20 #[.string ⟨(qIn.getD j []).toArray⟩] wr fun e w' => e = .returned (.tuple #[.agg #[.string ⟨(qOut.getD j []).toArray⟩, .string ⟨#[120]⟩], .int .i64 0]) ∧ Below wr.heap.size wr w' from HP.out)
      clear hI hO HP
      generalize qIn.getD j [] = s at *
      generalize qOut.getD j [] = t at *
      go_wp2_with fail
      refine Calls.mono HP'.out ?_
      rintro e w1 ⟨rfl, hb⟩
      have HB1 := Lib.hid ((HB.out.trans (hb.mono hsz)).alloc (Nat.le_trans hsz hb.size) (.cells #[.string ⟨t.toArray⟩, .string ⟨#[120]⟩] 25))
      have d1 : w1.cell? ⟨w.heap.size + 1, j, none⟩ = some (.string ⟨t.toArray⟩) := (hb.cell (p := ⟨w.heap.size + 1, j, none⟩) (by show w.heap.size + 1 < _; omega)).trans c1
      have hlt1 : w.heap.size + 1 < w1.heap.size := by have := hb.size; omega
      clear hb HP' c0 c1
      have hne : (t != t) = false := by simp
      go_wp2_with fail
      go_quiet ((go_at_call 13; exact Calls.quiet_of_same (num_same _ _)))
      go_wp2_with fail
      exact ⟨⟨j + 1, hlt, by go_num, below_drewN HB1.out _⟩, by simp [intOf]; omega⟩
    · obtain rfl : j = 8 := by omega
      clear hI hO hlt hj
      have HBW := Lib.hid (show Below w.heap.size w wr from HB2.out.trans (HB.out.mono (by omega)))
      have hszw : w.heap.size ≤ wr.heap.size := by omega
      clear HB HI HO HB2 HW2 HS2 hsz
      generalize wr = wo at *
      rw [show ((8 : Nat) : Int) = 8 from rfl]
      obtain ⟨W3, hW3⟩ : ∃ W, W = wo.alloc (.cells (cellsOfL qBad) 9) := ⟨_, rfl⟩
      have HW3 := Lib.hid hW3
      have HS3 := Lib.hid (show W3.heap.size = wo.heap.size + 1 by rw [hW3]; simp)
      have HI := Lib.hid (show W3.heap[wo.heap.size]? = some (.cells (cellsOfL qBad) 9 (0, 0)) by rw [hW3]; exact heap_alloc_new wo _)
      have HB3 := Lib.hid (show Below w.heap.size w W3 by rw [hW3]; exact HBW.out.alloc hszw _)
      clear hW3
      go_wp2_with fail
      go_loopw [9] (fun iv wr => ∃ j : Nat, j ≤ 18 ∧ iv = .int .i64 j ∧ Below (wo.heap.size + 1) W3 wr) (fun iv _ => 18 - (intOf iv).toNat)
      case atStart => exact ⟨0, Nat.zero_le _, rfl, by rw [HW3.out]; exact Below.refl _ _⟩
      case round =>
        obtain ⟨j, hj, rfl, hB⟩ := hrel
        have HB := Lib.hid hB
        have hsz : wo.heap.size + 1 ≤ wr.heap.size := by have := hB.size; rw [HS3.out] at this; exact this
        have hI := block_at ((hB.block wo.heap.size (by omega)).trans HI.out)
        clear hB
        by_cases hlt : j < 18
        · have hji : (j : Int) < 18 := by omega
          have c0 := hI j hlt
          have HP := Lib.hid (parse_any (qBad.getD j []) wr (by have := q_short2 j hlt; omega))
          rw [q_bad j hlt] at HP
          have HP' := Lib.hid (show Calls Try.prog 20 #[.string ⟨(qBad.getD j []).toArray⟩] wr fun e w' => e = .returned (.tuple #[.agg #[.string ⟨#[]⟩, .string ⟨#[]⟩], .int .i64 8]) ∧ Below wr.heap.size wr w' from HP.out)
          clear hI HP
          generalize qBad.getD j [] = s at *
          go_wp2_with fail
          refine Calls.mono HP'.out ?_
          rintro e w1 ⟨rfl, hb⟩
          have HB1 := Lib.hid ((HB.out.trans (hb.mono hsz)).alloc (Nat.le_trans hsz hb.size) (.cells #[.string ⟨#[]⟩, .string ⟨#[]⟩] 25))
          clear hb HP' c0
          go_wp2_with fail
          refine (num_any _ _).mono ?_
          rintro e w2 ⟨rfl, rfl⟩
          go_wp2_with fail
          exact ⟨⟨j + 1, hlt, by go_num, HB1.out⟩, by simp [intOf]; omega⟩
        · obtain rfl : j = 18 := by omega
          clear hI hlt hj
          have HBW := Lib.hid (show Below w.heap.size w wr from HB3.out.trans (HB.out.mono (by omega)))
          have h := parse_any [97, 64, 91, 49, 48, 46, 48, 46, 50, 53, 53, 46, 49, 93] wr (by decide)
          rw [q_last] at h
          have HP := Lib.hid (show Calls Try.prog 20 #[.string ⟨#[97, 64, 91, 49, 48, 46, 48, 46, 50, 53, 53, 46, 49, 93]⟩] wr fun e w' => e = .returned (.tuple #[.agg #[.string ⟨#[97]⟩, .string ⟨#[91, 49, 48, 46, 48, 46, 50, 53, 53, 46, 49, 93]⟩], .int .i64 0]) ∧ Below wr.heap.size wr w' from h)
          clear h HB HI HB3 HW3 HS3
          go_wp2_with fail
          refine Calls.mono HP.out ?_
          rintro e w1 ⟨rfl, hb⟩
          have hb1 := upB HBW.out (Nat.le_refl _) hb
          have HB1 := Lib.hid (hb1.alloc hb1.size (.cells #[.string ⟨#[97]⟩, .string ⟨#[91, 49, 48, 46, 48, 46, 50, 53, 53, 46, 49, 93]⟩] 25))
          clear hb hb1 HP
          go_wp2_with fail
          refine (num_any _ _).mono ?_
          rintro e w2 ⟨rfl, rfl⟩
          go_wp2_with fail
          refine (wakes_any _).mono ?_
          rintro e w3 ⟨rfl, hb3⟩
          have HB4 := Lib.hid (upB HB1.out (Nat.le_refl _) hb3)
          clear hb3
          go_wp2_with fail
          go_ret
          exact ⟨rfl, HB4.out⟩
end Go.Proofs.Ytlnpenmcpcmidaa
