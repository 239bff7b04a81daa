/-
  CopyBytes, EqBytes and EqLines of the page, walked: a copy is the same bytes in new memory; two slices that read the same are the same.
  Conditions: as each theorem states them.
-/
import Derived.Test.YtnhmhdfnphlngaaI
import Derived.Maps.AppendAt
namespace Go.Proofs.Ytnhmhdfnphlngaa
open Go.RowKit

theorem bytesAt_of_own {w : World} {B n : Nat} {v : Value} {x : List UInt8} (h : w.ownsRow B 5 1 v n (x.map byteCell)) : BytesAt w w.heap.size v x := by
  have hl : x.length = n := by have := h.1; simpa using this
  subst hl
  rcases h.2 with ⟨rfl, h0⟩ | ⟨g, cap, cur, rfl, _, hg, hc, _⟩
  · have hx : x = [] := List.eq_nil_of_length_eq_zero h0
    subst hx
    exact ⟨none, 0, rfl, Nat.zero_le _, fun h => absurd rfl h⟩
  · refine ⟨_, cap, rfl, hc, fun _ => ⟨_, rfl, (Array.getElem?_eq_some_iff.1 hg).1, fun j hj => ?_⟩⟩
    rw [Addr.add_lit, Nat.zero_add, h.cellAt j (by omega)]
    simp [hj, byteCell]

set_option maxHeartbeats 1000000 in
theorem copy_any (x : List UInt8) (bv : Value) (w : World) (hx : BytesAt w w.heap.size bv x) (hxl : x.length < 1000000) :
    Calls Try.prog 12 #[bv] w fun e w' => ∃ v, e = .returned v ∧ w'.ownsRow w.heap.size 5 1 v x.length (x.map byteCell) ∧ Below w.heap.size w w' := by
  obtain ⟨A, xc, rfl, hxc, hxx⟩ := hx
  have HX := Lib.hid hxx
  clear hxx
  obtain ⟨i0, hi0, hz0, hs0, hb0⟩ := info_parts info5
  have hI := Lib.hid hi0
  have hZ := Lib.hid hz0
  have hS := Lib.hid hs0
  have hBy := Lib.hid hb0
  clear hi0 hz0 hs0 hb0
  go_enter Try.func12, Try.ntmps12
  go_wp2_with fail
  go_loopw [3, 4] (fun mv i wr => ∃ j : Nat, j ≤ x.length ∧ i = .int .i64 j ∧ wr.ownsRow w.heap.size 5 1 mv j ((x.take j).map byteCell) ∧ Below w.heap.size w wr) (fun _ i _ => x.length - (intOf i).toNat)
  case atStart => exact ⟨0, Nat.zero_le _, rfl, ⟨rfl, .inl ⟨rfl, rfl⟩⟩, Below.refl _ _⟩
  case round =>
    obtain ⟨j, hj, rfl, hO, hB⟩ := hrel
    by_cases hlt : j < x.length
    · obtain ⟨a, rfl, hab, hac⟩ := HX.out (fun e => by rw [e] at hlt; exact absurd hlt (by simp))
      have hcj : wr.cell? (a.add j) = some (.int .u8 (x[j].toNat : Int)) := (hB.cell (by rw [block_add]; exact hab)).trans (hac j hlt)
      have hsn := Lib.hid (show (x.take (j + 1)).map byteCell = (x.take j).map byteCell ++ [byteCell x[j]] from by rw [take_snoc x j hlt, List.map_append]; rfl)
      have hsz := hB.size
      have hOa := Lib.hid (hO.alloc (.cells #[.int .u8 (x[j].toNat : Int)] 5))
      have hcell := Lib.hid (cell_one_new wr (byteCell x[j]) 5)
      have h63 := Lib.hid (show j + 1 ≤ maxLen from by unfold maxLen; omega)
      have hrow := Lib.hid (fun k (hk : u3.ownBlock = some k) => (hO.lt k hk).1)
      have hHB := Lib.hid hB
      clear hac hO
      go_wp2_with (at_builtin; refine wpList_append_own_at _ rfl (.tmp 11) (.tmp 16) 26 rfl w.heap.size 5 i0 (.int .u8 0) 1 1 Try.underlying26 hI.out hZ.out hS.out hBy.out rfl Nat.one_pos u3 j ((x.take j).map byteCell) rfl hOa.out ⟨wr.heap.size, 0, none⟩ 1 1 [byteCell x[j]] rfl rfl hcell.out (by simp [size_byteCell]) h63.out (by omega) (by simp; omega) ?_)
      intro v' w1 hown' hgrow hnil hat
      go_wp2
      have hBa := hHB.out.alloc hsz (.cells #[.int .u8 (x[j].toNat : Int)] 5)
      exact ⟨⟨j + 1, hlt, by go_num, by rw [hsn.out, List.map_take]; exact hown', hBa.grown hgrow hBa.size (hrow.out ·)⟩, by simp [intOf]; omega⟩
    · have hje := Lib.hid (show j = x.length by omega)
      have hH := Lib.hid hO
      clear hO
      go_wp2
      go_ret
      have ho := hH.out
      rw [hje.out, List.take_length] at ho
      exact ⟨_, rfl, ho, hB⟩

set_option maxHeartbeats 1000000 in
theorem eqBytes_same (x : List UInt8) (va vb : Value) (w : World) (ha : BytesAt w w.heap.size va x) (hb : BytesAt w w.heap.size vb x) (hxl : x.length < 1000000) :
    Calls Try.prog 16 #[va, vb] w fun e w' => e = .returned (.bool true) ∧ Below w.heap.size w w' := by
  obtain ⟨A, ca, rfl, _, hxa⟩ := ha
  obtain ⟨B, cb, rfl, _, hxb⟩ := hb
  have HA := Lib.hid hxa
  have HB := Lib.hid hxb
  clear hxa hxb
  go_enter Try.func16, Try.ntmps16
  go_wp2_with fail
  go_loopw [5] (fun i wr => ∃ j : Nat, j ≤ x.length ∧ i = .int .i64 j ∧ Below w.heap.size w wr) (fun i _ => x.length - (intOf i).toNat)
  case atStart => exact ⟨0, Nat.zero_le _, rfl, Below.refl _ _⟩
  case round =>
    obtain ⟨j, hj, rfl, hBw⟩ := hrel
    by_cases hlt : j < x.length
    · obtain ⟨a, rfl, hab, hac⟩ := HA.out (fun e => by rw [e] at hlt; exact absurd hlt (by simp))
      obtain ⟨b, rfl, hbb, hbc⟩ := HB.out (fun e => by rw [e] at hlt; exact absurd hlt (by simp))
      have hca : wr.cell? (a.add j) = some (.int .u8 (x[j].toNat : Int)) := (hBw.cell (by rw [block_add]; exact hab)).trans (hac j hlt)
      have hcb : wr.cell? (b.add j) = some (.int .u8 (x[j].toNat : Int)) := (hBw.cell (by rw [block_add]; exact hbb)).trans (hbc j hlt)
      have hw5 : (0 : Int) ≤ (j : Int) := by omega
      have hw6 : (j : Int) < (x.length : Int) := by omega
      clear hac hbc
      go_wp2_with fail
      go_quiet (fail)
      go_wp2
      exact ⟨⟨j + 1, hlt, by go_num, below_drewN hBw nq⟩, by simp [intOf]; omega⟩
    · go_wp2
      go_ret
      exact ⟨rfl, hBw⟩

theorem lineCells_at (ls : List (List UInt8 × Bool)) (i : Nat) (hi : i < ls.length) : (lineCells ls)[i * 2]? = some (.string ⟨ls[i].1.toArray⟩) ∧ (lineCells ls)[i * 2 + 1]? = some (.bool ls[i].2) := by
  induction ls generalizing i with
  | nil => simp at hi
  | cons y ls ih =>
    cases i with
    | zero => simp [lineCells]
    | succ i =>
      have := ih i (by simpa using hi)
      simp only [lineCells, List.flatMap_cons, List.getElem_cons_succ] at this ⊢
      rw [show (i + 1) * 2 = i * 2 + 2 by omega]
      simpa using this

set_option maxHeartbeats 1000000 in
theorem eqLines_same (ls : List (List UInt8 × Bool)) (Ba Bb : Nat) (va vb : Value) (w : World) (ha : w.ownsRow Ba 49 2 va ls.length (lineCells ls)) (hb : w.ownsRow Bb 49 2 vb ls.length (lineCells ls)) (hxl : ls.length < 1000000) :
    Calls Try.prog 15 #[va, vb] w fun e w' => e = .returned (.bool true) ∧ Below w.heap.size w w' := by
  by_cases hn : ls.length = 0
  · have h1 : ∃ A c, va = .slice A 0 c := by
      rcases ha.2 with ⟨rfl, _⟩ | ⟨g, c, _, rfl, _⟩
      · exact ⟨_, _, rfl⟩
      · exact ⟨_, _, by rw [hn]⟩
    have h2 : ∃ A c, vb = .slice A 0 c := by
      rcases hb.2 with ⟨rfl, _⟩ | ⟨g, c, _, rfl, _⟩
      · exact ⟨_, _, rfl⟩
      · exact ⟨_, _, by rw [hn]⟩
    obtain ⟨A, ca, rfl⟩ := h1
    obtain ⟨B, cb, rfl⟩ := h2
    clear ha hb hn
    go_enter Try.func15, Try.ntmps15
    go_wp2_with fail
    go_loop [5] (fun i => i = .int .i64 0) (fun _ => 0)
    case atStart => rfl
    case round =>
      subst hrel
      go_wp2
      go_ret
      exact ⟨rfl, Below.refl _ _⟩
  · obtain ⟨ga, ca, rfl⟩ := ownsRow_shape ha (by omega)
    obtain ⟨gb, cb, rfl⟩ := ownsRow_shape hb (by omega)
    have hA := Lib.hid (fun j hj => ha.cellAt j hj)
    have hB := Lib.hid (fun j hj => hb.cellAt j hj)
    have hla := (ha.lt ga rfl).2
    have hlb := (hb.lt gb rfl).2
    clear ha hb hn
    go_enter Try.func15, Try.ntmps15
    go_wp2_with fail
    go_loopw [5] (fun i wr => ∃ j : Nat, j ≤ ls.length ∧ i = .int .i64 j ∧ Below w.heap.size w wr) (fun i _ => ls.length - (intOf i).toNat)
    case atStart => exact ⟨0, Nat.zero_le _, rfl, Below.refl _ _⟩
    case round =>
      obtain ⟨j, hj, rfl, hBw⟩ := hrel
      by_cases hlt : j < ls.length
      · have hl := lineCells_at ls j hlt
        have a0 := (hBw.cell (p := ⟨ga, j * 2, none⟩) hla).trans ((hA.out (j * 2) (by omega)).trans hl.1)
        have a1 := (hBw.cell (p := ⟨ga, j * 2 + 1, none⟩) hla).trans ((hA.out (j * 2 + 1) (by omega)).trans hl.2)
        have b0 := (hBw.cell (p := ⟨gb, j * 2, none⟩) hlb).trans ((hB.out (j * 2) (by omega)).trans hl.1)
        have b1 := (hBw.cell (p := ⟨gb, j * 2 + 1, none⟩) hlb).trans ((hB.out (j * 2 + 1) (by omega)).trans hl.2)
        have hw5 : (0 : Int) ≤ (j : Int) := by omega
        have hw6 : (j : Int) < (ls.length : Int) := by omega
        clear hl
        go_wp2_with fail
        go_quiet (fail)
        go_wp2
        exact ⟨⟨j + 1, hlt, by go_num, below_drewN hBw nq⟩, by simp [intOf]; omega⟩
      · go_wp2
        go_ret
        exact ⟨rfl, hBw⟩
end Go.Proofs.Ytnhmhdfnphlngaa
