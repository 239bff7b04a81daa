/-
  many of the statements' text, walked: so many of a byte.
  Conditions: at least one and fewer than 10000 of them.
-/
import Derived.Test.YtdebkbocpljkbaaH
namespace Go.Proofs.Ytdebkbocpljkbaa
open Go.RowKit

def byteCell (c : UInt8) : Value := .int .u8 (c.toNat : Int)

/-- Block g is just the bytes l. -/
def BlkB (w : World) (g : Nat) (l : List UInt8) : Prop := w.heap[g]? = some (.cells (l.map byteCell).toArray 5 (0, 0))

section
variable {w w' : World} {g : Nat} {l : List UInt8}
theorem BlkB.cell (h : BlkB w g l) (i : Nat) (hi : i < l.length) : w.cell? ⟨g, i, none⟩ = some (.int .u8 (l[i].toNat : Int)) := by
  unfold BlkB at h
  simp only [World.cell?, h]
  simp [hi, byteCell]
theorem BlkB.frozen (h : BlkB w g l) (i : Nat) : w.frozen? ⟨g, i, none⟩ = false := by
  unfold BlkB at h
  simp [World.frozen?, h]
theorem BlkB.set (h : BlkB w g l) (i : Nat) (c : UInt8) : BlkB (w.setCell ⟨g, i, none⟩ (.int .u8 (c.toNat : Int))) g (l.set i c) := by
  unfold BlkB at h ⊢
  have e : (.int .u8 (c.toNat : Int)) = byteCell c := rfl
  rw [e]
  simp only [World.setCell, Array.getElem?_modify, if_true, h, Option.map_some]
  congr 2
  apply Array.ext'
  simp
theorem BlkB.lt (h : BlkB w g l) : g < w.heap.size := by
  unfold BlkB at h
  exact (Array.getElem?_eq_some_iff.1 h).1
end

theorem made_blk (w : World) (n : Nat) : BlkB (w.alloc (.cells (madeCells #[.int .u8 0] n) 5)) w.heap.size (List.replicate n 0) := by
  unfold BlkB
  rw [heap_alloc_new]
  congr 2
  apply Array.ext'
  rw [toList_madeCells_one]
  simp [byteCell]

theorem run_make_bytes (w : World) (n : Nat) (hn : n < 1000000) : (Instr.makeSlice 38 (.int .i64 (n : Int)) (.int .i64 (n : Int))).run Try.prog w = .ok (.slice (some ⟨w.heap.size, 0, none⟩) n n) (w.alloc (.cells (madeCells #[.int .u8 0] n) 5)) := by
  obtain ⟨i0, hi0, hz0, hs0, hb0⟩ := info_parts info5
  have h := run_make (P := Try.prog) w 38 5 i0 _ Try.underlying38 hi0 hz0 .i64 .i64 (n : Int) (n : Int) (by omega) (Int.le_refl _) (by rw [hb0]; omega) (by omega)
  rw [h, hs0]
  simp
  rfl

theorem fill_set (c : UInt8) (j n : Nat) (h : j < n) : (List.replicate j c ++ List.replicate (n - j) 0).set j c = List.replicate (j + 1) c ++ List.replicate (n - (j + 1)) 0 := by
  apply List.ext_getElem?
  intro i
  rw [List.getElem?_set]
  simp only [List.getElem?_append, List.length_replicate, List.getElem?_replicate, List.length_append]
  rcases Nat.lt_trichotomy i j with h1 | h1 | h1
  · have h2 : ¬ j = i := by omega
    have h3 : i < j + 1 := by omega
    simp [h1, h2, h3]
  · subst h1
    have h4 : i < i + (n - i) := by omega
    simp [h4]
  · have h2 : ¬ j = i := by omega
    have h3 : ¬ i < j + 1 := by omega
    have h4 : ¬ i < j := by omega
    have h5 : (i - j < n - j) ↔ (i - (j + 1) < n - (j + 1)) := by omega
    simp [h2, h3, h4, h5]

set_option maxHeartbeats 1000000 in
theorem many_any (c : UInt8) (n : Nat) (w : World) (h0 : 0 < n) (hn : n < 10000) :
    Calls Try.prog 15 #[.int .u8 (c.toNat : Int), .int .i64 (n : Int)] w fun e w' => e = .returned (.string ⟨(List.replicate n c).toArray⟩) ∧ Below w.heap.size w w' := by
  have hmax : (0 : Int) < (n : Int) := by omega
  have hmk := fun w => run_make_bytes w n (by omega)
  go_enter Try.func15, Try.ntmps15
  go_wp2_with fail
  go_loopw [6] (fun i wr => ∃ j : Nat, j ≤ n ∧ i = .int .i64 j ∧ BlkB wr w.heap.size (List.replicate j c ++ List.replicate (n - j) 0) ∧ Below w.heap.size w wr) (fun i _ => n - (intOf i).toNat)
  case atStart => exact ⟨0, Nat.zero_le _, rfl, by simpa using made_blk w n, (Below.refl _ _).alloc (Nat.le_refl _) _⟩
  case round =>
    obtain ⟨j, hj, rfl, hblk, hB⟩ := hrel
    have HK := Lib.hid hblk
    have HB := Lib.hid hB
    clear hblk hB
    by_cases hlt : j < n
    · have hcell := HK.out.cell j (by simp; omega)
      have hz := HK.out.frozen j
      go_wp2_with fail
      refine ⟨⟨j + 1, hlt, by go_num, ?_, HB.out.setCell (Nat.le_refl _) _⟩, by simp [intOf]; omega⟩
      rw [← fill_set c j n hlt]
      exact HK.out.set j c
    · obtain rfl : j = n := by omega
      have hbk : BlkB wr w.heap.size (List.replicate j c) := by simpa using HK.out
      have hcv : (convert 38 9 (.slice (some ⟨w.heap.size, 0, none⟩) j j)).run Try.prog wr = .ok (.string ⟨(List.replicate j c).toArray⟩) wr := by
        have := run_convert_bytes_back (P := Try.prog) wr 38 9 5 ⟨w.heap.size, 0, none⟩ j (List.replicate j c) Try.underlying38 Try.underlying5 Try.underlying9 (fun i hi => by
          rw [Addr.add_lit, Nat.zero_add]
          exact hbk.cell i hi)
        simpa using this
      clear hbk
      go_wp2_with fail
      go_ret
      exact ⟨rfl, HB.out⟩
end Go.Proofs.Ytdebkbocpljkbaa
