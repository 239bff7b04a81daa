/-
  DiskKept: what its disk is, and rows that are made and written over.
  Conditions: as each theorem states them.
-/
import Derived.Test.YtahmihdahgbhkaaKA

namespace Go.Proofs.Ytahmihdahgbhkaa
open Go.RowKit

/-- A disk whose file 1 has bytes that count on, so many of them durable; the others are empty. -/
structure KInv (d : Dk) (c a : Nat) : Prop where
  k1 : (d.f 1).kept = seqB 0 c
  g1 : Grows c (d.f 1).done a
  f0 : d.f 0 = ⟨[], []⟩
  f2 : d.f 2 = ⟨[], []⟩
  p : d.p = some none
section
variable {d : Dk} {c a : Nat}
theorem KInv.now (h : KInv d c a) : (d.f 1).now = seqB 0 a := by
  unfold Fl.now
  rw [h.k1]
  exact grows_now h.g1
theorem KInv.new : KInv (newDk []) 0 0 := ⟨rfl, rfl, rfl, rfl, rfl⟩
theorem KInv.tick (h : KInv d c a) : tickP d.p = some none := by rw [h.p]; rfl
theorem KInv.wr (h : KInv d c a) (n : Nat) (hn : a + n ≤ 4194304) : (wrD d 1 a (seqB a n)).2 = 0 ∧ KInv (wrD d 1 a (seqB a n)).1 c (a + n) := by
  have e : wrD d 1 a (seqB a n) = ((⟨d.f, tickP d.p⟩ : Dk).put 1 ⟨(d.f 1).kept, (d.f 1).done ++ [⟨a, some (seqB a n)⟩]⟩, 0) := by
    have hl : wrL a (seqB a n) (d.f (1 : Int).toNat) = true := by
      unfold wrL
      rw [show ((1 : Int).toNat) = 1 from rfl, h.now, seqB_len, seqB_len, inB_iff.2 ⟨by omega, by omega⟩, decide_eq_true (by omega)]
      rfl
    unfold wrD
    rw [actD_ok (by rw [h.tick]; rfl) rfl hl]
    rfl
  rw [e]
  refine ⟨rfl, ⟨by simp [Dk.put, h.k1], ?_, by simp [Dk.put, h.f0], by simp [Dk.put, h.f2], h.tick⟩⟩
  simp only [Dk.put_same]
  exact grows_more n h.g1
theorem KInv.sy (h : KInv d c a) : (syD d 1).2 = 0 ∧ KInv (syD d 1).1 a a := by
  have e : syD d 1 = ((⟨d.f, tickP d.p⟩ : Dk).put 1 ⟨(d.f 1).now, []⟩, 0) := by
    unfold syD
    rw [actD_ok (by rw [h.tick]; rfl) rfl rfl]
    rfl
  rw [e]
  exact ⟨rfl, ⟨by simp [Dk.put, h.now], by simp [Dk.put, Grows], by simp [Dk.put, h.f0], by simp [Dk.put, h.f2], h.tick⟩⟩
theorem KInv.crash (h : KInv d c a) (l : List Int) : ∃ m, c ≤ m ∧ m ≤ a ∧ crashD d l = [[], seqB 0 m, []] := by
  unfold crashD
  simp only [h.f0, h.f2, crashF_synced]
  obtain ⟨m, h1, h2, h3⟩ := grows_crash h.k1 h.g1 (l.drop 1)
  exact ⟨m, h1, h2, by rw [h3]⟩
end
/-- The disk that the law has, in a world. -/
def KSt (B p c a i : Nat) (wr : World) : Prop := ∃ d, NewK B p d wr ∧ KInv d c a ∧ MxD d (2 * i)
/-- A new row, written up to its k-th byte. -/
theorem seq_row {w : World} {B g n k a : Nat} (h : BR w B (.slice (some ⟨g, 0, none⟩) n n) (seqB a k ++ List.replicate (n - k) 0)) (hk : k < n) :
    w.cell? ⟨g, k, none⟩ = some (.int .u8 0) ∧ w.frozen? ⟨g, k, none⟩ = false ∧ BR (w.setCell ⟨g, k, none⟩ (.int .u8 (((a + k) % 256 : Nat) : Int))) B (.slice (some ⟨g, 0, none⟩) n n) (seqB a (k + 1) ++ List.replicate (n - (k + 1)) 0) := by
  have hl : (seqB a k ++ List.replicate (n - k) (0 : UInt8)).length = n := by simp [seqB_len]; omega
  have hl2 : (seqB a (k + 1) ++ List.replicate (n - (k + 1)) (0 : UInt8)).length = n := by simp [seqB_len]; omega
  have h' : w.ownsRow B 5 1 (.slice (some ⟨g, 0, none⟩) n n) n (bc (seqB a k ++ List.replicate (n - k) 0)) := by unfold BR at h; rwa [hl] at h
  refine ⟨?_, World.ownsRow.frozenAt h' k, ?_⟩
  · have := World.ownsRow.cellAt h' k (by omega)
    rw [this, bc_at (by rw [hl]; exact hk), List.getElem_append_right (by rw [seqB_len]; exact Nat.le_refl _)]
    simp [bcell]
  · have := (World.ownsRow.stored h' k (.int .u8 (((a + k) % 256 : Nat) : Int))).1
    unfold BR
    rw [hl2]
    have e : (bc (seqB a k ++ List.replicate (n - k) 0)).set k (.int .u8 (((a + k) % 256 : Nat) : Int)) = bc (seqB a (k + 1) ++ List.replicate (n - (k + 1)) 0) := by
      have e1 : seqB a (k + 1) = seqB a k ++ [UInt8.ofNat (a + k)] := by
        have := seqB_app a k 1
        rw [← this]
        simp [seqB]
      rw [e1, show n - k = (n - (k + 1)) + 1 by omega, List.replicate_succ, bc_app, bc_app, bc_app]
      have hbk : (bc (seqB a k)).length = k := by rw [bc_len, seqB_len]
      rw [List.set_append_right _ _ (by rw [hbk]; exact Nat.le_refl _), hbk, Nat.sub_self]
      simp [bc, bcell]
    rw [e] at this
    exact this
/-- A row of zeros, made. -/
theorem made_zero (w : World) (n : Nat) (hn : n ≤ 1000) : ∃ W, (Instr.makeSlice 37 (.int .i64 (n : Int)) (.int .i64 (n : Int))).run Try.prog w = .ok (.slice (some ⟨w.heap.size, 0, none⟩) n n) W ∧ BR W w.heap.size (.slice (some ⟨w.heap.size, 0, none⟩) n n) (List.replicate n 0) ∧ Below w.heap.size w W := by
  obtain ⟨i0, hi0, hz0, hs0, hb0⟩ := info_parts infoB
  obtain ⟨W, h1, h2, h3⟩ := run_make_full (P := Try.prog) w w.heap.size 37 5 i0 _ 1 Try.underlying37 hi0 hz0 hs0 .i64 .i64 n (by rw [hb0]; omega) (by unfold maxLen; omega) (Nat.le_refl _)
  refine ⟨W, h1, ?_, (Below.refl _ w).grown h3 (Nat.le_refl _) (fun k hk => by cases hk)⟩
  unfold BR
  rw [List.length_replicate]
  have e : (madeCells (Value.int .u8 0).cells (n * 1)).toList = bc (List.replicate n 0) := by
    rw [Nat.mul_one, show (Value.int .u8 0).cells = #[Value.int .u8 0] from rfl, toList_madeCells_one]
    simp [bc, bcell]
  rw [e] at h2
  exact h2
theorem wrap8 (a k : Nat) : IntKind.u8.wrap ((a : Int) + (k : Int)) = (((a + k) % 256 : Nat) : Int) := by
  simp [IntKind.wrap, IntKind.bits, IntKind.signed]
end Go.Proofs.Ytahmihdahgbhkaa
