/-
  The law FrameLongs, walked: at every argument that can be read it answers true and turns nothing that was there.
  Conditions: as the theorem states them.
-/
import Derived.Test.YtnhmhdfnphlngaaU
import Derived.Test.YtnhmhdfnphlngaaV
import Derived.Deep.AppendSrc
namespace Go.Proofs.Ytnhmhdfnphlngaa
open Go.RowKit

/-- Block g is just the bytes l. -/
def BlkB (w : World) (g : Nat) (l : List UInt8) : Prop := w.heap[g]? = some (.cells (l.map byteCell).toArray 5 (0, 0))

section
variable {w w' : World} {g : Nat} {l : List UInt8}
theorem BlkB.cell (h : BlkB w g l) (i : Nat) (hi : i < l.length) : w.cell? ⟨g, i, none⟩ = some (.int .u8 (l[i].toNat : Int)) := by
  unfold BlkB at h
  simp only [World.cell?, h]
  simp [hi, byteCell]
theorem BlkB.frozen (h : BlkB w g l) (i : Nat) : w.frozen? ⟨g, i, none⟩ = false := by
  unfold BlkB at h
  simp [World.frozen?, h]
theorem BlkB.set (h : BlkB w g l) (i : Nat) (c : UInt8) : BlkB (w.setCell ⟨g, i, none⟩ (.int .u8 (c.toNat : Int))) g (l.set i c) := by
  unfold BlkB at h ⊢
  have e : (.int .u8 (c.toNat : Int)) = byteCell c := rfl
  rw [e]
  simp only [World.setCell, Array.getElem?_modify, if_true, h, Option.map_some]
  congr 2
  apply Array.ext'
  simp
theorem BlkB.lt (h : BlkB w g l) : g < w.heap.size := by
  unfold BlkB at h
  exact (Array.getElem?_eq_some_iff.1 h).1
end

theorem made_blk (w : World) (n : Nat) : BlkB (w.alloc (.cells (madeCells #[.int .u8 0] n) 5)) w.heap.size (List.replicate n 0) := by
  unfold BlkB
  rw [heap_alloc_new]
  congr 2
  apply Array.ext'
  rw [toList_madeCells_one]
  simp [byteCell]

theorem run_make_bytes (w : World) (n : Nat) (hn : n < 1000000) : (Instr.makeSlice 26 (.int .i64 (n : Int)) (.int .i64 (n : Int))).run Try.prog w = .ok (.slice (some ⟨w.heap.size, 0, none⟩) n n) (w.alloc (.cells (madeCells #[.int .u8 0] n) 5)) := by
  obtain ⟨i0, hi0, hz0, hs0, hb0⟩ := info_parts info5
  have h := run_make (P := Try.prog) w 26 5 i0 _ Try.underlying26 hi0 hz0 .i64 .i64 (n : Int) (n : Int) (by omega) (Int.le_refl _) (by rw [hb0]; omega) (by omega)
  rw [h, hs0]
  simp
  rfl

/-- A constant text appended to a block that is full: a new row. -/
theorem run_append_text (w : World) (ty : TypeId) (B g : Nat) (l : List UInt8) (T : ByteArray) (hb : BlkB w g l) (hB : B ≤ w.heap.size) (hT : 0 < T.size) (hl : l.length + T.size < 1000000) :
    ∃ cap w', (Builtin.append_ #[26, 9] ty #[.slice (some ⟨g, 0, none⟩) l.length l.length, .string T]).run Try.prog w = .ok (.slice (some ⟨w.heap.size, 0, none⟩) (l.length + T.size) cap) w' ∧
      l.length + T.size ≤ cap ∧ ByteRow w' B 5 (.slice (some ⟨w.heap.size, 0, none⟩) (l.length + T.size) cap) (l ++ T.data.toList) ∧ Below w.heap.size w w' := by
  obtain ⟨i0, hi0, hz0, hs0, hb0⟩ := info_parts info5
  have hold : (Builtin.firstCells i0.size l.length (.slice (some ⟨g, 0, none⟩) l.length l.length)).run Try.prog w.drew = .ok (l.map byteCell).toArray w.drew :=
    run_firstCells_some w.drew i0.size l.length ⟨g, 0, none⟩ l.length l.length (l.map byteCell) (by simp [hs0]) (fun j u hu => by
      have hj : j < l.length := by have := (List.getElem?_eq_some_iff.1 hu).1; simpa using this
      rw [Addr.add_lit, Nat.zero_add]
      have hc : w.drew.cell? ⟨g, j, none⟩ = w.cell? ⟨g, j, none⟩ := rfl
      rw [hc, hb.cell j hj, ← hu]
      simp [hj, byteCell])
  have hsrc : Src Try.prog i0.size 9 (.string T) T.size (byteCells T) w := by rw [hs0]; exact Src.ofString w Try.underlying9 T
  have h := run_append_grow_src (P := Try.prog) w 26 9 ty 5 i0 _ Try.underlying26 hi0 hz0 (some ⟨g, 0, none⟩) l.length l.length (l.map byteCell) hold (.string T) T.size (byteCells T) hsrc (by omega) (by omega) (growslice_fits (by omega) (by rw [hb0]; omega))
  have hge := grownCap_ge w (l.length + T.size) l.length 5
  have hcm : grownCap w (l.length + T.size) l.length 5 ≤ maxLen := grownCap_le_maxLen w _ _ 5 (by unfold maxLen; omega)
  have hTl : T.data.toList.length = T.size := by simp
  refine ⟨_, _, h, hge, ⟨w.heap.size, _, _, 0, 0, by simp, hB, heap_alloc_new w.drew _, by simp; omega, hcm, ?_, ?_, .inl (Nat.le_refl _)⟩, ((Below.refl _ _).drew.alloc (Nat.le_refl _) _)⟩
  · have h1 : (Value.cells (.int .u8 0)).size = 1 := rfl
    simp only [Array.size_append, List.size_toArray, List.length_append, List.length_map, size_zeroCells, h1, byteCells_length]
    omega
  · have h2 : (l.map byteCell ++ byteCells T) = (l ++ T.data.toList).map byteCell := by simp [byteCells, byteCell]
    rw [h2]
    simp only [Array.toList_append]
    have h3 : (l ++ T.data.toList).length = ((l ++ T.data.toList).map byteCell).length := by simp
    rw [h3, List.take_left]

theorem wpList_append_text {ops : Array Oper} {rest : List Oper} {o : Oper} {a : Act} {Q : Exit → Act → World → Prop} (w : World) (s x : Operand) (B g n k : Nat) (l : List UInt8) (T : ByteArray) (hn : l.length = n) (hk : T.size = k)
    (hgd : o.guard = none) (ho : o.op = .call { callee := .builtin .append, args := #[s, x], argTypes := #[26, 9] }) (hs : a.eval s = .slice (some ⟨g, 0, none⟩) n n) (hx : a.eval x = .string T)
    (hb : BlkB w g l) (hB : B ≤ w.heap.size) (hT : 0 < k) (hl : n + k < 1000000)
    (h : ∀ cap w', n + k ≤ cap → ByteRow w' B 5 (.slice (some ⟨w.heap.size, 0, none⟩) (n + k) cap) (l ++ T.data.toList) → Below w.heap.size w w' → wpList Try.prog ops Q rest (a.put o.dst (.slice (some ⟨w.heap.size, 0, none⟩) (n + k) cap)) w') : wpList Try.prog ops Q (o :: rest) a w := by
  subst hn hk
  refine wpList_plain hgd fun K hK => ?_
  obtain ⟨cap, w', hr, h2, h3, h4⟩ := run_append_text w o.type B g l T hb hB hT hl
  unfold Oper.wp execOp
  simp only [ho, resolve, invoke, builtin, Sem.run_bind, Sem.run_pure, Result.andThen_ok, List.map_toArray, List.map_cons, List.map_nil, hs, hx, hr]
  exact hK _ _ (h cap w' h2 h3 h4)

/-- The bytes of a row, up to k. -/
theorem bytesAt_of_row {w : World} {B g n cap : Nat} {l : List UInt8} (h : ByteRow w B 5 (.slice (some ⟨g, 0, none⟩) n cap) l) (k : Nat) (hk : k ≤ l.length) : BytesAt w w.heap.size (.slice (some ⟨g, 0, none⟩) k cap) (l.take k) := by
  obtain ⟨g', cap', hv, _, hlt, hlc, _, hc⟩ := h.cell
  injection hv with h1 h2 h3
  injection h1 with h1
  injection h1 with h1
  subst h1 h2 h3
  have hkl : (l.take k).length = k := by simp; omega
  refine ⟨some ⟨g, 0, none⟩, cap, by rw [hkl], by omega, fun _ => ⟨_, rfl, hlt, fun j hj => ?_⟩⟩
  rw [hc j (by simp at hj; omega)]
  simp
end Go.Proofs.Ytnhmhdfnphlngaa
