/-
  The reader of package frame, walked: endsInCR, forget, endLine and take do to a reader in memory what one byte does to a reader in the plain mathematics.
  Conditions: as each theorem states them (the reader lies in block g, its rows in blocks from B on).
-/
import Derived.Test.YtnhmhdfnphlngaaC
import Derived.BigQuiet
import Derived.Lib.Hide
import Derived.Deep.RegionLaw
namespace Go.Proofs.Ytnhmhdfnphlngaa
open Go.RowKit

def lineCells (ls : List (List UInt8 × Bool)) : List Value := ls.flatMap fun x => [.string ⟨x.1.toArray⟩, .bool x.2]

theorem lineCells_length (ls : List (List UInt8 × Bool)) : (lineCells ls).length = ls.length * 2 := by
  induction ls with
  | nil => rfl
  | cons x ls ih => simp only [lineCells, List.flatMap_cons, List.length_append, List.length_cons] at ih ⊢; simp at ih ⊢; omega

/-- In block g lies a reader with these three cells; its lines' row lies from B on. -/
structure RW (w : World) (B g : Nat) (rv : Value) (skip : Bool) (lv : Value) (lines : List (List UInt8 × Bool)) : Prop where
  blk : w.heap[g]? = some (.cells #[rv, .bool skip, lv] 52 (0, 0))
  own : w.ownsRow B 49 2 lv lines.length (lineCells lines)
  lt : g < B
  le : B ≤ w.heap.size

/-- The reader r lies in block g; its two rows lie in blocks from B on. -/
def RD (w : World) (B g : Nat) (r : Rd) : Prop := ∃ rv lv, RW w B g rv r.skip lv r.lines ∧ ByteRow w B 5 rv r.rest

section
variable {w w' : World} {B g : Nat} {rv lv : Value} {skip : Bool} {lines : List (List UInt8 × Bool)}
theorem RW.cell0 (h : RW w B g rv skip lv lines) : w.cell? ⟨g, 0, none⟩ = some rv := by simp [World.cell?, h.blk]
theorem RW.cell1 (h : RW w B g rv skip lv lines) : w.cell? ⟨g, 1, none⟩ = some (.bool skip) := by simp [World.cell?, h.blk]
theorem RW.cell2 (h : RW w B g rv skip lv lines) : w.cell? ⟨g, 2, none⟩ = some lv := by simp [World.cell?, h.blk]
theorem RW.frozen (h : RW w B g rv skip lv lines) (i : Nat) : w.frozen? ⟨g, i, none⟩ = false := by simp [World.frozen?, h.blk]
theorem RW.alloc (h : RW w B g rv skip lv lines) (o : Obj) : RW (w.alloc o) B g rv skip lv lines :=
  ⟨(Below.heap_alloc w o g (Nat.lt_of_lt_of_le h.lt h.le)).trans h.blk, h.own.alloc o, h.lt, by have := h.le; simp; omega⟩
theorem RW.drew (h : RW w B g rv skip lv lines) : RW w.drew B g rv skip lv lines := ⟨h.blk, h.own, h.lt, h.le⟩
theorem RW.drewN (h : RW w B g rv skip lv lines) (n : Nat) : RW (w.drewN n) B g rv skip lv lines := ⟨h.blk, h.own, h.lt, h.le⟩
theorem RW.set0 (h : RW w B g rv skip lv lines) (v : Value) : RW (w.setCell ⟨g, 0, none⟩ v) B g v skip lv lines :=
  ⟨by simp [World.setCell, Array.getElem?_modify, h.blk], ownsRow_setCell_below h.own h.lt v, h.lt, by simpa [World.setCell] using h.le⟩
theorem RW.set1 (h : RW w B g rv skip lv lines) (k : Bool) : RW (w.setCell ⟨g, 1, none⟩ (.bool k)) B g rv k lv lines :=
  ⟨by simp [World.setCell, Array.getElem?_modify, h.blk], ownsRow_setCell_below h.own h.lt _, h.lt, by simpa [World.setCell] using h.le⟩
theorem RW.set2 {lv' : Value} {lines' : List (List UInt8 × Bool)} (h : RW w B g rv skip lv lines) (ho : w.ownsRow B 49 2 lv' lines'.length (lineCells lines')) : RW (w.setCell ⟨g, 2, none⟩ lv') B g rv skip lv' lines' :=
  ⟨by simp [World.setCell, Array.getElem?_modify, h.blk], ownsRow_setCell_below ho h.lt _, h.lt, by simpa [World.setCell] using h.le⟩
theorem RW.grown {row : Option Nat} (h : RW w B g rv skip lv lines) (hg : w.grownBy w' row) (hrow : ∀ k, row = some k → B ≤ k) (hne : lv.ownBlock = none ∨ lv.ownBlock ≠ row) : RW w' B g rv skip lv lines :=
  ⟨(hg.block g (Nat.lt_of_lt_of_le h.lt h.le) (fun e => by have := hrow g e.symm; have := h.lt; omega)).trans h.blk, h.own.kept hg hne, h.lt, Nat.le_trans h.le hg.size⟩
theorem RW.blkGrown (h : RW w B g rv skip lv lines) (hg : w.grownBy w' lv.ownBlock) : w'.heap[g]? = some (.cells #[rv, .bool skip, lv] 52 (0, 0)) :=
  (hg.block g (Nat.lt_of_lt_of_le h.lt h.le) (fun e => by have := (h.own.lt g e.symm).1; have := h.lt; omega)).trans h.blk
theorem RW.setLines {lv' : Value} {lines' : List (List UInt8 × Bool)} (h : RW w B g rv skip lv lines) (hg : w.grownBy w' lv.ownBlock) (ho : w'.ownsRow B 49 2 lv' lines'.length (lineCells lines')) :
    RW (w'.setCell ⟨g, 2, none⟩ lv') B g rv skip lv' lines' :=
  ⟨by simp [World.setCell, Array.getElem?_modify, h.blkGrown hg], ownsRow_setCell_below ho h.lt _, h.lt, by have h1 := h.le; have h2 := hg.size; simp only [World.setCell, Array.size_modify]; omega⟩
/-- The two rows lie in two blocks: their elements are of two types. -/
theorem RW.ne {l : List UInt8} {v : Value} (h : RW w B g rv skip lv lines) (hr : ByteRow w B 5 v l) : lv.ownBlock = none ∨ lv.ownBlock ≠ v.ownBlock := by
  rcases h.own.2 with ⟨rfl, _⟩ | ⟨g', cap, cur, rfl, _, hh, _⟩
  · exact .inl rfl
  · obtain ⟨gr, cap', cur', lo, hi, rfl, _, hg', _⟩ := hr
    refine .inr fun e => ?_
    have : g' = gr := by simpa [Value.ownBlock] using e
    subst this
    rw [hh] at hg'
    injection hg' with hg'
    injection hg' with _ ht
    cases ht
theorem RW.rowSet {l : List UInt8} {v : Value} (h : RW w B g rv skip lv lines) (hr : ByteRow w B 5 v l) (i : Nat) (u : Value) : ByteRow (w.setCell ⟨g, i, none⟩ u) B 5 v l :=
  hr.keep fun k hk => Below.heap_setCell _ _ _ _ (by have := (hr.lt k hk).1; have := h.lt; simp; omega)
theorem ByteRow.alloc {l : List UInt8} {v : Value} (hr : ByteRow w B 5 v l) (o : Obj) : ByteRow (w.alloc o) B 5 v l :=
  hr.keep fun k hk => Below.heap_alloc _ _ _ (hr.lt k hk).2
end

/-- Below B nothing but block g has turned. -/
structure Kept (B g : Nat) (w w' : World) : Prop where
  os : w'.os = w.os
  tape : w'.tape = w.tape
  output : w'.output = w.output
  size : w.heap.size ≤ w'.heap.size
  block : ∀ k, k < B → k ≠ g → w'.heap[k]? = w.heap[k]?

section
variable {B g : Nat} {w w' w'' : World}
theorem Kept.refl (B g : Nat) (w : World) : Kept B g w w := ⟨rfl, rfl, rfl, Nat.le_refl _, fun _ _ _ => rfl⟩
theorem Kept.trans (h : Kept B g w w') (k : Kept B g w' w'') : Kept B g w w'' :=
  ⟨k.os.trans h.os, k.tape.trans h.tape, k.output.trans h.output, Nat.le_trans h.size k.size, fun i hi hn => (k.block i hi hn).trans (h.block i hi hn)⟩
theorem Kept.of_below (h : Below B w w') : Kept B g w w' := ⟨h.os, h.tape, h.output, h.size, fun k hk _ => h.block k hk⟩
theorem Kept.grown {row : Option Nat} (h : Kept B g w w') (hg : w'.grownBy w'' row) (hB : B ≤ w'.heap.size) (hrow : ∀ k, row = some k → B ≤ k) : Kept B g w w'' :=
  h.trans ⟨hg.os, hg.tape, hg.output, hg.size, fun k hk _ => hg.block k (by omega) (fun e => by have := hrow k e.symm; omega)⟩
theorem Kept.alloc (h : Kept B g w w') (hB : B ≤ w'.heap.size) (o : Obj) : Kept B g w (w'.alloc o) :=
  h.trans ⟨rfl, rfl, rfl, by simp, fun k hk _ => Below.heap_alloc _ _ _ (by omega)⟩
theorem Kept.set (h : Kept B g w w') (i : Nat) (u : Value) : Kept B g w (w'.setCell ⟨g, i, none⟩ u) :=
  h.trans ⟨rfl, rfl, rfl, by simp [World.setCell], fun _ _ hn => Below.heap_setCell _ _ _ _ hn⟩
end

theorem ends_any (w : World) (B g : Nat) (r : Rd) (h : RD w B g r) (hl : r.rest.length < 1000000) :
    Calls Try.prog 28 #[.pointer (some ⟨g, 0, none⟩)] w fun e w' => e = .returned (.bool (endsCR r.rest)) ∧ w = w' := by
  obtain ⟨rest, skip, lines⟩ := r
  obtain ⟨rv, lv, hW, hr⟩ := h
  have hc0 := hW.cell0
  obtain ⟨gr, cap, rfl, hgr, hlt, hlc, hm, hcell⟩ := hr.cell
  clear hW hr
  rcases List.eq_nil_or_concat rest with rfl | ⟨l, c, rfl⟩
  · go_enter Try.func28, Try.ntmps28
    go_wp2
    go_ret
    exact ⟨rfl, rfl⟩
  · have hlast := hcell l.length (by simp)
    rw [Addr.add_lit] at hlast
    simp only [List.concat_eq_append, List.length_append, List.length_cons, List.length_nil, Nat.zero_add, List.getElem_concat_length] at *
    have hE : Hid (endsCR (l ++ [c]) = (c == 13)) := by simp [Hid, endsCR]
    clear hcell
    go_enter Try.func28, Try.ntmps28
    go_wp2
    go_ret
    refine ⟨ret_bool ?_, rfl⟩
    rw [hE.out]
    by_cases h : c = 13
    · subst h; rfl
    · rw [beq_eq_false_iff_ne.2 h]
      exact byte_ne (d := 13) h

theorem info5 : (Try.prog.info? 5).map (fun i => (i.zero, i.size, i.bytes)) = some (some (.int .u8 0), 1, 1) := by kernel_rfl

theorem forget_any (w : World) (B g : Nat) (r : Rd) (c : UInt8) (h : RD w B g r) (hl : r.rest.length < 1000000) :
    Calls Try.prog 30 #[.pointer (some ⟨g, 0, none⟩), .int .u8 (c.toNat : Int)] w fun e w' => e = .returned (.tuple #[]) ∧ RD w' B g ⟨tailB c, r.skip, r.lines⟩ ∧ Kept B g w w' := by
  obtain ⟨rest, skip, lines⟩ := r
  obtain ⟨rv, lv, hW, hr⟩ := h
  have hc0 := hW.cell0
  have hz0 := hW.frozen 0
  have hBw := hW.le
  obtain ⟨gr, cap, rfl, hgr, hlt, hlc, hm, hcell⟩ := hr.cell
  have hre := hr.empty
  clear hcell hr
  by_cases hc : c = 13
  · subst hc
    obtain ⟨i0, hi0, hz0', hs0, hb0⟩ := info_parts info5
    have hI := Lib.hid hi0
    have hZ := Lib.hid hz0'
    have hS := Lib.hid hs0
    have hB := Lib.hid hb0
    clear hi0 hz0' hs0 hb0
    have hW1 := (hW.set0 (.slice (some ⟨gr, 0, none⟩) 0 cap)).alloc (.cells #[.int .u8 13] 5)
    have hr1 := ((hW.rowSet hre 0 (.slice (some ⟨gr, 0, none⟩) 0 cap)).alloc (.cells #[.int .u8 13] 5))
    have hk1 := ((Kept.refl B g w).set 0 (.slice (some ⟨gr, 0, none⟩) 0 cap)).alloc (by simpa [World.setCell] using hBw) (.cells #[.int .u8 13] 5)
    go_enter Try.func30, Try.ntmps30
    go_wp2_with (at_builtin; refine wpList_append_byte _ rfl (.tmp 18) (.tmp 19) 26 rfl B 5 i0 Try.underlying26 hI.out hZ.out hS.out hB.out (.slice (some ⟨gr, 0, none⟩) 0 cap) [] rfl hr1 13 ⟨w.heap.size, 0, none⟩ 1 rfl ?_ hW1.le (by simp) ?_)
    · rfl
    intro v' w' hr' hg'
    have hW2 := hW1.grown hg' (fun k hk => by have : gr = k := by simpa [Value.ownBlock] using hk
                                              omega) (hW1.ne hr1)
    have hk2 := hk1.grown hg' hW1.le (fun k hk => by have : gr = k := by simpa [Value.ownBlock] using hk
                                                     omega)
    have hc2 := hW2.cell0
    have hz2 := hW2.frozen 0
    obtain ⟨g2, c2, rfl, -⟩ := hr'.cell
    clear hc0 hz0
    go_wp2
    go_end0
    exact ⟨rfl, ⟨_, lv, hW2.set0 _, hW2.rowSet hr' 0 _⟩, hk2.set 0 _⟩
  · have hb : ((c.toNat : Int) == 13) = false := byte_ne (d := 13) hc
    have ht : Hid (tailB c = []) := if_neg hc
    clear hc
    go_enter Try.func30, Try.ntmps30
    go_wp2
    go_end0
    refine ⟨rfl, ⟨_, lv, hW.set0 _, ?_⟩, (Kept.refl B g w).set 0 _⟩
    show ByteRow _ B 5 _ (tailB c)
    rw [ht.out]
    exact hW.rowSet hre 0 _
end Go.Proofs.Ytnhmhdfnphlngaa
