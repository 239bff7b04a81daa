/-
  Rows of bytes that a call has made by itself: a slice of bytes that lies at the beginning of a block from B on, whether the block came of a conversion of a string or of an append; one byte appended to it; the bytes read back.
  No condition beyond those that each theorem states.
-/
import Derived.Maps.AppendAt
import Derived.Laws.IdiomStrings
import Derived.Below
import Derived.WalkKit
namespace Go.Proofs.YtkbhmkofflcpjaaGreatDoor
open Go.RowKit

/-- A byte as a cell. -/
def byteCell (b : UInt8) : Value := .int .u8 (b.toNat : Int)

/-- The slice value v holds the bytes l, in a block from B on, at its beginning; none of its places is frozen. -/
def ByteRow (w : World) (B : Nat) (e : TypeId) (v : Value) (l : List UInt8) : Prop :=
  ∃ g cap cur lo hi, v = .slice (some ⟨g, 0, none⟩) l.length cap ∧ B ≤ g ∧ w.heap[g]? = some (.cells cur e (lo, hi)) ∧ l.length ≤ cap ∧ cap ≤ maxLen ∧ cur.size = cap ∧
    cur.toList.take l.length = l.map byteCell ∧ (hi ≤ lo ∨ cap ≤ lo)

section
variable {w w' : World} {B : Nat} {e : TypeId} {v : Value} {l : List UInt8}

theorem ByteRow.keep (h : ByteRow w B e v l) (hk : ∀ k, v.ownBlock = some k → w'.heap[k]? = w.heap[k]?) : ByteRow w' B e v l := by
  obtain ⟨g, cap, cur, lo, hi, rfl, hb, hg, r⟩ := h
  exact ⟨g, cap, cur, lo, hi, rfl, hb, (hk g rfl).trans hg, r⟩

theorem ByteRow.lt (h : ByteRow w B e v l) : ∀ k, v.ownBlock = some k → B ≤ k ∧ k < w.heap.size := by
  obtain ⟨g, cap, cur, lo, hi, rfl, hb, hg, r⟩ := h
  intro k hk
  have : g = k := by simpa [Value.ownBlock] using hk
  subst this
  exact ⟨hb, (Array.getElem?_eq_some_iff.1 hg).1⟩

theorem ByteRow.cell (h : ByteRow w B e v l) : ∃ g cap, v = .slice (some ⟨g, 0, none⟩) l.length cap ∧ B ≤ g ∧ g < w.heap.size ∧ l.length ≤ cap ∧ cap ≤ maxLen ∧
    ∀ j (hj : j < l.length), w.cell? ((⟨g, 0, none⟩ : Addr).add j) = some (.int .u8 (l[j].toNat : Int)) := by
  obtain ⟨g, cap, cur, lo, hi, rfl, hb, hg, hlc, hm, hs, ht, _⟩ := h
  refine ⟨g, cap, rfl, hb, (Array.getElem?_eq_some_iff.1 hg).1, hlc, hm, fun j hj => ?_⟩
  rw [Addr.add_lit]
  have h1 : (cur.toList.take l.length)[j]? = some (byteCell l[j]) := by rw [ht]; simp [hj]
  rw [List.getElem?_take, if_pos hj] at h1
  simp only [World.cell?, hg, Nat.zero_add]
  simpa [byteCell] using h1

/-- The same block, cut to nothing. -/
theorem ByteRow.empty {g cap n : Nat} (h : ByteRow w B e (.slice (some ⟨g, 0, none⟩) n cap) l) : ByteRow w B e (.slice (some ⟨g, 0, none⟩) 0 cap) [] := by
  obtain ⟨g', cap', cur, lo, hi, hv, hb, hg, hlc, hm, hs, ht, hf⟩ := h
  injection hv with h1 h2 h3
  injection h1 with h1
  injection h1 with h1
  subst h1 h3
  exact ⟨g, cap, cur, lo, hi, rfl, hb, hg, Nat.zero_le _, hm, hs, by simp, hf⟩

/-- '[]byte(s)'. -/
theorem ByteRow.made (w : World) (s : ByteArray) (c n : Nat) (hn : n = w.heap.size) (hB : B ≤ w.heap.size) (hge : s.size ≤ c) (hcm : c ≤ maxLen) :
    ByteRow (w.alloc (.cells (bytesRow s c) e ((bytesRow s c).size, (bytesRow s c).size + 1))) B e (.slice (some ⟨n, 0, none⟩) s.size c) s.data.toList := by
  subst hn
  have hsz : (bytesRow s c).size = c := by
    simp only [bytesRow, Array.size_append, Array.size_map, Array.size_replicate]
    have : s.data.size = s.size := rfl
    omega
  have hl : s.data.toList.length = s.size := by simp
  refine ⟨w.heap.size, c, _, _, _, by rw [hl], hB, heap_alloc_new w _, by rw [hl]; exact hge, hcm, hsz, ?_, .inr (by omega)⟩
  simp only [bytesRow, Array.toList_append, Array.toList_map]
  have h2 : s.data.toList.length = (s.data.toList.map fun b => Value.int .u8 (b.toNat : Int)).length := by simp
  rw [h2, List.take_left]
  rfl
end


section
variable {w w' : World} {B : Nat} {e : TypeId} {l : List UInt8}

/-- One byte of the row, written anew. -/
theorem ByteRow.set {g cap n : Nat} (h : ByteRow w B e (.slice (some ⟨g, 0, none⟩) n cap) l) (j : Nat) (c : UInt8) : ByteRow (w.setCell ⟨g, j, none⟩ (byteCell c)) B e (.slice (some ⟨g, 0, none⟩) n cap) (l.set j c) := by
  obtain ⟨g', cap', cur, lo, hi, hv, hb, hg, hlc, hm, hs, ht, hf⟩ := h
  injection hv with h1 h2 h3
  injection h1 with h1
  injection h1 with h1
  subst h1 h2 h3
  refine ⟨g, cap, cur.setIfInBounds j (byteCell c), lo, hi, by simp, hb, ?_, by simpa using hlc, hm, by simpa using hs, ?_, hf⟩
  · simp only [World.setCell, Array.getElem?_modify, if_true, hg]
    rfl
  · rw [List.length_set, Array.toList_setIfInBounds, List.take_set, ht, List.map_set]

theorem ByteRow.frozenAt {g cap n : Nat} (h : ByteRow w B e (.slice (some ⟨g, 0, none⟩) n cap) l) {j : Nat} (hj : j < l.length) : w.frozen? ⟨g, j, none⟩ = false := by
  obtain ⟨g', cap', cur, lo, hi, hv, hb, hg, hlc, hm, hs, ht, hf⟩ := h
  injection hv with h1 h2 h3
  injection h1 with h1
  injection h1 with h1
  subst h1 h2 h3
  simp only [World.frozen?, hg]
  rcases hf with hf | hf <;> simp <;> omega

theorem ByteRow.cellAt {g cap n : Nat} (h : ByteRow w B e (.slice (some ⟨g, 0, none⟩) n cap) l) {j : Nat} (hj : j < l.length) : w.cell? ⟨g, j, none⟩ = some (.int .u8 (l[j].toNat : Int)) := by
  obtain ⟨g', cap', hv, _, _, _, _, hc⟩ := h.cell
  injection hv with h1 h2 h3
  injection h1 with h1
  injection h1 with h1
  subst h1 h2 h3
  have := hc j hj
  rwa [Addr.add_lit, Nat.zero_add] at this
end

/-- A text as bytes of the call's own. -/
theorem made_bytes {P : Program} (w : World) (src dst e : TypeId) (s : List UInt8) (hs : P.underlying src = some .string) (hd : P.underlying dst = some (.slice e)) (he : P.underlying e = some (.int .u8)) (hl : s.length ≤ 100000) :
    ∃ c W, (convert src dst (.string ⟨s.toArray⟩)).run P w = .ok (.slice (some ⟨w.heap.size, 0, none⟩) s.length c) W ∧ ByteRow W w.heap.size e (.slice (some ⟨w.heap.size, 0, none⟩) s.length c) s ∧ Below w.heap.size w W ∧ W.heap.size = w.heap.size + 1 := by
  have h1 := run_bytes_of_string (P := P) w src dst e ⟨s.toArray⟩ hs hd he
  have hge := grownCap_ge w (⟨s.toArray⟩ : ByteArray).size 0 e
  have hcm := grownCap_le_maxLen w (⟨s.toArray⟩ : ByteArray).size 0 e (by show s.length ≤ maxLen; unfold maxLen; omega)
  refine ⟨_, _, h1, ?_, ((Below.refl _ w).drew).alloc (Nat.le_refl _) _, by simp⟩
  exact ByteRow.made w.drew ⟨s.toArray⟩ _ _ rfl (Nat.le_refl _) hge hcm
end Go.Proofs.YtkbhmkofflcpjaaGreatDoor
