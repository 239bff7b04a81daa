/-
  Which block serves what; a disk of package disk in memory, and what keeps it.
  Conditions: as each theorem states them.
-/
import Derived.Test.YtahmihdahgbhkaaDF
namespace Go.Proofs.Ytahmihdahgbhkaa
open Go.RowKit

/-- What each block serves: 0 nothing of a disk. -/
abbrev Ro := Nat → Nat
/-- Nothing below B, nothing that is not there yet. -/
def RoOk (ρ : Ro) (B : Nat) (w : World) : Prop := ∀ k, ρ k ≠ 0 → B ≤ k ∧ k < w.heap.size
/-- Only blocks that serve something of S were written; what was there serves what it served. -/
structure Step (S : List Nat) (ρ ρ' : Ro) (w w' : World) : Prop where
  kept : Kept (fun k => ρ k ∈ S) w w'
  same : ∀ k, k < w.heap.size → ρ' k = ρ k
section
variable {S T : List Nat} {ρ ρ1 ρ' : Ro} {w w1 w' : World}
theorem Step.refl : Step S ρ ρ w w := ⟨Kept.refl, fun _ _ => rfl⟩
theorem Step.trans (h : Step S ρ ρ1 w w1) (k : Step S ρ1 ρ' w1 w') : Step S ρ ρ' w w' := by
  have hs := h.kept.size
  refine ⟨⟨k.kept.os.trans h.kept.os, k.kept.tape.trans h.kept.tape, k.kept.output.trans h.kept.output, Nat.le_trans hs k.kept.size, fun j hj hn => ?_⟩, fun j hj => (k.same j (by omega)).trans (h.same j hj)⟩
  exact (k.kept.block j (by omega) (by rw [h.same j hj]; exact hn)).trans (h.kept.block j hj hn)
theorem Step.mono (h : Step S ρ ρ' w w') (hS : ∀ r ∈ S, r ∈ T) : Step T ρ ρ' w w' := ⟨h.kept.mono fun _ _ hk => hS _ hk, h.same⟩
theorem Step.of (h : Below w.heap.size w w') : Step S ρ ρ w w' := ⟨Kept.of h, fun _ _ => rfl⟩
theorem Step.alloc (h : Step S ρ ρ' w w') (o : Obj) : Step S ρ ρ' w (w'.alloc o) := ⟨h.kept.alloc o, h.same⟩
theorem Step.setCell (h : Step S ρ ρ' w w') (p : Addr) (hp : w.heap.size ≤ p.block ∨ ρ p.block ∈ S) (u : Value) : Step S ρ ρ' w (w'.setCell p u) := ⟨h.kept.setCell p hp u, h.same⟩
theorem Step.below {B : Nat} (h : Step S ρ ρ' w w') (hB : B ≤ w.heap.size) (hr : RoOk ρ B w) (h0 : 0 ∉ S) : Below B w w' :=
  h.kept.below hB fun k hk hm => by
    by_cases e : ρ k = 0
    · rw [e] at hm; exact h0 hm
    · exact absurd (hr k e).1 (by omega)
theorem RoOk.later {B : Nat} (h : RoOk ρ B w) (hs : w.heap.size ≤ w'.heap.size) : RoOk ρ B w' := fun k hk => ⟨(h k hk).1, Nat.lt_of_lt_of_le (h k hk).2 hs⟩
end
/-- The block g serves r from now on. -/
def tagR (ρ : Ro) (g r : Nat) : Ro := fun k => if k = g then r else ρ k
theorem tagR_at (ρ : Ro) (g r : Nat) : tagR ρ g r g = r := by simp [tagR]
theorem tagR_else {ρ : Ro} {g r k : Nat} (h : k ≠ g) : tagR ρ g r k = ρ k := by simp [tagR, h]
theorem RoOk.tag {ρ : Ro} {B : Nat} {w : World} (h : RoOk ρ B w) {g r : Nat} (h1 : B ≤ g) (h2 : g < w.heap.size) : RoOk (tagR ρ g r) B w := fun k hk => by
  by_cases e : k = g
  · subst e; exact ⟨h1, h2⟩
  · rw [tagR_else e] at hk; exact h k hk
theorem Step.tag {S : List Nat} {ρ ρ' : Ro} {w w' : World} (h : Step S ρ ρ' w w') {g r : Nat} (hg : w.heap.size ≤ g) : Step S ρ (tagR ρ' g r) w w' :=
  ⟨h.kept, fun k hk => (tagR_else (by omega)).trans (h.same k hk)⟩

/-- A row whose block serves r. -/
structure Rw (w : World) (ρ : Ro) (B r : Nat) (v : Value) (l : List UInt8) : Prop where
  br : BR w B v l
  ro : ∀ k, v.ownBlock = some k → ρ k = r
section
variable {w w' : World} {S : List Nat} {ρ ρ' : Ro} {B r : Nat} {v : Value} {l : List UInt8}
theorem Rw.step (h : Rw w ρ B r v l) (hs : Step S ρ ρ' w w') (hr : r ∉ S) : Rw w' ρ' B r v l :=
  ⟨h.br.kept hs.kept fun k hk => by rw [h.ro k hk]; exact hr, fun k hk => (hs.same k (h.br.lt k hk).2).trans (h.ro k hk)⟩
theorem Rw.nil (w : World) (ρ : Ro) (B r : Nat) : Rw w ρ B r (.slice none 0 0) [] := ⟨BR.nil _ _, fun k hk => by cases hk⟩
theorem Rw.tag (h : Rw w ρ B r v l) {g s : Nat} (hg : ρ g = 0) (hr : r ≠ 0) : Rw w (tagR ρ g s) B r v l :=
  ⟨h.br, fun k hk => by
    have := h.ro k hk
    rw [tagR_else (fun e => by rw [e] at this; omega)]
    exact this⟩
end
/-- A row whose value was put in another one's place: its block, if it is new, serves the same. -/
theorem Rw.grown {w w' : World} {ρ : Ro} {B r : Nat} {v u : Value} {l l' : List UInt8} (h : Rw w ρ B r v l) (hr : RoOk ρ B w) (hu : BR w' B u l') (hg : w.grownBy w' v.ownBlock)
    (hn : ∀ k, u.ownBlock = some k → v.ownBlock = some k ∨ w.heap.size ≤ k) : ∃ ρ', Step [r] ρ ρ' w w' ∧ RoOk ρ' B w' ∧ Rw w' ρ' B r u l' := by
  have hS : Step [r] ρ ρ w w' := ⟨⟨hg.os, hg.tape, hg.output, hg.size, fun k hk hm => hg.block k hk (fun e => hm (by rw [h.ro k e.symm]; simp))⟩, fun _ _ => rfl⟩
  cases hb : u.ownBlock with
  | none => exact ⟨ρ, hS, hr.later hg.size, hu, fun k hk => by rw [hb] at hk; cases hk⟩
  | some g =>
    by_cases hlt : g < w.heap.size
    · refine ⟨ρ, hS, hr.later hg.size, hu, fun k hk => ?_⟩
      rcases hn k hk with e | e
      · exact h.ro k e
      · rw [hb] at hk
        injection hk with hk
        omega
    · have hl := hu.lt g hb
      refine ⟨tagR ρ g r, hS.tag (by omega), (hr.later hg.size).tag hl.1 hl.2, hu, fun k hk => ?_⟩
      rw [hb] at hk
      injection hk with hk
      rw [← hk]
      exact tagR_at _ _ _

/-- A list of changes of the call's own, with its texts: the list's block serves r, the texts' ones s. -/
structure Lw (w : World) (ρ : Ro) (B r s : Nat) (v : Value) (cs : List (Ch × Value)) : Prop where
  row : w.ownsRow B 98 3 v cs.length (chsC cs)
  ro : ∀ k, v.ownBlock = some k → ρ k = r
  tx : ∀ p ∈ cs, TX w p ∧ ∀ k, p.2.ownBlock = some k → ρ k = s
section
variable {w w' : World} {S : List Nat} {ρ ρ' : Ro} {B r s : Nat} {v : Value} {cs : List (Ch × Value)}
theorem ownsRow_blocks {e : TypeId} {size n : Nat} {xs : List Value} (h : w.ownsRow B e size v n xs) (hk : ∀ (j : Nat), v.ownBlock = some j → j < w.heap.size → w'.heap[j]? = w.heap[j]?) : w'.ownsRow B e size v n xs := by
  obtain ⟨h1, h2⟩ := h
  refine ⟨h1, ?_⟩
  rcases h2 with h2 | ⟨g, cap, cur, rfl, hg, hh, r⟩
  · exact .inl h2
  · exact .inr ⟨g, cap, cur, rfl, hg, (hk g rfl (Array.getElem?_eq_some_iff.1 hh).1).trans hh, r⟩
theorem Lw.step (h : Lw w ρ B r s v cs) (hs : Step S ρ ρ' w w') (hr : r ∉ S) (hss : s ∉ S) : Lw w' ρ' B r s v cs where
  row := ownsRow_blocks h.row fun k hk hlt => hs.kept.block k hlt (by rw [h.ro k hk]; exact hr)
  ro := fun k hk => (hs.same k (World.ownsRow.lt h.row k hk).2).trans (h.ro k hk)
  tx := fun p hp => ⟨(h.tx p hp).1.heap fun k hk hlt => hs.kept.block k hlt (by rw [(h.tx p hp).2 k hk]; exact hss), fun k hk => (hs.same k ((h.tx p hp).1.lt hk)).trans ((h.tx p hp).2 k hk)⟩
theorem Lw.nil (w : World) (ρ : Ro) (B r s : Nat) : Lw w ρ B r s (.slice none 0 0) [] := ⟨World.ownsRow_nil _ _ _ _, fun _ hk => (nomatch hk), fun _ hp => (nomatch hp)⟩
theorem Lw.tag (h : Lw w ρ B r s v cs) {g t : Nat} (hg : ρ g = 0) (hr : r ≠ 0) (hs : s ≠ 0) : Lw w (tagR ρ g t) B r s v cs where
  row := h.row
  ro := fun k hk => by
    have := h.ro k hk
    rw [tagR_else (fun e => by rw [e] at this; omega)]
    exact this
  tx := fun p hp => ⟨(h.tx p hp).1, fun k hk => by
    have := (h.tx p hp).2 k hk
    rw [tagR_else (fun e => by rw [e] at this; omega)]
    exact this⟩
theorem Lw.cl (h : Lw w ρ B r s v cs) : CL w v cs := by
  refine ⟨?_, fun p hp => (h.tx p hp).1⟩
  have hc := fun g hg => World.ownsRow.cells (g := g) h.row hg
  rcases h.row.2 with ⟨rfl, hn⟩ | ⟨g, cap, cur, rfl, hg, hh, h1, h2, _⟩
  · have : cs = [] := List.eq_nil_of_length_eq_zero hn
    subst this
    exact ⟨none, 0, rfl, Nat.le_refl _, Nat.zero_le _, fun h => absurd rfl h⟩
  · refine ⟨_, cap, rfl, h1, h2, fun _ => ⟨g, 0, rfl, (Array.getElem?_eq_some_iff.1 hh).1, fun j u hu => ?_⟩⟩
    have := hc g rfl j u hu
    rwa [Addr.add_lit] at this
end
end Go.Proofs.Ytahmihdahgbhkaa
