/-
  Both disks' Crash, one behind the other; what is left of the found files when one list of them is written over.
  Conditions: as each theorem states them.
-/
import Derived.Test.YtahmihdahgbhkaaRT
namespace Go.Proofs.Ytahmihdahgbhkaa
open Go.RowKit

section
variable {B p q g : Nat} {d e : Dk} {cs : Array Value} {t : TypeId} {w : World}
theorem Two.geK (h : Two B p q d e g cs t w) : B ≤ p := by
  obtain ⟨ρ1, x1, ρ2, x2, h1, h2, h3, h4, h5, h6, h7, h8, h9⟩ := h
  exact (h1 p (by rw [h2.ro]; decide)).1
theorem Two.geR (h : Two B p q d e g cs t w) : B ≤ q := by
  obtain ⟨ρ1, x1, ρ2, x2, h1, h2, h3, h4, h5, h6, h7, h8, h9⟩ := h
  exact (h3 q (by rw [h4.ro]; decide)).1
theorem Two.crashes {w1 : World} (h : Two B p q d e g cs t w) (hb : Below w.heap.size w w1) (hm : ∀ m, (d.f m).done.length < 1000000) (hn : ∀ m, (e.f m).done.length < 1000000) (l : List Int) (pv : Value) (hpv : IA w1 pv l) (hpp : l ≠ [] → ∀ k, pv.ownBlock = some k → k ≠ p) :
    Calls Try.prog 28 #[.pointer (some ⟨p, 0, none⟩), pv] w1 fun r w2 => ∃ u us, r = .returned u ∧ OC w2 (w1.heap.size + 1) u us (crashD d l) ∧ Two B p q ⟨d.f, none⟩ e g cs t w2 ∧ Below B w1 w2 ∧
      ∀ (v : Value), IA w2 v l → (l ≠ [] → ∀ k, v.ownBlock = some k → k ≠ q) → Calls Try.prog 30 #[.pointer (some ⟨q, 0, none⟩), v] w2 fun r w3 => ∃ y ys, r = .returned y ∧ OC w3 w2.heap.size y ys (crashD e l) ∧ OC w3 (w1.heap.size + 1) u us (crashD d l) ∧ Two B p q ⟨d.f, none⟩ ⟨e.f, none⟩ g cs t w3 ∧ Below B w2 w3 := by
  obtain ⟨ρ1, x1, ρ2, x2, h1, h2, h3, h4, h5, h6, h7, h8, h9⟩ := h
  have k1 := h2.step (Step.of (S := []) hb) (by simp)
  have k2 := h4.step (Step.of (S := []) hb) (by simp)
  have hB1 := Nat.le_trans h9 hb.size
  have hg1 := h8.later hb
  have h5' : ∀ k, ρ2 k = 0 ∨ ρ1 k = 0 := fun k => (h5 k).symm
  refine (Crash_any' w1 ρ1 B p x1 d k1 (h1.later hb.size) hB1 l pv hpv hm hpp).mono ?_
  rintro r w2 ⟨u, rfl, ⟨us, hu⟩, ρ1', hs, hro, x', hk'⟩
  have k2' := k2.step (quietStep h5 hs) (by simp; omega)
  have r2 := (h3.later hb.size).later hs.kept.size
  have g2 := hg1.heap (free_kept hs hg1.lt h6)
  have hB2 := Nat.le_trans hB1 hs.kept.size
  refine ⟨u, us, rfl, hu, ⟨ρ1', x', ρ2, x2, hro, hk', r2, k2', apart h5 hs (h3.later hb.size), (hs.same g hg1.lt).trans h6, h7, g2, hB2⟩, hs.below hB1 (h1.later hb.size) (by decide), fun v hv hvv => ?_⟩
  have a2 := apart h5 hs (h3.later hb.size)
  have a2' : ∀ k, ρ2 k = 0 ∨ ρ1' k = 0 := fun k => (a2 k).symm
  refine (Crash_r w2 ρ2 B q x2 e k2' r2 l v hv hn hvv).mono ?_
  rintro r w3 ⟨y, rfl, ⟨ys, hy⟩, ρ2', hs2, hro2, x2', hk2⟩
  have hw := hb.size
  refine ⟨y, ys, rfl, hy, hu.kept hs2.kept fun k hk hm => ?_, ⟨ρ1', x', ρ2', x2', hro.later hs2.kept.size, hk'.step (quietStep a2' hs2) (by simp; omega), hro2, hk2, fun k => (apart a2' hs2 hro k).symm, (hs.same g hg1.lt).trans h6, (hs2.same g g2.lt).trans h7, g2.heap (free_kept hs2 g2.lt h7), Nat.le_trans hB2 hs2.kept.size⟩, hs2.below hB2 r2 (by decide)⟩
  have e0 : ρ2 k = 0 := Classical.byContradiction fun e => by have := (h3 k e).2; omega
  rw [e0] at hm
  simp [SK] at hm
end
/-- A list of rows lies between the world that it began at and the one that it ended at. -/
theorem OC.within {w : World} {B : Nat} {v : Value} {us : List Value} {ls : List (List UInt8)} (h : OC w B v us ls) (k : Nat) (hk : v.ownBlock = some k ∨ ∃ u ∈ us, u.ownBlock = some k) : B ≤ k ∧ k < w.heap.size := by
  rcases hk with hk | ⟨u, hu, hk⟩
  · exact World.ownsRow.lt h.row k hk
  · obtain ⟨l, hl⟩ := h.mem hu
    exact hl.lt k hk
end Go.Proofs.Ytahmihdahgbhkaa
