/-
  A statement's argument in memory.
  Conditions: as each theorem states them.
-/
import Derived.Test.YtcnkejndblcbhaaKH
namespace Go.Proofs.Ytcnkejndblcbhaa
open Go.RowKit

/-- The argument in a block of its own. -/
def SAt (w : World) (k : Nat) (b : BI) (v : Value) : Prop := w.heap[k]? = some (.cells #[.int .i64 b.l, .int .i64 b.c, .int .i64 b.f, .int .i64 b.e, .int .i64 b.d, v] 26 (0, 0))
section
variable {w w' : World} {k : Nat} {b : BI} {v : Value}
theorem SAt.lt (h : SAt w k b v) : k < w.heap.size := (Array.getElem?_eq_some_iff.1 h).1
theorem SAt.c0 (h : SAt w k b v) : w.cell? ⟨k, 0, none⟩ = some (.int .i64 b.l) := by
  have h' : w.heap[k]? = some (.cells #[.int .i64 b.l, .int .i64 b.c, .int .i64 b.f, .int .i64 b.e, .int .i64 b.d, v] 26 (0, 0)) := h
  simp [World.cell?, h']
theorem SAt.c1 (h : SAt w k b v) : w.cell? ⟨k, 1, none⟩ = some (.int .i64 b.c) := by
  have h' : w.heap[k]? = some (.cells #[.int .i64 b.l, .int .i64 b.c, .int .i64 b.f, .int .i64 b.e, .int .i64 b.d, v] 26 (0, 0)) := h
  simp [World.cell?, h']
theorem SAt.c2 (h : SAt w k b v) : w.cell? ⟨k, 2, none⟩ = some (.int .i64 b.f) := by
  have h' : w.heap[k]? = some (.cells #[.int .i64 b.l, .int .i64 b.c, .int .i64 b.f, .int .i64 b.e, .int .i64 b.d, v] 26 (0, 0)) := h
  simp [World.cell?, h']
theorem SAt.c3 (h : SAt w k b v) : w.cell? ⟨k, 3, none⟩ = some (.int .i64 b.e) := by
  have h' : w.heap[k]? = some (.cells #[.int .i64 b.l, .int .i64 b.c, .int .i64 b.f, .int .i64 b.e, .int .i64 b.d, v] 26 (0, 0)) := h
  simp [World.cell?, h']
theorem SAt.c4 (h : SAt w k b v) : w.cell? ⟨k, 4, none⟩ = some (.int .i64 b.d) := by
  have h' : w.heap[k]? = some (.cells #[.int .i64 b.l, .int .i64 b.c, .int .i64 b.f, .int .i64 b.e, .int .i64 b.d, v] 26 (0, 0)) := h
  simp [World.cell?, h']
theorem SAt.c5 (h : SAt w k b v) : w.cell? ⟨k, 5, none⟩ = some v := by
  have h' : w.heap[k]? = some (.cells #[.int .i64 b.l, .int .i64 b.c, .int .i64 b.f, .int .i64 b.e, .int .i64 b.d, v] 26 (0, 0)) := h
  simp [World.cell?, h']
theorem SAt.later (h : SAt w k b v) (hb : Below w.heap.size w w') : SAt w' k b v := (hb.block k h.lt).trans h
theorem SAt.alloc (h : SAt w k b v) (o : Obj) : SAt (w.alloc o) k b v := (Below.heap_alloc w o k h.lt).trans h
theorem SAt.other (h : SAt w k b v) {p : Addr} (hp : k ≠ p.block) (u : Value) : SAt (w.setCell p u) k b v := (Below.heap_setCell w p u k hp).trans h
theorem SAt.other5 (h : SAt w k b v) {m : Nat} (hp : k ≠ m) (l c f e d : Int) : SAt (((((w.setCell ⟨m, 0, none⟩ (.int .i64 l)).setCell ⟨m, 1, none⟩ (.int .i64 c)).setCell ⟨m, 2, none⟩ (.int .i64 f)).setCell ⟨m, 3, none⟩ (.int .i64 e)).setCell ⟨m, 4, none⟩ (.int .i64 d)) k b v :=
  ((((h.other (p := ⟨m, 0, none⟩) hp _).other (p := ⟨m, 1, none⟩) hp _).other (p := ⟨m, 2, none⟩) hp _).other (p := ⟨m, 3, none⟩) hp _).other (p := ⟨m, 4, none⟩) hp _
theorem BAt.other5 (h : BAt w k b) {m : Nat} (hp : k ≠ m) (l c f e d : Int) : BAt (((((w.setCell ⟨m, 0, none⟩ (.int .i64 l)).setCell ⟨m, 1, none⟩ (.int .i64 c)).setCell ⟨m, 2, none⟩ (.int .i64 f)).setCell ⟨m, 3, none⟩ (.int .i64 e)).setCell ⟨m, 4, none⟩ (.int .i64 d)) k b :=
  ((((h.other (p := ⟨m, 0, none⟩) hp _).other (p := ⟨m, 1, none⟩) hp _).other (p := ⟨m, 2, none⟩) hp _).other (p := ⟨m, 3, none⟩) hp _).other (p := ⟨m, 4, none⟩) hp _
end
theorem BAt.drew {w : World} {k : Nat} {b : BI} (h : BAt w k b) : BAt w.drew k b := h
theorem SAt.drew {w : World} {k : Nat} {b : BI} {v : Value} (h : SAt w k b v) : SAt w.drew k b v := h
theorem SAt.new (w : World) (b : BI) (v : Value) : SAt (w.alloc (.cells #[.int .i64 b.l, .int .i64 b.c, .int .i64 b.f, .int .i64 b.e, .int .i64 b.d, v] 26)) w.heap.size b v := heap_alloc_new w _

/-- Four numbers. -/
structure F4 where
  a : Int
  b : Int
  c : Int
  d : Int
def i64B (x : Int) : Prop := -9223372036854775808 ≤ x ∧ x < 9223372036854775808
def F4.fit (x : F4) : Prop := i64B x.a ∧ i64B x.b ∧ i64B x.c ∧ i64B x.d
/-- A list of fours in memory, one behind the other. -/
def FsAt (w : World) (v : Value) (l : List F4) : Prop :=
  ∃ A c, v = .slice A l.length c ∧ l.length ≤ maxLen ∧ (∀ x ∈ l, x.fit) ∧ (l ≠ [] → ∃ b o, A = some ⟨b, o, none⟩ ∧ b < w.heap.size ∧ ∀ i (hi : i < l.length), w.cell? ⟨b, o + i * 4, none⟩ = some (.int .i64 l[i].a) ∧ w.cell? ⟨b, o + i * 4 + 1, none⟩ = some (.int .i64 l[i].b) ∧ w.cell? ⟨b, o + i * 4 + 2, none⟩ = some (.int .i64 l[i].c) ∧ w.cell? ⟨b, o + i * 4 + 3, none⟩ = some (.int .i64 l[i].d))
theorem FsAt.cell {w : World} {A : Option Addr} {c n : Nat} {l : List F4} (h : FsAt w (.slice A n c) l) {i : Nat} (hi : i < l.length) {B : Nat} {w' : World} (hB : B = w.heap.size) (hb : Below B w w') :
    ∃ (b o : Nat) (x : F4), A = some ⟨b, o, none⟩ ∧ x.fit ∧ b < w.heap.size ∧ w'.cell? ⟨b, o + i * 4, none⟩ = some (.int .i64 x.a) ∧ w'.cell? ⟨b, o + i * 4 + 1, none⟩ = some (.int .i64 x.b) ∧ w'.cell? ⟨b, o + i * 4 + 2, none⟩ = some (.int .i64 x.c) ∧ w'.cell? ⟨b, o + i * 4 + 3, none⟩ = some (.int .i64 x.d) := by
  obtain ⟨A', c', hv, _, hf, hc⟩ := h
  obtain ⟨b, o, hA, hbl, hat⟩ := hc (fun e => by rw [e] at hi; simp at hi)
  injection hv with h1 h2 h3
  subst h1
  obtain ⟨h0, h1, h2, h3⟩ := hat i hi
  exact ⟨b, o, l[i], hA, hf _ (List.getElem_mem hi), hbl, (hb.cell (p := ⟨b, o + i * 4, none⟩) (by rw [hB]; exact hbl)).trans h0, (hb.cell (p := ⟨b, o + i * 4 + 1, none⟩) (by rw [hB]; exact hbl)).trans h1,
    (hb.cell (p := ⟨b, o + i * 4 + 2, none⟩) (by rw [hB]; exact hbl)).trans h2, (hb.cell (p := ⟨b, o + i * 4 + 3, none⟩) (by rw [hB]; exact hbl)).trans h3⟩
end Go.Proofs.Ytcnkejndblcbhaa
