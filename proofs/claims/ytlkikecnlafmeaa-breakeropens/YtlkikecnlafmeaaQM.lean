/-
  A statement's argument in memory: a breaker, a word, a list of acts.
  Conditions: as each theorem states them.
-/
import Derived.Test.YtlkikecnlafmeaaQJ
namespace Go.Proofs.Ytlkikecnlafmeaa
open Go.RowKit

/-- The argument in a block of its own. -/
def SAt (w : World) (k : Nat) (b : BR) (sc : Nat) (v : Value) : Prop := w.heap[k]? = some (.cells #[.int .i64 b.t, .int .i64 b.f, .int .i64 b.u, .float .f64 b.s, .int .i64 b.c, .int .u64 (sc : Int), v] 30 (0, 0))
section
variable {w w' : World} {k sc : Nat} {b : BR} {v : Value}
theorem SAt.lt (h : SAt w k b sc v) : k < w.heap.size := (Array.getElem?_eq_some_iff.1 h).1
theorem SAt.c0 (h : SAt w k b sc v) : w.cell? ⟨k, 0, none⟩ = some (.int .i64 b.t) := by
  have h' : w.heap[k]? = some (.cells #[.int .i64 b.t, .int .i64 b.f, .int .i64 b.u, .float .f64 b.s, .int .i64 b.c, .int .u64 (sc : Int), v] 30 (0, 0)) := h
  simp [World.cell?, h']
theorem SAt.c1 (h : SAt w k b sc v) : w.cell? ⟨k, 1, none⟩ = some (.int .i64 b.f) := by
  have h' : w.heap[k]? = some (.cells #[.int .i64 b.t, .int .i64 b.f, .int .i64 b.u, .float .f64 b.s, .int .i64 b.c, .int .u64 (sc : Int), v] 30 (0, 0)) := h
  simp [World.cell?, h']
theorem SAt.c2 (h : SAt w k b sc v) : w.cell? ⟨k, 2, none⟩ = some (.int .i64 b.u) := by
  have h' : w.heap[k]? = some (.cells #[.int .i64 b.t, .int .i64 b.f, .int .i64 b.u, .float .f64 b.s, .int .i64 b.c, .int .u64 (sc : Int), v] 30 (0, 0)) := h
  simp [World.cell?, h']
theorem SAt.c3 (h : SAt w k b sc v) : w.cell? ⟨k, 3, none⟩ = some (.float .f64 b.s) := by
  have h' : w.heap[k]? = some (.cells #[.int .i64 b.t, .int .i64 b.f, .int .i64 b.u, .float .f64 b.s, .int .i64 b.c, .int .u64 (sc : Int), v] 30 (0, 0)) := h
  simp [World.cell?, h']
theorem SAt.c4 (h : SAt w k b sc v) : w.cell? ⟨k, 4, none⟩ = some (.int .i64 b.c) := by
  have h' : w.heap[k]? = some (.cells #[.int .i64 b.t, .int .i64 b.f, .int .i64 b.u, .float .f64 b.s, .int .i64 b.c, .int .u64 (sc : Int), v] 30 (0, 0)) := h
  simp [World.cell?, h']
theorem SAt.c5 (h : SAt w k b sc v) : w.cell? ⟨k, 5, none⟩ = some (.int .u64 (sc : Int)) := by
  have h' : w.heap[k]? = some (.cells #[.int .i64 b.t, .int .i64 b.f, .int .i64 b.u, .float .f64 b.s, .int .i64 b.c, .int .u64 (sc : Int), v] 30 (0, 0)) := h
  simp [World.cell?, h']
theorem SAt.c6 (h : SAt w k b sc v) : w.cell? ⟨k, 6, none⟩ = some (v) := by
  have h' : w.heap[k]? = some (.cells #[.int .i64 b.t, .int .i64 b.f, .int .i64 b.u, .float .f64 b.s, .int .i64 b.c, .int .u64 (sc : Int), v] 30 (0, 0)) := h
  simp [World.cell?, h']
theorem SAt.later (h : SAt w k b sc v) (hb : Below w.heap.size w w') : SAt w' k b sc v := (hb.block k h.lt).trans h
theorem SAt.alloc (h : SAt w k b sc v) (o : Obj) : SAt (w.alloc o) k b sc v := (Below.heap_alloc w o k h.lt).trans h
theorem SAt.other (h : SAt w k b sc v) {p : Addr} (hp : k ≠ p.block) (u : Value) : SAt (w.setCell p u) k b sc v := (Below.heap_setCell w p u k hp).trans h
theorem SAt.drew (h : SAt w k b sc v) : SAt w.drew k b sc v := h
theorem SAt.other5 (h : SAt w k b sc v) {m : Nat} (hp : k ≠ m) (t f u : Int) (s : Nat) (c : Int) : SAt (((((w.setCell ⟨m, 0, none⟩ (.int .i64 t)).setCell ⟨m, 1, none⟩ (.int .i64 f)).setCell ⟨m, 2, none⟩ (.int .i64 u)).setCell ⟨m, 3, none⟩ (.float .f64 s)).setCell ⟨m, 4, none⟩ (.int .i64 c)) k b sc v :=
  ((((h.other (p := ⟨m, 0, none⟩) hp _).other (p := ⟨m, 1, none⟩) hp _).other (p := ⟨m, 2, none⟩) hp _).other (p := ⟨m, 3, none⟩) hp _).other (p := ⟨m, 4, none⟩) hp _
end
theorem SAt.new (w : World) (b : BR) (sc : Nat) (v : Value) : SAt (w.alloc (.cells #[.int .i64 b.t, .int .i64 b.f, .int .i64 b.u, .float .f64 b.s, .int .i64 b.c, .int .u64 (sc : Int), v] 30)) w.heap.size b sc v := heap_alloc_new w _
def sV (b : BR) (sc : Nat) (v : Value) : Value := .agg #[.int .i64 b.t, .int .i64 b.f, .int .i64 b.u, .float .f64 b.s, .int .i64 b.c, .int .u64 (sc : Int), v]

structure AcAt (w : World) (b o : Nat) (q : AR) : Prop where
  c0 : w.cell? ⟨b, o, none⟩ = some (.int .i64 q.d)
  c1 : w.cell? ⟨b, o + 1, none⟩ = some (.int .i64 q.n)
  c2 : w.cell? ⟨b, o + 2, none⟩ = some (.int .i64 q.fl)
  c3 : w.cell? ⟨b, o + 3, none⟩ = some (.int .i64 q.pa)
  c4 : w.cell? ⟨b, o + 4, none⟩ = some (.bool q.ok)
  c5 : w.cell? ⟨b, o + 5, none⟩ = some (.int .u64 (q.fo : Int))
  fo : q.fo < 18446744073709551616
/-- A list of acts in memory. -/
def AcsAt (w : World) (v : Value) (l : List AR) : Prop :=
  ∃ A c, v = .slice A l.length c ∧ l.length ≤ maxLen ∧ (l ≠ [] → ∃ b o, A = some ⟨b, o, none⟩ ∧ b < w.heap.size ∧ ∀ i (hi : i < l.length), AcAt w b (o + i * 6) l[i])
theorem AcsAt.slice {w : World} {v : Value} {l : List AR} (h : AcsAt w v l) : ∃ A c, v = .slice A l.length c ∧ l.length < 9223372036854775808 := by
  obtain ⟨A, c, hv, h1, _⟩ := h
  exact ⟨A, c, hv, by unfold maxLen at h1; omega⟩
theorem AcAt.later {w w' : World} {b o : Nat} {q : AR} (h : AcAt w b o q) (hlt : b < w.heap.size) (hb : Below w.heap.size w w') : AcAt w' b o q :=
  ⟨(hb.cell (p := ⟨b, o, none⟩) hlt).trans h.c0, (hb.cell (p := ⟨b, o + 1, none⟩) hlt).trans h.c1, (hb.cell (p := ⟨b, o + 2, none⟩) hlt).trans h.c2, (hb.cell (p := ⟨b, o + 3, none⟩) hlt).trans h.c3, (hb.cell (p := ⟨b, o + 4, none⟩) hlt).trans h.c4, (hb.cell (p := ⟨b, o + 5, none⟩) hlt).trans h.c5, h.fo⟩
theorem AcsAt.later {w w' : World} {v : Value} {l : List AR} (h : AcsAt w v l) (hb : Below w.heap.size w w') : AcsAt w' v l := by
  obtain ⟨A, c, hv, h1, h2⟩ := h
  refine ⟨A, c, hv, h1, fun hne => ?_⟩
  obtain ⟨b, o, hA, hlt, hc⟩ := h2 hne
  exact ⟨b, o, hA, Nat.lt_of_lt_of_le hlt hb.size, fun i hi => (hc i hi).later hlt hb⟩
theorem AcsAt.at {w : World} {A : Option Addr} {c n : Nat} {l : List AR} (h : AcsAt w (.slice A n c) l) {i : Nat} (hi : i < l.length) {B : Nat} {w' : World} (hB : B = w.heap.size) (hb : Below B w w') :
    ∃ (b o : Nat) (q : AR), A = some ⟨b, o, none⟩ ∧ b < w.heap.size ∧ b < w'.heap.size ∧ AcAt w' b (o + i * 6) q := by
  subst hB
  obtain ⟨A', c', hv, _, h3⟩ := h
  obtain ⟨b, o, hA, hlt, hc⟩ := h3 (fun e => by rw [e] at hi; simp at hi)
  injection hv with h1 h2 h3
  subst h1
  have q := hc i hi
  exact ⟨b, o, l[i], hA, hlt, Nat.lt_of_lt_of_le hlt hb.size, (hb.cell (p := ⟨b, o + i * 6, none⟩) hlt).trans q.c0, (hb.cell (p := ⟨b, o + i * 6 + 1, none⟩) hlt).trans q.c1, (hb.cell (p := ⟨b, o + i * 6 + 2, none⟩) hlt).trans q.c2,
    (hb.cell (p := ⟨b, o + i * 6 + 3, none⟩) hlt).trans q.c3, (hb.cell (p := ⟨b, o + i * 6 + 4, none⟩) hlt).trans q.c4, (hb.cell (p := ⟨b, o + i * 6 + 5, none⟩) hlt).trans q.c5, q.fo⟩
end Go.Proofs.Ytlkikecnlafmeaa
