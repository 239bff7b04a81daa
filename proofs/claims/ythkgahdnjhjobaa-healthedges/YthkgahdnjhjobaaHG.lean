/-
  A statement's argument in memory; comparisons of scores by their words.
  Conditions: as each theorem states them.
-/
import Derived.Test.YthkgahdnjhjobaaHF
namespace Go.Proofs.Ythkgahdnjhjobaa
open Go.RowKit

/-- The argument in a block of its own. -/
def SAt (w : World) (b : Nat) (p q r t : Value) : Prop := w.heap[b]? = some (.cells #[p, q, r, t] 26 (0, 0))
theorem SAt.lt {w : World} {b : Nat} {p q r t : Value} (h : SAt w b p q r t) : b < w.heap.size := (Array.getElem?_eq_some_iff.1 h).1
theorem SAt.c0 {w : World} {b : Nat} {p q r t : Value} (h : SAt w b p q r t) : w.cell? ⟨b, 0, none⟩ = some p := by
  have h' : w.heap[b]? = some (.cells #[p, q, r, t] 26 (0, 0)) := h
  simp [World.cell?, h']
theorem SAt.c1 {w : World} {b : Nat} {p q r t : Value} (h : SAt w b p q r t) : w.cell? ⟨b, 1, none⟩ = some q := by
  have h' : w.heap[b]? = some (.cells #[p, q, r, t] 26 (0, 0)) := h
  simp [World.cell?, h']
theorem SAt.c2 {w : World} {b : Nat} {p q r t : Value} (h : SAt w b p q r t) : w.cell? ⟨b, 2, none⟩ = some r := by
  have h' : w.heap[b]? = some (.cells #[p, q, r, t] 26 (0, 0)) := h
  simp [World.cell?, h']
theorem SAt.c3 {w : World} {b : Nat} {p q r t : Value} (h : SAt w b p q r t) : w.cell? ⟨b, 3, none⟩ = some t := by
  have h' : w.heap[b]? = some (.cells #[p, q, r, t] 26 (0, 0)) := h
  simp [World.cell?, h']
theorem SAt.later {w w' : World} {b : Nat} {p q r t : Value} (h : SAt w b p q r t) (hb : Below w.heap.size w w') : SAt w' b p q r t := (hb.block b h.lt).trans h
theorem SAt.alloc {w : World} {b : Nat} {p q r t : Value} (h : SAt w b p q r t) (o : Obj) : SAt (w.alloc o) b p q r t := (Below.heap_alloc w o b h.lt).trans h
theorem SAt.other {w : World} {b : Nat} {p q r t : Value} (h : SAt w b p q r t) {a : Addr} (hp : b ≠ a.block) (v : Value) : SAt (w.setCell a v) b p q r t := (Below.heap_setCell w a v b hp).trans h
theorem SAt.new (w : World) (p q r t : Value) : SAt (w.alloc (.cells #[p, q, r, t] 26)) w.heap.size p q r t := heap_alloc_new w _

theorem PsAt.cell {w : World} {A : Option Addr} {c n : Nat} {l : List (Nat × Nat)} (h : PsAt w (.slice A n c) l) {i : Nat} (hi : i < l.length) {B : Nat} {w' : World} (hB : B = w.heap.size) (hb : Below B w w') :
    ∃ b o, A = some ⟨b, o, none⟩ ∧ w'.cell? ⟨b, o + i * 2, none⟩ = some (.int .u64 (l[i].1 : Int)) ∧ w'.cell? ⟨b, o + i * 2 + 1, none⟩ = some (.int .u64 (l[i].2 : Int)) := by
  obtain ⟨A', c', hv, _, _, hc⟩ := h
  obtain ⟨b, o, hA, hbl, hat⟩ := hc (fun e => by rw [e] at hi; simp at hi)
  injection hv with h1 h2 h3
  subst h1
  exact ⟨b, o, hA, (hb.cell (p := ⟨b, o + i * 2, none⟩) (by rw [hB]; exact hbl)).trans (hat i hi).1, (hb.cell (p := ⟨b, o + i * 2 + 1, none⟩) (by rw [hB]; exact hbl)).trans (hat i hi).2⟩

theorem key_unit {a : Nat} (h : a ≤ 4607182418800017408) : keyF a = (a : Int) := by
  rw [key_word (by omega), if_pos (by omega)]
theorem unit_lt {a b : Nat} (ha : a ≤ 4607182418800017408) (hb : b ≤ 4607182418800017408) : (FloatKind.f64.format.order a b == some .lt) = decide (a < b) := by
  rw [ord_lt, (unit_in ha).2.2.2.2, (unit_in hb).2.2.2.2, key_unit ha, key_unit hb]
  by_cases k : a < b
  · rw [decide_eq_true k, decide_eq_true (by omega)]; rfl
  · rw [decide_eq_false k, decide_eq_false (by omega)]; rfl
theorem unit_gt {a b : Nat} (ha : a ≤ 4607182418800017408) (hb : b ≤ 4607182418800017408) : (FloatKind.f64.format.order a b == some .gt) = decide (b < a) := by
  rw [ord_gt, (unit_in ha).2.2.2.2, (unit_in hb).2.2.2.2, key_unit ha, key_unit hb]
  by_cases k : b < a
  · rw [decide_eq_true k, decide_eq_true (by omega)]; rfl
  · rw [decide_eq_false k, decide_eq_false (by omega)]; rfl
theorem unit_eq {a b : Nat} (ha : a ≤ 4607182418800017408) (hb : b ≤ 4607182418800017408) : (FloatKind.f64.format.order a b == some .eq) = decide (a = b) := by
  rw [ord_eq2, (unit_in ha).2.2.2.2, (unit_in hb).2.2.2.2, key_unit ha, key_unit hb]
  by_cases k : a = b
  · rw [decide_eq_true k, decide_eq_true (by omega)]; rfl
  · rw [decide_eq_false k, decide_eq_false (by omega)]; rfl
/-- A float held from +0 to 1, by its place. -/
theorem clamp_cases {x : Nat} (h : x < 18446744073709551616) (hn : nanF x = false) : (keyF x ≤ 0 ∧ clampF x 0 4607182418800017408 = 0) ∨ (0 < keyF x ∧ (clampF x 0 4607182418800017408 : Int) = min (keyF x) 4607182418800017408) := by
  by_cases k : x < 9223372036854775808
  · have hx : x < 9218868437227405313 := by
      unfold nanF at hn
      have := of_decide_eq_false hn
      omega
    rw [clamp_unit hx, key_word h, if_pos k]
    by_cases k0 : x = 0
    · subst k0
      left
      exact ⟨by omega, by decide⟩
    · right
      omega
  · left
    rw [key_word h, if_neg k]
    refine ⟨by omega, ?_⟩
    unfold clampF
    rw [hn, show (false || nanF 0 || nanF 4607182418800017408) = false by decide, if_neg (by decide), if_pos]
    left
    rw [cmp_neg]
    unfold bitsF
    rw [hn, if_neg (by decide), if_neg k, show nanF 0 = false by decide]
    simp
    omega
theorem clamp_up {s x : Nat} (hs : s ≤ 4607182418800017408) (h : x < 18446744073709551616) (hn : nanF x = false) (hk : keyF s ≤ keyF x) : s ≤ clampF x 0 4607182418800017408 := by
  rw [key_unit hs] at hk
  rcases clamp_cases h hn with ⟨h1, h2⟩ | ⟨h1, h2⟩ <;> omega
theorem clamp_down {s x : Nat} (hs : s ≤ 4607182418800017408) (h : x < 18446744073709551616) (hn : nanF x = false) (hk : keyF x ≤ keyF s) : clampF x 0 4607182418800017408 ≤ s := by
  rw [key_unit hs] at hk
  rcases clamp_cases h hn with ⟨h1, h2⟩ | ⟨h1, h2⟩ <;> omega

/-- A health that may be stays one. -/
theorem next_ok {s : Nat} {c : Int} {x u : Nat} (hs : s < 18446744073709551616) (hx : x < 18446744073709551616) (hq : okH s c = true) : okH (nextS s c x u) (nextC c x) = true ∧ nextS s c x u < 18446744073709551616 := by
  unfold nextS nextC
  cases hn : nanF x with
  | true =>
    simp only [if_true]
    exact ⟨hq, hs⟩
  | false =>
    simp only [Bool.false_eq_true, if_false]
    have hcl := clamp_le hx hn
    have hc0 : 0 ≤ c := by
      by_cases hc : c = 0
      · omega
      · have := (okH_pos hq hc).1
        omega
    have key : ∀ y, y ≤ 4607182418800017408 → okH y (if c + 1 ≤ 1099511627776 then c + 1 else 1099511627776) = true ∧ y < 18446744073709551616 := by
      intro y hy
      refine ⟨?_, by omega⟩
      unfold okH
      rw [if_neg (by split <;> omega), decide_eq_true (by split <;> omega), decide_eq_true (by split <;> omega), decide_eq_true hy]
      rfl
    by_cases hc : c = 0
    · rw [if_pos hc]
      exact key _ hcl
    · rw [if_neg hc]
      exact key _ (note_in (okH_pos hq hc).2.2)
end Go.Proofs.Ythkgahdnjhjobaa
