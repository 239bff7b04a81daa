/-
  The page's change done, whatever it is; its list of changes, as it is read; the page's Mod.
  Conditions: as each theorem states them.
-/
import Derived.Test.YtahmihdahgbhkaaRB
namespace Go.Proofs.Ytahmihdahgbhkaa
open Go.RowKit

/-- The two numbers of a page's change. -/
def chN (c : Ch) : Int := match c.b with | some _ => (c.n : Int) | none => 0
def chK (c : Ch) : Int := match c.b with | some _ => -1 | none => (c.n : Int)
theorem chRC_eq (p : Ch × Value) : chRC p = [.int .i64 (chN p.1), .int .i64 (chK p.1), p.2] := by
  unfold chRC chN chK
  cases p.1.b <;> rfl
theorem does_any (c : Ch) (t v : Value) (l : List UInt8) (B : Nat) (w : World) (hv : BR w B v l) (hf : fitC l c) (ht : TX w (c, t)) (h1 : l.length ≤ 4194304) :
    Calls Try.prog 47 #[v, .agg #[.int .i64 (chN c), .int .i64 (chK c), t]] w fun e w' => ∃ u, e = .returned u ∧ BR w' w.heap.size u (doC l c) ∧ Below w.heap.size w w' := by
  obtain ⟨n, b⟩ := c
  cases b with
  | none =>
    have e : t = .slice none 0 0 := ht.1 rfl
    subst e
    exact does_cut n _ v l B w hv hf.1 (by omega) ⟨none, 0, 0, rfl⟩
  | some b =>
    have h2 := (ht.2 b rfl).2
    exact does_write n b t v l B w hv hf.1 (ht.2 b rfl).1.rb (by omega) (by omega)
/-- The page's changes, as they are read. -/
def CR (w : World) (v : Value) (cs : List (Ch × Value)) : Prop :=
  (∃ A c, v = .slice A cs.length c ∧ cs.length ≤ c ∧ c < 9223372036854775808 ∧ (cs ≠ [] → ∃ b o, A = some ⟨b, o, none⟩ ∧ b < w.heap.size ∧ ∀ j u, (chRs cs)[j]? = some u → w.cell? ⟨b, o + j, none⟩ = some u)) ∧ ∀ p ∈ cs, TX w p
theorem LwR.cr {w : World} {ρ : Ro} {B r s : Nat} {v : Value} {cs : List (Ch × Value)} (h : LwR w ρ B r s v cs) : CR w v cs := by
  refine ⟨?_, fun p hp => (h.tx p hp).1⟩
  have hc := fun g hg => World.ownsRow.cells (g := g) h.row hg
  rcases h.row.2 with ⟨rfl, hn⟩ | ⟨g, cap, cur, rfl, hg, hh, h1, h2, _⟩
  · have : cs = [] := List.eq_nil_of_length_eq_zero hn
    subst this
    exact ⟨none, 0, rfl, Nat.le_refl _, by omega, fun h => absurd rfl h⟩
  · refine ⟨_, cap, rfl, h1, by unfold maxLen at h2; omega, fun _ => ⟨g, 0, rfl, (Array.getElem?_eq_some_iff.1 hh).1, fun j u hu => ?_⟩⟩
    have := hc g rfl j u hu
    rwa [Addr.add_lit] at this
theorem CR.later {w w' : World} {v : Value} {cs : List (Ch × Value)} (h : CR w v cs) (hb : Below w.heap.size w w') : CR w' v cs := by
  obtain ⟨⟨A, c, rfl, h1, h2, h3⟩, h4⟩ := h
  refine ⟨⟨A, c, rfl, h1, h2, fun hne => ?_⟩, fun p hp => (h4 p hp).heap fun k _ hk => hb.block k hk⟩
  obtain ⟨b, o, hA, hlt, hc⟩ := h3 hne
  exact ⟨b, o, hA, Nat.lt_of_lt_of_le hlt hb.size, fun j u hu => (hb.cell (p := ⟨b, o + j, none⟩) hlt).trans (hc j u hu)⟩
theorem CR.slice {w : World} {v : Value} {l : List (Ch × Value)} (h : CR w v l) : ∃ A c, v = .slice A l.length c ∧ l.length ≤ c ∧ c < 9223372036854775808 := by
  obtain ⟨⟨A, c, hv, h1, h2, _⟩, _⟩ := h
  exact ⟨A, c, hv, h1, h2⟩
theorem CR.at {w : World} {A : Option Addr} {c n : Nat} {l : List (Ch × Value)} (h : CR w (.slice A n c) l) {i : Nat} (hi : i < l.length) :
    ∃ b o, A = some ⟨b, o, none⟩ ∧ b < w.heap.size ∧ w.cell? ⟨b, o + i * 3, none⟩ = some (.int .i64 (chN l[i].1)) ∧ w.cell? ⟨b, o + i * 3 + 1, none⟩ = some (.int .i64 (chK l[i].1)) ∧ w.cell? ⟨b, o + i * 3 + 2, none⟩ = some l[i].2 := by
  obtain ⟨⟨A', c', hv, _, _, h3⟩, _⟩ := h
  obtain ⟨b, o, hA, hlt, hc⟩ := h3 (fun e => by rw [e] at hi; simp at hi)
  injection hv with e1
  subst e1
  refine ⟨b, o, hA, hlt, ?_, ?_, ?_⟩
  · exact hc (i * 3) _ ((chRs_at l i hi 0 (by omega)).trans (by rw [chRC_eq]; rfl))
  · exact hc (i * 3 + 1) _ ((chRs_at l i hi 1 (by omega)).trans (by rw [chRC_eq]; rfl))
  · exact hc (i * 3 + 2) _ ((chRs_at l i hi 2 (by omega)).trans (by rw [chRC_eq]; rfl))
set_option maxHeartbeats 2000000 in
theorem mod_r (x n : Int) (w : World) (h0 : 0 < n) (h1 : n < 4611686018427387904) :
    Calls Try.prog 51 #[.int .i64 x, .int .i64 n] w fun e w' => e = .returned (.int .i64 (x % n)) ∧ w' = w := by
  have hne : ¬ n = 0 := by omega
  have hb := Int.tmod_lt_of_pos x h0
  have ha := Int.lt_tmod_of_pos x h0
  have hq : IntKind.i64.wrap (x.tmod n) = x.tmod n := wrap_id (by omega) (by omega)
  by_cases c : x.tmod n < 0
  · have hw : IntKind.i64.wrap (x.tmod n + n) = x % n := by
      rw [wrap_id (by omega) (by omega)]
      have e := @Int.tmod_eq_emod x n
      split at e
      · have := Int.emod_nonneg x (show n ≠ 0 by omega)
        omega
      · rw [Int.natAbs_of_nonneg (Int.le_of_lt h0)] at e
        omega
    go_enter Try.func51, Try.ntmps51
    go_wp2_with fail
    go_ret
    exact ⟨rfl, rfl⟩
  · have hw : x.tmod n = x % n := by
      have e := @Int.tmod_eq_emod x n
      have h2 := Int.emod_lt_of_pos x h0
      split at e
      · omega
      · rw [Int.natAbs_of_nonneg (Int.le_of_lt h0)] at e
        omega
    go_enter Try.func51, Try.ntmps51
    go_wp2_with fail
    go_ret
    exact ⟨rfl, rfl⟩
end Go.Proofs.Ytahmihdahgbhkaa
