/-
  Lists of numbers that can be read; package disk's below, walked.
  Conditions: as each theorem states them.
-/
import Derived.Test.YtahmihdahgbhkaaDT
namespace Go.Proofs.Ytahmihdahgbhkaa
open Go.RowKit

/-- Numbers that can be read. -/
def IA (w : World) (v : Value) (l : List Int) : Prop :=
  ∃ A c, v = .slice A l.length c ∧ l.length ≤ c ∧ c ≤ maxLen ∧ (l ≠ [] → ∃ b o, A = some ⟨b, o, none⟩ ∧ b < w.heap.size ∧ ∀ i (hi : i < l.length), w.cell? ⟨b, o + i, none⟩ = some (.int .i64 l[i]))
theorem IA.slice {w : World} {v : Value} {l : List Int} (h : IA w v l) : ∃ A c, v = .slice A l.length c ∧ l.length ≤ c ∧ c < 9223372036854775808 := by
  obtain ⟨A, c, hv, h1, h2, _⟩ := h
  exact ⟨A, c, hv, h1, by unfold maxLen at h2; omega⟩
theorem IA.nil (w : World) : IA w (.slice none 0 0) [] := ⟨none, 0, rfl, Nat.le_refl _, Nat.zero_le _, fun h => absurd rfl h⟩
theorem IA.heap {w w' : World} {v : Value} {l : List Int} (h : IA w v l) (hs : w.heap.size ≤ w'.heap.size) (hk : l ≠ [] → ∀ k, v.ownBlock = some k → k < w.heap.size → w'.heap[k]? = w.heap[k]?) : IA w' v l := by
  obtain ⟨A, c, rfl, h1, h2, h3⟩ := h
  refine ⟨A, c, rfl, h1, h2, fun hne => ?_⟩
  obtain ⟨b, o, hA, hlt, hc⟩ := h3 hne
  subst hA
  exact ⟨b, o, rfl, Nat.lt_of_lt_of_le hlt hs, fun i hi => (World.cell?_of_block (a := ⟨b, o + i, none⟩) (hk hne b rfl hlt)).trans (hc i hi)⟩
theorem IA.later {w w' : World} {v : Value} {l : List Int} (h : IA w v l) (hb : Below w.heap.size w w') : IA w' v l := h.heap hb.size fun _ k _ hk => hb.block k hk
theorem IA.cell {w : World} {A : Option Addr} {n c : Nat} {l : List Int} (h : IA w (.slice A n c) l) {i : Nat} (hi : i < l.length) : ∃ b o, A = some ⟨b, o, none⟩ ∧ b < w.heap.size ∧ w.cell? ⟨b, o + i, none⟩ = some (.int .i64 l[i]) := by
  obtain ⟨A', c', hv, _, _, hc⟩ := h
  obtain ⟨b, o, hA, hlt, hat⟩ := hc (fun e => by rw [e] at hi; simp at hi)
  injection hv with h1
  subst h1
  exact ⟨b, o, hA, hlt, hat i hi⟩
/-- Numbers without the first. -/
theorem IA.tail {w : World} {b o n c : Nat} {l : List Int} (h : IA w (.slice (some ⟨b, o, none⟩) n c) l) (hl : 0 < l.length) {A : Option Addr} (hA : (if c = 1 then some (⟨b, o, none⟩ : Addr) else some ⟨b, o + 1, none⟩) = A) : IA w (.slice A (l.length - 1) (c - 1)) (l.drop 1) := by
  obtain ⟨A', c', hv, h1, h2, h3⟩ := h
  injection hv with e1 e2 e3
  subst e1 e3
  refine ⟨A, c - 1, by rw [List.length_drop], by rw [List.length_drop]; omega, by omega, fun hne => ?_⟩
  have hlt : 1 < l.length := by
    apply Nat.lt_of_not_le
    intro hle
    exact hne (List.drop_of_length_le hle)
  rw [if_neg (by omega)] at hA
  obtain ⟨b1, o1, e1, hlt1, hc⟩ := h3 (fun e => by rw [e] at hlt; simp at hlt)
  injection e1 with e1
  injection e1 with e1 e2
  subst e1 e2
  refine ⟨b, o + 1, hA.symm, hlt1, fun i hi => ?_⟩
  rw [List.length_drop] at hi
  have := hc (1 + i) (by omega)
  rw [← Nat.add_assoc] at this
  rw [this, List.getElem_drop]
theorem mod_twice (x : Int) {n : Int} (h : 0 < n) : (x.tmod n + n).tmod n = x % n := by
  have h1 : 0 ≤ x.tmod n + n := by
    have := Int.lt_tmod_of_pos x h
    omega
  rw [Int.tmod_eq_emod_of_nonneg h1, Int.add_emod_right]
  by_cases hx : 0 ≤ x
  · rw [Int.tmod_eq_emod_of_nonneg hx, Int.emod_emod]
  · have : x.tmod n = x % n ∨ x.tmod n = x % n - n := by
      rw [Int.tmod_eq_emod]
      split
      · left; omega
      · right; rw [Int.natAbs_of_nonneg (Int.le_of_lt h)]
    rcases this with e | e
    · rw [e, Int.emod_emod]
    · rw [e, Int.sub_emod_right, Int.emod_emod]
theorem tmod_in (x : Int) {n : Int} (h : 0 < n) : -n < x.tmod n ∧ x.tmod n < n := ⟨Int.lt_tmod_of_pos x h, Int.tmod_lt_of_pos x h⟩
/-- What is left of the picks. -/
def CHo (w : World) (q : Nat) (l : List Int) (S : Nat → Prop) : Prop := ∃ lv, Blk w q #[lv] 87 ∧ IA w lv l ∧ (l ≠ [] → ∀ k, lv.ownBlock = some k → S k)
set_option maxHeartbeats 2000000 in
theorem below_any (w : World) (q n : Nat) (l : List Int) (S : Nat → Prop) (h : CHo w q l S) (hn : 0 < n) (hn2 : n ≤ 100000000) (hS : ¬ S q) :
    Calls Try.prog 61 #[.pointer (some ⟨q, 0, none⟩), .int .i64 (n : Int)] w fun e w' => e = .returned (.int .i64 (pickC l n : Int)) ∧ Kept (· = q) w w' ∧ CHo w' q (l.drop 1) S := by
  obtain ⟨lv, hb, hi, hs⟩ := h
  have HB := Lib.hid hb
  have HI := Lib.hid hi
  obtain ⟨A, c, rfl, hlc, hcm⟩ := hi.slice
  have c0 := hb.c 0 (u := .slice A l.length c) rfl
  have z0 := hb.fz 0
  have hlt := hb.lt
  by_cases hl : l.length = 0
  · have : l = [] := List.eq_nil_of_length_eq_zero hl
    subst this
    have hli : ((([] : List Int).length : Nat) : Int) = 0 := rfl
    clear hb hi
    simp only [List.length_nil] at c0
    go_enter Try.func61, Try.ntmps61
    go_wp2_with fail
    go_ret
    exact ⟨by rw [pickC_nil]; rfl, Kept.refl, _, HB.out, HI.out, fun h => absurd rfl h⟩
  · have hpos : 0 < l.length := Nat.pos_of_ne_zero hl
    obtain ⟨b, o, rfl, hbl, hcell⟩ := hi.cell hpos
    have hlne : l ≠ [] := fun e => by rw [e] at hpos; simp at hpos
    have hb0 : b ≠ q := fun e => hS (by rw [← e]; exact hs hlne b rfl)
    have hli : ((l.length : Int) == 0) = false := beq_false_of_ne (by omega)
    have hln : ¬ ((l.length : Int) = 0) := by omega
    have h0i : (0 : Int) < (l.length : Int) := by omega
    have h1i : (1 : Int) ≤ (l.length : Int) := by omega
    have h1c : (1 : Int) ≤ (c : Int) := by omega
    have hcc : (l.length : Int) ≤ (c : Int) := by omega
    obtain ⟨A2, hA2⟩ : ∃ A : Option Addr, (if c = 1 then some (⟨b, o, none⟩ : Addr) else some ⟨b, o + 1, none⟩) = A := ⟨_, rfl⟩
    have HT := Lib.hid (hi.tail hpos hA2)
    have hA2b : ∀ k, (Value.slice A2 (l.length - 1) (c - 1)).ownBlock = some k → S k := fun k hk => by
      rw [← hA2] at hk
      split at hk <;> exact hs hlne k hk
    have HA := Lib.hid hA2b
    have hni : (0 : Int) < (n : Int) := by omega
    have hn0 : ¬ ((n : Int) = 0) := by omega
    have HP := Lib.hid (show (pickC l n : Int) = l[0] % (n : Int) by
      have h1 := Int.emod_nonneg l[0] (show (n : Int) ≠ 0 by omega)
      have := pickC_drop l 0 n
      rw [List.drop_zero, dif_pos hpos] at this
      rw [this]
      omega)
    generalize l[0] = z at *
    obtain ⟨t1, t2⟩ := tmod_in z hni
    have hm := mod_twice z hni
    have hw2 : IntKind.i64.wrap (z.tmod n + n) = z.tmod n + n := wrap_id (by omega) (by omega)
    clear hb hi hA2b
    simp only [Nat.add_zero] at hcell
    go_enter Try.func61, Try.ntmps61
    go_wp2_with fail
    go_ret
    refine ⟨by rw [HP.out]; rfl, Kept.setCell (E := (· = q)) Kept.refl ⟨q, 0, none⟩ (.inr rfl) _, _, HB.out.set 0 _, ?_, fun _ => HA.out⟩
    exact HT.out.heap (by simp [World.setCell]) fun _ k hk _ => Below.heap_setCell _ _ _ _ (fun e => hS (by have e : k = q := e; rw [← e]; exact HA.out k hk))
end Go.Proofs.Ytahmihdahgbhkaa
