/-
  An argument that can be read as data, opened: its two numbers, its list of pairs of words and its list of words lie in memory as the walks want them.
  Conditions: as each theorem states them.
-/
import Derived.Test.YthkgahdnjhjobaaHG
import Derived.ProofKit
import Derived.ChangeSlices
import Derived.Deep.Slices
import Derived.OpenShut
import Derived.HandedShaped
import Derived.ChangeOld
import Derived.Lib.SmallJoins
namespace Go.Proofs.Ythkgahdnjhjobaa
open Go.ChangeShapes Go.WideShapes Go.ChangeAt Go.RowKit Go.Deep Go.Joins

theorem Try.own : ownKnob Try.prog.godebug = none := by kernel_rfl
theorem Try.laidOut : laidOutB Try.prog = true := by kernel_rfl
theorem Try.cells26 : Try.prog.cellsOf 26 = 4 := by kernel_rfl
theorem Try.cells35 : Try.prog.cellsOf 35 = 2 := by kernel_rfl
theorem Try.cells22 : Try.prog.cellsOf 22 = 1 := by kernel_rfl

/-- A list of words in memory. -/
def UsAt (w : World) (v : Value) (l : List Nat) : Prop :=
  ∃ A c, v = .slice A l.length c ∧ l.length ≤ maxLen ∧ (∀ x ∈ l, x < 18446744073709551616) ∧ (l ≠ [] → ∃ b o, A = some ⟨b, o, none⟩ ∧ b < w.heap.size ∧ ∀ i (hi : i < l.length), w.cell? ⟨b, o + i, none⟩ = some (.int .u64 (l[i] : Int)))
theorem UsAt.cell {w : World} {A : Option Addr} {c n : Nat} {l : List Nat} (h : UsAt w (.slice A n c) l) {i : Nat} (hi : i < l.length) {B : Nat} {w' : World} (hB : B = w.heap.size) (hb : Below B w w') : ∃ b o, A = some ⟨b, o, none⟩ ∧ w'.cell? ⟨b, o + i, none⟩ = some (.int .u64 (l[i] : Int)) := by
  obtain ⟨A', c', hv, _, _, hc⟩ := h
  obtain ⟨b, o, hA, hbl, hat⟩ := hc (fun e => by rw [e] at hi; simp at hi)
  injection hv with h1 h2 h3
  subst h1
  exact ⟨b, o, hA, (hb.cell (p := ⟨b, o + i, none⟩) (by rw [hB]; exact hbl)).trans (hat i hi)⟩

section
variable {H : Type} {enc : TypeId × Value → H} {w : World} {base : Nat} {held : Bool}
/-- A number that can be read as a word. -/
theorem word_of_trod {fuel : Nat} {v : Value} {x : DataW H × List MemPlace} (h : DataW.trod enc Try.prog w base (fun _ => true) held fuel 22 [v] = some x) : ∃ a : Nat, v = .int .u64 (a : Int) ∧ a < 18446744073709551616 := by
  obtain ⟨z, hz, _, hw⟩ := DataW.trod_int Try.underlying22 h
  simp only [List.cons.injEq, and_true] at hz
  simp [Lit.wf, IntKind.min, IntKind.max, IntKind.signed, IntKind.bits] at hw
  exact ⟨z.toNat, by rw [hz, Int.toNat_of_nonneg hw.1], by omega⟩
/-- A number that can be read as an int. -/
theorem int_of_trod {fuel : Nat} {v : Value} {x : DataW H × List MemPlace} (h : DataW.trod enc Try.prog w base (fun _ => true) held fuel 3 [v] = some x) : ∃ c : Int, v = .int .i64 c ∧ -9223372036854775808 ≤ c ∧ c < 9223372036854775808 := by
  obtain ⟨z, hz, _, hw⟩ := DataW.trod_int Try.underlying3 h
  simp only [List.cons.injEq, and_true] at hz
  simp [Lit.wf, IntKind.min, IntKind.max, IntKind.signed, IntKind.bits] at hw
  exact ⟨z, hz, by omega, by omega⟩
/-- A list of words. -/
theorem us_of_trod {fuel : Nat} {v : Value} {x : DataW H × List MemPlace} (h : DataW.trod enc Try.prog w base (fun _ => true) held fuel 24 [v] = some x) : ∃ l, UsAt w v l := by
  rcases open_ints Try.underlying24 Try.underlying22 Try.cells22 h with ⟨hv, _⟩ | ⟨a, len, cap, zs, hv, _, hlc, hcm, hzl, _, hcell, hwf⟩
  · simp only [List.cons.injEq, and_true] at hv
    exact ⟨[], none, 0, hv, Nat.zero_le _, by simp, fun h => absurd rfl h⟩
  · simp only [List.cons.injEq, and_true] at hv
    simp only [if_true] at hzl
    have hlen : ((zs.take len).map Int.toNat).length = len := by simp; omega
    refine ⟨(zs.take len).map Int.toNat, some a, cap, by rw [hlen]; exact hv, by rw [hlen]; omega, ?_, fun hne => ?_⟩
    · intro x hx
      obtain ⟨z, hz, rfl⟩ := List.mem_map.1 hx
      have := hwf z (List.mem_of_mem_take hz)
      simp [Lit.wf, IntKind.min, IntKind.max, IntKind.signed, IntKind.bits] at this
      omega
    · have hpos : 0 < len := by
        apply Nat.pos_of_ne_zero
        rintro rfl
        exact hne (List.eq_nil_of_length_eq_zero hlen)
      obtain ⟨b, o, spot⟩ := a
      have hsp : spot = none := by simpa [Addr.add] using World.cell?_spot (hcell 0 (by omega))
      subst hsp
      have h0 := hcell 0 (by omega)
      rw [Addr.add_lit] at h0
      refine ⟨b, o, rfl, World.block_lt_of_cell? w _ h0, fun i hi => ?_⟩
      have hi' : i < len := by rw [hlen] at hi; exact hi
      have h1 := hcell i (by omega)
      rw [Addr.add_lit] at h1
      rw [h1]
      have h2 : zs.getD i 0 = zs[i]'(by omega) := by simp [List.getD, List.getElem?_eq_getElem (show i < zs.length by omega)]
      have h3 := hwf _ (List.getElem_mem (show i < zs.length by omega))
      simp [Lit.wf, IntKind.min, IntKind.max, IntKind.signed, IntKind.bits] at h3
      rw [h2, List.getElem_map, List.getElem_take, Int.toNat_of_nonneg h3.1]

/-- Two cells that read as a pair of words. -/
theorem pair_of_trod {fuel b o : Nat} {cs : List Value} {x : DataW H × List MemPlace} (hc : w.cells? base ⟨b, o, none⟩ 2 = some cs) (h : DataW.trod enc Try.prog w base (fun _ => true) held fuel 35 cs = some x) :
    ∃ q : Nat × Nat, (w.cell? ⟨b, o, none⟩ = some (.int .u64 (q.1 : Int)) ∧ w.cell? ⟨b, o + 1, none⟩ = some (.int .u64 (q.2 : Int))) ∧ q.1 < 18446744073709551616 ∧ q.2 < 18446744073709551616 := by
  obtain ⟨_, hlen, hat⟩ := World.cells?_some hc
  match cs, hlen with
  | [v0, v1], _ =>
    have a0 := hat 0 (by omega)
    have a1 := hat 1 (by omega)
    rw [Addr.add_lit] at a0 a1
    obtain ⟨xs, n, _, _, _, hxl, hfl⟩ := DataW.trod_array Try.underlying35 h
    match xs, hxl with
    | [x0, x1], _ =>
      have f0 : DataW.trod enc Try.prog w base (fun _ => true) held n 22 [v0] = some x0 := by simpa [Try.cells22] using hfl 0 (by omega)
      have f1 : DataW.trod enc Try.prog w base (fun _ => true) held n 22 [v1] = some x1 := by simpa [Try.cells22] using hfl 1 (by omega)
      obtain ⟨p, hp, lp⟩ := word_of_trod f0
      obtain ⟨q, hq, lq⟩ := word_of_trod f1
      subst hp hq
      exact ⟨(p, q), ⟨by simpa using a0, by simpa using a1⟩, lp, lq⟩
/-- A list of pairs of words. -/
theorem ps_of_trod {fuel : Nat} {v : Value} {x : DataW H × List MemPlace} (h : DataW.trod enc Try.prog w base (fun _ => true) held fuel 23 [v] = some x) : ∃ l, PsAt w v l := by
  rcases open_slice Try.underlying23 h with ⟨hcs, _⟩ | ⟨a, len, cap, m, n, D, Pl, hcs, _, hl, hm, hmm, _, hi⟩
  · simp only [List.cons.injEq, and_true] at hcs
    subst hcs
    exact ⟨[], none, 0, rfl, Nat.zero_le _, by simp, fun h => absurd rfl h⟩
  · simp only [List.cons.injEq, and_true] at hcs
    subst hcs
    have hlm : len ≤ m := by rw [hmm]; split <;> omega
    rw [Try.cells35] at hi
    rcases Nat.eq_zero_or_pos len with h0 | h0
    · subst h0
      exact ⟨[], some a, cap, rfl, Nat.zero_le _, by simp, fun h => absurd rfl h⟩
    · obtain ⟨b, o, spot⟩ := a
      have hsp : spot = none := by
        obtain ⟨cs', hc, _⟩ := hi 0 (by omega)
        obtain ⟨_, hlen, hat⟩ := World.cells?_some hc
        have h1 := hat 0 (by omega)
        rw [List.getElem?_eq_getElem (by omega)] at h1
        simpa [Addr.add] using World.cell?_spot h1
      subst hsp
      have hq : ∀ i, ∃ q : Nat × Nat, i < len → (w.cell? ⟨b, o + i * 2, none⟩ = some (.int .u64 (q.1 : Int)) ∧ w.cell? ⟨b, o + i * 2 + 1, none⟩ = some (.int .u64 (q.2 : Int))) ∧ q.1 < 18446744073709551616 ∧ q.2 < 18446744073709551616 := fun i => by
        by_cases hlt : i < len
        · obtain ⟨cs', hc, ht⟩ := hi i (by omega)
          rw [Addr.add_lit] at hc
          obtain ⟨q, hq⟩ := pair_of_trod hc ht
          exact ⟨q, fun _ => hq⟩
        · exact ⟨(0, 0), fun h => absurd h hlt⟩
      obtain ⟨f, hf⟩ : ∃ f : Nat → Nat × Nat, ∀ i, i < len → (w.cell? ⟨b, o + i * 2, none⟩ = some (.int .u64 ((f i).1 : Int)) ∧ w.cell? ⟨b, o + i * 2 + 1, none⟩ = some (.int .u64 ((f i).2 : Int))) ∧ (f i).1 < 18446744073709551616 ∧ (f i).2 < 18446744073709551616 := ⟨fun i => Classical.choose (hq i), fun i => Classical.choose_spec (hq i)⟩
      refine ⟨(List.range len).map f, some ⟨b, o, none⟩, cap, by simp, by simp; omega, ?_, fun _ => ⟨b, o, rfl, ?_, fun i hi => ?_⟩⟩
      · intro x hx
        obtain ⟨i, hi, rfl⟩ := List.mem_map.1 hx
        exact (hf i (List.mem_range.1 hi)).2
      · exact World.block_lt_of_cell? w ⟨b, o + 0 * 2, none⟩ (hf 0 h0).1.1
      · have : i < len := by simpa using hi
        simpa using (hf i this).1
end
end Go.Proofs.Ythkgahdnjhjobaa
