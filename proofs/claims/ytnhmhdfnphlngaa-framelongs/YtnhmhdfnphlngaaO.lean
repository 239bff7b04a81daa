/-
  Arguments that can be read as data, opened: a slice of bytes, a script, a list of scripts lie in memory as the walks want them.
  Conditions: as each theorem states them.
-/
import Derived.Test.YtnhmhdfnphlngaaY
import Derived.ProofKit
import Derived.Deep.Slices
import Derived.OpenShut
namespace Go.Proofs.Ytnhmhdfnphlngaa
open Go.ChangeShapes Go.WideShapes Go.RowKit Go.Deep

section
variable {H : Type} {enc : TypeId × Value → H} {w : World} {base : Nat} {spare : Nat → Bool} {held : Bool}

theorem Try.cells5 : Try.prog.cellsOf 5 = 1 := by kernel_rfl
theorem Try.cells25 : Try.prog.cellsOf 25 = 2 := by kernel_rfl
theorem Try.cells26 : Try.prog.cellsOf 26 = 1 := by kernel_rfl
theorem Try.cells28 : Try.prog.cellsOf 28 = 3 := by kernel_rfl
theorem Try.cells9 : Try.prog.cellsOf 9 = 1 := by kernel_rfl
theorem Try.cells4 : Try.prog.cellsOf 4 = 1 := by kernel_rfl

/-- A number that fits a byte is a byte. -/
theorem byte_of_wf {z : Int} (h : (Lit.int .u8 z).wf = true) : ((UInt8.ofNat z.toNat).toNat : Int) = z := by
  have hb : 0 ≤ z ∧ z ≤ 255 := bounds_u8 h
  rw [UInt8.toNat_ofNat']
  omega

theorem bytes_of_trod {fuel : Nat} {v : Value} {x : DataW H × List MemPlace} (h : DataW.trod enc Try.prog w base spare held fuel 26 [v] = some x) :
    ∃ (A : Option Addr) (n c : Nat) (l : List UInt8), v = .slice A n c ∧ n ≤ maxLen ∧ l.length = n ∧ BytesAt w w.heap.size v l := by
  rcases open_ints Try.underlying26 Try.underlying5 Try.cells5 h with ⟨hcs, _⟩ | ⟨a, len, cap, zs, hcs, _, hl, hm, hz, _, hcell, hwz⟩
  · simp only [List.cons.injEq, and_true] at hcs
    subst hcs
    exact ⟨none, 0, 0, [], rfl, Nat.zero_le _, rfl, _, _, rfl, Nat.zero_le _, fun h => absurd rfl h⟩
  · simp only [List.cons.injEq, and_true] at hcs
    subst hcs
    have hlz : len ≤ zs.length := by rw [hz]; split <;> omega
    refine ⟨some a, len, cap, (zs.take len).map fun z => UInt8.ofNat z.toNat, rfl, by omega, by simp; omega, some a, cap, by simp; omega, by simp; omega, fun hne => ⟨a, rfl, ?_, fun j hj => ?_⟩⟩
    · have h0 : 0 < zs.length := by
        rcases Nat.eq_zero_or_pos zs.length with h0 | h0
        · have : zs = [] := List.eq_nil_of_length_eq_zero h0
          subst this
          simp at hne
        · exact h0
      have := World.block_lt_of_cell? w _ (hcell 0 h0)
      rwa [block_add] at this
    · have hj' : j < len := by simp at hj; omega
      rw [hcell j (by omega)]
      simp only [List.getElem_map, List.getElem_take]
      rw [byte_of_wf (hwz _ (List.getElem_mem _))]
      simp [List.getD, show j < zs.length by omega]

/-- Three cells that read as a script. -/
theorem ask_of_trod {fuel b o : Nat} {cs : List Value} {x : DataW H × List MemPlace} (hc : w.cells? base ⟨b, o, none⟩ 3 = some cs) (h : DataW.trod enc Try.prog w base spare held fuel 28 cs = some x) : ∃ q : Ask, AskAt w b o q := by
  obtain ⟨_, hlen, hat⟩ := World.cells?_some hc
  match cs, hlen with
  | [v0, v1, v2], _ =>
    have a0 := hat 0 (by omega)
    have a1 := hat 1 (by omega)
    have a2 := hat 2 (by omega)
    rw [Addr.add_lit] at a0 a1 a2
    obtain ⟨xs, n, _, _, _, hxl, hf⟩ := DataW.trod_struct Try.underlying28 h
    match xs, hxl with
    | [y0, y1], _ =>
      have f0 := hf 0 _ rfl
      have f1 := hf 1 _ rfl
      simp only [List.getElem?_cons_zero, List.getElem?_cons_succ] at f0 f1
      obtain ⟨zs, n', _, _, _, hzl, hg⟩ := DataW.trod_struct Try.underlying25 f0
      match zs, hzl with
      | [z0, z1], _ =>
        have g0 := hg 0 _ rfl
        have g1 := hg 1 _ rfl
        simp only [List.getElem?_cons_zero, List.getElem?_cons_succ] at g0 g1
        obtain ⟨s, hs, _, hsz⟩ := DataW.trod_string Try.underlying9 g0
        obtain ⟨k, hk, _⟩ := DataW.trod_bool Try.underlying4 g1
        obtain ⟨A, m, c, l, hv, hm, hl, hx⟩ := bytes_of_trod f1
        obtain rfl : v0 = .string s := by simpa [Try.cells9, Try.cells25] using hs
        obtain rfl : v1 = .bool k := by simpa [Try.cells4, Try.cells25] using hk
        subst hv
        exact ⟨⟨s, k, A, m, c, l⟩, ⟨by simpa using a0, by simpa using a1, by simpa using a2, hsz, hm, hx⟩⟩

/-- A list of scripts that can be read. -/
theorem asks_of_trod {fuel : Nat} {v : Value} {x : DataW H × List MemPlace} (h : DataW.trod enc Try.prog w base spare held fuel 22 [v] = some x) : ∃ l : List Ask, AsksAt w v l ∧ l.length ≤ maxLen := by
  rcases open_slice Try.underlying22 h with ⟨hcs, _⟩ | ⟨a, len, cap, m, n, D, Pl, hcs, _, hl, hm, hmm, _, hi⟩
  · simp only [List.cons.injEq, and_true] at hcs
    subst hcs
    exact ⟨[], ⟨none, 0, rfl, fun h => absurd rfl h⟩, Nat.zero_le _⟩
  · simp only [List.cons.injEq, and_true] at hcs
    subst hcs
    have hlm : len ≤ m := by rw [hmm]; split <;> omega
    rw [Try.cells28] at hi
    rcases Nat.eq_zero_or_pos len with h0 | h0
    · subst h0
      exact ⟨[], ⟨some a, cap, rfl, fun h => absurd rfl h⟩, Nat.zero_le _⟩
    · obtain ⟨b, o, spot⟩ := a
      have hsp : spot = none := by
        obtain ⟨cs', hc, _⟩ := hi 0 (by omega)
        obtain ⟨_, hlen, hat⟩ := World.cells?_some hc
        have h1 := hat 0 (by omega)
        rw [List.getElem?_eq_getElem (by omega)] at h1
        simpa [Addr.add] using World.cell?_spot h1
      subst hsp
      have hq : ∀ i, ∃ q : Ask, i < len → AskAt w b (o + i * 3) q := fun i => by
        by_cases hlt : i < len
        · obtain ⟨cs', hc, ht⟩ := hi i (by omega)
          rw [Addr.add_lit] at hc
          obtain ⟨q, hq⟩ := ask_of_trod hc ht
          exact ⟨q, fun _ => hq⟩
        · exact ⟨⟨⟨#[]⟩, false, none, 0, 0, []⟩, fun h => absurd h hlt⟩
      obtain ⟨f, hf⟩ : ∃ f : Nat → Ask, ∀ i, i < len → AskAt w b (o + i * 3) (f i) := ⟨fun i => Classical.choose (hq i), fun i => Classical.choose_spec (hq i)⟩
      refine ⟨(List.range len).map f, ⟨some ⟨b, o, none⟩, cap, by simp, fun _ => ⟨b, o, rfl, ?_, fun i hi => ?_⟩⟩, by simp; omega⟩
      · exact World.block_lt_of_cell? w ⟨b, o + 0 * 3, none⟩ (hf 0 h0).c0
      · have : i < len := by simpa using hi
        simpa using hf i this

end
end Go.Proofs.Ytnhmhdfnphlngaa
