/-
  A list of numbers in memory; package backoff's demandValid, after, greatest, total, slices.Max, and the page's functions, walked.
  Conditions: as each theorem states them.
-/
import Derived.Test.YtaeehblmffidmaaNB
import Derived.WalkSmall
namespace Go.Proofs.Ytaeehblmffidmaa
open Go.RowKit

/-- A list of numbers in memory. -/
def NAt (w : World) (v : Value) (l : List Int) : Prop :=
  ∃ A c, v = .slice A l.length c ∧ l.length ≤ maxLen ∧ l.length ≤ c ∧ (l ≠ [] → ∃ b o, A = some ⟨b, o, none⟩ ∧ b < w.heap.size ∧ ∀ i (hi : i < l.length), w.cell? ⟨b, o + i, none⟩ = some (.int .i64 l[i]))
theorem NAt.slice {w : World} {v : Value} {l : List Int} (h : NAt w v l) : ∃ A c, v = .slice A l.length c ∧ l.length < 9223372036854775808 ∧ l.length ≤ c := by
  obtain ⟨A, c, hv, h1, h2, _⟩ := h
  exact ⟨A, c, hv, by unfold maxLen at h1; omega, h2⟩
theorem NAt.cell {w : World} {A : Option Addr} {n c : Nat} {l : List Int} (h : NAt w (.slice A n c) l) {i : Nat} (hi : i < l.length) : ∃ b o, A = some ⟨b, o, none⟩ ∧ w.cell? ⟨b, o + i, none⟩ = some (.int .i64 l[i]) := by
  obtain ⟨A', c', hv, _, _, hc⟩ := h
  obtain ⟨b, o, hA, _, hat⟩ := hc (fun e => by rw [e] at hi; simp at hi)
  injection hv with h1
  subst h1
  exact ⟨b, o, hA, hat i hi⟩
theorem NAt.later {w w' : World} {v : Value} {l : List Int} (h : NAt w v l) (hb : Below w.heap.size w w') : NAt w' v l := by
  obtain ⟨A, c, hv, h1, h2, h3⟩ := h
  refine ⟨A, c, hv, h1, h2, fun hne => ?_⟩
  obtain ⟨b, o, hA, hlt, hat⟩ := h3 hne
  exact ⟨b, o, hA, Nat.lt_of_lt_of_le hlt hb.size, fun i hi => (hb.cell (p := ⟨b, o + i, none⟩) hlt).trans (hat i hi)⟩
theorem NAt.alloc {w : World} {v : Value} {l : List Int} (h : NAt w v l) (o : Obj) : NAt (w.alloc o) v l := h.later ((Below.refl _ w).alloc (Nat.le_refl _) o)
theorem NAt.nil (w : World) : NAt w (.slice none 0 0) [] := ⟨none, 0, rfl, Nat.zero_le _, Nat.le_refl _, fun h => absurd rfl h⟩

set_option maxHeartbeats 2000000 in
theorem demandValid_any (l : List Int) (v : Value) (w : World) (h : NAt w v l) : Calls Try.prog 18 #[v] w fun e w' => e = endD (okL l) 1 ∧ w' = w := by
  have HU := Lib.hid h
  obtain ⟨A, c, rfl, hll, hlc⟩ := h.slice
  clear h
  have HW1 := Lib.hid (fun W => within_any l.length 1 16 W)
  have HW2 := Lib.hid (fun x W => within_any x 1 1099511627776 W)
  have HD := Lib.hid (fun q W => demand_any q W)
  cases hq : inB l.length 1 16 with
  | false =>
    have HF := Lib.hid (okL_len hq)
    rw [hq] at HW1
    clear hq
    go_enter Try.func18, Try.ntmps18
    go_wp2_with fail
    refine Calls.mono (HW1.out _) ?_
    rintro e w' ⟨rfl, he⟩
    have he := he.symm
    subst he
    go_wp2_with fail
    refine Calls.mono (HD.out _ _) ?_
    rintro e w' ⟨rfl, he⟩
    have he := he.symm
    subst he
    refine ⟨rfl, ?_, rfl⟩
    rw [HF.out]
    rfl
  | true =>
    have HT := Lib.hid (fun ha => okL_good hq ha)
    rw [hq] at HW1
    clear hq
    go_enter Try.func18, Try.ntmps18
    go_wp2_with fail
    refine Calls.mono (HW1.out _) ?_
    rintro e w' ⟨rfl, he⟩
    have he := he.symm
    subst he
    go_wp2_with fail
    refine Calls.mono (HD.out _ _) ?_
    rintro e w' ⟨he1, he⟩
    have he := he.symm
    subst he
    rw [endD_t] at he1
    subst he1
    go_wp2_with fail
    go_loopw [10] (fun iv wr => ∃ i : Nat, iv = .int .i64 i ∧ i ≤ l.length ∧ (l.take i).all tick = true ∧ wr = w) (fun iv _ => l.length - (intOf iv).toNat)
    case atStart => exact ⟨0, rfl, Nat.zero_le _, rfl, rfl⟩
    case round =>
      obtain ⟨i, rfl, hil, hai, rfl⟩ := hrel
      by_cases hlt : i < l.length
      · have hlti : (i : Int) < (l.length : Int) := by omega
        obtain ⟨b, o, rfl, hcell⟩ := HU.out.cell hlt
        have HS := Lib.hid (fun h : tick l[i] = true => show (l.take (i + 1)).all tick = true by rw [all_take hlt, hai, h]; rfl)
        have HF := Lib.hid (fun h : tick l[i] = false => okL_bad hlt h)
        have HX := Lib.hid (HW2.out l[i])
        have HTK := Lib.hid (show inB l[i] 1 1099511627776 = tick l[i] from rfl)
        rw [HTK.out] at HX
        obtain ⟨q, hq⟩ : ∃ q, tick l[i] = q := ⟨_, rfl⟩
        rw [hq] at HX HS HF
        generalize l[i] = x at *
        clear hai hq HTK
        cases q with
        | true =>
          go_wp2_with fail
          refine Calls.mono (HX.out _) ?_
          rintro e w' ⟨rfl, he⟩
          have he := he.symm
          subst he
          go_wp2_with fail
          refine Calls.mono (HD.out _ _) ?_
          rintro e w' ⟨he1, he⟩
          have he := he.symm
          subst he
          rw [endD_t] at he1
          subst he1
          go_wp2_with fail
          exact ⟨⟨i + 1, by go_num, by omega, HS.out trivial, by first | rfl | trivial⟩, by simp [intOf]; omega⟩
        | false =>
          go_wp2_with fail
          refine Calls.mono (HX.out _) ?_
          rintro e w' ⟨rfl, he⟩
          have he := he.symm
          subst he
          go_wp2_with fail
          refine Calls.mono (HD.out _ _) ?_
          rintro e w' ⟨rfl, he⟩
          have he := he.symm
          subst he
          refine ⟨rfl, ?_, rfl⟩
          rw [HF.out trivial]
          rfl
      · have hlti : ¬ ((i : Int) < (l.length : Int)) := by omega
        obtain rfl : i = l.length := by omega
        have HO := Lib.hid (HT.out hai)
        clear HT hai
        go_wp2_with fail
        go_end0
        exact ⟨by rw [HO.out]; rfl, rfl⟩
end Go.Proofs.Ytaeehblmffidmaa
