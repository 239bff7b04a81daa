/-
  Buckets of whole numbers that may be: ticks passed in two parts, waits: by the plain mathematics of buckets.
  Conditions: as each theorem states them.
-/
import Derived.Test.YtcnkejndblcbhaaKI
namespace Go.Proofs.Ytcnkejndblcbhaa
open Go.RowKit

theorem nat_of {n : Int} (h : 0 ≤ n) : ∃ k : Nat, n = (k : Int) := ⟨n.toNat, by omega⟩
theorem passI_ok {b : BI} {n : Int} (h : okB b = true) (hn : 0 ≤ n) : okB (passI b n) = true := by
  obtain ⟨k, hk, rfl⟩ := of_ok h
  obtain ⟨m, rfl⟩ := nat_of hn
  rw [pass_of]
  exact ok_of (pass_ok hk m)
theorem passR_ok {b : BI} {n : Int} (h : okB b = true) (hn : 0 ≤ n) (hm : n ≤ 1099511627776) : passR b n = .ok (passI b n) := by
  unfold passR
  rw [h, inB_iff.2 ⟨hn, hm⟩]
  rfl
theorem passI_two {b : BI} {n k : Int} (h : okB b = true) (hn : 0 ≤ n) (hk : 0 ≤ k) : passI (passI b n) k = passI b (n + k) := by
  obtain ⟨c, hc, rfl⟩ := of_ok h
  obtain ⟨m, rfl⟩ := nat_of hn
  obtain ⟨j, rfl⟩ := nat_of hk
  rw [pass_of, pass_of, show (m : Int) + (j : Int) = ((m + j : Nat) : Int) by omega, pass_of, pass_pass]
theorem passI_zero {b : BI} (h : okB b = true) : passI b 0 = b := by
  obtain ⟨c, hc, rfl⟩ := of_ok h
  have := pass_of c 0
  rw [pass_zero hc] at this
  exact this
theorem passI_le {b : BI} {n : Int} (h : okB b = true) (hn : 0 ≤ n) : (passI b n).l ≤ (passI b n).c ∧ b.l ≤ (passI b n).l := by
  have h1 := okB_iff.1 (passI_ok h hn)
  refine ⟨h1.2.2.1.2, ?_⟩
  obtain ⟨c, hc, rfl⟩ := of_ok h
  obtain ⟨m, rfl⟩ := nat_of hn
  rw [pass_of]
  have := pass_up c hc.2.2.1 m
  simp only [ofN]
  omega
theorem takeR_yes {b : BI} {n : Int} (h : okB b = true) (h0 : 0 ≤ n) (h1 : n ≤ 1048576) (hl : n ≤ b.l) : takeR b n = .ok (takeI b n) := by
  unfold takeR
  rw [h, inB_iff.2 ⟨h0, h1⟩, if_pos (show (true && true) = true from rfl), if_pos hl]
theorem takeR_no {b : BI} {n : Int} (h : okB b = true) (h0 : 0 ≤ n) (h1 : n ≤ 1048576) (hl : b.l < n) : takeR b n = .error 9 := by
  unfold takeR
  rw [h, inB_iff.2 ⟨h0, h1⟩, if_pos (show (true && true) = true from rfl), if_neg (by omega)]
/-- What a wait says: never, or just behind so many ticks. -/
theorem waits_facts {b : BI} {n : Nat} (h : okB b = true) (hn : n ≤ 1048576) : waitR b (n : Int) = .ok (waitI b (n : Int)) ∧
    ((waitI b (n : Int) = -1 ∧ (passI b 1099511627776).l < (n : Int)) ∨
      (∃ t : Nat, waitI b (n : Int) = (t : Int) ∧ t ≤ 1099511627776 ∧ (n : Int) ≤ (passI b (t : Int)).l ∧ (0 < t → (passI b ((t : Int) - 1)).l < (n : Int)))) := by
  obtain ⟨k, hk, rfl⟩ := of_ok h
  rw [waitR_of hk hn, wait_of hk]
  refine ⟨rfl, ?_⟩
  unfold waitN
  cases hw : k.wait n with
  | none =>
    left
    refine ⟨rfl, ?_⟩
    have h1 := wait_never hk.2.2.1 hw 1099511627776
    have h2 := pass_of k 1099511627776
    rw [show (1099511627776 : Int) = ((1099511627776 : Nat) : Int) from rfl, h2]
    simp only [ofN]
    omega
  | some t =>
    right
    refine ⟨t, rfl, wait_le hk hw, ?_, fun ht => ?_⟩
    · rw [pass_of]
      have := wait_enough hk hw
      simp only [ofN]
      omega
    · obtain ⟨s, rfl⟩ : ∃ s, t = s + 1 := ⟨t - 1, by omega⟩
      rw [show ((s + 1 : Nat) : Int) - 1 = (s : Int) by omega, pass_of]
      have := wait_not_before hk hw
      simp only [ofN]
      omega
end Go.Proofs.Ytcnkejndblcbhaa
