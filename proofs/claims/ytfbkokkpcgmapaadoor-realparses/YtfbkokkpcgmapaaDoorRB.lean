/-
  The numbers of floats, their order, their kinds and their bounds: package real's functions and the page's, walked.
  Conditions: as each theorem states them: a word is below 2 to the 64.
-/
import Derived.Test.YtfbkokkpcgmapaaDoorRA
namespace Go.Proofs.YtfbkokkpcgmapaaDoor
open Go.RowKit

theorem rBits_any (a : Nat) (w : World) (ha : a < 18446744073709551616) : Calls Tryd.prog 34 #[.float .f64 a] w fun e w' => e = .returned (.int .u64 (bitsF a : Int)) ∧ w' = w := by
  have hf := run_bits a
  have hX := flip_all ha
  have hN := ord_ne a
  cases hn : nanF a with
  | true =>
    have HE := Lib.hid (show bitsF a = 18446744073709551615 by unfold bitsF; rw [hn]; rfl)
    rw [hn] at hN
    go_enter Tryd.func34, Tryd.ntmps34
    go_wp2_with fail
    go_ret
    exact ⟨by rw [HE.out]; rfl, rfl⟩
  | false =>
    rw [hn] at hN
    by_cases hk : a < 9223372036854775808
    · have HE := Lib.hid (show bitsF a = a + 9223372036854775808 by unfold bitsF; rw [hn, if_pos hk]; rfl)
      have hs : ((a : Int) / 9223372036854775808 == 1) = false := beq_eq_false_iff_ne.2 (by omega)
      go_enter Tryd.func34, Tryd.ntmps34
      go_wp2_with fail
      go_ret
      exact ⟨by rw [HE.out]; go_num, rfl⟩
    · have HE := Lib.hid (show bitsF a = 18446744073709551615 - a by unfold bitsF; rw [hn, if_neg hk]; rfl)
      have hs : ((a : Int) / 9223372036854775808 == 1) = true := beq_iff_eq.2 (by omega)
      go_enter Tryd.func34, Tryd.ntmps34
      go_wp2_with fail
      go_ret
      exact ⟨by rw [HE.out]; rfl, rfl⟩

theorem uNaN_any (x : Int) (w : World) : Calls Tryd.prog 57 #[.int .u64 x] w fun e w' => e = .returned (.bool false) ∧ w' = w := by
  have hx : (x != x) = false := by simp
  go_enter Tryd.func57, Tryd.ntmps57
  go_wp2
  go_ret
  exact ⟨rfl, rfl⟩
theorem compare_any (x y : Nat) (w : World) : Calls Tryd.prog 43 #[.int .u64 (x : Int), .int .u64 (y : Int)] w fun e w' => e = .returned (.int .i64 (if x < y then -1 else if y < x then 1 else 0)) ∧ w' = w := by
  have HX := Lib.hid (fun W => uNaN_any (x : Int) W)
  have HY := Lib.hid (fun W => uNaN_any (y : Int) W)
  by_cases h1 : x < y
  · rw [if_pos h1]
    have h1i : (x : Int) < (y : Int) := by omega
    go_enter Tryd.func43, Tryd.ntmps43
    go_wp2_with fail
    refine Calls.mono (HX.out _) ?_
    rintro e w' ⟨rfl, rfl⟩
    go_wp2_with fail
    refine Calls.mono (HY.out _) ?_
    rintro e w' ⟨rfl, rfl⟩
    go_wp2_with fail
    go_ret
    exact ⟨rfl, rfl⟩
  · rw [if_neg h1]
    have h1i : ¬ ((x : Int) < (y : Int)) := by omega
    by_cases h2 : y < x
    · rw [if_pos h2]
      have h2i : (y : Int) < (x : Int) := by omega
      go_enter Tryd.func43, Tryd.ntmps43
      go_wp2_with fail
      refine Calls.mono (HX.out _) ?_
      rintro e w' ⟨rfl, rfl⟩
      go_wp2_with fail
      refine Calls.mono (HY.out _) ?_
      rintro e w' ⟨rfl, rfl⟩
      go_wp2_with fail
      go_ret
      exact ⟨rfl, rfl⟩
    · rw [if_neg h2]
      have h2i : ¬ ((y : Int) < (x : Int)) := by omega
      go_enter Tryd.func43, Tryd.ntmps43
      go_wp2_with fail
      refine Calls.mono (HX.out _) ?_
      rintro e w' ⟨rfl, rfl⟩
      go_wp2_with fail
      refine Calls.mono (HY.out _) ?_
      rintro e w' ⟨rfl, rfl⟩
      go_wp2_with fail
      go_ret
      exact ⟨rfl, rfl⟩

theorem fCmp_any (a b : Nat) (w : World) (ha : a < 18446744073709551616) (hb : b < 18446744073709551616) : Calls Tryd.prog 14 #[.float .f64 a, .float .f64 b] w fun e w' => e = .returned (.int .i64 (cmpF a b)) ∧ w' = w := by
  have HA := Lib.hid (fun W => fBits_any a W ha)
  have HB := Lib.hid (fun W => fBits_any b W hb)
  have HC := Lib.hid (fun W => compare_any (bitsF a) (bitsF b) W)
  have HE := Lib.hid (show (if bitsF a < bitsF b then (-1 : Int) else if bitsF b < bitsF a then 1 else 0) = cmpF a b from rfl)
  clear ha hb
  go_enter Tryd.func14, Tryd.ntmps14
  go_wp2_with fail
  refine Calls.mono (HA.out _) ?_
  rintro e w' ⟨rfl, rfl⟩
  go_wp2_with fail
  refine Calls.mono (HB.out _) ?_
  rintro e w' ⟨rfl, rfl⟩
  go_wp2_with fail
  refine Calls.mono (HC.out _) ?_
  rintro e w' ⟨rfl, rfl⟩
  rw [HE.out]
  go_wp2_with fail
  go_ret
  exact ⟨rfl, rfl⟩
theorem rCmp_any (a b : Nat) (w : World) (ha : a < 18446744073709551616) (hb : b < 18446744073709551616) : Calls Tryd.prog 15 #[.float .f64 a, .float .f64 b] w fun e w' => e = .returned (.int .i64 (cmpF a b)) ∧ w' = w := by
  have HA := Lib.hid (fun W => rBits_any a W ha)
  have HB := Lib.hid (fun W => rBits_any b W hb)
  have HE := Lib.hid (show (if bitsF a < bitsF b then (-1 : Int) else if bitsF b < bitsF a then 1 else 0) = cmpF a b from rfl)
  clear ha hb
  generalize bitsF a = x at *
  generalize bitsF b = y at *
  by_cases h1 : x < y
  · rw [if_pos h1] at HE
    have h1i : (x : Int) < (y : Int) := by omega
    go_enter Tryd.func15, Tryd.ntmps15
    go_wp2_with fail
    refine Calls.mono (HA.out _) ?_
    rintro e w' ⟨rfl, rfl⟩
    go_wp2_with fail
    refine Calls.mono (HB.out _) ?_
    rintro e w' ⟨rfl, rfl⟩
    go_wp2_with fail
    go_ret
    exact ⟨by rw [← HE.out]; rfl, rfl⟩
  · rw [if_neg h1] at HE
    have h1i : ¬ ((x : Int) < (y : Int)) := by omega
    by_cases h2 : y < x
    · rw [if_pos h2] at HE
      have h2i : (y : Int) < (x : Int) := by omega
      go_enter Tryd.func15, Tryd.ntmps15
      go_wp2_with fail
      refine Calls.mono (HA.out _) ?_
      rintro e w' ⟨rfl, rfl⟩
      go_wp2_with fail
      refine Calls.mono (HB.out _) ?_
      rintro e w' ⟨rfl, rfl⟩
      go_wp2_with fail
      go_ret
      exact ⟨by rw [← HE.out]; rfl, rfl⟩
    · rw [if_neg h2] at HE
      have h2i : ¬ ((y : Int) < (x : Int)) := by omega
      go_enter Tryd.func15, Tryd.ntmps15
      go_wp2_with fail
      refine Calls.mono (HA.out _) ?_
      rintro e w' ⟨rfl, rfl⟩
      go_wp2_with fail
      refine Calls.mono (HB.out _) ?_
      rintro e w' ⟨rfl, rfl⟩
      go_wp2_with fail
      go_ret
      exact ⟨by rw [← HE.out]; rfl, rfl⟩
theorem fSame_any (a b : Nat) (w : World) (ha : a < 18446744073709551616) (hb : b < 18446744073709551616) : Calls Tryd.prog 16 #[.float .f64 a, .float .f64 b] w fun e w' => e = .returned (.bool (cmpF a b == 0)) ∧ w' = w := by
  have HC := Lib.hid (fun W => fCmp_any a b W ha hb)
  clear ha hb
  generalize cmpF a b = c at *
  go_enter Tryd.func16, Tryd.ntmps16
  go_wp2_with fail
  refine Calls.mono (HC.out _) ?_
  rintro e w' ⟨rfl, rfl⟩
  go_wp2_with fail
  go_ret
  exact ⟨rfl, rfl⟩

set_option maxRecDepth 100000 in
theorem fOf_any (n : Nat) (w : World) (hn : n < 18446744073709551616) : Calls Tryd.prog 35 #[.int .u64 (n : Int)] w fun e w' => e = .returned (.float .f64 (ofF n)) ∧ w' = w := by
  have HNN := Lib.hid (fun W => nan_any W)
  by_cases hk : n < 9223372036854775808
  · have hg : decide ((9223372036854775808 : Int) ≤ (n : Int)) = false := decide_eq_false (by omega)
    obtain ⟨b, hX, hb64, he⟩ : ∃ b : Nat, bits .xor .u64 IntKind.u64.max (n : Int) = (b : Int) ∧ b < 18446744073709551616 ∧ ofF n = if nanF b then 9221120237041090561 else b := ⟨_, flip_all hn, by omega, by unfold ofF; simp only [if_pos hk]⟩
    have HE := Lib.hid he
    have hf := run_from b
    have HI := Lib.hid (fun W => isNaN_any b W)
    clear hk he
    go_enter Tryd.func35, Tryd.ntmps35
    go_wp2_with fail
    refine Calls.mono (HI.out _) ?_
    rintro e w' ⟨rfl, rfl⟩
    cases hb : nanF b with
    | true =>
      rw [hb] at HE
      go_wp2_with fail
      refine Calls.mono (HNN.out _) ?_
      rintro e w' ⟨rfl, rfl⟩
      go_wp2_with fail
      go_ret
      exact ⟨by rw [HE.out]; rfl, rfl⟩
    | false =>
      rw [hb] at HE
      go_wp2_with fail
      go_ret
      exact ⟨by rw [HE.out]; rfl, rfl⟩
  · have hg : (9223372036854775808 : Int) ≤ (n : Int) := by omega
    obtain ⟨c, hX⟩ : ∃ c : Nat, bits .xor .u64 IntKind.u64.max (n : Int) = (c : Int) := ⟨_, flip_all hn⟩
    obtain ⟨b, hw, hb64, he⟩ : ∃ b : Nat, (n : Int) - 9223372036854775808 = (b : Int) ∧ b < 18446744073709551616 ∧ ofF n = if nanF b then 9221120237041090561 else b := ⟨n - 9223372036854775808, by omega, by omega, by unfold ofF; simp only [if_neg hk]⟩
    have HE := Lib.hid he
    have hf := run_from b
    have hf2 := run_from c
    have HI := Lib.hid (fun W => isNaN_any b W)
    clear hk he
    go_enter Tryd.func35, Tryd.ntmps35
    go_wp2_with fail
    refine Calls.mono (HI.out _) ?_
    rintro e w' ⟨rfl, rfl⟩
    cases hb : nanF b with
    | true =>
      rw [hb] at HE
      go_wp2_with fail
      refine Calls.mono (HNN.out _) ?_
      rintro e w' ⟨rfl, rfl⟩
      go_wp2_with fail
      go_ret
      exact ⟨by rw [HE.out]; rfl, rfl⟩
    | false =>
      rw [hb] at HE
      go_wp2_with fail
      go_ret
      exact ⟨by rw [HE.out]; rfl, rfl⟩
set_option maxRecDepth 100000 in
theorem rOf_any (n : Nat) (w : World) (hn : n < 18446744073709551616) : Calls Tryd.prog 36 #[.int .u64 (n : Int)] w fun e w' => e = .returned (.float .f64 (ofF n)) ∧ w' = w := by
  have HNN := Lib.hid (fun W => nan_any W)
  by_cases hk : n < 9223372036854775808
  · have hg : (n : Int) < (9223372036854775808 : Int) := by omega
    obtain ⟨b, hX, hb64, he⟩ : ∃ b : Nat, bits .xor .u64 IntKind.u64.max (n : Int) = (b : Int) ∧ b < 18446744073709551616 ∧ ofF n = if nanF b then 9221120237041090561 else b := ⟨_, flip_all hn, by omega, by unfold ofF; simp only [if_pos hk]⟩
    have hw : IntKind.u64.wrap ((n : Int) - 9223372036854775808) = (n : Int) + 9223372036854775808 := by rw [IntKind.wrap_u64]; omega
    have hX2 : bits .xor .u64 (if IntKind.u64.signed = true then -1 else IntKind.u64.max) (n : Int) = (b : Int) := hX
    have HE := Lib.hid he
    have hf := run_from b
    have hI := ord_ne b
    clear hk he hb64
    cases hb : nanF b with
    | true =>
      rw [hb] at HE hI
      go_enter Tryd.func36, Tryd.ntmps36
      go_wp2_with fail
      refine Calls.mono (HNN.out _) ?_
      rintro e w' ⟨rfl, rfl⟩
      go_wp2_with fail
      go_ret
      exact ⟨by rw [HE.out]; rfl, rfl⟩
    | false =>
      rw [hb] at HE hI
      go_enter Tryd.func36, Tryd.ntmps36
      go_wp2_with fail
      go_ret
      exact ⟨by rw [HE.out]; rfl, rfl⟩
  · have hg : decide ((n : Int) < (9223372036854775808 : Int)) = false := decide_eq_false (by omega)
    obtain ⟨b, hw, hb64, he⟩ : ∃ b : Nat, IntKind.u64.wrap ((n : Int) - 9223372036854775808) = (b : Int) ∧ b < 18446744073709551616 ∧ ofF n = if nanF b then 9221120237041090561 else b := ⟨n - 9223372036854775808, by rw [IntKind.wrap_u64]; omega, by omega, by unfold ofF; simp only [if_neg hk]⟩
    have HE := Lib.hid he
    have hf := run_from b
    have hI := ord_ne b
    clear hk he hb64
    cases hb : nanF b with
    | true =>
      rw [hb] at HE hI
      go_enter Tryd.func36, Tryd.ntmps36
      go_wp2_with fail
      refine Calls.mono (HNN.out _) ?_
      rintro e w' ⟨rfl, rfl⟩
      go_wp2_with fail
      go_ret
      exact ⟨by rw [HE.out]; rfl, rfl⟩
    | false =>
      rw [hb] at HE hI
      go_enter Tryd.func36, Tryd.ntmps36
      go_wp2_with fail
      go_ret
      exact ⟨by rw [HE.out]; rfl, rfl⟩
end Go.Proofs.YtfbkokkpcgmapaaDoor
