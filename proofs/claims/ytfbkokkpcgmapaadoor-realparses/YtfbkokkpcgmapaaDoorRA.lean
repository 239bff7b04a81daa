/-
  What the machine's steps on words and floats give (the two functions that turn a float into its word and back; and, or, complement at 64 bits), and the small functions of package math and of package real, walked.
  Conditions: as each theorem states them: a word is below 2 to the 64.
-/
import Derived.Test.YtfbkokkpcgmapaaDoorRows
import Derived.WalkKit
import Derived.WalkSpells
import Derived.Lib.Hide
import Derived.Laws.Externs
import Derived.Laws.BitsAllLaws
import Derived.Laws.FloatArith
import Derived.Test.YtfbkokkpcgmapaaDoorRT
namespace Go.Proofs.YtfbkokkpcgmapaaDoor
open Go.RowKit

theorem run_bits (b : Nat) (w : World) : (callFunc 25 #[.float .f64 b]).run Tryd.prog w = .ok (.value (.int .u64 (b : Int))) w :=
  (run_callFunc_extern (e := Extern.MathFloatBits.float64bits) Tryd.func25 (by kernel_rfl) (by kernel_rfl) (by kernel_rfl) (by kernel_rfl) _ w).trans rfl
theorem run_from (n : Nat) (w : World) : (callFunc 42 #[.int .u64 (n : Int)]).run Tryd.prog w = .ok (.value (.float .f64 n)) w :=
  (run_callFunc_extern (e := Extern.MathFloatBits.float64frombits) Tryd.func42 (by kernel_rfl) (by kernel_rfl) (by kernel_rfl) (by kernel_rfl) _ w).trans rfl

theorem and_bit63 {a : Nat} (h : a < 18446744073709551616) : a &&& 9223372036854775808 = if a < 9223372036854775808 then 0 else 9223372036854775808 := by
  have key : a &&& 2 ^ 63 = if a.testBit 63 then 2 ^ 63 else 0 := by
    apply Nat.eq_of_testBit_eq
    intro i
    rw [Nat.testBit_and, Nat.testBit_two_pow]
    by_cases k : 63 = i
    · subst k
      cases a.testBit 63 <;> decide
    · rw [decide_eq_false k, Bool.and_false]
      split
      · rw [Nat.testBit_two_pow, decide_eq_false k]
      · rw [Nat.zero_testBit]
  rw [show (9223372036854775808 : Nat) = 2 ^ 63 from rfl, key, Nat.testBit_eq_decide_div_mod_eq]
  by_cases k : a < 2 ^ 63
  · rw [if_pos k, show a / 2 ^ 63 % 2 = 0 by omega]
    rfl
  · rw [if_neg k, show a / 2 ^ 63 % 2 = 1 by omega]
    rfl
theorem and_top {a : Nat} (h : a < 18446744073709551616) : bits .and .u64 (a : Int) 9223372036854775808 = if a < 9223372036854775808 then 0 else 9223372036854775808 := by
  rw [show (9223372036854775808 : Int) = ((9223372036854775808 : Nat) : Int) from rfl, bits_and_u64_nat a _ h (by decide), and_bit63 h]
  split <;> rfl
theorem not_top {a : Nat} (h : a < 18446744073709551616) : bits .andNot .u64 (a : Int) 9223372036854775808 = ((a % 9223372036854775808 : Nat) : Int) := by
  rw [show (9223372036854775808 : Int) = ((9223372036854775808 : Nat) : Int) from rfl, u64_andNot_nat a _ h (by decide)]
  have : a &&& (18446744073709551615 - 9223372036854775808) = a % 9223372036854775808 := by
    rw [show 18446744073709551615 - 9223372036854775808 = 2 ^ 63 - 1 by decide, Nat.and_two_pow_sub_one_eq_mod]
  rw [this]
theorem flip_all {a : Nat} (h : a < 18446744073709551616) : bits .xor .u64 IntKind.u64.max (a : Int) = ((18446744073709551615 - a : Nat) : Int) := by
  rw [show IntKind.u64.max = ((18446744073709551615 : Nat) : Int) from rfl, bits_xor_u64_nat _ a (by decide) h]
  congr 1
  apply Nat.eq_of_testBit_eq
  intro i
  rw [Nat.testBit_xor, show 18446744073709551615 = 2 ^ 64 - 1 by decide, Nat.testBit_two_pow_sub_one, show 2 ^ 64 - 1 - a = 2 ^ 64 - (a + 1) by omega, Nat.testBit_two_pow_sub_succ (by omega)]
  by_cases k : i < 64
  · simp [k]
  · have : a.testBit i = false := Nat.testBit_lt_two_pow (Nat.lt_of_lt_of_le h (Nat.pow_le_pow_right (n := 2) (by omega) (by omega : 64 ≤ i)))
    simp [k, this]
theorem low_mask {a : Nat} (h : a < 18446744073709551616) : bits .and .u64 (a : Int) 4503599627370495 = ((a % 4503599627370496 : Nat) : Int) := by
  rw [show (4503599627370495 : Int) = ((4503599627370495 : Nat) : Int) from rfl, bits_and_u64_nat a _ h (by decide), show (4503599627370495 : Nat) = 2 ^ 52 - 1 from rfl, Nat.and_two_pow_sub_one_eq_mod]

theorem nan_any (w : World) : Calls Tryd.prog 41 #[] w fun e w' => e = .returned (.float .f64 9221120237041090561) ∧ w' = w := by
  have hf : ∀ w, (callFunc 42 #[.int .u64 9221120237041090561]).run Tryd.prog w = .ok (.value (.float .f64 9221120237041090561)) w := fun w => run_from 9221120237041090561 w
  go_enter Tryd.func41, Tryd.ntmps41
  go_wp2
  go_ret
  exact ⟨rfl, rfl⟩
theorem isNaN_any (a : Nat) (w : World) : Calls Tryd.prog 48 #[.float .f64 a] w fun e w' => e = .returned (.bool (nanF a)) ∧ w' = w := by
  have hn := ord_ne a
  go_enter Tryd.func48, Tryd.ntmps48
  go_wp2
  go_ret
  exact ⟨rfl, rfl⟩
theorem fBits_any (a : Nat) (w : World) (ha : a < 18446744073709551616) : Calls Tryd.prog 33 #[.float .f64 a] w fun e w' => e = .returned (.int .u64 (bitsF a : Int)) ∧ w' = w := by
  have hf := run_bits a
  have HN := Lib.hid (isNaN_any a w)
  have hA := and_top ha
  have hX := flip_all ha
  go_enter Tryd.func33, Tryd.ntmps33
  go_wp2_with fail
  refine Calls.mono HN.out ?_
  rintro e w' ⟨rfl, rfl⟩
  cases hn : nanF a with
  | true =>
    have HE := Lib.hid (show bitsF a = 18446744073709551615 by unfold bitsF; rw [hn]; rfl)
    go_wp2_with fail
    go_ret
    exact ⟨by rw [HE.out]; rfl, rfl⟩
  | false =>
    by_cases hk : a < 9223372036854775808
    · have HE := Lib.hid (show bitsF a = a + 9223372036854775808 by unfold bitsF; rw [hn, if_pos hk]; rfl)
      rw [if_pos hk] at hA
      go_wp2_with fail
      go_ret
      exact ⟨by rw [HE.out]; go_num, rfl⟩
    · have HE := Lib.hid (show bitsF a = 18446744073709551615 - a by unfold bitsF; rw [hn, if_neg hk]; rfl)
      rw [if_neg hk] at hA
      go_wp2_with fail
      go_ret
      exact ⟨by rw [HE.out]; rfl, rfl⟩
end Go.Proofs.YtfbkokkpcgmapaaDoor
