/-
  What the machine's steps on words and floats give (the two functions that turn a float into its word and back; and, or, complement at 64 bits), and the functions of package math, of package real and of the page on floats that a health wants, walked.
  Conditions: as each theorem states them: a word is below 2 to the 64.
-/
import Derived.Test.YtlkikecnlafmeaaRows
import Derived.WalkKit
import Derived.WalkSpells
import Derived.Lib.Hide
import Derived.Laws.Externs
import Derived.Laws.BitsAllLaws
import Derived.Laws.FloatArith
import Derived.Below
import Derived.Test.YtlkikecnlafmeaaHU
namespace Go.Proofs.Ytlkikecnlafmeaa
open Go.RowKit

theorem run_bits (b : Nat) (w : World) : (callFunc 52 #[.float .f64 b]).run Try.prog w = .ok (.value (.int .u64 (b : Int))) w :=
  (run_callFunc_extern (e := Extern.MathFloatBits.float64bits) Try.func52 (by kernel_rfl) (by kernel_rfl) (by kernel_rfl) (by kernel_rfl) _ w).trans rfl
theorem run_from (n : Nat) (w : World) : (callFunc 10 #[.int .u64 (n : Int)]).run Try.prog w = .ok (.value (.float .f64 n)) w :=
  (run_callFunc_extern (e := Extern.MathFloatBits.float64frombits) Try.func10 (by kernel_rfl) (by kernel_rfl) (by kernel_rfl) (by kernel_rfl) _ w).trans rfl
theorem and_bit63 {a : Nat} (h : a < 18446744073709551616) : a &&& 9223372036854775808 = if a < 9223372036854775808 then 0 else 9223372036854775808 := by
  have key : a &&& 2 ^ 63 = if a.testBit 63 then 2 ^ 63 else 0 := by
    apply Nat.eq_of_testBit_eq
    intro i
    rw [Nat.testBit_and, Nat.testBit_two_pow]
    by_cases k : 63 = i
    · subst k
      cases a.testBit 63 <;> decide
    · rw [decide_eq_false k, Bool.and_false]
      split
      · rw [Nat.testBit_two_pow, decide_eq_false k]
      · rw [Nat.zero_testBit]
  rw [show (9223372036854775808 : Nat) = 2 ^ 63 from rfl, key, Nat.testBit_eq_decide_div_mod_eq]
  by_cases k : a < 2 ^ 63
  · rw [if_pos k, show a / 2 ^ 63 % 2 = 0 by omega]
    rfl
  · rw [if_neg k, show a / 2 ^ 63 % 2 = 1 by omega]
    rfl
theorem and_top {a : Nat} (h : a < 18446744073709551616) : bits .and .u64 (a : Int) 9223372036854775808 = if a < 9223372036854775808 then 0 else 9223372036854775808 := by
  rw [show (9223372036854775808 : Int) = ((9223372036854775808 : Nat) : Int) from rfl, bits_and_u64_nat a _ h (by decide), and_bit63 h]
  split <;> rfl
theorem not_top {a : Nat} (h : a < 18446744073709551616) : bits .andNot .u64 (a : Int) 9223372036854775808 = ((a % 9223372036854775808 : Nat) : Int) := by
  rw [show (9223372036854775808 : Int) = ((9223372036854775808 : Nat) : Int) from rfl, u64_andNot_nat a _ h (by decide)]
  have : a &&& (18446744073709551615 - 9223372036854775808) = a % 9223372036854775808 := by
    rw [show 18446744073709551615 - 9223372036854775808 = 2 ^ 63 - 1 by decide, Nat.and_two_pow_sub_one_eq_mod]
  rw [this]
theorem flip_all {a : Nat} (h : a < 18446744073709551616) : bits .xor .u64 IntKind.u64.max (a : Int) = ((18446744073709551615 - a : Nat) : Int) := by
  rw [show IntKind.u64.max = ((18446744073709551615 : Nat) : Int) from rfl, bits_xor_u64_nat _ a (by decide) h]
  congr 1
  apply Nat.eq_of_testBit_eq
  intro i
  rw [Nat.testBit_xor, show 18446744073709551615 = 2 ^ 64 - 1 by decide, Nat.testBit_two_pow_sub_one, show 2 ^ 64 - 1 - a = 2 ^ 64 - (a + 1) by omega, Nat.testBit_two_pow_sub_succ (by omega)]
  by_cases k : i < 64
  · simp [k]
  · have : a.testBit i = false := Nat.testBit_lt_two_pow (Nat.lt_of_lt_of_le h (Nat.pow_le_pow_right (n := 2) (by omega) (by omega : 64 ≤ i)))
    simp [k, this]
theorem nan_any (w : World) : Calls Try.prog 21 #[] w fun e w' => e = .returned (.float .f64 9221120237041090561) ∧ w' = w := by
  have hf : ∀ w, (callFunc 10 #[.int .u64 9221120237041090561]).run Try.prog w = .ok (.value (.float .f64 9221120237041090561)) w := fun w => run_from 9221120237041090561 w
  go_enter Try.func21, Try.ntmps21
  go_wp2
  go_ret
  exact ⟨rfl, rfl⟩
theorem isNaN_any (a : Nat) (w : World) : Calls Try.prog 54 #[.float .f64 a] w fun e w' => e = .returned (.bool (nanF a)) ∧ w' = w := by
  have hn := ord_ne a
  go_enter Try.func54, Try.ntmps54
  go_wp2
  go_ret
  exact ⟨rfl, rfl⟩
theorem fBits_any (a : Nat) (w : World) (ha : a < 18446744073709551616) : Calls Try.prog 60 #[.float .f64 a] w fun e w' => e = .returned (.int .u64 (bitsF a : Int)) ∧ w' = w := by
  have hf := run_bits a
  have HN := Lib.hid (isNaN_any a w)
  have hA := and_top ha
  have hX := flip_all ha
  go_enter Try.func60, Try.ntmps60
  go_wp2_with fail
  refine Calls.mono HN.out ?_
  rintro e w' ⟨rfl, rfl⟩
  cases hn : nanF a with
  | true =>
    have HE := Lib.hid (show bitsF a = 18446744073709551615 by unfold bitsF; rw [hn]; rfl)
    go_wp2_with fail
    go_ret
    exact ⟨by rw [HE.out]; rfl, rfl⟩
  | false =>
    by_cases hk : a < 9223372036854775808
    · have HE := Lib.hid (show bitsF a = a + 9223372036854775808 by unfold bitsF; rw [hn, if_pos hk]; rfl)
      rw [if_pos hk] at hA
      go_wp2_with fail
      go_ret
      exact ⟨by rw [HE.out]; go_num, rfl⟩
    · have HE := Lib.hid (show bitsF a = 18446744073709551615 - a by unfold bitsF; rw [hn, if_neg hk]; rfl)
      rw [if_neg hk] at hA
      go_wp2_with fail
      go_ret
      exact ⟨by rw [HE.out]; rfl, rfl⟩
theorem rBits_any (a : Nat) (w : World) (ha : a < 18446744073709551616) : Calls Try.prog 50 #[.float .f64 a] w fun e w' => e = .returned (.int .u64 (bitsF a : Int)) ∧ w' = w := by
  have hf := run_bits a
  have hX := flip_all ha
  have hN := ord_ne a
  cases hn : nanF a with
  | true =>
    have HE := Lib.hid (show bitsF a = 18446744073709551615 by unfold bitsF; rw [hn]; rfl)
    rw [hn] at hN
    go_enter Try.func50, Try.ntmps50
    go_wp2_with fail
    go_ret
    exact ⟨by rw [HE.out]; rfl, rfl⟩
  | false =>
    rw [hn] at hN
    by_cases hk : a < 9223372036854775808
    · have HE := Lib.hid (show bitsF a = a + 9223372036854775808 by unfold bitsF; rw [hn, if_pos hk]; rfl)
      have hs : ((a : Int) / 9223372036854775808 == 1) = false := beq_eq_false_iff_ne.2 (by omega)
      go_enter Try.func50, Try.ntmps50
      go_wp2_with fail
      go_ret
      exact ⟨by rw [HE.out]; go_num, rfl⟩
    · have HE := Lib.hid (show bitsF a = 18446744073709551615 - a by unfold bitsF; rw [hn, if_neg hk]; rfl)
      have hs : ((a : Int) / 9223372036854775808 == 1) = true := beq_iff_eq.2 (by omega)
      go_enter Try.func50, Try.ntmps50
      go_wp2_with fail
      go_ret
      exact ⟨by rw [HE.out]; rfl, rfl⟩
theorem uNaN_any (x : Int) (w : World) : Calls Try.prog 61 #[.int .u64 x] w fun e w' => e = .returned (.bool false) ∧ w' = w := by
  have hx : (x != x) = false := by simp
  go_enter Try.func61, Try.ntmps61
  go_wp2
  go_ret
  exact ⟨rfl, rfl⟩
theorem compare_any (x y : Nat) (w : World) : Calls Try.prog 59 #[.int .u64 (x : Int), .int .u64 (y : Int)] w fun e w' => e = .returned (.int .i64 (if x < y then -1 else if y < x then 1 else 0)) ∧ w' = w := by
  have HX := Lib.hid (fun W => uNaN_any (x : Int) W)
  have HY := Lib.hid (fun W => uNaN_any (y : Int) W)
  by_cases h1 : x < y
  · rw [if_pos h1]
    have h1i : (x : Int) < (y : Int) := by omega
    go_enter Try.func59, Try.ntmps59
    go_wp2_with fail
    refine Calls.mono (HX.out _) ?_
    rintro e w' ⟨rfl, rfl⟩
    go_wp2_with fail
    refine Calls.mono (HY.out _) ?_
    rintro e w' ⟨rfl, rfl⟩
    go_wp2_with fail
    go_ret
    exact ⟨rfl, rfl⟩
  · rw [if_neg h1]
    have h1i : ¬ ((x : Int) < (y : Int)) := by omega
    by_cases h2 : y < x
    · rw [if_pos h2]
      have h2i : (y : Int) < (x : Int) := by omega
      go_enter Try.func59, Try.ntmps59
      go_wp2_with fail
      refine Calls.mono (HX.out _) ?_
      rintro e w' ⟨rfl, rfl⟩
      go_wp2_with fail
      refine Calls.mono (HY.out _) ?_
      rintro e w' ⟨rfl, rfl⟩
      go_wp2_with fail
      go_ret
      exact ⟨rfl, rfl⟩
    · rw [if_neg h2]
      have h2i : ¬ ((y : Int) < (x : Int)) := by omega
      go_enter Try.func59, Try.ntmps59
      go_wp2_with fail
      refine Calls.mono (HX.out _) ?_
      rintro e w' ⟨rfl, rfl⟩
      go_wp2_with fail
      refine Calls.mono (HY.out _) ?_
      rintro e w' ⟨rfl, rfl⟩
      go_wp2_with fail
      go_ret
      exact ⟨rfl, rfl⟩
theorem fCmp_any (a b : Nat) (w : World) (ha : a < 18446744073709551616) (hb : b < 18446744073709551616) : Calls Try.prog 58 #[.float .f64 a, .float .f64 b] w fun e w' => e = .returned (.int .i64 (cmpF a b)) ∧ w' = w := by
  have HA := Lib.hid (fun W => fBits_any a W ha)
  have HB := Lib.hid (fun W => fBits_any b W hb)
  have HC := Lib.hid (fun W => compare_any (bitsF a) (bitsF b) W)
  have HE := Lib.hid (show (if bitsF a < bitsF b then (-1 : Int) else if bitsF b < bitsF a then 1 else 0) = cmpF a b from rfl)
  clear ha hb
  go_enter Try.func58, Try.ntmps58
  go_wp2_with fail
  refine Calls.mono (HA.out _) ?_
  rintro e w' ⟨rfl, rfl⟩
  go_wp2_with fail
  refine Calls.mono (HB.out _) ?_
  rintro e w' ⟨rfl, rfl⟩
  go_wp2_with fail
  refine Calls.mono (HC.out _) ?_
  rintro e w' ⟨rfl, rfl⟩
  rw [HE.out]
  go_wp2_with fail
  go_ret
  exact ⟨rfl, rfl⟩
theorem rCmp_any (a b : Nat) (w : World) (ha : a < 18446744073709551616) (hb : b < 18446744073709551616) : Calls Try.prog 43 #[.float .f64 a, .float .f64 b] w fun e w' => e = .returned (.int .i64 (cmpF a b)) ∧ w' = w := by
  have HA := Lib.hid (fun W => rBits_any a W ha)
  have HB := Lib.hid (fun W => rBits_any b W hb)
  have HE := Lib.hid (show (if bitsF a < bitsF b then (-1 : Int) else if bitsF b < bitsF a then 1 else 0) = cmpF a b from rfl)
  clear ha hb
  generalize bitsF a = x at *
  generalize bitsF b = y at *
  by_cases h1 : x < y
  · rw [if_pos h1] at HE
    have h1i : (x : Int) < (y : Int) := by omega
    go_enter Try.func43, Try.ntmps43
    go_wp2_with fail
    refine Calls.mono (HA.out _) ?_
    rintro e w' ⟨rfl, rfl⟩
    go_wp2_with fail
    refine Calls.mono (HB.out _) ?_
    rintro e w' ⟨rfl, rfl⟩
    go_wp2_with fail
    go_ret
    exact ⟨by rw [← HE.out]; rfl, rfl⟩
  · rw [if_neg h1] at HE
    have h1i : ¬ ((x : Int) < (y : Int)) := by omega
    by_cases h2 : y < x
    · rw [if_pos h2] at HE
      have h2i : (y : Int) < (x : Int) := by omega
      go_enter Try.func43, Try.ntmps43
      go_wp2_with fail
      refine Calls.mono (HA.out _) ?_
      rintro e w' ⟨rfl, rfl⟩
      go_wp2_with fail
      refine Calls.mono (HB.out _) ?_
      rintro e w' ⟨rfl, rfl⟩
      go_wp2_with fail
      go_ret
      exact ⟨by rw [← HE.out]; rfl, rfl⟩
    · rw [if_neg h2] at HE
      have h2i : ¬ ((y : Int) < (x : Int)) := by omega
      go_enter Try.func43, Try.ntmps43
      go_wp2_with fail
      refine Calls.mono (HA.out _) ?_
      rintro e w' ⟨rfl, rfl⟩
      go_wp2_with fail
      refine Calls.mono (HB.out _) ?_
      rintro e w' ⟨rfl, rfl⟩
      go_wp2_with fail
      go_ret
      exact ⟨by rw [← HE.out]; rfl, rfl⟩
theorem eqFloat_any (a b : Nat) (w : World) : Calls Try.prog 46 #[.float .f64 a, .float .f64 b] w fun e w' => e = .returned (.bool (eqF a b)) ∧ w' = w := by
  have hfa := run_bits a
  have hfb := run_bits b
  have hA := ord_ne a
  have hB := ord_ne b
  have HE := Lib.hid (show eqF a b = if nanF a || nanF b then nanF a && nanF b else a == b from rfl)
  have HI : Hid (((a : Int) == (b : Int)) = (a == b)) := Lib.hid (by
    by_cases h : a = b
    · subst h; simp
    · rw [beq_eq_false_iff_ne.2 h]; exact beq_eq_false_iff_ne.2 (by omega))
  cases ha : nanF a with
  | true =>
    rw [ha] at hA HE
    cases hb : nanF b with
    | true =>
      rw [hb] at hB HE
      go_enter Try.func46, Try.ntmps46
      go_wp2_with fail
      go_ret
      exact ⟨by rw [HE.out]; rfl, rfl⟩
    | false =>
      rw [hb] at hB HE
      go_enter Try.func46, Try.ntmps46
      go_wp2_with fail
      go_ret
      exact ⟨by rw [HE.out]; rfl, rfl⟩
  | false =>
    rw [ha] at hA HE
    cases hb : nanF b with
    | true =>
      rw [hb] at hB HE
      go_enter Try.func46, Try.ntmps46
      go_wp2_with fail
      go_ret
      exact ⟨by rw [HE.out]; rfl, rfl⟩
    | false =>
      rw [hb] at hB HE
      go_enter Try.func46, Try.ntmps46
      go_wp2_with fail
      go_ret
      exact ⟨by rw [HE.out, ← HI.out]; rfl, rfl⟩
set_option maxRecDepth 100000 in
theorem fClamp_any (x lo hi : Nat) (w : World) (hx : x < 18446744073709551616) (hlo : lo < 18446744073709551616) (hhi : hi < 18446744073709551616) : Calls Try.prog 55 #[.float .f64 x, .float .f64 lo, .float .f64 hi] w fun e w' => e = .returned (.float .f64 (clampF x lo hi)) ∧ w' = w := by
  have HC1 := Lib.hid (fun W => fCmp_any x lo W hx hlo)
  have HC2 := Lib.hid (fun W => fCmp_any lo hi W hlo hhi)
  have HC3 := Lib.hid (fun W => fCmp_any x hi W hx hhi)
  have HNN := Lib.hid (fun W => nan_any W)
  have HNx := Lib.hid (fun W => isNaN_any x W)
  have HNlo := Lib.hid (fun W => isNaN_any lo W)
  have HNhi := Lib.hid (fun W => isNaN_any hi W)
  have HE := Lib.hid (show clampF x lo hi = if nanF x || nanF lo || nanF hi then 9221120237041090561 else if cmpF x lo < 0 ∨ 0 < cmpF lo hi then lo else if 0 < cmpF x hi then hi else x from rfl)
  clear hx hlo hhi
  generalize cmpF x lo = c1 at *
  generalize cmpF lo hi = c2 at *
  generalize cmpF x hi = c3 at *
  cases nx : nanF x with
  | true =>
    rw [nx] at HE HNx
    go_enter Try.func55, Try.ntmps55
    go_wp2_with fail
    refine Calls.mono (HNx.out _) ?_
    rintro e w' ⟨rfl, rfl⟩
    go_wp2_with fail
    refine Calls.mono (HNN.out _) ?_
    rintro e w' ⟨rfl, rfl⟩
    go_wp2_with fail
    go_ret
    exact ⟨by rw [HE.out]; rfl, rfl⟩
  | false =>
    rw [nx] at HE HNx
    cases nl : nanF lo with
    | true =>
      rw [nl] at HE HNlo
      go_enter Try.func55, Try.ntmps55
      go_wp2_with fail
      refine Calls.mono (HNx.out _) ?_
      rintro e w' ⟨rfl, rfl⟩
      go_wp2_with fail
      refine Calls.mono (HNlo.out _) ?_
      rintro e w' ⟨rfl, rfl⟩
      go_wp2_with fail
      refine Calls.mono (HNN.out _) ?_
      rintro e w' ⟨rfl, rfl⟩
      go_wp2_with fail
      go_ret
      exact ⟨by rw [HE.out]; rfl, rfl⟩
    | false =>
      rw [nl] at HE HNlo
      cases nh : nanF hi with
      | true =>
        rw [nh] at HE HNhi
        go_enter Try.func55, Try.ntmps55
        go_wp2_with fail
        refine Calls.mono (HNx.out _) ?_
        rintro e w' ⟨rfl, rfl⟩
        go_wp2_with fail
        refine Calls.mono (HNlo.out _) ?_
        rintro e w' ⟨rfl, rfl⟩
        go_wp2_with fail
        refine Calls.mono (HNhi.out _) ?_
        rintro e w' ⟨rfl, rfl⟩
        go_wp2_with fail
        refine Calls.mono (HNN.out _) ?_
        rintro e w' ⟨rfl, rfl⟩
        go_wp2_with fail
        go_ret
        exact ⟨by rw [HE.out]; rfl, rfl⟩
      | false =>
        rw [nh] at HE HNhi
        by_cases h1 : c1 < 0
        · have HF := Lib.hid (show clampF x lo hi = lo by rw [HE.out, if_neg (by decide), if_pos (.inl h1)])
          go_enter Try.func55, Try.ntmps55
          go_wp2_with fail
          refine Calls.mono (HNx.out _) ?_
          rintro e w' ⟨rfl, rfl⟩
          go_wp2_with fail
          refine Calls.mono (HNlo.out _) ?_
          rintro e w' ⟨rfl, rfl⟩
          go_wp2_with fail
          refine Calls.mono (HNhi.out _) ?_
          rintro e w' ⟨rfl, rfl⟩
          go_wp2_with fail
          refine Calls.mono (HC1.out _) ?_
          rintro e w' ⟨rfl, rfl⟩
          go_wp2_with fail
          go_ret
          exact ⟨by rw [HF.out]; rfl, rfl⟩
        · have h1d : decide (c1 < 0) = false := decide_eq_false h1
          by_cases h2 : 0 < c2
          · have HF := Lib.hid (show clampF x lo hi = lo by rw [HE.out, if_neg (by decide), if_pos (.inr h2)])
            go_enter Try.func55, Try.ntmps55
            go_wp2_with fail
            refine Calls.mono (HNx.out _) ?_
            rintro e w' ⟨rfl, rfl⟩
            go_wp2_with fail
            refine Calls.mono (HNlo.out _) ?_
            rintro e w' ⟨rfl, rfl⟩
            go_wp2_with fail
            refine Calls.mono (HNhi.out _) ?_
            rintro e w' ⟨rfl, rfl⟩
            go_wp2_with fail
            refine Calls.mono (HC1.out _) ?_
            rintro e w' ⟨rfl, rfl⟩
            go_wp2_with fail
            refine Calls.mono (HC2.out _) ?_
            rintro e w' ⟨rfl, rfl⟩
            go_wp2_with fail
            go_ret
            exact ⟨by rw [HF.out]; rfl, rfl⟩
          · have h2d : decide (0 < c2) = false := decide_eq_false h2
            by_cases h3 : 0 < c3
            · have HF := Lib.hid (show clampF x lo hi = hi by rw [HE.out, if_neg (by decide), if_neg (fun h => h.elim h1 h2), if_pos h3])
              go_enter Try.func55, Try.ntmps55
              go_wp2_with fail
              refine Calls.mono (HNx.out _) ?_
              rintro e w' ⟨rfl, rfl⟩
              go_wp2_with fail
              refine Calls.mono (HNlo.out _) ?_
              rintro e w' ⟨rfl, rfl⟩
              go_wp2_with fail
              refine Calls.mono (HNhi.out _) ?_
              rintro e w' ⟨rfl, rfl⟩
              go_wp2_with fail
              refine Calls.mono (HC1.out _) ?_
              rintro e w' ⟨rfl, rfl⟩
              go_wp2_with fail
              refine Calls.mono (HC2.out _) ?_
              rintro e w' ⟨rfl, rfl⟩
              go_wp2_with fail
              refine Calls.mono (HC3.out _) ?_
              rintro e w' ⟨rfl, rfl⟩
              go_wp2_with fail
              go_ret
              exact ⟨by rw [HF.out]; rfl, rfl⟩
            · have h3d : decide (0 < c3) = false := decide_eq_false h3
              have HF := Lib.hid (show clampF x lo hi = x by rw [HE.out, if_neg (by decide), if_neg (fun h => h.elim h1 h2), if_neg h3])
              go_enter Try.func55, Try.ntmps55
              go_wp2_with fail
              refine Calls.mono (HNx.out _) ?_
              rintro e w' ⟨rfl, rfl⟩
              go_wp2_with fail
              refine Calls.mono (HNlo.out _) ?_
              rintro e w' ⟨rfl, rfl⟩
              go_wp2_with fail
              refine Calls.mono (HNhi.out _) ?_
              rintro e w' ⟨rfl, rfl⟩
              go_wp2_with fail
              refine Calls.mono (HC1.out _) ?_
              rintro e w' ⟨rfl, rfl⟩
              go_wp2_with fail
              refine Calls.mono (HC2.out _) ?_
              rintro e w' ⟨rfl, rfl⟩
              go_wp2_with fail
              refine Calls.mono (HC3.out _) ?_
              rintro e w' ⟨rfl, rfl⟩
              go_wp2_with fail
              go_ret
              exact ⟨by rw [HF.out]; rfl, rfl⟩
set_option maxRecDepth 100000 in
theorem rClamp_any (x lo hi : Nat) (w : World) (hx : x < 18446744073709551616) (hlo : lo < 18446744073709551616) (hhi : hi < 18446744073709551616) : Calls Try.prog 51 #[.float .f64 x, .float .f64 lo, .float .f64 hi] w fun e w' => e = .returned (.float .f64 (clampF x lo hi)) ∧ w' = w := by
  have HC1 := Lib.hid (fun W => rCmp_any x lo W hx hlo)
  have HC2 := Lib.hid (fun W => rCmp_any lo hi W hlo hhi)
  have HC3 := Lib.hid (fun W => rCmp_any x hi W hx hhi)
  have HNN := Lib.hid (fun W => nan_any W)
  have hNx := ord_ne x
  have hNlo := ord_ne lo
  have hNhi := ord_ne hi
  have HE := Lib.hid (show clampF x lo hi = if nanF x || nanF lo || nanF hi then 9221120237041090561 else if cmpF x lo < 0 ∨ 0 < cmpF lo hi then lo else if 0 < cmpF x hi then hi else x from rfl)
  clear hx hlo hhi
  generalize cmpF x lo = c1 at *
  generalize cmpF lo hi = c2 at *
  generalize cmpF x hi = c3 at *
  cases nx : nanF x with
  | true =>
    rw [nx] at HE hNx
    go_enter Try.func51, Try.ntmps51
    go_wp2_with fail
    refine Calls.mono (HNN.out _) ?_
    rintro e w' ⟨rfl, rfl⟩
    go_wp2_with fail
    go_ret
    exact ⟨by rw [HE.out]; rfl, rfl⟩
  | false =>
    rw [nx] at HE hNx
    cases nl : nanF lo with
    | true =>
      rw [nl] at HE hNlo
      go_enter Try.func51, Try.ntmps51
      go_wp2_with fail
      refine Calls.mono (HNN.out _) ?_
      rintro e w' ⟨rfl, rfl⟩
      go_wp2_with fail
      go_ret
      exact ⟨by rw [HE.out]; rfl, rfl⟩
    | false =>
      rw [nl] at HE hNlo
      cases nh : nanF hi with
      | true =>
        rw [nh] at HE hNhi
        go_enter Try.func51, Try.ntmps51
        go_wp2_with fail
        refine Calls.mono (HNN.out _) ?_
        rintro e w' ⟨rfl, rfl⟩
        go_wp2_with fail
        go_ret
        exact ⟨by rw [HE.out]; rfl, rfl⟩
      | false =>
        rw [nh] at HE hNhi
        by_cases h1 : c1 < 0
        · have HF := Lib.hid (show clampF x lo hi = lo by rw [HE.out, if_neg (by decide), if_pos (.inl h1)])
          go_enter Try.func51, Try.ntmps51
          go_wp2_with fail
          refine Calls.mono (HC1.out _) ?_
          rintro e w' ⟨rfl, rfl⟩
          go_wp2_with fail
          go_ret
          exact ⟨by rw [HF.out]; rfl, rfl⟩
        · have h1d : decide (c1 < 0) = false := decide_eq_false h1
          by_cases h2 : 0 < c2
          · have HF := Lib.hid (show clampF x lo hi = lo by rw [HE.out, if_neg (by decide), if_pos (.inr h2)])
            go_enter Try.func51, Try.ntmps51
            go_wp2_with fail
            refine Calls.mono (HC1.out _) ?_
            rintro e w' ⟨rfl, rfl⟩
            go_wp2_with fail
            refine Calls.mono (HC2.out _) ?_
            rintro e w' ⟨rfl, rfl⟩
            go_wp2_with fail
            go_ret
            exact ⟨by rw [HF.out]; rfl, rfl⟩
          · have h2d : decide (0 < c2) = false := decide_eq_false h2
            by_cases h3 : 0 < c3
            · have HF := Lib.hid (show clampF x lo hi = hi by rw [HE.out, if_neg (by decide), if_neg (fun h => h.elim h1 h2), if_pos h3])
              go_enter Try.func51, Try.ntmps51
              go_wp2_with fail
              refine Calls.mono (HC1.out _) ?_
              rintro e w' ⟨rfl, rfl⟩
              go_wp2_with fail
              refine Calls.mono (HC2.out _) ?_
              rintro e w' ⟨rfl, rfl⟩
              go_wp2_with fail
              refine Calls.mono (HC3.out _) ?_
              rintro e w' ⟨rfl, rfl⟩
              go_wp2_with fail
              go_ret
              exact ⟨by rw [HF.out]; rfl, rfl⟩
            · have h3d : decide (0 < c3) = false := decide_eq_false h3
              have HF := Lib.hid (show clampF x lo hi = x by rw [HE.out, if_neg (by decide), if_neg (fun h => h.elim h1 h2), if_neg h3])
              go_enter Try.func51, Try.ntmps51
              go_wp2_with fail
              refine Calls.mono (HC1.out _) ?_
              rintro e w' ⟨rfl, rfl⟩
              go_wp2_with fail
              refine Calls.mono (HC2.out _) ?_
              rintro e w' ⟨rfl, rfl⟩
              go_wp2_with fail
              refine Calls.mono (HC3.out _) ?_
              rintro e w' ⟨rfl, rfl⟩
              go_wp2_with fail
              go_ret
              exact ⟨by rw [HF.out]; rfl, rfl⟩

end Go.Proofs.Ytlkikecnlafmeaa
