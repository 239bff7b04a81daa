/-
  The signs and kinds of floats, bounds, the test of two floats: package real's functions, the page's and package math's, walked.
  Conditions: as each theorem states them: a word is below 2 to the 64.
-/
import Derived.Test.YtfbkokkpcgmapaaDoorRB
namespace Go.Proofs.YtfbkokkpcgmapaaDoor
open Go.RowKit

theorem signbit_any (a : Nat) (w : World) (ha : a < 18446744073709551616) : Calls Tryd.prog 47 #[.float .f64 a] w fun e w' => e = .returned (.bool (negF a)) ∧ w' = w := by
  have hf := run_bits a
  have HN := Lib.hid (neg_iff ha)
  by_cases hk : 9223372036854775808 ≤ a
  · rw [decide_eq_true hk] at HN
    have hw : IntKind.i64.wrap (a : Int) = (a : Int) - 18446744073709551616 := by rw [IntKind.wrap_i64]; omega
    have hl : decide ((a : Int) - 18446744073709551616 < 0) = true := decide_eq_true (by omega)
    go_enter Tryd.func47, Tryd.ntmps47
    go_wp2_with fail
    go_ret
    exact ⟨by rw [HN.out]; simp, rfl⟩
  · rw [decide_eq_false hk] at HN
    have hw : IntKind.i64.wrap (a : Int) = (a : Int) := by rw [IntKind.wrap_i64]; omega
    have hl : decide ((a : Int) < 0) = false := decide_eq_false (by omega)
    go_enter Tryd.func47, Tryd.ntmps47
    go_wp2_with fail
    go_ret
    exact ⟨by rw [HN.out]; simp, rfl⟩
theorem sizeOf_any (a : Nat) (w : World) (ha : a < 18446744073709551616) : Calls Tryd.prog 46 #[.float .f64 a] w fun e w' => e = .returned (.int .u64 ((a % 9223372036854775808 : Nat) : Int)) ∧ w' = w := by
  have hf := run_bits a
  obtain ⟨r, hr⟩ : ∃ r, a % 9223372036854775808 = r := ⟨_, rfl⟩
  have hn := not_top ha
  rw [hr] at hn ⊢
  go_enter Tryd.func46, Tryd.ntmps46
  go_wp2_with fail
  go_ret
  exact ⟨rfl, rfl⟩
theorem sizeClass_any (r : Nat) (w : World) : Calls Tryd.prog 45 #[.int .u64 (r : Int)] w fun e w' => e = .returned (.int .i64 (kindR r : Int)) ∧ w' = w := by
  unfold kindR
  by_cases h1 : 9218868437227405312 < r
  · rw [if_pos h1]
    have h1i : decide ((9218868437227405312 : Int) < (r : Int)) = true := decide_eq_true (by omega)
    go_enter Tryd.func45, Tryd.ntmps45
    go_wp2_with fail
    go_ret
    exact ⟨rfl, rfl⟩
  · rw [if_neg h1]
    have h1i : decide ((9218868437227405312 : Int) < (r : Int)) = false := decide_eq_false (by omega)
    by_cases h2 : r = 9218868437227405312
    · rw [if_pos h2]
      have h2i : ((r : Int) == 9218868437227405312) = true := beq_iff_eq.2 (by omega)
      clear h1 h2
      go_enter Tryd.func45, Tryd.ntmps45
      go_wp2_with fail
      go_ret
      exact ⟨rfl, rfl⟩
    · rw [if_neg h2]
      have h2i : ((r : Int) == 9218868437227405312) = false := beq_eq_false_iff_ne.2 (by omega)
      by_cases h3 : 4503599627370496 ≤ r
      · rw [if_pos h3]
        have h3i : decide ((4503599627370496 : Int) ≤ (r : Int)) = true := decide_eq_true (by omega)
        clear h1 h2 h3
        go_enter Tryd.func45, Tryd.ntmps45
        go_wp2_with fail
        go_ret
        exact ⟨rfl, rfl⟩
      · rw [if_neg h3]
        have h3i : decide ((4503599627370496 : Int) ≤ (r : Int)) = false := decide_eq_false (by omega)
        by_cases h4 : 0 < r
        · rw [if_pos h4]
          have h4i : (0 : Int) < (r : Int) := by omega
          clear h1 h2 h3
          go_enter Tryd.func45, Tryd.ntmps45
          go_wp2_with fail
          go_ret
          exact ⟨rfl, rfl⟩
        · rw [if_neg h4]
          obtain rfl : r = 0 := by omega
          clear h1 h2 h3 h4 h1i h2i h3i
          go_enter Tryd.func45, Tryd.ntmps45
          go_wp2_with fail
          go_ret
          exact ⟨rfl, rfl⟩

theorem kind_le (r : Nat) : kindR r ≤ 8 := by
  unfold kindR
  split
  · omega
  split
  · omega
  split
  · omega
  split <;> omega
theorem kind_nan (a : Nat) : kindR (a % 9223372036854775808) = 0 ↔ nanF a = true := by
  unfold kindR nanF
  rw [decide_eq_true_eq]
  constructor
  · intro h
    split at h
    · assumption
    split at h
    · omega
    split at h
    · omega
    split at h <;> omega
  · intro h
    rw [if_pos h]
theorem fClass_any (a : Nat) (w : World) (ha : a < 18446744073709551616) : Calls Tryd.prog 18 #[.float .f64 a] w fun e w' => e = .returned (.int .i64 (classF a : Int)) ∧ w' = w := by
  have HS := Lib.hid (fun W => sizeOf_any a W ha)
  have HK := Lib.hid (fun W => sizeClass_any (a % 9223372036854775808) W)
  have HG := Lib.hid (fun W => signbit_any a W ha)
  have HE := Lib.hid (show classF a = if nanF a then 0 else if negF a then 9 - kindR (a % 9223372036854775808) else kindR (a % 9223372036854775808) from rfl)
  have h8 := kind_le (a % 9223372036854775808)
  have h0 := kind_nan a
  clear ha
  generalize a % 9223372036854775808 = r at *
  generalize kindR r = k at *
  cases hn : nanF a with
  | true =>
    obtain rfl : k = 0 := h0.2 hn
    rw [hn, if_pos rfl] at HE
    clear h0 h8 hn
    go_enter Tryd.func18, Tryd.ntmps18
    go_wp2_with fail
    refine Calls.mono (HS.out _) ?_
    rintro e w' ⟨rfl, rfl⟩
    go_wp2_with fail
    refine Calls.mono (HK.out _) ?_
    rintro e w' ⟨rfl, rfl⟩
    go_wp2_with fail
    go_ret
    exact ⟨by rw [HE.out]; rfl, rfl⟩
  | false =>
    have hk0 : ((k : Int) == 0) = false := beq_eq_false_iff_ne.2 fun h => by
      have : k = 0 := by omega
      rw [h0.1 this] at hn
      cases hn
    rw [hn] at HE
    clear h0 hn
    go_enter Tryd.func18, Tryd.ntmps18
    go_wp2_with fail
    refine Calls.mono (HS.out _) ?_
    rintro e w' ⟨rfl, rfl⟩
    go_wp2_with fail
    refine Calls.mono (HK.out _) ?_
    rintro e w' ⟨rfl, rfl⟩
    go_wp2_with fail
    refine Calls.mono (HG.out _) ?_
    rintro e w' ⟨rfl, rfl⟩
    cases hg : negF a with
    | true =>
      rw [hg] at HE
      go_wp2_with fail
      go_ret
      exact ⟨by rw [HE.out]; go_num, rfl⟩
    | false =>
      rw [hg] at HE
      go_wp2_with fail
      go_ret
      exact ⟨by rw [HE.out]; rfl, rfl⟩

/-- The page's fields of a word. -/
theorem exp_field {a : Nat} (h : a < 18446744073709551616) : bits .and .u64 ((a : Int) / 4503599627370496) 2047 = ((a / 4503599627370496 % 2048 : Nat) : Int) := by
  rw [show ((a : Int) / 4503599627370496) = ((a / 4503599627370496 : Nat) : Int) by omega, show (2047 : Int) = ((2047 : Nat) : Int) from rfl, bits_and_u64_nat _ _ (by omega) (by decide), show (2047 : Nat) = 2 ^ 11 - 1 from rfl, Nat.and_two_pow_sub_one_eq_mod]
theorem class_fields {a : Nat} (h : a < 18446744073709551616) : (classF a : Int) =
    if a / 4503599627370496 % 2048 = 2047 then (if a % 4503599627370496 ≠ 0 then 0 else if 9223372036854775808 ≤ a then 1 else 8)
    else if 0 < a / 4503599627370496 % 2048 then (if 9223372036854775808 ≤ a then 2 else 7)
    else if 0 < a % 4503599627370496 then (if 9223372036854775808 ≤ a then 3 else 6)
    else if 9223372036854775808 ≤ a then 4 else 5 := by
  have hr : a % 9223372036854775808 = a / 4503599627370496 % 2048 * 4503599627370496 + a % 4503599627370496 := by omega
  unfold classF nanF kindR
  rw [neg_iff h, hr]
  have hf : a % 4503599627370496 < 4503599627370496 := by omega
  have he : a / 4503599627370496 % 2048 < 2048 := by omega
  generalize a / 4503599627370496 % 2048 = E at *
  generalize a % 4503599627370496 = F at *
  by_cases hs : 9223372036854775808 ≤ a
  · simp only [hs, decide_true, if_true]
    by_cases h1 : E = 2047
    · subst h1
      by_cases h2 : F = 0
      · subst h2; rfl
      · rw [decide_eq_true (by omega), if_pos rfl, if_pos rfl, if_pos h2]; rfl
    · rw [decide_eq_false (by omega), if_neg h1, if_neg (by decide), if_neg (by omega), if_neg (by omega)]
      by_cases h2 : 0 < E
      · rw [if_pos h2, if_pos (by omega)]; rfl
      · rw [if_neg h2, if_neg (by omega)]
        by_cases h3 : 0 < F
        · rw [if_pos h3, if_pos (by omega)]; rfl
        · rw [if_neg h3, if_neg (by omega)]; rfl
  · simp only [hs, decide_false, if_false, Bool.false_eq_true]
    by_cases h1 : E = 2047
    · subst h1
      by_cases h2 : F = 0
      · subst h2; rfl
      · rw [decide_eq_true (by omega), if_pos rfl, if_pos rfl, if_pos h2]; rfl
    · rw [decide_eq_false (by omega), if_neg h1, if_neg (by decide), if_neg (by omega), if_neg (by omega)]
      by_cases h2 : 0 < E
      · rw [if_pos h2, if_pos (by omega)]; rfl
      · rw [if_neg h2, if_neg (by omega)]
        by_cases h3 : 0 < F
        · rw [if_pos h3, if_pos (by omega)]; rfl
        · rw [if_neg h3, if_neg (by omega)]; rfl

theorem rClass_any (a : Nat) (w : World) (ha : a < 18446744073709551616) : Calls Tryd.prog 19 #[.float .f64 a] w fun e w' => e = .returned (.int .i64 (classF a : Int)) ∧ w' = w := by
  have hf := run_bits a
  have hE := exp_field ha
  have hF := low_mask ha
  have HC := Lib.hid (class_fields ha)
  have hs : ((a : Int) / 9223372036854775808 == 1) = decide (9223372036854775808 ≤ a) := by
    by_cases k : 9223372036854775808 ≤ a
    · rw [decide_eq_true k]; exact beq_iff_eq.2 (by omega)
    · rw [decide_eq_false k]; exact beq_eq_false_iff_ne.2 (by omega)
  have HG : Hid ((if 9223372036854775808 ≤ a then true else false) = decide (9223372036854775808 ≤ a)) := Lib.hid (by split <;> simp_all)
  clear ha
  generalize a / 4503599627370496 % 2048 = E at *
  generalize a % 4503599627370496 = F at *
  by_cases h1 : E = 2047
  · have h1i : ((E : Int) == 2047) = true := beq_iff_eq.2 (by omega)
    rw [if_pos h1] at HC
    clear h1
    by_cases h2 : F = 0
    · have h2i : ((F : Int) != 0) = false := by simp [h2]
      rw [if_neg (by omega)] at HC
      clear h2
      by_cases k : 9223372036854775808 ≤ a
      · rw [decide_eq_true k] at hs
        rw [if_pos k] at HC
        clear k HG
        go_enter Tryd.func19, Tryd.ntmps19
        go_wp2_with fail
        go_ret
        exact ⟨by rw [HC.out]; rfl, rfl⟩
      · rw [decide_eq_false k] at hs
        rw [if_neg k] at HC
        clear k HG
        go_enter Tryd.func19, Tryd.ntmps19
        go_wp2_with fail
        go_ret
        exact ⟨by rw [HC.out]; rfl, rfl⟩
    · have h2i : ((F : Int) != 0) = true := bne_iff_ne.2 (by omega)
      rw [if_pos h2] at HC
      clear h2 HG
      go_enter Tryd.func19, Tryd.ntmps19
      go_wp2_with fail
      go_ret
      exact ⟨by rw [HC.out]; rfl, rfl⟩
  · have h1i : ((E : Int) == 2047) = false := beq_eq_false_iff_ne.2 (by omega)
    rw [if_neg h1] at HC
    clear h1
    by_cases h2 : 0 < E
    · have h2i : (0 : Int) < (E : Int) := by omega
      rw [if_pos h2] at HC
      by_cases k : 9223372036854775808 ≤ a
      · rw [decide_eq_true k] at hs
        rw [if_pos k] at HC
        clear k HG
        go_enter Tryd.func19, Tryd.ntmps19
        go_wp2_with fail
        go_ret
        exact ⟨by rw [HC.out]; rfl, rfl⟩
      · rw [decide_eq_false k] at hs
        rw [if_neg k] at HC
        clear k HG
        go_enter Tryd.func19, Tryd.ntmps19
        go_wp2_with fail
        go_ret
        exact ⟨by rw [HC.out]; rfl, rfl⟩
    · rw [if_neg h2] at HC
      obtain rfl : E = 0 := by omega
      clear h2 h1i
      by_cases h3 : 0 < F
      · have h3i : (0 : Int) < (F : Int) := by omega
        rw [if_pos h3] at HC
        by_cases k : 9223372036854775808 ≤ a
        · rw [decide_eq_true k] at hs
          rw [if_pos k] at HC
          clear k HG
          go_enter Tryd.func19, Tryd.ntmps19
          go_wp2_with fail
          go_ret
          exact ⟨by rw [HC.out]; rfl, rfl⟩
        · rw [decide_eq_false k] at hs
          rw [if_neg k] at HC
          clear k HG
          go_enter Tryd.func19, Tryd.ntmps19
          go_wp2_with fail
          go_ret
          exact ⟨by rw [HC.out]; rfl, rfl⟩
      · rw [if_neg h3] at HC
        obtain rfl : F = 0 := by omega
        clear h3
        by_cases k : 9223372036854775808 ≤ a
        · rw [decide_eq_true k] at hs
          rw [if_pos k] at HC
          clear k HG
          go_enter Tryd.func19, Tryd.ntmps19
          go_wp2_with fail
          go_ret
          exact ⟨by rw [HC.out]; rfl, rfl⟩
        · rw [decide_eq_false k] at hs
          rw [if_neg k] at HC
          clear k HG
          go_enter Tryd.func19, Tryd.ntmps19
          go_wp2_with fail
          go_ret
          exact ⟨by rw [HC.out]; rfl, rfl⟩

theorem eqFloat_any (a b : Nat) (w : World) : Calls Tryd.prog 20 #[.float .f64 a, .float .f64 b] w fun e w' => e = .returned (.bool (eqF a b)) ∧ w' = w := by
  have hfa := run_bits a
  have hfb := run_bits b
  have hA := ord_ne a
  have hB := ord_ne b
  have HE := Lib.hid (show eqF a b = if nanF a || nanF b then nanF a && nanF b else a == b from rfl)
  have HI : Hid (((a : Int) == (b : Int)) = (a == b)) := Lib.hid (by
    by_cases h : a = b
    · subst h; simp
    · rw [beq_eq_false_iff_ne.2 h]; exact beq_eq_false_iff_ne.2 (by omega))
  cases ha : nanF a with
  | true =>
    rw [ha] at hA HE
    cases hb : nanF b with
    | true =>
      rw [hb] at hB HE
      go_enter Tryd.func20, Tryd.ntmps20
      go_wp2_with fail
      go_ret
      exact ⟨by rw [HE.out]; rfl, rfl⟩
    | false =>
      rw [hb] at hB HE
      go_enter Tryd.func20, Tryd.ntmps20
      go_wp2_with fail
      go_ret
      exact ⟨by rw [HE.out]; rfl, rfl⟩
  | false =>
    rw [ha] at hA HE
    cases hb : nanF b with
    | true =>
      rw [hb] at hB HE
      go_enter Tryd.func20, Tryd.ntmps20
      go_wp2_with fail
      go_ret
      exact ⟨by rw [HE.out]; rfl, rfl⟩
    | false =>
      rw [hb] at hB HE
      go_enter Tryd.func20, Tryd.ntmps20
      go_wp2_with fail
      go_ret
      exact ⟨by rw [HE.out, ← HI.out]; rfl, rfl⟩
end Go.Proofs.YtfbkokkpcgmapaaDoor
