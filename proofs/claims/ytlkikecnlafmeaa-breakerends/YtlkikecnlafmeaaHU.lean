/-
  A health noted again and again by nought, or by one, at the weight of a half, comes to that: by plain mathematics.
  Conditions: as each theorem states them: the score is a float from +0 to 1.
-/
import Derived.Test.YtlkikecnlafmeaaHT
namespace Go.Proofs.Ytlkikecnlafmeaa

/-- The weight of a half, and the power of two with the exponent -j, as words. -/
def halfW : Nat := 4602678819172646912
def pwR (j : Nat) : Nat := (1023 - j) * 4503599627370496
theorem val_high {r : Nat} (h : 9007199254740992 ≤ r) : valF r = 2 * valF (r - 4503599627370496) := by
  unfold valF magF expF
  rw [if_neg (by omega), if_neg (by omega), show (r - 4503599627370496) % 4503599627370496 = r % 4503599627370496 by omega]
  obtain ⟨q, hq⟩ : ∃ q, r / 4503599627370496 = q + 2 := ⟨r / 4503599627370496 - 2, by omega⟩
  rw [show (r - 4503599627370496) / 4503599627370496 - 1 = q by omega, hq, show q + 2 - 1 = q + 1 by omega, Nat.pow_succ]
  generalize 4503599627370496 + r % 4503599627370496 = M
  generalize 2 ^ q = P
  rw [← Nat.mul_assoc, Nat.mul_comm (M * P) 2]
/-- Half a number of units. -/
theorem half_part {n : Nat} : partR halfW n = rungP (valF (rndV n)) (-1075) := by
  unfold partR
  obtain ⟨k, hk⟩ : ∃ k, k = 1073 := ⟨_, rfl⟩
  have e : valF halfW = 1 * 2 ^ k := by
    have h1 := val_high (r := 4607182418800017408) (by omega)
    obtain ⟨j, hj⟩ : ∃ j, j = 1074 := ⟨_, rfl⟩
    rw [val_unit hj, show 4607182418800017408 - 4503599627370496 = halfW by decide, show j = k + 1 by omega, Nat.pow_succ] at h1
    omega
  rw [e, Nat.one_mul, Nat.mul_comm, rung_scale, show (-2148 : Int) + (k : Int) = -1075 by omega]
theorem half_even (n : Nat) : rungP (2 * n) (-1075) = rndV n := by
  rw [Nat.mul_comm, show n * 2 = n * 2 ^ 1 by rw [Nat.pow_one], rung_scale]
  rfl
theorem half_mono {n m : Nat} (h : n ≤ m) : rungP n (-1075) ≤ rungP m (-1075) := by
  apply rung_mono
  refine le_of (b := -1075) (by omega) (by omega) ?_
  exact Nat.mul_le_mul_right _ h
theorem sub_zero_val (s : Nat) : valF s - valF 0 = valF s := by rw [show valF 0 = 0 from rfl, Nat.sub_zero]

/-- Noted by nought: while the score is great enough, it is halved. -/
theorem note_zero {s : Nat} (hs : s ≤ 4607182418800017408) (h : 9007199254740992 ≤ s) : noteR s 0 halfW = s - 4503599627370496 := by
  unfold noteR
  rw [if_neg (by omega), sub_zero_val, half_part, rnd_own (by omega)]
  have hv := val_high h
  rw [show rungP (valF s) (-1075) = s - 4503599627370496 by rw [hv, half_even, rnd_own (by omega)]]
  rw [show valF s - valF (s - 4503599627370496) = valF (s - 4503599627370496) by omega, rnd_own (by omega)]
theorem zero_step {s j : Nat} (hs : s ≤ 4607182418800017408) (hj : j ≤ 900) (h : s ≤ pwR j) : noteR s 0 halfW ≤ pwR (j + 1) := by
  unfold pwR at *
  by_cases k : 9007199254740992 ≤ s
  · rw [note_zero hs k]
    omega
  · have := note_down (w := halfW) hs (Nat.zero_le s)
    omega

/-- So many units with few digits are a float's own. -/
theorem own_of {N e : Nat} (hN : N < 9007199254740992) (he : e ≤ 1900) : ∃ r, r ≤ 9218868437227405312 ∧ valF r = N * 2 ^ e := by
  by_cases h0 : N = 0
  · exact ⟨0, by omega, by rw [h0, Nat.zero_mul]; rfl⟩
  have h1 : 2 ^ N.log2 ≤ N := Nat.log2_self_le h0
  have h2 : N < 2 ^ (N.log2 + 1) := Nat.lt_log2_self
  have e53 : (2 : Nat) ^ 53 = 9007199254740992 := by decide
  have e52 : (2 : Nat) ^ 52 = 4503599627370496 := by decide
  have hb : N.log2 ≤ 52 := by
    apply Nat.le_of_not_lt
    intro k
    have := pow_le 53 N.log2 k
    omega
  generalize N.log2 = b at *
  by_cases hs : b + e < 52
  · have h3 : N * 2 ^ e < 2 ^ (b + 1) * 2 ^ e := Nat.mul_lt_mul_of_pos_right h2 (Nat.two_pow_pos _)
    rw [← Nat.pow_add] at h3
    have h4 := pow_le (b + 1 + e) 52 (by omega)
    refine ⟨N * 2 ^ e, by omega, ?_⟩
    unfold valF magF expF
    rw [if_pos (by omega), show N * 2 ^ e / 4503599627370496 - 1 = 0 by rw [Nat.div_eq_of_lt (by omega)], Nat.pow_zero, Nat.mul_one]
  · obtain ⟨f, hf⟩ : ∃ f, e = f + (52 - b) := ⟨e - (52 - b), by omega⟩
    have m1 : 2 ^ b * 2 ^ (52 - b) ≤ N * 2 ^ (52 - b) := Nat.mul_le_mul_right _ h1
    have m2 : N * 2 ^ (52 - b) < 2 ^ (b + 1) * 2 ^ (52 - b) := Nat.mul_lt_mul_of_pos_right h2 (Nat.two_pow_pos _)
    rw [← Nat.pow_add, show b + (52 - b) = 52 by omega, e52] at m1
    rw [← Nat.pow_add, show b + 1 + (52 - b) = 53 by omega, e53] at m2
    have hv : N * 2 ^ e = N * 2 ^ (52 - b) * 2 ^ f := by rw [hf, Nat.pow_add, Nat.mul_comm (2 ^ f), Nat.mul_assoc]
    generalize N * 2 ^ (52 - b) = M at *
    refine ⟨(f + 1) * 4503599627370496 + (M - 4503599627370496), by omega, ?_⟩
    rw [hv]
    unfold valF magF expF
    rw [if_neg (by omega), show ((f + 1) * 4503599627370496 + (M - 4503599627370496)) % 4503599627370496 = M - 4503599627370496 by omega, show ((f + 1) * 4503599627370496 + (M - 4503599627370496)) / 4503599627370496 - 1 = f by omega, show 4503599627370496 + (M - 4503599627370496) = M by omega]
/-- The values from a half to one stand at even distances. -/
theorem val_top {s k : Nat} (hk : k = 1021) (h1 : 4602678819172646912 ≤ s) (h2 : s ≤ 4607182418800017408) : valF s + (4607182418800017408 - s) * 2 ^ k = valF 4607182418800017408 := by
  by_cases he : s = 4607182418800017408
  · subst he
    rw [Nat.sub_self, Nat.zero_mul, Nat.add_zero]
  · obtain ⟨j, hj⟩ : ∃ j, j = 1022 := ⟨_, rfl⟩
    rw [val_one hj]
    unfold valF magF expF
    rw [if_neg (by omega), show s / 4503599627370496 - 1 = 1021 by omega, ← hk, show j = k + 1 by omega, Nat.pow_succ]
    generalize hP : 2 ^ k = P
    obtain ⟨d, hd⟩ : ∃ d, s = 4602678819172646912 + d := ⟨s - 4602678819172646912, by omega⟩
    subst hd
    rw [show (4602678819172646912 + d) % 4503599627370496 = d by omega, show 4607182418800017408 - (4602678819172646912 + d) = 4503599627370496 - d by omega, ← Nat.add_mul, show 4503599627370496 + d + (4503599627370496 - d) = 9007199254740992 by omega, Nat.mul_comm P 2, ← Nat.mul_assoc]
/-- Noted by one, from a half on: what is left is halved. -/
theorem note_one {s n : Nat} (h1 : 4602678819172646912 ≤ s) (h2 : s ≤ 4607182418800017408) (hn : 4607182418800017408 - s ≤ 2 * n) (hn2 : n ≤ 2251799813685248) : 4607182418800017408 - n ≤ noteR s 4607182418800017408 halfW := by
  obtain ⟨k, hk⟩ : ∃ k, k = 1021 := ⟨_, rfl⟩
  have hv := val_top hk h1 h2
  obtain ⟨r, hr, hvr⟩ := own_of (N := 4607182418800017408 - s) (e := k) (by omega) (by omega)
  obtain ⟨q, hq, hvq⟩ := own_of (N := 4607182418800017408 - s) (e := k - 1) (by omega) (by omega)
  have hpow : 2 ^ k = 2 ^ (k - 1) * 2 := by rw [← Nat.pow_succ]; congr 1; omega
  have hd : valF 4607182418800017408 - valF s = valF r := by omega
  have hp : partR halfW (valF 4607182418800017408 - valF s) = q := by
    rw [half_part, hd, rnd_own hr, hvr, hpow, ← Nat.mul_assoc, Nat.mul_comm _ 2, ← hvq, half_even, rnd_own hq]
  have hvt := val_top (s := 4607182418800017408 - n) hk (by omega) (by omega)
  rw [show 4607182418800017408 - (4607182418800017408 - n) = n by omega] at hvt
  unfold noteR
  rw [if_pos h2, hp]
  refine Nat.le_min.2 ⟨rnd_ge (by omega) ?_, by omega⟩
  rw [hvq]
  have h3 : (4607182418800017408 - s) * 2 ^ (k - 1) ≤ 2 * n * 2 ^ (k - 1) := Nat.mul_le_mul_right _ hn
  have h4 : 2 * n * 2 ^ (k - 1) = n * 2 ^ k := by rw [hpow, Nat.mul_comm 2 n, Nat.mul_assoc, Nat.mul_comm 2]
  have h5 : (4607182418800017408 - s) * 2 ^ k = 2 * ((4607182418800017408 - s) * 2 ^ (k - 1)) := by rw [hpow, ← Nat.mul_assoc, Nat.mul_comm]
  omega
/-- Noted by one, below a half: a quarter comes to it at least. -/
theorem note_low {s : Nat} (h : s ≤ 4602678819172646912) : rndV (valF s + valF 4598175219545276416) ≤ noteR s 4607182418800017408 halfW ∨ noteR s 4607182418800017408 halfW = 4607182418800017408 := by
  have hv1 := val_high (r := 4607182418800017408) (by omega)
  rw [show 4607182418800017408 - 4503599627370496 = 4602678819172646912 by decide] at hv1
  have hv2 := val_high (r := 4602678819172646912) (by omega)
  rw [show 4602678819172646912 - 4503599627370496 = 4598175219545276416 by decide] at hv2
  have hvs := val_mono h
  have hd : valF 4602678819172646912 ≤ valF 4607182418800017408 - valF s := by omega
  have hp : 4598175219545276416 ≤ partR halfW (valF 4607182418800017408 - valF s) := by
    rw [half_part]
    have h1 : valF 4602678819172646912 ≤ valF (rndV (valF 4607182418800017408 - valF s)) := val_mono (rnd_ge (by omega) hd)
    have h2 := half_mono h1
    rw [hv2, half_even, rnd_own (by omega)] at h2
    exact h2
  unfold noteR
  rw [if_pos (by omega)]
  have h3 : rndV (valF s + valF 4598175219545276416) ≤ rndV (valF s + valF (partR halfW (valF 4607182418800017408 - valF s))) := rnd_mono (Nat.add_le_add_left (val_mono hp) _)
  omega
theorem one_first {s : Nat} (hs : s ≤ 4607182418800017408) : 4598175219545276416 ≤ noteR s 4607182418800017408 halfW := by
  by_cases h : s ≤ 4602678819172646912
  · rcases note_low h with k | k
    · refine Nat.le_trans ?_ k
      exact rnd_ge (by omega) (Nat.le_add_left _ _)
    · omega
  · have := note_up (w := halfW) hs hs
    omega
theorem one_second {s : Nat} (hs : s ≤ 4607182418800017408) (h0 : 4598175219545276416 ≤ s) : 4602678819172646912 ≤ noteR s 4607182418800017408 halfW := by
  by_cases h : s ≤ 4602678819172646912
  · have hv2 := val_high (r := 4602678819172646912) (by omega)
    rw [show 4602678819172646912 - 4503599627370496 = 4598175219545276416 by decide] at hv2
    rcases note_low h with k | k
    · refine Nat.le_trans ?_ k
      refine rnd_ge (by omega) ?_
      have := val_mono h0
      omega
    · omega
  · have := note_up (w := halfW) hs hs
    omega
end Go.Proofs.Ytlkikecnlafmeaa
