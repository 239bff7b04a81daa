/-
  Rounding to the nearest word of 64 bits: what is greater is not rounded to less; a number that is a float's own is rounded to that float; so what lies between two floats is rounded to one between them.
  Conditions: as each theorem states them: of numbers above nought.
-/
import Derived.Test.YtlkikecnlafmeaaRP
namespace Go.Proofs.Ytlkikecnlafmeaa

theorem pow_le (a b : Nat) (h : a ≤ b) : (2 : Nat) ^ a ≤ 2 ^ b := Nat.pow_le_pow_right (by omega) h

/-- What a cut to a whole number gives. -/
theorem cut_spec (s : Bool) (n d : Nat) : ∃ k, Ieee.Toward.even.cut s n d = k ∧ 2 * k * 2 ^ d ≤ 2 * n + 2 ^ d ∧ 2 * n ≤ (2 * k + 1) * 2 ^ d ∧ (2 * n = (2 * k + 1) * 2 ^ d → k % 2 = 0) ∧ (2 * k * 2 ^ d = 2 * n + 2 ^ d → k % 2 = 0) := by
  unfold Ieee.Toward.cut
  dsimp only
  by_cases hd : d ≤ n.log2 + 2
  · rw [Nat.min_eq_left hd, Nat.shiftLeft_eq, Nat.one_mul]
    have hD := Nat.two_pow_pos d
    generalize 2 ^ d = D at *
    have hn : n = n / D * D + n % D := by rw [Nat.mul_comm]; exact (Nat.div_add_mod n D).symm
    have hr : n % D < D := Nat.mod_lt _ hD
    generalize n / D = q at *
    generalize n % D = r at *
    subst hn
    have e1 : ∀ k : Nat, (2 * k + 1) * D = 2 * (k * D) + D := fun k => by rw [Nat.add_mul, Nat.mul_assoc, Nat.one_mul]
    have e2 : ∀ k : Nat, 2 * k * D = 2 * (k * D) := fun k => Nat.mul_assoc _ _ _
    have e3 : (q + 1) * D = q * D + D := by rw [Nat.add_mul, Nat.one_mul]
    by_cases h1 : D < 2 * r
    · refine ⟨q + 1, ?_, ?_⟩
      · rw [decide_eq_true h1]
        rfl
      · rw [e1, e2, e3]
        omega
    · rw [decide_eq_false h1]
      by_cases h2 : D = 2 * r
      · by_cases h3 : q % 2 = 1
        · refine ⟨q + 1, ?_, ?_⟩
          · rw [beq_iff_eq.2 h2, beq_iff_eq.2 h3]
            rfl
          · rw [e1, e2, e3]
            omega
        · refine ⟨q, ?_, ?_⟩
          · rw [beq_eq_false_iff_ne.2 h3, Bool.and_false]
            rfl
          · rw [e1, e2]
            omega
      · refine ⟨q, ?_, ?_⟩
        · rw [beq_eq_false_iff_ne.2 h2, Bool.false_and]
          rfl
        · rw [e1, e2]
          omega
  · rw [Nat.min_eq_right (by omega), Nat.shiftLeft_eq, Nat.one_mul]
    have hlt : n < 2 ^ (n.log2 + 1) := Nat.lt_log2_self
    have hp : 2 ^ (n.log2 + 2) = 2 * 2 ^ (n.log2 + 1) := by rw [Nat.pow_succ 2 (n.log2 + 1), Nat.mul_comm]
    have hle : 2 ^ (n.log2 + 2) ≤ 2 ^ d := pow_le _ _ (by omega)
    refine ⟨0, ?_, ?_⟩
    · rw [Nat.div_eq_of_lt (by omega), Nat.mod_eq_of_lt (by omega), decide_eq_false (by omega), beq_eq_false_iff_ne.2 (by omega)]
      rfl
    · refine ⟨by omega, by omega, by omega, by omega⟩

theorem cut_mono {s t : Bool} {n m a b : Nat} (h : n * 2 ^ b ≤ m * 2 ^ a) : Ieee.Toward.even.cut s n a ≤ Ieee.Toward.even.cut t m b := by
  obtain ⟨k, hk, h1, _, _, h4⟩ := cut_spec s n a
  obtain ⟨j, hj, _, h2, h3, _⟩ := cut_spec t m b
  rw [hk, hj]
  apply Nat.le_of_not_lt
  intro hlt
  have hA := Nat.two_pow_pos a
  have hB := Nat.two_pow_pos b
  generalize 2 ^ a = A at *
  generalize 2 ^ b = B at *
  have u1 : 2 * k * A * B ≤ (2 * n + A) * B := Nat.mul_le_mul_right B h1
  have u2 : 2 * m * A ≤ (2 * j + 1) * B * A := Nat.mul_le_mul_right A h2
  have u3 : 2 * (n * B) ≤ 2 * (m * A) := Nat.mul_le_mul_left 2 h
  have e1 : (2 * n + A) * B = 2 * (n * B) + A * B := by rw [Nat.add_mul, Nat.mul_assoc]
  have e2 : 2 * m * A = 2 * (m * A) := Nat.mul_assoc _ _ _
  have e3 : 2 * k * A * B = 2 * k * (A * B) := Nat.mul_assoc _ _ _
  have e4 : (2 * j + 1) * B * A = (2 * j + 1) * (A * B) := by rw [Nat.mul_assoc, Nat.mul_comm B A]
  have hAB : 0 < A * B := Nat.mul_pos hA hB
  rw [e1, e3] at u1
  rw [e2, e4] at u2
  have u5 : 2 * k * (A * B) ≤ (2 * j + 1) * (A * B) + A * B := by omega
  have e6 : (2 * j + 1) * (A * B) + A * B = (2 * j + 2) * (A * B) := by rw [show 2 * j + 2 = (2 * j + 1) + 1 by omega, Nat.add_mul (2 * j + 1) 1, Nat.one_mul]
  rw [e6] at u5
  have u6 : 2 * k ≤ 2 * j + 2 := Nat.le_of_mul_le_mul_right u5 hAB
  obtain rfl : k = j + 1 := by omega
  have e7 : 2 * (j + 1) * (A * B) = (2 * j + 1) * (A * B) + A * B := by rw [e6]; congr 1
  have q1 : (2 * j + 1) * (A * B) + A * B = 2 * (n * B) + A * B := by omega
  have q2 : 2 * (m * A) = (2 * j + 1) * (A * B) := by omega
  have p1 : 2 * (j + 1) * A = 2 * n + A := by
    apply Nat.eq_of_mul_eq_mul_right hB
    rw [e1, e3, e7, q1]
  have p2 : 2 * m = (2 * j + 1) * B := by
    apply Nat.eq_of_mul_eq_mul_right hA
    rw [e2, e4, q2]
  have := h4 p1
  have := h3 p2
  omega
theorem cut_exact (s : Bool) (k d : Nat) : Ieee.Toward.even.cut s (k * 2 ^ d) d = k := by
  obtain ⟨j, hj, h1, h2, _, _⟩ := cut_spec s (k * 2 ^ d) d
  rw [hj]
  have hD := Nat.two_pow_pos d
  generalize 2 ^ d = D at *
  have e1 : 2 * j * D ≤ (2 * k + 1) * D := by rw [Nat.add_mul, Nat.one_mul, Nat.mul_assoc 2 k]; exact h1
  have e2 : 2 * k * D ≤ (2 * j + 1) * D := by rw [Nat.mul_assoc 2 k]; exact h2
  have := Nat.le_of_mul_le_mul_right e1 hD
  have := Nat.le_of_mul_le_mul_right e2 hD
  omega

/-- The place of the last digit kept, the digits kept, and the rung that a number above nought is rounded to. -/
def lastP (m : Nat) (p : Int) : Int := max (p + (m.log2 : Int) - 52) (-1074)
def keptP (m : Nat) (p : Int) : Nat := Ieee.Toward.even.cut false (m * 2 ^ (p - lastP m p).toNat) (lastP m p - p).toNat
def rungP (m : Nat) (p : Int) : Nat := if m = 0 then 0 else min ((lastP m p + 1074).toNat * 4503599627370496 + keptP m p) 9218868437227405312
theorem nearest_rung (s : Bool) (m : Nat) (p : Int) : Ieee.double.nearest s m p = Ieee.double.word s (rungP m p) := by
  unfold Ieee.Format.nearest rungP
  by_cases h : m = 0
  · rw [if_pos h, if_pos h]
  · rw [if_neg h, if_neg h]
    dsimp only
    rw [Nat.shiftLeft_eq]
    have e : max (p + (m.log2 : Int) - (Ieee.double.fractionBits : Int)) Ieee.double.leastPlace = lastP m p := rfl
    rw [e]
    have e2 : (lastP m p - Ieee.double.leastPlace).toNat = (lastP m p + 1074).toNat := by
      have : Ieee.double.leastPlace = -1074 := rfl
      omega
    rw [e2]
    rfl

/-- One number is not greater than another one. -/
def LeP (m : Nat) (p : Int) (n : Nat) (q : Int) : Prop := m * 2 ^ (p - min p q).toNat ≤ n * 2 ^ (q - min p q).toNat
theorem le_at {m n : Nat} {p q b : Int} (h : LeP m p n q) (hp : b ≤ p) (hq : b ≤ q) : m * 2 ^ (p - b).toNat ≤ n * 2 ^ (q - b).toNat := by
  unfold LeP at h
  rw [show (p - b).toNat = (p - min p q).toNat + (min p q - b).toNat by omega, show (q - b).toNat = (q - min p q).toNat + (min p q - b).toNat by omega, Nat.pow_add, Nat.pow_add, ← Nat.mul_assoc, ← Nat.mul_assoc]
  exact Nat.mul_le_mul_right _ h
theorem le_of {m n : Nat} {p q b : Int} (hp : b ≤ p) (hq : b ≤ q) (h : m * 2 ^ (p - b).toNat ≤ n * 2 ^ (q - b).toNat) : LeP m p n q := by
  unfold LeP
  rw [show (p - b).toNat = (p - min p q).toNat + (min p q - b).toNat by omega, show (q - b).toNat = (q - min p q).toNat + (min p q - b).toNat by omega, Nat.pow_add, Nat.pow_add, ← Nat.mul_assoc, ← Nat.mul_assoc] at h
  exact Nat.le_of_mul_le_mul_right h (Nat.two_pow_pos _)
theorem le_log {m n : Nat} {p q : Int} (hm : m ≠ 0) (h : LeP m p n q) : p + (m.log2 : Int) ≤ q + (n.log2 : Int) := by
  have h1 : 2 ^ m.log2 ≤ m := Nat.log2_self_le hm
  have h2 : n < 2 ^ (n.log2 + 1) := Nat.lt_log2_self
  have h3 := le_at h (b := min p q) (by omega) (by omega)
  generalize he : (p - min p q).toNat = e at *
  generalize hf : (q - min p q).toNat = f at *
  have h4 : 2 ^ (m.log2 + e) < 2 ^ (n.log2 + 1 + f) := by
    rw [Nat.pow_add, Nat.pow_add 2 (n.log2 + 1)]
    refine Nat.lt_of_le_of_lt (Nat.mul_le_mul_right _ h1) (Nat.lt_of_le_of_lt h3 ?_)
    exact Nat.mul_lt_mul_of_pos_right h2 (Nat.two_pow_pos _)
  have h5 : m.log2 + e < n.log2 + 1 + f := by
    apply Nat.lt_of_not_le
    intro k
    have := pow_le _ _ k
    omega
  omega

theorem kept_high (m : Nat) (p : Int) : keptP m p ≤ 9007199254740992 := by
  have h2 : m < 2 ^ (m.log2 + 1) := Nat.lt_log2_self
  unfold keptP
  have e : Ieee.Toward.even.cut false (9007199254740992 * 2 ^ 0) 0 = 9007199254740992 := cut_exact false _ 0
  rw [← e]
  apply cut_mono
  rw [Nat.pow_zero, Nat.mul_one, Nat.mul_one]
  have hL : p + (m.log2 : Int) - 52 ≤ lastP m p := by unfold lastP; omega
  generalize hx : (p - lastP m p).toNat = x
  generalize hy : (lastP m p - p).toNat = y
  have h3 : m * 2 ^ x ≤ 2 ^ (m.log2 + 1) * 2 ^ x := Nat.mul_le_mul_right _ (Nat.le_of_lt h2)
  rw [← Nat.pow_add] at h3
  have h4 : 2 ^ (m.log2 + 1 + x) ≤ 2 ^ (53 + y) := pow_le _ _ (by omega)
  rw [Nat.pow_add 2 53] at h4
  have h5 : (2 : Nat) ^ 53 = 9007199254740992 := by decide
  rw [h5] at h4
  omega
theorem kept_low {m : Nat} {p : Int} (hm : m ≠ 0) (hL : lastP m p = p + (m.log2 : Int) - 52) : 4503599627370496 ≤ keptP m p := by
  have h1 : 2 ^ m.log2 ≤ m := Nat.log2_self_le hm
  unfold keptP
  have e : Ieee.Toward.even.cut false (4503599627370496 * 2 ^ 0) 0 = 4503599627370496 := cut_exact false _ 0
  rw [← e]
  apply cut_mono
  rw [Nat.pow_zero, Nat.mul_one, Nat.mul_one]
  generalize hx : (p - lastP m p).toNat = x
  generalize hy : (lastP m p - p).toNat = y
  have h3 : 2 ^ m.log2 * 2 ^ x ≤ m * 2 ^ x := Nat.mul_le_mul_right _ h1
  rw [← Nat.pow_add] at h3
  have h4 : 2 ^ (52 + y) ≤ 2 ^ (m.log2 + x) := pow_le _ _ (by omega)
  rw [Nat.pow_add 2 52] at h4
  have h5 : (2 : Nat) ^ 52 = 4503599627370496 := by decide
  rw [h5] at h4
  omega
theorem le_same {m n : Nat} {p q : Int} (L : Int) (h : LeP m p n q) : m * 2 ^ (p - L).toNat * 2 ^ (L - q).toNat ≤ n * 2 ^ (q - L).toNat * 2 ^ (L - p).toNat := by
  rw [Nat.mul_assoc, Nat.mul_assoc, ← Nat.pow_add, ← Nat.pow_add]
  have h3 := le_at h (b := p - ((p - L).toNat + (L - q).toNat : Nat)) (by omega) (by omega)
  have e1 : (p - (p - ((p - L).toNat + (L - q).toNat : Nat))).toNat = (p - L).toNat + (L - q).toNat := by omega
  have e2 : (q - (p - ((p - L).toNat + (L - q).toNat : Nat))).toNat = (q - L).toNat + (L - p).toNat := by omega
  rw [e1, e2] at h3
  exact h3
theorem kept_mono {m n : Nat} {p q : Int} (he : lastP m p = lastP n q) (h : LeP m p n q) : keptP m p ≤ keptP n q := by
  unfold keptP
  apply cut_mono
  rw [he]
  exact le_same _ h
theorem step_up {a b x y : Nat} (h : a + 1 ≤ b) (hx : x ≤ 9007199254740992) (hy : 4503599627370496 ≤ y) : a * 4503599627370496 + x ≤ b * 4503599627370496 + y := by omega
/-- What is greater is not rounded to less. -/
theorem rung_mono {m n : Nat} {p q : Int} (h : LeP m p n q) : rungP m p ≤ rungP n q := by
  by_cases hm : m = 0
  · unfold rungP
    rw [if_pos hm]
    exact Nat.zero_le _
  have hn : n ≠ 0 := by
    rintro rfl
    unfold LeP at h
    rw [Nat.zero_mul] at h
    have := Nat.mul_pos (Nat.pos_of_ne_zero hm) (Nat.two_pow_pos (p - min p q).toNat)
    omega
  have hl := le_log hm h
  have hL : lastP m p ≤ lastP n q := by unfold lastP; omega
  have h4 : -1074 ≤ lastP m p := by unfold lastP; omega
  have key : (lastP m p + 1074).toNat * 4503599627370496 + keptP m p ≤ (lastP n q + 1074).toNat * 4503599627370496 + keptP n q := by
    by_cases he : lastP m p = lastP n q
    · have hk := kept_mono he h
      rw [he]
      exact Nat.add_le_add_left hk _
    · have h2 : lastP n q = q + (n.log2 : Int) - 52 := by unfold lastP at hL h4 he ⊢; omega
      exact step_up (by omega) (kept_high m p) (kept_low hn h2)
  unfold rungP
  rw [if_neg hm, if_neg hn]
  exact Nat.le_min.2 ⟨Nat.le_trans (Nat.min_le_left _ _) key, Nat.min_le_right _ _⟩

theorem log_of {m k : Nat} (h1 : 2 ^ k ≤ m) (h2 : m < 2 ^ (k + 1)) : m.log2 = k := by
  have hm : m ≠ 0 := by have := Nat.two_pow_pos k; omega
  have h3 := Nat.log2_self_le hm
  have h4 : m < 2 ^ (m.log2 + 1) := Nat.lt_log2_self
  apply Nat.le_antisymm
  · apply Nat.le_of_not_lt
    intro k1
    have := pow_le (k + 1) m.log2 k1
    omega
  · apply Nat.le_of_not_lt
    intro k1
    have := pow_le (m.log2 + 1) k k1
    omega
/-- A float's own number is rounded to that float. -/
theorem rung_own {r : Nat} (h : r ≤ 9218868437227405312) : rungP (magF r) (-1074 + (expF r : Int)) = r := by
  by_cases h0 : r = 0
  · subst h0; decide
  have hmp : magF r ≠ 0 := by unfold magF; split <;> omega
  unfold rungP
  rw [if_neg hmp]
  by_cases hs : r < 4503599627370496
  · have hM : magF r = r := by unfold magF; rw [if_pos hs]
    have hE : expF r = 0 := by unfold expF; omega
    have hlog : r.log2 ≤ 51 := by
      apply Nat.le_of_not_lt
      intro k
      have h1 := Nat.log2_self_le h0
      have := pow_le 52 r.log2 k
      have e : (2 : Nat) ^ 52 = 4503599627370496 := by decide
      omega
    rw [hM, hE]
    have hL : lastP r (-1074 + ((0 : Nat) : Int)) = -1074 := by unfold lastP; omega
    unfold keptP
    rw [hL, show (-1074 + 1074 : Int).toNat = 0 by decide, show (-1074 + ((0 : Nat) : Int) - -1074).toNat = 0 by decide, show (-1074 - (-1074 + ((0 : Nat) : Int))).toNat = 0 by decide, Nat.pow_zero, Nat.mul_one]
    have e := cut_exact false r 0
    rw [Nat.pow_zero, Nat.mul_one] at e
    rw [e]
    omega
  · have hM : magF r = 4503599627370496 + r % 4503599627370496 := by unfold magF; rw [if_neg hs]
    have hlog : (magF r).log2 = 52 := by
      refine log_of (k := 52) ?_ ?_
      · have e : (2 : Nat) ^ 52 = 4503599627370496 := by decide
        omega
      · have e : (2 : Nat) ^ (52 + 1) = 9007199254740992 := by decide
        omega
    have hL : lastP (magF r) (-1074 + (expF r : Int)) = -1074 + (expF r : Int) := by unfold lastP; rw [hlog]; omega
    unfold keptP
    rw [hL, show (-1074 + (expF r : Int) + 1074).toNat = expF r by omega, show (-1074 + (expF r : Int) - (-1074 + (expF r : Int))).toNat = 0 by omega, Nat.pow_zero, Nat.mul_one]
    have e := cut_exact false (magF r) 0
    rw [Nat.pow_zero, Nat.mul_one] at e
    rw [e, hM]
    unfold expF
    omega
/-- What lies above a float is rounded to that float or one above it; what lies below, to it or one below. -/
theorem rung_ge {r m : Nat} {p : Int} (hr : r ≤ 9218868437227405312) (h : LeP (magF r) (-1074 + (expF r : Int)) m p) : r ≤ rungP m p := by
  have := rung_mono h
  rw [rung_own hr] at this
  exact this
theorem rung_le {r m : Nat} {p : Int} (hr : r ≤ 9218868437227405312) (h : LeP m p (magF r) (-1074 + (expF r : Int))) : rungP m p ≤ r := by
  have := rung_mono h
  rw [rung_own hr] at this
  exact this
theorem rung_eq {r m : Nat} {p : Int} (hr : r ≤ 9218868437227405312) (h1 : LeP m p (magF r) (-1074 + (expF r : Int))) (h2 : LeP (magF r) (-1074 + (expF r : Int)) m p) : rungP m p = r := Nat.le_antisymm (rung_le hr h1) (rung_ge hr h2)
end Go.Proofs.Ytlkikecnlafmeaa
