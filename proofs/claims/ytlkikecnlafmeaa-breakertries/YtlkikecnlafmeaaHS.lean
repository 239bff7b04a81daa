/-
  Sums, differences and products of finite floats of 64 bits by their values: the exact value, rounded once; which of them is greater than which.
  Conditions: as each theorem states them: of finite floats.
-/
import Derived.Test.YtlkikecnlafmeaaHR
namespace Go.Proofs.Ytlkikecnlafmeaa

/-- A finite word; its value without its sign, and with it, in units of the least float. -/
def finF (a : Nat) : Bool := decide (a % 9223372036854775808 < 9218868437227405312)
def magV (a : Nat) : Nat := valF (a % 9223372036854775808)
def sval (a : Nat) : Int := if negF a then -(magV a : Int) else (magV a : Int)
/-- The rung that a whole number of units is rounded to. -/
def rndV (n : Nat) : Nat := rungP n (-1074)
def wordF (s : Bool) (r : Nat) : Nat := if s then 9223372036854775808 + r else r
theorem word_is (s : Bool) (r : Nat) : Ieee.double.word s r = wordF s r := rfl

theorem rung_scale (m k : Nat) (p : Int) : rungP (m * 2 ^ k) p = rungP m (p + (k : Int)) := by
  have e0 : (p - p).toNat = 0 := by omega
  have e1 : (p + (k : Int) - p).toNat = k := by omega
  apply Nat.le_antisymm
  · apply rung_mono
    refine le_of (b := p) (by omega) (by omega) ?_
    rw [e0, e1, Nat.pow_zero, Nat.mul_one]
    exact Nat.le_refl _
  · apply rung_mono
    refine le_of (b := p) (by omega) (by omega) ?_
    rw [e0, e1, Nat.pow_zero, Nat.mul_one]
    exact Nat.le_refl _
theorem rnd_mono {n m : Nat} (h : n ≤ m) : rndV n ≤ rndV m := by
  apply rung_mono
  refine le_of (b := -1074) (by omega) (by omega) ?_
  exact Nat.mul_le_mul_right _ h
theorem rnd_own {r : Nat} (h : r ≤ 9218868437227405312) : rndV (valF r) = r := by
  unfold rndV valF
  rw [rung_scale]
  exact rung_own h
theorem rnd_ge {r n : Nat} (h : r ≤ 9218868437227405312) (hn : valF r ≤ n) : r ≤ rndV n := by
  have := rnd_mono hn
  rw [rnd_own h] at this
  exact this
theorem rnd_le {r n : Nat} (h : r ≤ 9218868437227405312) (hn : n ≤ valF r) : rndV n ≤ r := by
  have := rnd_mono hn
  rw [rnd_own h] at this
  exact this

theorem num_sum (s t : Bool) (r q : Nat) :
    Ieee.Datum.sum (.number s (magF r) (-1074 + (expF r : Int))) (.number t (magF q) (-1074 + (expF q : Int))) =
      some (.number (if (if s then -(valF r : Int) else (valF r : Int)) + (if t then -(valF q : Int) else (valF q : Int)) = 0 then s && t else decide ((if s then -(valF r : Int) else (valF r : Int)) + (if t then -(valF q : Int) else (valF q : Int)) < 0))
        (Ieee.signed s (magF r) (expF r - min (expF r) (expF q)) + Ieee.signed t (magF q) (expF q - min (expF r) (expF q))).natAbs (-1074 + ((min (expF r) (expF q) : Nat) : Int))) ∧
      (Ieee.signed s (magF r) (expF r - min (expF r) (expF q)) + Ieee.signed t (magF q) (expF q - min (expF r) (expF q))).natAbs * 2 ^ min (expF r) (expF q) = ((if s then -(valF r : Int) else (valF r : Int)) + (if t then -(valF q : Int) else (valF q : Int))).natAbs := by
  have e1 : ((-1074 + (expF r : Int)) - min (-1074 + (expF r : Int)) (-1074 + (expF q : Int))).toNat = expF r - min (expF r) (expF q) := by omega
  have e2 : ((-1074 + (expF q : Int)) - min (-1074 + (expF r : Int)) (-1074 + (expF q : Int))).toNat = expF q - min (expF r) (expF q) := by omega
  have e3 : min (-1074 + (expF r : Int)) (-1074 + (expF q : Int)) = -1074 + ((min (expF r) (expF q) : Nat) : Int) := by omega
  have hA : magF r * 2 ^ (expF r - min (expF r) (expF q)) * 2 ^ min (expF r) (expF q) = valF r := by
    rw [Nat.mul_assoc, ← Nat.pow_add, show expF r - min (expF r) (expF q) + min (expF r) (expF q) = expF r by omega]
    rfl
  have hB : magF q * 2 ^ (expF q - min (expF r) (expF q)) * 2 ^ min (expF r) (expF q) = valF q := by
    rw [Nat.mul_assoc, ← Nat.pow_add, show expF q - min (expF r) (expF q) + min (expF r) (expF q) = expF q by omega]
    rfl
  have hp := Nat.two_pow_pos (min (expF r) (expF q))
  simp only [Ieee.Datum.sum]
  rw [e1, e2, e3]
  simp only [Ieee.signed, Nat.shiftLeft_eq]
  generalize magF r * 2 ^ (expF r - min (expF r) (expF q)) = A at *
  generalize magF q * 2 ^ (expF q - min (expF r) (expF q)) = B at *
  generalize 2 ^ min (expF r) (expF q) = P at *
  generalize valF r = V at *
  generalize valF q = U at *
  have hAi : (A : Int) * (P : Int) = (V : Int) := by rw [← hA]; exact (Int.natCast_mul A P).symm
  have hBi : (B : Int) * (P : Int) = (U : Int) := by rw [← hB]; exact (Int.natCast_mul B P).symm
  have hPi : (0 : Int) < (P : Int) := by omega
  have key : ((if s then -(A : Int) else (A : Int)) + (if t then -(B : Int) else (B : Int))) * (P : Int) = (if s then -(V : Int) else (V : Int)) + (if t then -(U : Int) else (U : Int)) := by
    rw [Int.add_mul]
    cases s <;> cases t <;> simp only [if_true, if_false, Bool.false_eq_true, Int.neg_mul, hAi, hBi]
  generalize (if s then -(A : Int) else (A : Int)) + (if t then -(B : Int) else (B : Int)) = T at *
  generalize (if s then -(V : Int) else (V : Int)) + (if t then -(U : Int) else (U : Int)) = W at *
  subst key
  refine ⟨?_, ?_⟩
  · congr 2
    by_cases h0 : T = 0
    · subst h0
      rw [if_pos rfl, Int.zero_mul, if_pos rfl]
    · rw [if_neg h0, if_neg (by
        intro h
        rcases Int.mul_eq_zero.1 h with h | h
        · exact h0 h
        · omega)]
      by_cases hn : T < 0
      · rw [decide_eq_true hn, decide_eq_true (Int.mul_neg_of_neg_of_pos hn hPi)]
      · rw [decide_eq_false hn, decide_eq_false (by
          have : 0 ≤ T * (P : Int) := Int.mul_nonneg (by omega) (by omega)
          omega)]
  · rw [Int.natAbs_mul, Int.natAbs_natCast]

/-- The sum of two finite floats. -/
theorem add_fin {x y : Nat} (hx : finF x = true) (hy : finF y = true) :
    floatBits .add .f64 x y = some (wordF (if sval x + sval y = 0 then negF x && negF y else decide (sval x + sval y < 0)) (rndV (sval x + sval y).natAbs)) := by
  have hx' : x % 9223372036854775808 < 9218868437227405312 := of_decide_eq_true hx
  have hy' : y % 9223372036854775808 < 9218868437227405312 := of_decide_eq_true hy
  have e : floatBits .add .f64 x y = ((Ieee.double.read x).sum (Ieee.double.read y)).map Ieee.double.write := rfl
  rw [e, read_num hx', read_num hy']
  obtain ⟨h1, h2⟩ := num_sum (negF x) (negF y) (x % 9223372036854775808) (y % 9223372036854775808)
  rw [h1]
  simp only [Option.map_some, Ieee.Format.write, nearest_rung]
  rw [← rung_scale, h2]
  rfl
theorem sub_fin {x y : Nat} (hx : finF x = true) (hy : finF y = true) :
    floatBits .sub .f64 x y = some (wordF (if sval x - sval y = 0 then negF x && !negF y else decide (sval x - sval y < 0)) (rndV (sval x - sval y).natAbs)) := by
  have hx' : x % 9223372036854775808 < 9218868437227405312 := of_decide_eq_true hx
  have hy' : y % 9223372036854775808 < 9218868437227405312 := of_decide_eq_true hy
  have e : floatBits .sub .f64 x y = ((Ieee.double.read x).sum (Ieee.double.read y).opposite).map Ieee.double.write := rfl
  rw [e, read_num hx', read_num hy']
  simp only [Ieee.Datum.opposite]
  obtain ⟨h1, h2⟩ := num_sum (negF x) (!negF y) (x % 9223372036854775808) (y % 9223372036854775808)
  rw [h1]
  simp only [Option.map_some, Ieee.Format.write, nearest_rung]
  rw [← rung_scale, h2]
  have e2 : (if (!negF y) = true then -((valF (y % 9223372036854775808) : Nat) : Int) else ((valF (y % 9223372036854775808) : Nat) : Int)) = -sval y := by
    unfold sval magV
    cases negF y <;> simp
  rw [e2]
  rfl
/-- The product of two finite floats: its sign, and the exact product rounded. -/
theorem mul_fin {x y : Nat} (hx : finF x = true) (hy : finF y = true) :
    floatBits .mul .f64 x y = some (wordF (negF x ^^ negF y) (rungP (magF (x % 9223372036854775808) * magF (y % 9223372036854775808)) (-2148 + (expF (x % 9223372036854775808) : Int) + (expF (y % 9223372036854775808) : Int)))) := by
  have hx' : x % 9223372036854775808 < 9218868437227405312 := of_decide_eq_true hx
  have hy' : y % 9223372036854775808 < 9218868437227405312 := of_decide_eq_true hy
  have e : floatBits .mul .f64 x y = ((Ieee.double.read x).product (Ieee.double.read y)).map Ieee.double.write := rfl
  rw [e, read_num hx', read_num hy']
  simp only [Ieee.Datum.product, Option.map_some, Ieee.Format.write, nearest_rung]
  rw [show -1074 + (expF (x % 9223372036854775808) : Int) + (-1074 + (expF (y % 9223372036854775808) : Int)) = -2148 + (expF (x % 9223372036854775808) : Int) + (expF (y % 9223372036854775808) : Int) by omega]
  rfl
/-- The exact product in units of the square of the least float. -/
theorem mul_scale (r q : Nat) : rungP (magF r * magF q) (-2148 + (expF r : Int) + (expF q : Int)) = rungP (valF r * valF q) (-2148) := by
  unfold valF
  rw [show magF r * 2 ^ expF r * (magF q * 2 ^ expF q) = magF r * magF q * 2 ^ (expF r + expF q) by rw [Nat.pow_add, Nat.mul_assoc, Nat.mul_assoc]; congr 1; rw [← Nat.mul_assoc, Nat.mul_comm (2 ^ expF r) (magF q), Nat.mul_assoc], rung_scale]
  congr 1
  omega
theorem mul_mono {n m : Nat} (h : n ≤ m) : rungP n (-2148) ≤ rungP m (-2148) := by
  apply rung_mono
  refine le_of (b := -2148) (by omega) (by omega) ?_
  exact Nat.mul_le_mul_right _ h
/-- A float times one is itself. -/
theorem mul_own {r k : Nat} (h : r ≤ 9218868437227405312) (hk : k = 1074) : rungP (valF r * 2 ^ k) (-2148) = r := by
  rw [rung_scale, show (-2148 : Int) + (k : Int) = -1074 by omega]
  exact rnd_own h
end Go.Proofs.Ytlkikecnlafmeaa
