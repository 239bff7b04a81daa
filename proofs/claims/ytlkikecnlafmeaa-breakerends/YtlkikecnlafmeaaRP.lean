/-
  Floats of 64 bits by their words: which words are NaNs, in which order the others stand (the language's comparisons, told by one whole number), the number of a word in the order of all floats and back, the least and the greatest one of a row, kinds, bounds.
  Conditions: as each theorem states them.
-/
import Derived.Laws.FloatArith
namespace Go.Proofs.Ytlkikecnlafmeaa

/-- Is the word a NaN? -/
def nanF (a : Nat) : Bool := decide (9218868437227405312 < a % 9223372036854775808)
/-- The word's sign. -/
def negF (a : Nat) : Bool := a / 9223372036854775808 % 2 == 1
/-- What the language's order sees of a word that is no NaN. -/
def keyF (a : Nat) : Int := if negF a then -((a % 9223372036854775808 : Nat) : Int) else ((a % 9223372036854775808 : Nat) : Int)

/-- The whole number of a rung, and its place above the least one. -/
def magF (r : Nat) : Nat := if r < 4503599627370496 then r else 4503599627370496 + r % 4503599627370496
def expF (r : Nat) : Nat := r / 4503599627370496 - 1
def valF (r : Nat) : Nat := magF r * 2 ^ expF r

theorem val_step (r : Nat) : valF r < valF (r + 1) := by
  unfold valF magF expF
  by_cases h : r + 1 < 4503599627370496
  · rw [if_pos (by omega), if_pos h, show r / 4503599627370496 - 1 = 0 by omega, show (r + 1) / 4503599627370496 - 1 = 0 by omega]
    omega
  · by_cases h0 : r < 4503599627370496
    · obtain rfl : r = 4503599627370495 := by omega
      decide
    · rw [if_neg h0, if_neg h]
      by_cases hm : r % 4503599627370496 + 1 < 4503599627370496
      · rw [show (r + 1) / 4503599627370496 = r / 4503599627370496 by omega, show (r + 1) % 4503599627370496 = r % 4503599627370496 + 1 by omega]
        exact Nat.mul_lt_mul_of_pos_right (by omega) (Nat.two_pow_pos _)
      · obtain ⟨q, hq⟩ : ∃ q, r / 4503599627370496 = q + 1 := ⟨r / 4503599627370496 - 1, by omega⟩
        rw [show (r + 1) / 4503599627370496 = q + 2 by omega, show (r + 1) % 4503599627370496 = 0 by omega, hq, show q + 1 - 1 = q from rfl, show q + 2 - 1 = q + 1 from rfl, Nat.pow_succ]
        have hp := Nat.two_pow_pos q
        have h2 : (4503599627370496 + r % 4503599627370496) * 2 ^ q < 9007199254740992 * 2 ^ q := Nat.mul_lt_mul_of_pos_right (by omega) hp
        omega

theorem val_up (r d : Nat) : valF r < valF (r + d + 1) := by
  induction d with
  | zero => exact val_step r
  | succ d ih => exact Nat.lt_trans ih (val_step _)
theorem val_lt {r s : Nat} (h : r < s) : valF r < valF s := by
  obtain ⟨d, rfl⟩ : ∃ d, s = r + d + 1 := ⟨s - r - 1, by omega⟩
  exact val_up r d
theorem val_iff (r s : Nat) : valF r < valF s ↔ r < s := by
  refine ⟨fun h => ?_, val_lt⟩
  rcases Nat.lt_trichotomy r s with k | k | k
  · exact k
  · subst k; omega
  · have := val_lt k; omega
theorem val_eq (r s : Nat) : valF r = valF s ↔ r = s := by
  refine ⟨fun h => ?_, fun h => by rw [h]⟩
  rcases Nat.lt_trichotomy r s with k | k | k
  · have := val_lt k; omega
  · exact k
  · have := val_lt k; omega

theorem read_word (a : Nat) : Ieee.double.read a =
    if a % 9223372036854775808 < 4503599627370496 then .number (negF a) (a % 9223372036854775808) (-1074)
    else if a % 9223372036854775808 < 9218868437227405312 then .number (negF a) (4503599627370496 + a % 9223372036854775808 % 4503599627370496) (-1074 + ((a % 9223372036854775808 / 4503599627370496 - 1 : Nat) : Int))
    else if a % 9223372036854775808 = 9218868437227405312 then .infinity (negF a)
    else .nan (negF a) (a % 9223372036854775808 - 9218868437227405312) := rfl

theorem read_num {a : Nat} (h : a % 9223372036854775808 < 9218868437227405312) : Ieee.double.read a = .number (negF a) (magF (a % 9223372036854775808)) (-1074 + (expF (a % 9223372036854775808) : Int)) := by
  rw [read_word]
  unfold magF expF
  by_cases h0 : a % 9223372036854775808 < 4503599627370496
  · rw [if_pos h0, if_pos h0, show a % 9223372036854775808 / 4503599627370496 - 1 = 0 by omega]
    rfl
  · rw [if_neg h0, if_neg h0, if_pos h]
theorem read_inf {a : Nat} (h : a % 9223372036854775808 = 9218868437227405312) : Ieee.double.read a = .infinity (negF a) := by
  rw [read_word, if_neg (by omega), if_neg (by omega), if_pos h]
theorem read_nan {a : Nat} (h : 9218868437227405312 < a % 9223372036854775808) : Ieee.double.read a = .nan (negF a) (a % 9223372036854775808 - 9218868437227405312) := by
  rw [read_word, if_neg (by omega), if_neg (by omega), if_neg (by omega)]

theorem cmp_same {x y x' y' : Int} (h1 : x < y ↔ x' < y') (h2 : x = y ↔ x' = y') : compare x y = compare x' y' := by
  simp only [compare, compareOfLessAndEq]
  by_cases a : x < y
  · rw [if_pos a, if_pos (h1.1 a)]
  · rw [if_neg a, if_neg fun h => a (h1.2 h)]
    by_cases b : x = y
    · rw [if_pos b, if_pos (h2.1 b)]
    · rw [if_neg b, if_neg fun h => b (h2.2 h)]
theorem cmp_lt {x y : Int} (h : x < y) : compare x y = .lt := by simp only [compare, compareOfLessAndEq]; rw [if_pos h]
theorem cmp_gt {x y : Int} (h : y < x) : compare x y = .gt := by simp only [compare, compareOfLessAndEq]; rw [if_neg (by omega), if_neg (by omega)]
theorem cmp_eq {x y : Int} (h : x = y) : compare x y = .eq := by simp only [compare, compareOfLessAndEq]; rw [if_neg (by omega), if_pos h]

theorem num_order (s t : Bool) (r q : Nat) :
    Ieee.Datum.order (.number s (magF r) (-1074 + (expF r : Int))) (.number t (magF q) (-1074 + (expF q : Int))) = some (compare (if s then -(r : Int) else (r : Int)) (if t then -(q : Int) else (q : Int))) := by
  simp only [Ieee.Datum.order, Ieee.signed, Nat.shiftLeft_eq]
  have e1 : ((-1074 + (expF r : Int)) - min (-1074 + (expF r : Int)) (-1074 + (expF q : Int))).toNat = expF r - min (expF r) (expF q) := by omega
  have e2 : ((-1074 + (expF q : Int)) - min (-1074 + (expF r : Int)) (-1074 + (expF q : Int))).toNat = expF q - min (expF r) (expF q) := by omega
  rw [e1, e2]
  have hp := Nat.two_pow_pos (min (expF r) (expF q))
  have hA : magF r * 2 ^ (expF r - min (expF r) (expF q)) * 2 ^ min (expF r) (expF q) = valF r := by
    rw [Nat.mul_assoc, ← Nat.pow_add, show expF r - min (expF r) (expF q) + min (expF r) (expF q) = expF r by omega]
    rfl
  have hB : magF q * 2 ^ (expF q - min (expF r) (expF q)) * 2 ^ min (expF r) (expF q) = valF q := by
    rw [Nat.mul_assoc, ← Nat.pow_add, show expF q - min (expF r) (expF q) + min (expF r) (expF q) = expF q by omega]
    rfl
  generalize magF r * 2 ^ (expF r - min (expF r) (expF q)) = A at *
  generalize magF q * 2 ^ (expF q - min (expF r) (expF q)) = B at *
  generalize 2 ^ min (expF r) (expF q) = p at *
  have k1 : A < B ↔ r < q := by
    rw [← val_iff r q, ← hA, ← hB]
    exact (Nat.mul_lt_mul_right hp).symm
  have k2 : B < A ↔ q < r := by
    rw [← val_iff q r, ← hA, ← hB]
    exact (Nat.mul_lt_mul_right hp).symm
  have k3 : A = 0 ↔ r = 0 := by
    rw [← val_eq r 0, ← hA, show valF 0 = 0 from rfl, Nat.mul_eq_zero]
    omega
  have k4 : B = 0 ↔ q = 0 := by
    rw [← val_eq q 0, ← hB, show valF 0 = 0 from rfl, Nat.mul_eq_zero]
    omega
  congr 1
  cases s <;> cases t <;> simp only [if_true, if_false, Bool.false_eq_true] <;> exact cmp_same (by omega) (by omega)

/-- The language's order of two floats. -/
theorem order_key (a b : Nat) : Ieee.double.order a b = if nanF a || nanF b then none else some (compare (keyF a) (keyF b)) := by
  unfold Ieee.Format.order
  by_cases ha : nanF a = true
  · rw [ha, read_nan (of_decide_eq_true ha)]
    simp [Ieee.Datum.order]
  by_cases hb : nanF b = true
  · rw [hb, read_nan (of_decide_eq_true hb)]
    cases Ieee.double.read a <;> simp [Ieee.Datum.order]
  have ha' : ¬ (9218868437227405312 < a % 9223372036854775808) := fun h => ha (decide_eq_true h)
  have hb' : ¬ (9218868437227405312 < b % 9223372036854775808) := fun h => hb (decide_eq_true h)
  rw [Bool.not_eq_true] at ha hb
  rw [ha, hb]
  simp only [Bool.or_false, Bool.false_eq_true, if_false]
  unfold keyF
  by_cases ia : a % 9223372036854775808 = 9218868437227405312
  · rw [read_inf ia]
    by_cases ib : b % 9223372036854775808 = 9218868437227405312
    · rw [read_inf ib, ia, ib]
      cases negF a <;> cases negF b <;> decide
    · rw [read_num (by omega), ia]
      simp only [Ieee.Datum.order]
      congr 1
      cases negF a <;> cases negF b <;> simp only [if_true, if_false, Bool.false_eq_true] <;> first | exact (cmp_lt (by omega)).symm | exact (cmp_gt (by omega)).symm
  · rw [read_num (show a % 9223372036854775808 < 9218868437227405312 by omega)]
    by_cases ib : b % 9223372036854775808 = 9218868437227405312
    · rw [read_inf ib, ib]
      simp only [Ieee.Datum.order]
      congr 1
      cases negF a <;> cases negF b <;> simp only [if_true, if_false, Bool.false_eq_true] <;> first | exact (cmp_lt (by omega)).symm | exact (cmp_gt (by omega)).symm
    · rw [read_num (show b % 9223372036854775808 < 9218868437227405312 by omega)]
      exact num_order _ _ _ _

theorem ord_ne (a : Nat) : (FloatKind.f64.format.order a a != some .eq) = nanF a := by
  rw [show FloatKind.f64.format = Ieee.double from rfl, order_key, cmp_eq rfl]
  cases nanF a <;> rfl
theorem ord_eq (a : Nat) : (FloatKind.f64.format.order a a == some .eq) = !nanF a := by
  rw [show FloatKind.f64.format = Ieee.double from rfl, order_key, cmp_eq rfl]
  cases nanF a <;> rfl
theorem ord_lt (a b : Nat) : (FloatKind.f64.format.order a b == some .lt) = (!nanF a && !nanF b && decide (keyF a < keyF b)) := by
  rw [show FloatKind.f64.format = Ieee.double from rfl, order_key]
  cases nanF a <;> cases nanF b <;> try rfl
  simp only [Bool.or_false, Bool.false_eq_true, if_false, Bool.not_false, Bool.true_and]
  rcases Int.lt_trichotomy (keyF a) (keyF b) with h | h | h
  · rw [cmp_lt h, decide_eq_true h]; rfl
  · rw [cmp_eq h, decide_eq_false (by omega)]; rfl
  · rw [cmp_gt h, decide_eq_false (by omega)]; rfl
theorem ord_gt (a b : Nat) : (FloatKind.f64.format.order a b == some .gt) = (!nanF a && !nanF b && decide (keyF b < keyF a)) := by
  rw [show FloatKind.f64.format = Ieee.double from rfl, order_key]
  cases nanF a <;> cases nanF b <;> try rfl
  simp only [Bool.or_false, Bool.false_eq_true, if_false, Bool.not_false, Bool.true_and]
  rcases Int.lt_trichotomy (keyF a) (keyF b) with h | h | h
  · rw [cmp_lt h, decide_eq_false (by omega)]; rfl
  · rw [cmp_eq h, decide_eq_false (by omega)]; rfl
  · rw [cmp_gt h, decide_eq_true h]; rfl
theorem ord_eq2 (a b : Nat) : (FloatKind.f64.format.order a b == some .eq) = (!nanF a && !nanF b && decide (keyF a = keyF b)) := by
  rw [show FloatKind.f64.format = Ieee.double from rfl, order_key]
  cases nanF a <;> cases nanF b <;> try rfl
  simp only [Bool.or_false, Bool.false_eq_true, if_false, Bool.not_false, Bool.true_and]
  rcases Int.lt_trichotomy (keyF a) (keyF b) with h | h | h
  · rw [cmp_lt h, decide_eq_false (by omega)]; rfl
  · rw [cmp_eq h, decide_eq_true h]; rfl
  · rw [cmp_gt h, decide_eq_false (by omega)]; rfl

/-- The number of a float in the order of all floats. -/
def bitsF (a : Nat) : Nat := if nanF a then 18446744073709551615 else if a < 9223372036854775808 then a + 9223372036854775808 else 18446744073709551615 - a
/-- The float of a number. -/
def ofF (n : Nat) : Nat :=
  if nanF (if n < 9223372036854775808 then 18446744073709551615 - n else n - 9223372036854775808) then 9221120237041090561
  else if n < 9223372036854775808 then 18446744073709551615 - n else n - 9223372036854775808
def cmpF (a b : Nat) : Int := if bitsF a < bitsF b then -1 else if bitsF b < bitsF a then 1 else 0
def leastF (l : List Nat) : Nat := l.foldl (fun m x => if cmpF x m < 0 then x else m) 9221120237041090561
def mostF (l : List Nat) : Nat := l.foldl (fun m x => if nanF x then m else if nanF m || decide (0 < cmpF x m) then x else m) 9221120237041090561
def clampF (x lo hi : Nat) : Nat := if nanF x || nanF lo || nanF hi then 9221120237041090561 else if cmpF x lo < 0 ∨ 0 < cmpF lo hi then lo else if 0 < cmpF x hi then hi else x
/-- The kind of a rung, of its sign's own side. -/
def kindR (r : Nat) : Nat := if 9218868437227405312 < r then 0 else if r = 9218868437227405312 then 8 else if 4503599627370496 ≤ r then 7 else if 0 < r then 6 else 5
def classF (a : Nat) : Nat := if nanF a then 0 else if negF a then 9 - kindR (a % 9223372036854775808) else kindR (a % 9223372036854775808)
/-- Two floats as one, all NaNs alike. -/
def eqF (a b : Nat) : Bool := if nanF a || nanF b then nanF a && nanF b else a == b

theorem nan_bits {a : Nat} (h : a < 18446744073709551616) : nanF a = true ↔ bitsF a = 18446744073709551615 := by
  unfold bitsF nanF
  by_cases k : 9218868437227405312 < a % 9223372036854775808
  · simp [k]
  · rw [decide_eq_false k]
    simp only [Bool.false_eq_true, if_false, false_iff]
    split <;> omega
theorem bits_lt {a : Nat} (h : a < 18446744073709551616) : bitsF a < 18446744073709551616 := by
  unfold bitsF
  split
  · omega
  · split <;> omega
theorem neg_iff {a : Nat} (h : a < 18446744073709551616) : negF a = decide (9223372036854775808 ≤ a) := by
  unfold negF
  by_cases k : 9223372036854775808 ≤ a
  · rw [decide_eq_true k, show a / 9223372036854775808 % 2 = 1 by omega]
    rfl
  · rw [decide_eq_false k, show a / 9223372036854775808 % 2 = 0 by omega]
    rfl
theorem key_bits {a b : Nat} (ha : a < 18446744073709551616) (hb : b < 18446744073709551616) (na : nanF a = false) (nb : nanF b = false) (h : keyF a < keyF b) : bitsF a < bitsF b := by
  unfold bitsF
  rw [na, nb]
  simp only [Bool.false_eq_true, if_false]
  unfold keyF at h
  rw [neg_iff ha, neg_iff hb] at h
  by_cases k : 9223372036854775808 ≤ a <;> by_cases k' : 9223372036854775808 ≤ b <;> simp only [k, k', decide_true, decide_false, if_true, if_false, Bool.false_eq_true] at h <;> split <;> split <;> omega
theorem of_bits {a : Nat} (h : a < 18446744073709551616) (hn : nanF a = false) : ofF (bitsF a) = a := by
  have hb : bitsF a = if a < 9223372036854775808 then a + 9223372036854775808 else 18446744073709551615 - a := by
    unfold bitsF
    rw [hn]
    rfl
  have hi : (if bitsF a < 9223372036854775808 then 18446744073709551615 - bitsF a else bitsF a - 9223372036854775808) = a := by
    rw [hb]
    split <;> split <;> omega
  unfold ofF
  rw [hi, hn]
  rfl
theorem of_nan {a : Nat} (hn : nanF a = true) : ofF (bitsF a) = 9221120237041090561 := by
  have hb : bitsF a = 18446744073709551615 := by
    unfold bitsF
    rw [hn]
    rfl
  rw [hb]
  decide
theorem of_lt (n : Nat) (h : n < 18446744073709551616) : ofF n < 18446744073709551616 := by
  unfold ofF
  by_cases k : n < 9223372036854775808
  · simp only [if_pos k]
    split <;> omega
  · simp only [if_neg k]
    split <;> omega
theorem bits_of {n : Nat} (h : n < 18446744073709551616) (hn : nanF (ofF n) = false) : bitsF (ofF n) = n := by
  unfold ofF at hn ⊢
  by_cases k : n < 9223372036854775808
  · simp only [if_pos k] at hn ⊢
    cases hx : nanF (18446744073709551615 - n) with
    | true => rw [hx] at hn; simp only [if_true] at hn; exact absurd hn (by decide)
    | false =>
      simp only [Bool.false_eq_true, if_false]
      unfold bitsF
      rw [hx]
      simp only [Bool.false_eq_true, if_false]
      rw [if_neg (by omega)]
      omega
  · simp only [if_neg k] at hn ⊢
    cases hx : nanF (n - 9223372036854775808) with
    | true => rw [hx] at hn; simp only [if_true] at hn; exact absurd hn (by decide)
    | false =>
      simp only [Bool.false_eq_true, if_false]
      unfold bitsF
      rw [hx]
      simp only [Bool.false_eq_true, if_false]
      rw [if_pos (by omega)]
      omega
theorem eq_self (a : Nat) : eqF a a = true := by
  unfold eqF
  cases nanF a <;> simp
theorem cmp_flip (a b : Nat) : cmpF a b = -cmpF b a := by
  unfold cmpF
  rcases Nat.lt_trichotomy (bitsF a) (bitsF b) with h | h | h
  · rw [if_pos h, if_neg (by omega), if_pos h]
  · rw [if_neg (by omega), if_neg (by omega), if_neg (by omega), if_neg (by omega)]
    rfl
  · rw [if_neg (by omega), if_pos h, if_pos h]
    rfl
theorem cmp_neg (a b : Nat) : cmpF a b < 0 ↔ bitsF a < bitsF b := by
  unfold cmpF
  split
  · simp [*]
  · split <;> simp <;> omega
theorem cmp_pos (a b : Nat) : 0 < cmpF a b ↔ bitsF b < bitsF a := by
  unfold cmpF
  split
  · simp; omega
  · split
    · simp [*]
    · simp; omega
end Go.Proofs.Ytlkikecnlafmeaa
