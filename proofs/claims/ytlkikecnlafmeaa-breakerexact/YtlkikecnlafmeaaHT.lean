/-
  A health's next score by plain mathematics: the difference, the product and the sum, each rounded, held from +0 to 1; it goes towards what is noted, not away from it, and a greater weight takes it as far, or farther.
  Conditions: as each theorem states them: score, observation and weight are floats from +0 to 1.
-/
import Derived.Test.YtlkikecnlafmeaaHS
namespace Go.Proofs.Ytlkikecnlafmeaa

/-- What is added or taken, of a difference of so many units. -/
def partR (w n : Nat) : Nat := rungP (valF w * valF (rndV n)) (-2148)
/-- The next score. -/
def noteR (s x w : Nat) : Nat := if s ≤ x then min (rndV (valF s + valF (partR w (valF x - valF s)))) 4607182418800017408 else rndV (valF s - valF (partR w (valF s - valF x)))

theorem val_mono {r s : Nat} (h : r ≤ s) : valF r ≤ valF s := by
  rcases Nat.lt_or_ge r s with k | k
  · exact Nat.le_of_lt (val_lt k)
  · obtain rfl : r = s := by omega
    exact Nat.le_refl _
theorem val_one {k : Nat} (hk : k = 1022) : valF 4607182418800017408 = 4503599627370496 * 2 ^ k := by
  unfold valF magF expF
  rw [if_neg (by omega), hk, show 4607182418800017408 % 4503599627370496 = 0 by decide, show 4607182418800017408 / 4503599627370496 - 1 = 1022 by decide, Nat.add_zero]
theorem val_unit {k : Nat} (hk : k = 1074) : valF 4607182418800017408 = 1 * 2 ^ k := by
  obtain ⟨j, hj⟩ : ∃ j, j = 1022 := ⟨_, rfl⟩
  rw [val_one hj, show k = 52 + j by omega, Nat.pow_add, ← Nat.mul_assoc]
theorem unit_in {a : Nat} (h : a ≤ 4607182418800017408) : negF a = false ∧ finF a = true ∧ sval a = (valF a : Int) ∧ a % 9223372036854775808 = a ∧ nanF a = false := by
  have e : a % 9223372036854775808 = a := by omega
  have hn : negF a = false := by
    rw [neg_iff (by omega)]
    exact decide_eq_false (by omega)
  refine ⟨hn, ?_, ?_, e, ?_⟩
  · unfold finF
    rw [e]
    exact decide_eq_true (by omega)
  · unfold sval magV
    rw [hn, e]
    rfl
  · unfold nanF
    rw [e]
    exact decide_eq_false (by omega)
theorem word_in {s : Bool} {r : Nat} (h : r < 9218868437227405312) : negF (wordF s r) = s ∧ finF (wordF s r) = true ∧ sval (wordF s r) = (if s then -(valF r : Int) else (valF r : Int)) ∧ wordF s r % 9223372036854775808 = r ∧ wordF s r < 18446744073709551616 ∧ nanF (wordF s r) = false := by
  have e : wordF s r % 9223372036854775808 = r := by unfold wordF; split <;> omega
  have hl : wordF s r < 18446744073709551616 := by unfold wordF; split <;> omega
  have hn : negF (wordF s r) = s := by
    rw [neg_iff hl]
    unfold wordF
    cases s
    · exact decide_eq_false (by simp; omega)
    · exact decide_eq_true (by simp)
  refine ⟨hn, ?_, ?_, e, hl, ?_⟩
  · unfold finF
    rw [e]
    exact decide_eq_true h
  · unfold sval magV
    rw [hn, e]
  · unfold nanF
    rw [e]
    exact decide_eq_false (by omega)
/-- A weight of at most 1 takes no more than the difference. -/
theorem part_le {w n : Nat} (hw : w ≤ 4607182418800017408) (hn : rndV n ≤ 9218868437227405312) : partR w n ≤ rndV n := by
  unfold partR
  obtain ⟨k, hk⟩ : ∃ k, k = 1074 := ⟨_, rfl⟩
  have h1 : valF w ≤ 1 * 2 ^ k := by rw [← val_unit hk]; exact val_mono hw
  have h2 : valF w * valF (rndV n) ≤ valF (rndV n) * 2 ^ k := by
    rw [Nat.mul_comm (valF w)]
    refine Nat.mul_le_mul_left _ ?_
    rw [Nat.one_mul] at h1
    exact h1
  have := mul_mono h2
  rw [mul_own hn hk] at this
  exact this
theorem part_mono {w u n : Nat} (h : w ≤ u) : partR w n ≤ partR u n := mul_mono (Nat.mul_le_mul_right _ (val_mono h))

theorem bits_plain {a : Nat} (h : a < 9218868437227405313) : bitsF a = a + 9223372036854775808 := by
  have hn : nanF a = false := by
    unfold nanF
    exact decide_eq_false (by omega)
  unfold bitsF
  rw [hn, if_neg (by decide), if_pos (by omega)]
theorem clamp_unit {g : Nat} (h : g < 9218868437227405313) : clampF g 0 4607182418800017408 = min g 4607182418800017408 := by
  have hn : nanF g = false := by
    unfold nanF
    exact decide_eq_false (by omega)
  unfold clampF
  rw [hn, show (false || nanF 0 || nanF 4607182418800017408) = false by decide, if_neg (by decide)]
  have e0 : ¬ (cmpF g 0 < 0 ∨ 0 < cmpF 0 4607182418800017408) := by
    rw [cmp_neg, bits_plain h, show bitsF 0 = 9223372036854775808 by decide, show cmpF 0 4607182418800017408 = -1 by decide]
    omega
  rw [if_neg e0]
  have e1 : 0 < cmpF g 4607182418800017408 ↔ 4607182418800017408 < g := by
    rw [cmp_pos, bits_plain h, show bitsF 4607182418800017408 = 4607182418800017408 + 9223372036854775808 by decide]
    omega
  by_cases k : 4607182418800017408 < g
  · rw [if_pos (e1.2 k)]
    omega
  · rw [if_neg fun h => k (e1.1 h)]
    omega

theorem word_plain (r : Nat) : wordF false r = r := by unfold wordF; rw [if_neg (by decide)]

theorem two_ones (v : Nat) (h : v ≤ valF 4607182418800017408) : v + valF 4607182418800017408 ≤ valF 4611686018427387904 := by
  have e : valF 4611686018427387904 = 2 * valF 4607182418800017408 := by
    obtain ⟨j, hj⟩ : ∃ j, j = 1022 := ⟨_, rfl⟩
    rw [val_one hj]
    unfold valF magF expF
    rw [if_neg (by omega), show 4611686018427387904 % 4503599627370496 = 0 by decide, show 4611686018427387904 / 4503599627370496 - 1 = 1022 + 1 by decide, ← hj, Nat.pow_succ, Nat.add_zero]
    generalize 2 ^ j = P
    omega
  omega

/-- The three operations and the bounds give the next score. -/
theorem note_ops {s x w : Nat} (hs : s ≤ 4607182418800017408) (hx : x ≤ 4607182418800017408) (hw : w ≤ 4607182418800017408) :
    ∃ d p g, floatBits .sub .f64 x s = some d ∧ floatBits .mul .f64 w d = some p ∧ floatBits .add .f64 s p = some g ∧ d < 18446744073709551616 ∧ p < 18446744073709551616 ∧ g < 18446744073709551616 ∧ clampF g 0 4607182418800017408 = noteR s x w := by
  obtain ⟨ns, fs, vs, ms, _⟩ := unit_in hs
  obtain ⟨nx, fx, vx, mx, _⟩ := unit_in hx
  obtain ⟨nw, fw, vw, mw, _⟩ := unit_in hw
  have hsub := sub_fin fx fs
  rw [vx, vs, nx, ns] at hsub
  by_cases hle : s ≤ x
  · have hv := val_mono hle
    have hd : (if (valF x : Int) - (valF s : Int) = 0 then false && !false else decide ((valF x : Int) - (valF s : Int) < 0)) = false := by
      split
      · rfl
      · exact decide_eq_false (by omega)
    rw [hd, show ((valF x : Int) - (valF s : Int)).natAbs = valF x - valF s by omega] at hsub
    have hr : rndV (valF x - valF s) ≤ x := rnd_le (by omega) (by omega)
    have hpl := part_le hw (show rndV (valF x - valF s) ≤ 9218868437227405312 by omega)
    have hN : noteR s x w = min (rndV (valF s + valF (partR w (valF x - valF s)))) 4607182418800017408 := by unfold noteR; rw [if_pos hle]
    have hmul := mul_fin fw (word_in (s := false) (r := rndV (valF x - valF s)) (by omega)).2.1
    obtain ⟨nd, fd, vd, md, ld, _⟩ := word_in (s := false) (r := rndV (valF x - valF s)) (by omega)
    rw [nw, nd, mw, md, mul_scale] at hmul
    have hpe : rungP (valF w * valF (rndV (valF x - valF s))) (-2148) = partR w (valF x - valF s) := rfl
    rw [hpe] at hmul
    generalize partR w (valF x - valF s) = pr at *
    obtain ⟨np, fp, vp, mp, lp, _⟩ := word_in (s := false ^^ false) (r := pr) (by omega)
    have hadd := add_fin fs fp
    rw [vs, vp, ns, np] at hadd
    have he : (if (valF s : Int) + (if (false ^^ false) = true then -(valF pr : Int) else (valF pr : Int)) = 0 then false && (false ^^ false) else decide ((valF s : Int) + (if (false ^^ false) = true then -(valF pr : Int) else (valF pr : Int)) < 0)) = false := by
      rw [if_neg (show ¬ ((false ^^ false) = true) by decide)]
      split
      · rfl
      · exact decide_eq_false (by omega)
    rw [he, if_neg (show ¬ ((false ^^ false) = true) by decide), show ((valF s : Int) + (valF pr : Int)).natAbs = valF s + valF pr by omega] at hadd
    have hprv : valF pr ≤ valF 4607182418800017408 := val_mono (by omega)
    have hgr : rndV (valF s + valF pr) ≤ 4611686018427387904 := by
      refine rnd_le (by omega) ?_
      have := two_ones (valF s) (val_mono hs)
      omega
    obtain ⟨_, _, _, _, lg, _⟩ := word_in (s := false) (r := rndV (valF s + valF pr)) (by omega)
    refine ⟨_, _, _, hsub, hmul, hadd, ld, lp, lg, ?_⟩
    rw [hN]
    rw [word_plain]
    exact clamp_unit (by omega)
  · have hlt : x < s := by omega
    have hv := val_lt hlt
    have hd : (if (valF x : Int) - (valF s : Int) = 0 then false && !false else decide ((valF x : Int) - (valF s : Int) < 0)) = true := by
      rw [if_neg (by omega)]
      exact decide_eq_true (by omega)
    rw [hd, show ((valF x : Int) - (valF s : Int)).natAbs = valF s - valF x by omega] at hsub
    have hr : rndV (valF s - valF x) ≤ s := rnd_le (by omega) (by omega)
    have hpl := part_le hw (show rndV (valF s - valF x) ≤ 9218868437227405312 by omega)
    have hN : noteR s x w = rndV (valF s - valF (partR w (valF s - valF x))) := by unfold noteR; rw [if_neg hle]
    have hmul := mul_fin fw (word_in (s := true) (r := rndV (valF s - valF x)) (by omega)).2.1
    obtain ⟨nd, fd, vd, md, ld, _⟩ := word_in (s := true) (r := rndV (valF s - valF x)) (by omega)
    rw [nw, nd, mw, md, mul_scale] at hmul
    have hpe : rungP (valF w * valF (rndV (valF s - valF x))) (-2148) = partR w (valF s - valF x) := rfl
    rw [hpe] at hmul
    generalize partR w (valF s - valF x) = pr at *
    obtain ⟨np, fp, vp, mp, lp, _⟩ := word_in (s := false ^^ true) (r := pr) (by omega)
    have hadd := add_fin fs fp
    rw [vs, vp, ns, np] at hadd
    have hprv : valF pr ≤ valF s := val_mono (by omega)
    have he : (if (valF s : Int) + (if (false ^^ true) = true then -(valF pr : Int) else (valF pr : Int)) = 0 then false && (false ^^ true) else decide ((valF s : Int) + (if (false ^^ true) = true then -(valF pr : Int) else (valF pr : Int)) < 0)) = false := by
      rw [if_pos (show (false ^^ true) = true by decide)]
      split
      · rfl
      · exact decide_eq_false (by omega)
    rw [he, if_pos (show (false ^^ true) = true by decide), show ((valF s : Int) + -(valF pr : Int)).natAbs = valF s - valF pr by omega] at hadd
    have hgr : rndV (valF s - valF pr) ≤ s := rnd_le (by omega) (by omega)
    obtain ⟨_, _, _, _, lg, _⟩ := word_in (s := false) (r := rndV (valF s - valF pr)) (by omega)
    refine ⟨_, _, _, hsub, hmul, hadd, ld, lp, lg, ?_⟩
    rw [hN]
    rw [word_plain, clamp_unit (by omega)]
    omega
theorem note_in {s x w : Nat} (hs : s ≤ 4607182418800017408) : noteR s x w ≤ 4607182418800017408 := by
  unfold noteR
  split
  · exact Nat.min_le_right _ _
  · exact Nat.le_trans (rnd_le (by omega) (Nat.sub_le _ _)) hs
/-- Towards what is above it. -/
theorem note_up {s x w : Nat} (hs : s ≤ 4607182418800017408) (h : s ≤ x) : s ≤ noteR s x w := by
  unfold noteR
  rw [if_pos h]
  exact Nat.le_min.2 ⟨rnd_ge (by omega) (Nat.le_add_right _ _), hs⟩
/-- Towards what is below it. -/
theorem note_down {s x w : Nat} (hs : s ≤ 4607182418800017408) (h : x ≤ s) : noteR s x w ≤ s := by
  by_cases he : s ≤ x
  · obtain rfl : s = x := by omega
    unfold noteR
    rw [if_pos he, Nat.sub_self]
    have e0 : rndV 0 = 0 := by decide
    have e1 : partR w 0 = 0 := by
      unfold partR
      rw [e0, show valF 0 = 0 from rfl, Nat.mul_zero]
      decide
    rw [e1, show valF 0 = 0 from rfl, Nat.add_zero, rnd_own (by omega)]
    exact Nat.min_le_left _ _
  · unfold noteR
    rw [if_neg he]
    exact rnd_le (by omega) (Nat.sub_le _ _)
/-- A greater weight takes it as far, or farther. -/
theorem note_more_up {s x w u : Nat} (h : s ≤ x) (hwu : w ≤ u) : noteR s x w ≤ noteR s x u := by
  unfold noteR
  rw [if_pos h, if_pos h]
  have h1 : rndV (valF s + valF (partR w (valF x - valF s))) ≤ rndV (valF s + valF (partR u (valF x - valF s))) := rnd_mono (Nat.add_le_add_left (val_mono (part_mono hwu)) _)
  omega
theorem note_more_down {s x w u : Nat} (h : ¬ s ≤ x) (hwu : w ≤ u) : noteR s x u ≤ noteR s x w := by
  unfold noteR
  rw [if_neg h, if_neg h]
  exact rnd_mono (Nat.sub_le_sub_left (val_mono (part_mono hwu)) _)
end Go.Proofs.Ytlkikecnlafmeaa
