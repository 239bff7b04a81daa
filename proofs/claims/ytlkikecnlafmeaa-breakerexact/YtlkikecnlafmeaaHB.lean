/-
  A health, its form, and its small functions: package health's valid, validScore, validWeight, toward, Check, None, the page's Num, Health, MayNote, None, EqHealth, the statements' own num, walked.
  Conditions: as each theorem states them: a word is below 2 to the 64, a count is an int.
-/
import Derived.Test.YtlkikecnlafmeaaHA
namespace Go.Proofs.Ytlkikecnlafmeaa
open Go.RowKit

/-- May a health be? -/
def okH (s : Nat) (c : Int) : Bool := if c = 0 then nanF s else decide (0 < c) && decide (c ≤ 1099511627776) && decide (s ≤ 4607182418800017408)
/-- May a weight be? -/
def okW (w : Nat) : Bool := decide (0 < w) && decide (w ≤ 4607182418800017408)
/-- The value of a health. -/
def hV (s : Nat) (c : Int) : Value := .agg #[.float .f64 s, .int .i64 c]

theorem unit_iff {s : Nat} (h : s < 18446744073709551616) : s ≤ 4607182418800017408 ↔ cmpF 0 s ≤ 0 ∧ cmpF s 4607182418800017408 ≤ 0 := by
  have e0 : bitsF 0 = 9223372036854775808 := by decide
  have e1 : bitsF 4607182418800017408 = 13830554455654793216 := by decide
  have h1 : cmpF 0 s ≤ 0 ↔ ¬ (bitsF s < 9223372036854775808) := by
    rw [← e0, ← cmp_pos]
    omega
  have h2 : cmpF s 4607182418800017408 ≤ 0 ↔ ¬ (13830554455654793216 < bitsF s) := by
    rw [← e1, ← cmp_pos]
    omega
  rw [h1, h2]
  unfold bitsF nanF
  by_cases hn : 9218868437227405312 < s % 9223372036854775808
  · rw [decide_eq_true hn, if_pos rfl]
    omega
  · rw [decide_eq_false hn, if_neg (by decide)]
    split <;> omega

theorem key_zero : keyF 0 = 0 := by decide
theorem key_one : keyF 4607182418800017408 = 4607182418800017408 := by decide
theorem nan_zero : nanF 0 = false := by decide
theorem nan_one : nanF 4607182418800017408 = false := by decide
/-- A word above nought, by the language's own comparison. -/
def posF (w : Nat) : Bool := decide (0 < w) && decide (w ≤ 9218868437227405312)
theorem key_word {w : Nat} (h : w < 18446744073709551616) : keyF w = if w < 9223372036854775808 then (w : Int) else -((w - 9223372036854775808 : Nat) : Int) := by
  unfold keyF
  rw [neg_iff h]
  by_cases k : w < 9223372036854775808
  · rw [decide_eq_false (by omega), if_neg (by decide), if_pos k]
    omega
  · rw [decide_eq_true (by omega), if_pos rfl, if_neg k]
    omega
theorem pos_word {w : Nat} (h : w < 18446744073709551616) : (!nanF w && decide (0 < keyF w)) = posF w := by
  rw [key_word h]
  unfold nanF posF
  by_cases k : w < 9223372036854775808
  · rw [if_pos k, show w % 9223372036854775808 = w by omega]
    by_cases k0 : 0 < w
    · rw [decide_eq_true (show (0 : Int) < (w : Int) by omega), decide_eq_true k0, Bool.and_true, Bool.true_and]
      by_cases k1 : w ≤ 9218868437227405312
      · rw [decide_eq_true k1, decide_eq_false (by omega)]; rfl
      · rw [decide_eq_false k1, decide_eq_true (by omega)]; rfl
    · rw [decide_eq_false (show ¬ (0 : Int) < (w : Int) by omega), decide_eq_false k0, Bool.and_false, Bool.false_and]
  · rw [if_neg k, decide_eq_false (show ¬ (0 : Int) < -((w - 9223372036854775808 : Nat) : Int) by omega), Bool.and_false, decide_eq_false (show ¬ w ≤ 9218868437227405312 by omega), Bool.and_false]
theorem ord_pos {w : Nat} (h : w < 18446744073709551616) : (FloatKind.f64.format.order 0 w == some .lt) = posF w := by
  rw [ord_lt, nan_zero, key_zero]
  exact pos_word h
theorem ord_pos' {w : Nat} (h : w < 18446744073709551616) : (FloatKind.f64.format.order w 0 == some .gt) = posF w := by
  rw [ord_gt, nan_zero, key_zero, Bool.not_false, Bool.and_true]
  exact pos_word h
theorem ord_one {w : Nat} (h : posF w = true) : (FloatKind.f64.format.order w 4607182418800017408 == some .lt) = decide (w < 4607182418800017408) ∧ (FloatKind.f64.format.order w 4607182418800017408 == some .eq) = decide (w = 4607182418800017408) := by
  unfold posF at h
  rw [Bool.and_eq_true, decide_eq_true_eq, decide_eq_true_eq] at h
  have hn : nanF w = false := by
    unfold nanF
    exact decide_eq_false (by omega)
  rw [ord_lt, ord_eq2, nan_one, hn, key_one, key_word (by omega), if_pos (by omega)]
  simp only [Bool.not_false, Bool.true_and]
  constructor
  · by_cases k : w < 4607182418800017408
    · rw [decide_eq_true k]; exact decide_eq_true (by omega)
    · rw [decide_eq_false k]; exact decide_eq_false (by omega)
  · by_cases k : w = 4607182418800017408
    · rw [decide_eq_true k]; exact decide_eq_true (by omega)
    · rw [decide_eq_false k]; exact decide_eq_false (by omega)
theorem okW_pos {w : Nat} (h : okW w = true) : posF w = true := by
  unfold okW at h
  unfold posF
  rw [Bool.and_eq_true, decide_eq_true_eq, decide_eq_true_eq] at h ⊢
  omega
theorem okW_iff {w : Nat} (h : posF w = true) : okW w = decide (w ≤ 4607182418800017408) := by
  unfold posF at h
  unfold okW
  rw [Bool.and_eq_true] at h
  rw [h.1, Bool.true_and]

theorem num_any (c : Int) (w : World) : Calls Try.prog 11 #[.int .i64 c] w fun e w' => e = .returned (.int .i64 c) ∧ w' = w := by
  go_enter Try.func11, Try.ntmps11
  go_wp2_with fail
  go_ret
  exact ⟨rfl, rfl⟩
theorem validScore_any (s : Nat) (w : World) (hs : s < 18446744073709551616) : Calls Try.prog 57 #[.float .f64 s] w fun e w' => e = .returned (.bool (decide (s ≤ 4607182418800017408))) ∧ w' = w := by
  have H1 := Lib.hid (fun W => fCmp_any 0 s W (by decide) hs)
  have H2 := Lib.hid (fun W => fCmp_any s 4607182418800017408 W hs (by decide))
  have HU := Lib.hid (unit_iff hs)
  clear hs
  generalize cmpF 0 s = a at *
  generalize cmpF s 4607182418800017408 = b at *
  by_cases ha : a ≤ 0
  · by_cases hb : b ≤ 0
    · have HE := Lib.hid (decide_eq_true (HU.out.2 ⟨ha, hb⟩))
      go_enter Try.func57, Try.ntmps57
      go_wp2_with fail
      refine Calls.mono (H1.out _) ?_
      rintro e w' ⟨rfl, rfl⟩
      go_wp2_with fail
      refine Calls.mono (H2.out _) ?_
      rintro e w' ⟨rfl, rfl⟩
      go_wp2_with fail
      go_ret
      exact ⟨by rw [HE.out]; rfl, rfl⟩
    · have HE := Lib.hid (decide_eq_false (fun h => hb (HU.out.1 h).2))
      have hbd : decide (b ≤ 0) = false := decide_eq_false hb
      go_enter Try.func57, Try.ntmps57
      go_wp2_with fail
      refine Calls.mono (H1.out _) ?_
      rintro e w' ⟨rfl, rfl⟩
      go_wp2_with fail
      refine Calls.mono (H2.out _) ?_
      rintro e w' ⟨rfl, rfl⟩
      go_wp2_with fail
      go_ret
      exact ⟨by rw [HE.out]; rfl, rfl⟩
  · have HE := Lib.hid (decide_eq_false (fun h => ha (HU.out.1 h).1))
    have had : decide (a ≤ 0) = false := decide_eq_false ha
    go_enter Try.func57, Try.ntmps57
    go_wp2_with fail
    refine Calls.mono (H1.out _) ?_
    rintro e w' ⟨rfl, rfl⟩
    go_wp2_with fail
    go_ret
    exact ⟨by rw [HE.out]; rfl, rfl⟩
theorem validWeight_any (x : Nat) (w : World) (hx : x < 18446744073709551616) : Calls Try.prog 53 #[.float .f64 x] w fun e w' => e = .returned (.bool (okW x)) ∧ w' = w := by
  have h0 := ord_pos hx
  cases hp : posF x with
  | false =>
    rw [hp] at h0
    have HE := Lib.hid (show okW x = false by
      cases h : okW x with
      | false => rfl
      | true => rw [okW_pos h] at hp; cases hp)
    go_enter Try.func53, Try.ntmps53
    go_wp2_with fail
    go_ret
    exact ⟨by rw [HE.out]; rfl, rfl⟩
  | true =>
    rw [hp] at h0
    obtain ⟨h1, h2⟩ := ord_one hp
    have HE := Lib.hid (okW_iff hp)
    clear hp hx
    by_cases k1 : x < 4607182418800017408
    · rw [decide_eq_true k1] at h1
      rw [decide_eq_true (by omega)] at HE
      clear k1 h2
      go_enter Try.func53, Try.ntmps53
      go_wp2_with fail
      go_ret
      exact ⟨by rw [HE.out]; rfl, rfl⟩
    · rw [decide_eq_false k1] at h1
      by_cases k2 : x = 4607182418800017408
      · rw [decide_eq_true k2] at h2
        rw [decide_eq_true (by omega)] at HE
        clear k1 k2
        go_enter Try.func53, Try.ntmps53
        go_wp2_with fail
        go_ret
        exact ⟨by rw [HE.out]; rfl, rfl⟩
      · rw [decide_eq_false k2] at h2
        rw [decide_eq_false (by omega)] at HE
        clear k1 k2
        go_enter Try.func53, Try.ntmps53
        go_wp2_with fail
        go_ret
        exact ⟨by rw [HE.out]; rfl, rfl⟩
theorem toward_any (s x u : Nat) (w : World) (hs : s ≤ 4607182418800017408) (hx : x ≤ 4607182418800017408) (hu : u ≤ 4607182418800017408) :
    Calls Try.prog 56 #[.float .f64 s, .float .f64 x, .float .f64 u] w fun e w' => ∃ g, e = .returned (.float .f64 g) ∧ g < 18446744073709551616 ∧ clampF g 0 4607182418800017408 = noteR s x u ∧ w' = w := by
  obtain ⟨d, p, g, h1, h2, h3, _, _, hg, hc⟩ := note_ops hs hx hu
  have k1 := fun W => run_float_arith (P := Try.prog) W .sub 22 .f64 _ _ d h1
  have k2 := fun W => run_float_arith (P := Try.prog) W .mul 22 .f64 _ _ p h2
  have k3 := fun W => run_float_arith (P := Try.prog) W .add 22 .f64 _ _ g h3
  have HC := Lib.hid hc
  have HG := Lib.hid hg
  clear h1 h2 h3 hc hg hs hx hu
  go_enter Try.func56, Try.ntmps56
  go_wp2_with fail
  go_ret
  exact ⟨g, rfl, HG.out, HC.out, rfl⟩
end Go.Proofs.Ytlkikecnlafmeaa
