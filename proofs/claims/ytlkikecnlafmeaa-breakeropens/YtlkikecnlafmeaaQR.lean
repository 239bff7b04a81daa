/-
  What a breaker is behind so many bad ends, and behind what comes then.
  Conditions: as each theorem states them.
-/
import Derived.Test.YtlkikecnlafmeaaQM
namespace Go.Proofs.Ytlkikecnlafmeaa
open Go.RowKit

theorem okz {t f u c : Int} (h1 : 0 ≤ t ∧ t ≤ 2) (h2 : 0 ≤ f ∧ f ≤ 1048576) (h3 : 0 ≤ u ∧ u ≤ 2199023255552) (h4 : u = 0 ∨ t = 1) (h5 : 1 ≤ c ∧ c ≤ 1099511627776) : okB ⟨t, f, u, 0, c⟩ = true := by
  refine okB_iff.2 ⟨h1, h2, h3, h4, ?_⟩
  show okH 0 c = true
  unfold okH
  rw [if_neg (by omega), decide_eq_true (by omega), decide_eq_true (by omega)]
  rfl
theorem rec_bad {t f u c : Int} (hf : 0 ≤ f ∧ f < 1000) (hc : 1 ≤ c ∧ c < 1000) : recB ⟨t, f, u, 0, c⟩ false = ⟨t, f + 1, u, 0, c + 1⟩ := by
  unfold recB failsB xB nextS nextC
  simp only [Bool.false_eq_true, if_false]
  rw [if_pos (show f + 1 ≤ 1048576 by omega), show nanF 0 = false by decide]
  simp only [Bool.false_eq_true, if_false]
  rw [if_neg (show ¬ c = 0 by omega), if_pos (show c + 1 ≤ 1099511627776 by omega), show noteR 0 (clampF 0 0 4607182418800017408) 4598175219545276416 = 0 by decide +kernel]
theorem rec_bad0 {n : Nat} : recB ⟨0, 0, 0, n, 0⟩ false = ⟨0, 1, 0, 0, 1⟩ := by
  unfold recB failsB xB nextS nextC
  simp only [Bool.false_eq_true, if_false]
  rw [show nanF 0 = false by decide]
  simp only [Bool.false_eq_true, if_false, if_true]
  rw [show clampF 0 0 4607182418800017408 = 0 by decide]
  rfl
theorem rec_good {t f u c : Int} (s : Nat) : (recB ⟨t, f, u, s, c⟩ true).t = t ∧ (recB ⟨t, f, u, s, c⟩ true).f = 0 ∧ (recB ⟨t, f, u, s, c⟩ true).u = u := ⟨rfl, rfl, rfl⟩
theorem good_nan {n s : Nat} (hn : n = 9221120237041090561) : goodF s n = true := by
  subst hn
  unfold goodF
  rw [show nanF 9221120237041090561 = true by decide]
  cases nanF s <;> rfl
/-- The breaker behind so many bad ends. -/
def opI (n : Nat) (F P : Int) (i : Nat) : BR := if (i : Int) < F then ⟨0, i, 0, if i = 0 then n else 0, i⟩ else ⟨1, F, 9 + F + P, 0, F⟩
section
variable {n i : Nat} {F P : Int}
theorem op_at (h : (i : Int) < F) : opI n F P i = ⟨0, i, 0, if i = 0 then n else 0, i⟩ := if_pos h
theorem op_ok (hn : n = 9221120237041090561) (hF : F ≤ 6) (h : (i : Int) < F) : okB (opI n F P i) = true ∧ (opI n F P i).s < 18446744073709551616 := by
  rw [op_at h]
  by_cases h0 : i = 0
  · subst h0
    rw [if_pos rfl]
    exact ⟨nan_ok hn, by show n < _; omega⟩
  · rw [if_neg h0]
    exact ⟨okz ⟨by omega, by omega⟩ ⟨by omega, by omega⟩ ⟨by omega, by omega⟩ (Or.inl rfl) ⟨by omega, by omega⟩, by show 0 < 18446744073709551616; omega⟩
theorem op_may (hn : n = 9221120237041090561) (hF : F ≤ 6) (h : (i : Int) < F) : outM (opI n F P i) (10 + (i : Int)) = .tuple #[.bool true, .int .i64 0] := by
  unfold outM askB
  rw [(op_ok hn hF h).1, inB_iff.2 ⟨(by omega : (0 : Int) ≤ 10 + (i : Int)), (by omega : 10 + (i : Int) ≤ 1099511627776)⟩, op_at h]
  rfl
theorem op_begin (hn : n = 9221120237041090561) (hF : F ≤ 6) (h : (i : Int) < F) : outB (beginR (opI n F P i) (10 + (i : Int))) = .tuple #[bV (opI n F P i), .int .i64 0] := by
  unfold beginR askB
  rw [(op_ok hn hF h).1, inB_iff.2 ⟨(by omega : (0 : Int) ≤ 10 + (i : Int)), (by omega : 10 + (i : Int) ≤ 1099511627776)⟩, op_at h]
  rfl
theorem op_end (hn : n = 9221120237041090561) (h1 : 1 ≤ F) (hF : F ≤ 6) (hP : 0 ≤ P ∧ P < 1000) (h : (i : Int) < F) : outB (endR (opI n F P i) false (10 + (i : Int)) F P n n) = .tuple #[bV (opI n F P (i + 1)), .int .i64 0] := by
  have hm : mayE (opI n F P i) (10 + (i : Int)) F P = true := by
    unfold mayE okC
    rw [(op_ok hn hF h).1, inB_iff.2 ⟨(by omega : (0 : Int) ≤ 10 + (i : Int)), (by omega : 10 + (i : Int) ≤ 1099511627776)⟩, inB_iff.2 ⟨h1, (by omega : F ≤ 1048576)⟩, inB_iff.2 ⟨hP.1, (by omega : P ≤ 1099511627776)⟩]
    rfl
  have hr : recB (opI n F P i) false = ⟨0, (i : Int) + 1, 0, 0, (i : Int) + 1⟩ := by
    rw [op_at h]
    by_cases h0 : i = 0
    · subst h0
      rw [if_pos rfl]
      exact rec_bad0
    · rw [if_neg h0]
      exact rec_bad ⟨by omega, by omega⟩ ⟨by omega, by omega⟩
  unfold endR
  rw [hm, hr]
  show Value.tuple #[bV (endB _ _ _ _ _ _ _), _] = _
  unfold endB
  rw [if_neg (show ¬ (0 : Int) = 2 by omega), if_pos rfl, good_nan hn]
  by_cases hl : (i : Int) + 1 < F
  · rw [decide_eq_false (show ¬ F ≤ (i : Int) + 1 by omega), op_at (i := i + 1) (by omega), if_neg (show ¬ i + 1 = 0 by omega)]
    rfl
  · have hFi : F = (i : Int) + 1 := by omega
    rw [decide_eq_true (show F ≤ (i : Int) + 1 by omega)]
    unfold opI
    rw [if_neg (show ¬ ((i + 1 : Nat) : Int) < F by omega), show 10 + (i : Int) + P = 9 + F + P by omega, ← hFi]
    rfl
theorem op_last (h : ¬ (i : Int) < F) : opI n F P i = ⟨1, F, 9 + F + P, 0, F⟩ := if_neg h
theorem open_okF {U : Int} (h1 : 1 ≤ F) (hF : F ≤ 6) (hU : 10 ≤ U ∧ U < 2000) : okB ⟨1, F, U, 0, F⟩ = true := okz ⟨by omega, by omega⟩ ⟨by omega, by omega⟩ ⟨by omega, by omega⟩ (Or.inr rfl) ⟨by omega, by omega⟩
theorem half_okF (h1 : 1 ≤ F) (hF : F ≤ 6) : okB ⟨2, F, 0, 0, F⟩ = true := okz ⟨by omega, by omega⟩ ⟨by omega, by omega⟩ ⟨by omega, by omega⟩ (Or.inl rfl) ⟨by omega, by omega⟩
theorem early_may {U : Int} (h1 : 1 ≤ F) (hF : F ≤ 6) (hU : 10 ≤ U ∧ U < 2000) : outM ⟨1, F, U, 0, F⟩ (U - 1) = .tuple #[.bool false, .int .i64 0] := by
  unfold outM askB mayB
  rw [open_okF h1 hF hU, inB_iff.2 ⟨(by omega : 0 ≤ U - 1), (by omega : U - 1 ≤ 1099511627776)⟩, decide_eq_false (show ¬ U ≤ U - 1 by omega)]
  rfl
theorem early_begin {U : Int} (h1 : 1 ≤ F) (hF : F ≤ 6) (hU : 10 ≤ U ∧ U < 2000) : outB (beginR ⟨1, F, U, 0, F⟩ (U - 1)) = .tuple #[bV zB, .int .i64 9] := by
  unfold beginR askB mayB
  rw [open_okF h1 hF hU, inB_iff.2 ⟨(by omega : 0 ≤ U - 1), (by omega : U - 1 ≤ 1099511627776)⟩, decide_eq_false (show ¬ U ≤ U - 1 by omega)]
  rfl
theorem due_begin {U : Int} (h1 : 1 ≤ F) (hF : F ≤ 6) (hU : 10 ≤ U ∧ U < 2000) : outB (beginR ⟨1, F, U, 0, F⟩ U) = .tuple #[bV ⟨2, F, 0, 0, F⟩, .int .i64 0] := by
  unfold beginR askB mayB
  rw [open_okF h1 hF hU, inB_iff.2 ⟨(by omega : 0 ≤ U), (by omega : U ≤ 1099511627776)⟩, decide_eq_true (show U ≤ U by omega)]
  rfl
theorem half_may {U : Int} (h1 : 1 ≤ F) (hF : F ≤ 6) (hU : 10 ≤ U ∧ U < 2000) : outM ⟨2, F, 0, 0, F⟩ (U + 9) = .tuple #[.bool false, .int .i64 0] := by
  unfold outM askB mayB
  rw [half_okF h1 hF, inB_iff.2 ⟨(by omega : 0 ≤ U + 9), (by omega : U + 9 ≤ 1099511627776)⟩]
  rfl
theorem half_mayE {U : Int} (h1 : 1 ≤ F) (hF : F ≤ 6) (hP : 0 ≤ P ∧ P < 1000) (hU : 10 ≤ U ∧ U < 2000) : mayE ⟨2, F, 0, 0, F⟩ (U + 9) F P = true := by
  unfold mayE okC
  rw [half_okF h1 hF, inB_iff.2 ⟨(by omega : 0 ≤ U + 9), (by omega : U + 9 ≤ 1099511627776)⟩, inB_iff.2 ⟨h1, (by omega : F ≤ 1048576)⟩, inB_iff.2 ⟨hP.1, (by omega : P ≤ 1099511627776)⟩]
  rfl
theorem half_good {U : Int} (h1 : 1 ≤ F) (hF : F ≤ 6) (hP : 0 ≤ P ∧ P < 1000) (hU : 10 ≤ U ∧ U < 2000) : outB (endR ⟨2, F, 0, 0, F⟩ true (U + 9) F P n n) = .tuple #[bV ⟨0, 0, 0, n, 0⟩, .int .i64 0] := by
  unfold endR
  rw [half_mayE h1 hF hP hU]
  rfl
theorem half_bad {U : Int} (h1 : 1 ≤ F) (hF : F ≤ 6) (hP : 0 ≤ P ∧ P < 1000) (hU : 10 ≤ U ∧ U < 2000) : outB (endR ⟨2, F, 0, 0, F⟩ false (U + 9) F P n n) = .tuple #[bV ⟨1, F + 1, U + 9 + P, 0, F + 1⟩, .int .i64 0] := by
  unfold endR
  rw [half_mayE h1 hF hP hU, rec_bad ⟨by omega, by omega⟩ ⟨by omega, by omega⟩]
  rfl
end
end Go.Proofs.Ytlkikecnlafmeaa
