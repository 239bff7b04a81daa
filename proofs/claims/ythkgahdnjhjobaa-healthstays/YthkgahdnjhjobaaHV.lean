/-
  How far a score lies from an end, and how a health comes to an end that is noted again and again at the weight of a half: by plain mathematics.
  Conditions: as each theorem states them: the scores are floats from +0 to 1.
-/
import Derived.Test.YthkgahdnjhjobaaHG
namespace Go.Proofs.Ythkgahdnjhjobaa

/-- How far a score lies from another one: the difference, rounded, without its sign. -/
def distR (a e : Nat) : Nat := rndV ((valF a : Int) - (valF e : Int)).natAbs
theorem dist_ops {a e : Nat} (ha : a ≤ 4607182418800017408) (he : e ≤ 4607182418800017408) : ∃ r, floatBits .sub .f64 a e = some r ∧ r < 18446744073709551616 ∧ r % 9223372036854775808 = distR a e ∧ distR a e ≤ 4607182418800017408 := by
  obtain ⟨na, fa, va, _, _⟩ := unit_in ha
  obtain ⟨ne, fe, ve, _, _⟩ := unit_in he
  have hsub := sub_fin fa fe
  rw [va, ve] at hsub
  have h1 := val_mono ha
  have h2 := val_mono he
  have hd : distR a e ≤ 4607182418800017408 := rnd_le (by omega) (by omega)
  obtain ⟨_, _, _, hm, hl, _⟩ := word_in (s := if (valF a : Int) - (valF e : Int) = 0 then negF a && !negF e else decide ((valF a : Int) - (valF e : Int) < 0)) (r := distR a e) (by omega)
  exact ⟨_, hsub, hl, hm, hd⟩
theorem dist_zero {a : Nat} (ha : a ≤ 4607182418800017408) : distR a 0 = a := by
  unfold distR
  rw [show valF 0 = 0 from rfl, show ((valF a : Int) - ((0 : Nat) : Int)).natAbs = valF a by omega]
  exact rnd_own (by omega)
theorem dist_one {s t : Nat} (hst : s ≤ t) (ht : t ≤ 4607182418800017408) : distR t 4607182418800017408 ≤ distR s 4607182418800017408 := by
  unfold distR
  have h1 := val_mono hst
  have h2 := val_mono ht
  exact rnd_mono (by omega)
theorem dist_last {s : Nat} (h : 4607182418800017408 - s ≤ 1) (hs : s ≤ 4607182418800017408) : distR s 4607182418800017408 ≤ 4472406533629990549 := by
  rcases (show s = 4607182418800017408 ∨ s = 4607182418800017407 by omega) with h | h
  · subst h
    unfold distR
    rw [Int.sub_self]
    decide
  · subst h
    decide +kernel

/-- What has come of so many notes of nought. -/
def zeroI (i s : Nat) (c : Int) : Prop := (c = 0 ∧ i = 0) ∨ (0 < c ∧ s ≤ pwR i)
/-- What has come of so many notes of one. -/
def oneI (i s : Nat) : Prop := i = 0 ∨ (i = 1 ∧ 4598175219545276416 ≤ s) ∨ (2 ≤ i ∧ 4607182418800017408 - s ≤ 2 ^ (54 - i))
theorem pw_zero : pwR 0 = 4607182418800017408 := by decide
theorem clamp_zero : clampF 0 0 4607182418800017408 = 0 := by decide
theorem clamp_one : clampF 4607182418800017408 0 4607182418800017408 = 4607182418800017408 := by decide

theorem next_count {c : Int} {x : Nat} (hn : nanF x = false) (h : c + 1 ≤ 1099511627776) : nextC c x = c + 1 := by
  unfold nextC
  rw [hn, if_neg (by decide), if_pos h]
theorem zero_next {i s : Nat} {c : Int} (hi : i ≤ 80) (hq : okH s c = true) (h : zeroI i s c) : nextS s c 0 4602678819172646912 ≤ pwR (i + 1) ∧ (c ≠ 0 → nextS s c 0 4602678819172646912 ≤ s) := by
  unfold nextS
  rw [show nanF 0 = false by decide, if_neg (by decide), clamp_zero]
  by_cases hc : c = 0
  · rw [if_pos hc]
    exact ⟨Nat.zero_le _, fun h => absurd hc h⟩
  · rw [if_neg hc]
    have hs := (okH_pos hq hc).2.2
    rcases h with ⟨h, _⟩ | ⟨_, h⟩
    · exact absurd h hc
    · exact ⟨zero_step hs (by omega) h, fun _ => note_down hs (Nat.zero_le _)⟩
theorem one_next {i s : Nat} {c : Int} (hq : okH s c = true) (hc : c ≠ 0) (h : oneI i s) : oneI (i + 1) (nextS s c 4607182418800017408 4602678819172646912) ∧ s ≤ nextS s c 4607182418800017408 4602678819172646912 ∧ nextS s c 4607182418800017408 4602678819172646912 ≤ 4607182418800017408 := by
  have hs := (okH_pos hq hc).2.2
  unfold nextS
  rw [show nanF 4607182418800017408 = false by decide, if_neg (by decide), if_neg hc, clamp_one]
  refine ⟨?_, note_up hs hs, note_in hs⟩
  have e : (4602678819172646912 : Nat) = halfW := rfl
  rw [e]
  rcases h with h | ⟨h, h2⟩ | ⟨h, h2⟩
  · subst h
    exact .inr (.inl ⟨rfl, one_first hs⟩)
  · subst h
    have := one_second hs h2
    refine .inr (.inr ⟨by omega, ?_⟩)
    rw [show 54 - (1 + 1) = 52 by decide, show (2 : Nat) ^ 52 = 4503599627370496 by decide]
    omega
  · refine .inr (.inr ⟨by omega, ?_⟩)
    have e52 : (2 : Nat) ^ 52 = 4503599627370496 := by decide
    have e51 : (2 : Nat) ^ 51 = 2251799813685248 := by decide
    have hp := pow_le (54 - i) 52 (by omega)
    have hp2 := pow_le (54 - (i + 1)) 51 (by omega)
    have hdb : 2 ^ (54 - i) ≤ 2 * 2 ^ (54 - (i + 1)) := by
      by_cases k : i ≤ 53
      · rw [show 54 - i = (54 - (i + 1)) + 1 by omega, Nat.pow_succ]
        omega
      · rw [show 54 - i = 0 by omega, show 54 - (i + 1) = 0 by omega]
        decide
    have := note_one (s := s) (n := 2 ^ (54 - (i + 1))) (by omega) hs (by omega) (by omega)
    omega
end Go.Proofs.Ythkgahdnjhjobaa
