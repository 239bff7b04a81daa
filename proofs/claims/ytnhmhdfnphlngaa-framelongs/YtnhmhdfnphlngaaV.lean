/-
  The plain mathematics of long lines: a line as long as may be is told, one byte longer it is passed over to its end, and what comes behind it is told again; no program in it.
  No condition beyond those that each theorem states.
-/
import Derived.Test.YtnhmhdfnphlngaaS
namespace Go.Proofs.Ytnhmhdfnphlngaa

/-- A line of n bytes: the letter a, and a last byte. -/
def preL (n : Nat) (f : UInt8) : List UInt8 := List.replicate (n - 1) 97 ++ [f]
/-- Its end, and a short line behind it. -/
def endL : List UInt8 := [13, 10, 110, 101, 120, 116, 13, 10]

theorem preL_length (n : Nat) (f : UInt8) (h : 0 < n) : (preL n f).length = n := by simp [preL]; omega

/-- A byte that ends no line, while there is room. -/
theorem take_plain (l : List UInt8) (c : UInt8) (ls : List (List UInt8 × Bool)) (hc : c ≠ 10) (h : l.length + 1 < 512) : Rd.take ⟨l, false, ls⟩ c = ⟨l ++ [c], false, ls⟩ := by
  have h2 : ¬ 512 ≤ l.length + 1 := by omega
  simp [Rd.take, hc, h2]
theorem take_full (l : List UInt8) (c : UInt8) (ls : List (List UInt8 × Bool)) (hc : c ≠ 10) (h : 512 ≤ l.length + 1) : Rd.take ⟨l, false, ls⟩ c = ⟨tailB c, true, ls⟩ := by simp [Rd.take, hc, h]
theorem take_past (l : List UInt8) (c : UInt8) (ls : List (List UInt8 × Bool)) (hc : c ≠ 10) : Rd.take ⟨l, true, ls⟩ c = ⟨tailB c, true, ls⟩ := by simp [Rd.take, hc]
theorem take_lf (l : List UInt8) (k : Bool) (ls : List (List UInt8 × Bool)) : Rd.take ⟨l ++ [13], k, ls⟩ 10 = ⟨[], false, ls ++ [(l, k)]⟩ := by simp [Rd.take, endsCR]

theorem feed_as (k : Nat) : (Rd.of [] false).feed (List.replicate k 97) = if k < 512 then ⟨List.replicate k 97, false, []⟩ else ⟨[], true, []⟩ := by
  induction k with
  | zero => rfl
  | succ k ih =>
    rw [List.replicate_succ', Rd.feed_snoc, ih]
    by_cases h1 : k + 1 < 512
    · rw [if_pos (by omega), if_pos h1, take_plain _ _ _ (by decide) (by simpa using h1)]
    · rw [if_neg h1]
      by_cases h2 : k < 512
      · rw [if_pos h2, take_full _ _ _ (by decide) (by simp; omega)]
        rfl
      · rw [if_neg h2, take_past _ _ _ (by decide)]
        rfl

/-- Behind the line's bytes. -/
theorem feed_pre (n : Nat) (f : UInt8) (hn : 0 < n) (hf : f ≠ 10) : (Rd.of [] false).feed (preL n f) = if n < 512 then ⟨preL n f, false, []⟩ else ⟨tailB f, true, []⟩ := by
  unfold preL
  rw [Rd.feed_snoc, feed_as]
  by_cases h1 : n < 512
  · rw [if_pos (by omega), if_pos h1, take_plain _ _ _ hf (by simp; omega)]
  · rw [if_neg h1]
    by_cases h2 : n - 1 < 512
    · rw [if_pos h2, take_full _ _ _ hf (by simp; omega)]
    · rw [if_neg h2, take_past _ _ _ hf]

/-- Behind the line's bytes and a 13. -/
theorem feed_cr (n : Nat) (f : UInt8) (hn : 0 < n) (hf : f ≠ 10) : (Rd.of [] false).feed (preL n f ++ [13]) = if n + 1 < 512 then ⟨preL n f ++ [13], false, []⟩ else ⟨[13], true, []⟩ := by
  rw [Rd.feed_snoc, feed_pre n f hn hf]
  have hl := preL_length n f hn
  by_cases h1 : n + 1 < 512
  · rw [if_pos (by omega), if_pos h1, take_plain _ _ _ (by decide) (by omega)]
  · rw [if_neg h1]
    by_cases h2 : n < 512
    · rw [if_pos h2, take_full _ _ _ (by decide) (by omega)]
      rfl
    · rw [if_neg h2, take_past _ _ _ (by decide)]
      rfl

/-- What is told of the line. -/
def toldL (n : Nat) (f : UInt8) : List UInt8 := if n + 1 < 512 then preL n f else []

theorem next_feed : (Rd.of [] false).feed [110, 101, 120, 116, 13, 10] = ⟨[], false, [([110, 101, 120, 116], false)]⟩ := rfl

/-- Behind all of it. -/
theorem feed_all (n : Nat) (f : UInt8) (hn : 0 < n) (hf : f ≠ 10) : (Rd.of [] false).feed (preL n f ++ endL) = ⟨[], false, [(toldL n f, !decide (n + 1 < 512)), ([110, 101, 120, 116], false)]⟩ := by
  have e : preL n f ++ endL = (preL n f ++ [13]) ++ [10] ++ [110, 101, 120, 116, 13, 10] := by simp [endL]
  rw [e, Rd.feed_append, Rd.feed_snoc, feed_cr n f hn hf]
  have h3 : (if n + 1 < 512 then (⟨preL n f ++ [13], false, []⟩ : Rd) else ⟨[13], true, []⟩).take 10 = ⟨[], false, [(toldL n f, !decide (n + 1 < 512))]⟩ := by
    unfold toldL
    by_cases h : n + 1 < 512
    · rw [if_pos h, if_pos h, take_lf]
      simp [h]
    · rw [if_neg h, if_neg h]
      have := take_lf [] true []
      simp only [List.nil_append] at this
      rw [this]
      simp [h]
  rw [h3, Rd.feed_more]
  have h4 : Rd.of (Rd.rest ⟨[], false, [(toldL n f, !decide (n + 1 < 512))]⟩) (Rd.skip ⟨[], false, [(toldL n f, !decide (n + 1 < 512))]⟩) = Rd.of [] false := rfl
  rw [h4, next_feed]
  rfl
end Go.Proofs.Ytnhmhdfnphlngaa
