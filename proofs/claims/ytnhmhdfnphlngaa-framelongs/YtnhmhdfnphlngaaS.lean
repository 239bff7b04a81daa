/-
  The plain mathematics of a stream that is parted: however it is parted the lines and the last framer are the same, and that framer may be; no program in it.
  No condition beyond those that each theorem states.
-/
import Derived.Test.YtnhmhdfnphlngaaP
namespace Go.Proofs.Ytnhmhdfnphlngaa
open Go.Lib

/-- A framer that may be stays one, byte by byte. -/
theorem Rd.valid_take {r : Rd} (h : validL r.rest r.skip = true) (c : UInt8) : validL (r.take c).rest (r.take c).skip = true := by
  unfold Rd.take
  split
  · show validL [] false = true; decide
  · rename_i hq
    split
    · unfold validL tailB
      by_cases hc : c = 13 <;> simp [hc]
    · rename_i h2
      simp only [Bool.or_eq_true, decide_eq_true_eq, not_or, Bool.not_eq_true] at h2
      rw [h2.1] at h
      unfold validL at h ⊢
      simp only [Bool.false_eq_true, if_false, Bool.and_eq_true, decide_eq_true_eq, Bool.not_eq_true'] at h ⊢
      refine ⟨by simp; omega, ?_⟩
      cases hc : Lib.contains (r.rest ++ [c]) [13, 10] with
      | false => rfl
      | true =>
        exfalso
        obtain ⟨i, h13, h10⟩ := (contains_iff _).1 hc
        by_cases hi : i + 1 < r.rest.length
        · have : Lib.contains r.rest [13, 10] = true := (contains_iff _).2 ⟨i, by rw [List.getElem?_append_left (by omega)] at h13; exact h13, by rw [List.getElem?_append_left hi] at h10; exact h10⟩
          rw [this] at h
          simp at h
        · have hlt : i + 1 < (r.rest ++ [c]).length := by
            rcases Nat.lt_or_ge (i + 1) (r.rest ++ [c]).length with h' | h'
            · exact h'
            · rw [List.getElem?_eq_none h'] at h10; cases h10
          have hi1 : i + 1 = r.rest.length := by simp at hlt; omega
          rw [List.getElem?_append_right (by omega), hi1] at h10
          rw [List.getElem?_append_left (by omega)] at h13
          refine hq ⟨by simpa using h10, ?_⟩
          unfold endsCR
          rw [List.getLast?_eq_getElem?, show r.rest.length - 1 = i by omega, h13]
          rfl

theorem Rd.valid_feed {r : Rd} (h : validL r.rest r.skip = true) (x : List UInt8) : validL (r.feed x).rest (r.feed x).skip = true := by
  unfold Rd.feed
  induction x generalizing r with
  | nil => exact h
  | cons c x ih => exact ih (Rd.valid_take h c)

/-- What a reader has told does not touch what it tells next. -/
theorem Rd.take_shift (l : List UInt8) (k : Bool) (ls ms : List (List UInt8 × Bool)) (c : UInt8) :
    Rd.take ⟨l, k, ls ++ ms⟩ c = ⟨(Rd.take ⟨l, k, ms⟩ c).rest, (Rd.take ⟨l, k, ms⟩ c).skip, ls ++ (Rd.take ⟨l, k, ms⟩ c).lines⟩ := by
  unfold Rd.take
  dsimp only
  split
  · simp
  · split <;> simp

theorem Rd.feed_shift (x : List UInt8) : ∀ (l : List UInt8) (k : Bool) (ls ms : List (List UInt8 × Bool)),
    Rd.feed ⟨l, k, ls ++ ms⟩ x = ⟨(Rd.feed ⟨l, k, ms⟩ x).rest, (Rd.feed ⟨l, k, ms⟩ x).skip, ls ++ (Rd.feed ⟨l, k, ms⟩ x).lines⟩ := by
  induction x with
  | nil => intro l k ls ms; rfl
  | cons c x ih =>
    intro l k ls ms
    simp only [Rd.feed, List.foldl_cons]
    rw [Rd.take_shift]
    exact ih _ _ _ _

/-- One part more. -/
theorem Rd.feed_more (r : Rd) (x : List UInt8) : r.feed x = ⟨((Rd.of r.rest r.skip).feed x).rest, ((Rd.of r.rest r.skip).feed x).skip, r.lines ++ ((Rd.of r.rest r.skip).feed x).lines⟩ := by
  have := Rd.feed_shift x r.rest r.skip r.lines []
  rw [List.append_nil] at this
  exact this
end Go.Proofs.Ytnhmhdfnphlngaa
