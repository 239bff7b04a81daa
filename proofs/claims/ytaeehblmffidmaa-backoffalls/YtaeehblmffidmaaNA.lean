/-
  The small functions of package backoff and of the statements' own text, walked; how what is demanded ends.
  Conditions: as each theorem states them.
-/
import Derived.Test.YtaeehblmffidmaaNP
import Derived.WalkKit
import Derived.WalkSpells
import Derived.Defers
import Derived.Recover
import Derived.Lib.Hide
import Derived.Below
import Derived.Deep.QuietTactic
namespace Go.Proofs.Ytaeehblmffidmaa
open Go.RowKit

theorem wrap_id {x : Int} (h1 : -9223372036854775808 ≤ x) (h2 : x < 9223372036854775808) : IntKind.i64.wrap x = x := by
  have : IntKind.i64.wrap x = (x + 9223372036854775808) % 18446744073709551616 - 9223372036854775808 := by
    simp [IntKind.wrap, IntKind.bits, IntKind.signed]
    split <;> omega
  omega
theorem below_drewN {B : Nat} {a w : World} (h : Below B a w) (n : Nat) : Below B a (w.drewN n) := ⟨h.os, h.tape, h.output, h.size, h.block⟩
theorem num_any (n : Int) (w : World) : Calls Try.prog 7 #[.int .i64 n] w fun e w' => e = .returned (.int .i64 n) ∧ w' = w := by
  go_enter Try.func7, Try.ntmps7
  go_wp2
  go_ret
  exact ⟨rfl, rfl⟩
theorem within_any (x lo hi : Int) (w : World) : Calls Try.prog 28 #[.int .i64 x, .int .i64 lo, .int .i64 hi] w fun e w' => e = .returned (.bool (inB x lo hi)) ∧ w' = w := by
  by_cases h1 : lo ≤ x
  · by_cases h2 : x ≤ hi
    · have HE := Lib.hid (inB_iff.2 ⟨h1, h2⟩)
      go_enter Try.func28, Try.ntmps28
      go_wp2_with fail
      go_ret
      exact ⟨by first | rfl | (rw [HE.out]; rfl), rfl⟩
    · have h2d : decide (x ≤ hi) = false := decide_eq_false h2
      have HE := Lib.hid (inB_not.2 (fun h => h2 h.2 : ¬ (lo ≤ x ∧ x ≤ hi)))
      go_enter Try.func28, Try.ntmps28
      go_wp2_with fail
      go_ret
      exact ⟨by first | rfl | (rw [HE.out]; rfl), rfl⟩
  · have h1d : decide (lo ≤ x) = false := decide_eq_false h1
    have HE := Lib.hid (inB_not.2 (fun h => h1 h.1 : ¬ (lo ≤ x ∧ x ≤ hi)))
    go_enter Try.func28, Try.ntmps28
    go_wp2_with fail
    go_ret
    exact ⟨by first | rfl | (rw [HE.out]; rfl), rfl⟩
/-- A number brought from 0 below another one. -/
def modI (i n : Int) : Int := i % 18446744073709551616 % n
theorem modI_in {i n : Int} (h : 0 < n) : 0 ≤ modI i n ∧ modI i n < n := by
  unfold modI
  exact ⟨Int.emod_nonneg _ (by omega), Int.emod_lt_of_pos _ h⟩
theorem lWithin_any (i n : Int) (w : World) (h1 : 0 < n) (h2 : n < 9223372036854775808) : Calls Try.prog 15 #[.int .i64 i, .int .i64 n] w fun e w' => e = .returned (.int .i64 (modI i n)) ∧ w' = w := by
  obtain ⟨m1, m2⟩ := modI_in (i := i) h1
  have hw : (IntKind.u64.wrap i).tmod n = modI i n := by
    have : IntKind.u64.wrap i = i % 18446744073709551616 := by simp [IntKind.wrap, IntKind.bits, IntKind.signed]
    rw [this, Int.tmod_eq_emod_of_nonneg (Int.emod_nonneg _ (by decide))]
    rfl
  have hn0 : n ≠ 0 := by omega
  generalize modI i n = m at *
  go_enter Try.func15, Try.ntmps15
  go_wp2_with fail
  go_ret
  exact ⟨rfl, rfl⟩

/-- A fault of the package's own. -/
def wrongK (n : Int) : Ending := .panicked [{ v := .iface 45 (.agg #[.int .i64 n]), recovered := false }]
/-- How what is demanded ends. -/
def endD (q : Bool) (n : Int) : Ending := if q then .returned (.tuple #[]) else wrongK n
theorem endD_t (n : Int) : endD true n = .returned (.tuple #[]) := rfl
theorem endD_f (n : Int) : endD false n = wrongK n := rfl
theorem demand_any (q : Bool) (w : World) : Calls Try.prog 27 #[.bool q] w fun e w' => e = endD q 1 ∧ w' = w := by
  cases q with
  | true =>
    go_enter Try.func27, Try.ntmps27
    go_wp2_with fail
    go_end0
    exact ⟨rfl, rfl⟩
  | false =>
    go_enter Try.func27, Try.ntmps27
    go_wp2_with fail
    exact ⟨rfl, rfl, rfl⟩
end Go.Proofs.Ytaeehblmffidmaa
