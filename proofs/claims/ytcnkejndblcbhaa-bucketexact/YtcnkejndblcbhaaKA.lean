/-
  A bucket of whole numbers, whether it may be; the small functions of package bucket, of the page and of the statements' own text, walked.
  Conditions: as each theorem states them.
-/
import Derived.Test.YtcnkejndblcbhaaRows
import Derived.WalkKit
import Derived.WalkSpells
import Derived.Defers
import Derived.Recover
import Derived.Lib.Hide
import Derived.Below
import Derived.Deep.QuietTactic
import Derived.Test.YtcnkejndblcbhaaBP
namespace Go.Proofs.Ytcnkejndblcbhaa
open Go.RowKit

/-- A bucket of any whole numbers. -/
structure BI where
  l : Int
  c : Int
  f : Int
  e : Int
  d : Int
/-- Its value, and the block that holds it. -/
def bV (b : BI) : Value := .agg #[.int .i64 b.l, .int .i64 b.c, .int .i64 b.f, .int .i64 b.e, .int .i64 b.d]
def inB (x lo hi : Int) : Bool := decide (lo ≤ x) && decide (x ≤ hi)
/-- May it be? -/
def okB (b : BI) : Bool := inB b.c 0 1048576 && inB b.f 0 1048576 && inB b.l 0 b.c && inB b.e 1 1048576 && inB b.d 0 (b.e - 1)
theorem inB_iff {x lo hi : Int} : inB x lo hi = true ↔ lo ≤ x ∧ x ≤ hi := by
  unfold inB
  rw [Bool.and_eq_true, decide_eq_true_eq, decide_eq_true_eq]
theorem inB_not {x lo hi : Int} : inB x lo hi = false ↔ ¬ (lo ≤ x ∧ x ≤ hi) := by
  rw [← inB_iff]
  cases inB x lo hi <;> simp
theorem okB_iff {b : BI} : okB b = true ↔ (0 ≤ b.c ∧ b.c ≤ 1048576) ∧ (0 ≤ b.f ∧ b.f ≤ 1048576) ∧ (0 ≤ b.l ∧ b.l ≤ b.c) ∧ (1 ≤ b.e ∧ b.e ≤ 1048576) ∧ 0 ≤ b.d ∧ b.d ≤ b.e - 1 := by
  unfold okB
  simp only [Bool.and_eq_true, inB_iff, and_assoc]

theorem wrap_id {x : Int} (h1 : -9223372036854775808 ≤ x) (h2 : x < 9223372036854775808) : IntKind.i64.wrap x = x := by
  have : IntKind.i64.wrap x = (x + 9223372036854775808) % 18446744073709551616 - 9223372036854775808 := by
    simp [IntKind.wrap, IntKind.bits, IntKind.signed]
    split <;> omega
  omega
theorem below_drewN {B : Nat} {a w : World} (h : Below B a w) (n : Nat) : Below B a (w.drewN n) := ⟨h.os, h.tape, h.output, h.size, h.block⟩
theorem num_any (n : Int) (w : World) : Calls Try.prog 8 #[.int .i64 n] w fun e w' => e = .returned (.int .i64 n) ∧ w' = w := by
  go_enter Try.func8, Try.ntmps8
  go_wp2
  go_ret
  exact ⟨rfl, rfl⟩
theorem within_any (x lo hi : Int) (w : World) : Calls Try.prog 38 #[.int .i64 x, .int .i64 lo, .int .i64 hi] w fun e w' => e = .returned (.bool (inB x lo hi)) ∧ w' = w := by
  by_cases h1 : lo ≤ x
  · by_cases h2 : x ≤ hi
    · have HE := Lib.hid (inB_iff.2 ⟨h1, h2⟩)
      go_enter Try.func38, Try.ntmps38
      go_wp2_with fail
      go_ret
      exact ⟨by first | rfl | (rw [HE.out]; rfl), rfl⟩
    · have h2d : decide (x ≤ hi) = false := decide_eq_false h2
      have HE := Lib.hid (inB_not.2 (fun h => h2 h.2 : ¬ (lo ≤ x ∧ x ≤ hi)))
      go_enter Try.func38, Try.ntmps38
      go_wp2_with fail
      go_ret
      exact ⟨by first | rfl | (rw [HE.out]; rfl), rfl⟩
  · have h1d : decide (lo ≤ x) = false := decide_eq_false h1
    have HE := Lib.hid (inB_not.2 (fun h => h1 h.1 : ¬ (lo ≤ x ∧ x ≤ hi)))
    go_enter Try.func38, Try.ntmps38
    go_wp2_with fail
    go_ret
    exact ⟨by first | rfl | (rw [HE.out]; rfl), rfl⟩
theorem rNum_any (x hi : Int) (w : World) : Calls Try.prog 10 #[.int .i64 x, .int .i64 hi] w fun e w' => e = .returned (.bool (inB x 0 hi)) ∧ w' = w := by
  by_cases h1 : 0 ≤ x
  · by_cases h2 : x ≤ hi
    · have HE := Lib.hid (inB_iff.2 ⟨h1, h2⟩)
      go_enter Try.func10, Try.ntmps10
      go_wp2_with fail
      go_ret
      exact ⟨by first | rfl | (rw [HE.out]; rfl), rfl⟩
    · have h2d : decide (x ≤ hi) = false := decide_eq_false h2
      have HE := Lib.hid (inB_not.2 (fun h => h2 h.2 : ¬ (0 ≤ x ∧ x ≤ hi)))
      go_enter Try.func10, Try.ntmps10
      go_wp2_with fail
      go_ret
      exact ⟨by first | rfl | (rw [HE.out]; rfl), rfl⟩
  · have h1d : decide (0 ≤ x) = false := decide_eq_false h1
    have HE := Lib.hid (inB_not.2 (fun h => h1 h.1 : ¬ (0 ≤ x ∧ x ≤ hi)))
    go_enter Try.func10, Try.ntmps10
    go_wp2_with fail
    go_ret
    exact ⟨by first | rfl | (rw [HE.out]; rfl), rfl⟩

/-- A number brought from 0 below another one. -/
def modI (i n : Int) : Int := i % 18446744073709551616 % n
theorem modI_in {i n : Int} (h : 0 < n) : 0 ≤ modI i n ∧ modI i n < n := by
  unfold modI
  exact ⟨Int.emod_nonneg _ (by omega), Int.emod_lt_of_pos _ h⟩
theorem lWithin_any (i n : Int) (w : World) (h1 : 0 < n) (h2 : n < 9223372036854775808) : Calls Try.prog 11 #[.int .i64 i, .int .i64 n] w fun e w' => e = .returned (.int .i64 (modI i n)) ∧ w' = w := by
  obtain ⟨m1, m2⟩ := modI_in (i := i) h1
  have hw : (IntKind.u64.wrap i).tmod n = modI i n := by
    have : IntKind.u64.wrap i = i % 18446744073709551616 := by simp [IntKind.wrap, IntKind.bits, IntKind.signed]
    rw [this, Int.tmod_eq_emod_of_nonneg (Int.emod_nonneg _ (by decide))]
    rfl
  have hn0 : n ≠ 0 := by omega
  generalize modI i n = m at *
  go_enter Try.func11, Try.ntmps11
  go_wp2_with fail
  go_ret
  exact ⟨rfl, rfl⟩

/-- A fault of the package's own. -/
def wrongK (n : Int) : Ending := .panicked [{ v := .iface 52 (.agg #[.int .i64 n]), recovered := false }]
/-- How what is demanded ends. -/
def endD (q : Bool) (n : Int) : Ending := if q then .returned (.tuple #[]) else wrongK n
theorem endD_t (n : Int) : endD true n = .returned (.tuple #[]) := rfl
theorem endD_f (n : Int) : endD false n = wrongK n := rfl
theorem demand_any (q : Bool) (n : Int) (w : World) : Calls Try.prog 33 #[.bool q, .int .i64 n] w fun e w' => e = endD q n ∧ w' = w := by
  cases q with
  | true =>
    go_enter Try.func33, Try.ntmps33
    go_wp2_with fail
    go_end0
    exact ⟨rfl, rfl⟩
  | false =>
    go_enter Try.func33, Try.ntmps33
    go_wp2_with fail
    exact ⟨rfl, rfl, rfl⟩
end Go.Proofs.Ytcnkejndblcbhaa
