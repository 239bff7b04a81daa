/-
  Path of package addr and the statements' own small functions, walked.
  Conditions: as each theorem states them.
-/
import Derived.Test.YtlnpenmcpcmidabN
namespace Go.Proofs.Ytlnpenmcpcmidab
open Go.RowKit

/-- What Path answers, whole. -/
def pathV (o : Option (Option (List UInt8 × List UInt8))) : Value := .tuple #[.agg #[.string ⟨(pBox o).1.toArray⟩, .string ⟨(pBox o).2.toArray⟩], .bool (pNull o), .int .i64 (pErr o)]

theorem wake_box : parseL [65, 46, 98, 64, 69, 88, 46, 111, 114, 103] = some ([65, 46, 98], [101, 120, 46, 111, 114, 103]) := by decide +kernel

set_option maxHeartbeats 1000000 in
theorem wakes_any (w : World) : Calls Try.prog 7 #[] w fun e w' => e = .returned (.bool true) ∧ Below w.heap.size w w' := by
  have h := parse_any [65, 46, 98, 64, 69, 88, 46, 111, 114, 103] w (by decide)
  rw [wake_box] at h
  have HP := Lib.hid (show Calls Try.prog 10 #[.string ⟨#[65, 46, 98, 64, 69, 88, 46, 111, 114, 103]⟩] w fun e w' => e = .returned (.tuple #[.agg #[.string ⟨#[65, 46, 98]⟩, .string ⟨#[101, 120, 46, 111, 114, 103]⟩], .int .i64 0]) ∧ Below w.heap.size w w' from h)
  clear h
  go_enter Try.func7, Try.ntmps7
  go_wp2_with fail
  refine Calls.mono HP.out ?_
  rintro e w1 ⟨rfl, hb⟩
  have HB := Lib.hid (hb.alloc hb.size (.cells #[.string ⟨#[65, 46, 98]⟩, .string ⟨#[101, 120, 46, 111, 114, 103]⟩] 29))
  clear hb
  go_wp2_with fail
  refine (num_any _ _).mono ?_
  rintro e w2 ⟨rfl, rfl⟩
  go_wp2_with fail
  go_ret
  exact ⟨rfl, HB.out⟩

/-- What heavy tells. -/
def HeavyEnd (l d s : List UInt8) (e : Ending) : Prop := e = .returned (.bool true) ∨ (e = .returned (.bool false) ∧ l.length + d.length ≤ 2000 ∧ s.length ≤ 2000)
end Go.Proofs.Ytlnpenmcpcmidab
