/-
  Package grey's small functions, the pages' Num, strings.Compare, walked.
  Conditions: as each theorem states them.
-/
import Derived.Test.YtaglobnfdgencaaDoorGA
namespace Go.Proofs.YtaglobnfdgencaaDoor
open Go.RowKit

theorem wrap_id {x : Int} (h1 : -9223372036854775808 ≤ x) (h2 : x < 9223372036854775808) : IntKind.i64.wrap x = x := by
  have : IntKind.i64.wrap x = (x + 9223372036854775808) % 18446744073709551616 - 9223372036854775808 := by
    simp [IntKind.wrap, IntKind.bits, IntKind.signed]
    split <;> omega
  omega
theorem num_any (n : Int) (w : World) : Calls Tryd.prog 6 #[.int .i64 n] w fun e w' => e = .returned (.int .i64 n) ∧ w' = w := by
  go_enter Tryd.func6, Tryd.ntmps6
  go_wp2
  go_ret
  exact ⟨rfl, rfl⟩
theorem tick_any (x : Int) (w : World) : Calls Tryd.prog 21 #[.int .i64 x] w fun e w' => e = .returned (.bool (inB x 0 1099511627776)) ∧ w' = w := by
  by_cases h1 : 0 ≤ x
  · by_cases h2 : x ≤ 1099511627776
    · have HE := Lib.hid (inB_iff.2 ⟨h1, h2⟩)
      go_enter Tryd.func21, Tryd.ntmps21
      go_wp2_with fail
      go_ret
      exact ⟨by first | rfl | (rw [HE.out]; rfl), rfl⟩
    · have h2d : decide (x ≤ 1099511627776) = false := decide_eq_false h2
      have HE := Lib.hid (inB_not.2 (fun h => h2 h.2 : ¬ (0 ≤ x ∧ x ≤ 1099511627776)))
      go_enter Tryd.func21, Tryd.ntmps21
      go_wp2_with fail
      go_ret
      exact ⟨by first | rfl | (rw [HE.out]; rfl), rfl⟩
  · have h1d : decide (0 ≤ x) = false := decide_eq_false h1
    have HE := Lib.hid (inB_not.2 (fun h => h1 h.1 : ¬ (0 ≤ x ∧ x ≤ 1099511627776)))
    go_enter Tryd.func21, Tryd.ntmps21
    go_wp2_with fail
    go_ret
    exact ⟨by first | rfl | (rw [HE.out]; rfl), rfl⟩
theorem key_any (k : ByteArray) (w : World) : Calls Tryd.prog 20 #[.string k] w fun e w' => e = .returned (.bool (okK k)) ∧ w' = w := by
  have HU := Lib.hid (show okK k = inB (k.size : Int) 1 700 from rfl)
  obtain ⟨z, hz⟩ : ∃ z : Int, (k.size : Int) = z := ⟨_, rfl⟩
  rw [hz] at HU
  by_cases h1 : 1 ≤ z
  · by_cases h2 : z ≤ 700
    · have HE := Lib.hid (inB_iff.2 ⟨h1, h2⟩)
      go_enter Tryd.func20, Tryd.ntmps20
      go_wp2_with fail
      go_ret
      exact ⟨by rw [HU.out, HE.out]; rfl, rfl⟩
    · have h2d : decide (z ≤ 700) = false := decide_eq_false h2
      have HE := Lib.hid (inB_not.2 (fun h => h2 h.2 : ¬ (1 ≤ z ∧ z ≤ 700)))
      go_enter Tryd.func20, Tryd.ntmps20
      go_wp2_with fail
      go_ret
      exact ⟨by rw [HU.out, HE.out]; rfl, rfl⟩
  · have h1d : decide (1 ≤ z) = false := decide_eq_false h1
    have HE := Lib.hid (inB_not.2 (fun h => h1 h.1 : ¬ (1 ≤ z ∧ z ≤ 700)))
    go_enter Tryd.func20, Tryd.ntmps20
    go_wp2_with fail
    go_ret
    exact ⟨by rw [HU.out, HE.out]; rfl, rfl⟩
theorem entry_at (g : Gy) (w : World) : Calls Tryd.prog 27 #[gV g] w fun e w' => e = .returned (.bool (okG g)) ∧ w' = w.alloc (.cells #[.string g.k, .int .i64 g.b, .int .i64 g.l, .bool g.p] 53) := by
  have H1 := Lib.hid (fun W => key_any g.k W)
  have H2 := Lib.hid (fun W => tick_any g.b W)
  have H3 := Lib.hid (fun W => tick_any g.l W)
  have HE := Lib.hid (show okG g = (okK g.k && inB g.b 0 1099511627776 && inB g.l 0 1099511627776 && decide (g.b ≤ g.l)) from rfl)
  unfold gV
  generalize okK g.k = q1 at *
  generalize inB g.b 0 1099511627776 = q2 at *
  generalize inB g.l 0 1099511627776 = q3 at *
  obtain ⟨q4, hq4⟩ : ∃ q, decide (g.b ≤ g.l) = q := ⟨_, rfl⟩
  rw [hq4] at HE
  cases q1 with
  | false =>
    go_enter Tryd.func27, Tryd.ntmps27
    go_wp2_with fail
    refine Calls.mono (H1.out _) ?_
    rintro e w' ⟨rfl, he⟩
    have he := he.symm
    subst he
    go_wp2_with fail
    go_ret
    exact ⟨by rw [HE.out]; rfl, rfl⟩
  | true =>
    cases q2 with
    | false =>
      go_enter Tryd.func27, Tryd.ntmps27
      go_wp2_with fail
      refine Calls.mono (H1.out _) ?_
      rintro e w' ⟨rfl, he⟩
      have he := he.symm
      subst he
      go_wp2_with fail
      refine Calls.mono (H2.out _) ?_
      rintro e w' ⟨rfl, he⟩
      have he := he.symm
      subst he
      go_wp2_with fail
      go_ret
      exact ⟨by rw [HE.out]; rfl, rfl⟩
    | true =>
      cases q3 with
      | false =>
        go_enter Tryd.func27, Tryd.ntmps27
        go_wp2_with fail
        refine Calls.mono (H1.out _) ?_
        rintro e w' ⟨rfl, he⟩
        have he := he.symm
        subst he
        go_wp2_with fail
        refine Calls.mono (H2.out _) ?_
        rintro e w' ⟨rfl, he⟩
        have he := he.symm
        subst he
        go_wp2_with fail
        refine Calls.mono (H3.out _) ?_
        rintro e w' ⟨rfl, he⟩
        have he := he.symm
        subst he
        go_wp2_with fail
        go_ret
        exact ⟨by rw [HE.out]; rfl, rfl⟩
      | true =>
        go_enter Tryd.func27, Tryd.ntmps27
        go_wp2_with fail
        refine Calls.mono (H1.out _) ?_
        rintro e w' ⟨rfl, he⟩
        have he := he.symm
        subst he
        go_wp2_with fail
        refine Calls.mono (H2.out _) ?_
        rintro e w' ⟨rfl, he⟩
        have he := he.symm
        subst he
        go_wp2_with fail
        refine Calls.mono (H3.out _) ?_
        rintro e w' ⟨rfl, he⟩
        have he := he.symm
        subst he
        go_wp2_with fail
        go_ret
        exact ⟨by rw [HE.out]; rfl, rfl⟩

theorem entry_any (g : Gy) (w : World) : Calls Tryd.prog 27 #[gV g] w fun e w' => e = .returned (.bool (okG g)) ∧ Below w.heap.size w w' :=
  (entry_at g w).mono fun _ _ ⟨he, hw⟩ => ⟨he, by rw [hw]; exact (Below.refl _ w).alloc (Nat.le_refl _) _⟩

/-- A fault of the package's own; how what is demanded ends. -/
def wrongK (n : Int) : Ending := .panicked [{ v := .iface 40 (.agg #[.int .i64 n]), recovered := false }]
def endD (q : Bool) : Ending := if q then .returned (.tuple #[]) else wrongK 1
theorem endD_t : endD true = .returned (.tuple #[]) := rfl
theorem demand_any (q : Bool) (w : World) : Calls Tryd.prog 14 #[.bool q] w fun e w' => e = endD q ∧ w' = w := by
  cases q with
  | true =>
    go_enter Tryd.func14, Tryd.ntmps14
    go_wp2_with fail
    go_end0
    exact ⟨rfl, rfl⟩
  | false =>
    go_enter Tryd.func14, Tryd.ntmps14
    go_wp2_with fail
    exact ⟨rfl, rfl, rfl⟩

theorem run_cmp (a b : ByteArray) (w : World) : (callFunc 46 #[.string a, .string b]).run Tryd.prog w = .ok (.value (.int .i64 (cmpK a b))) w := by
  refine (run_callFunc_extern (e := Extern.BytealgCompare.compare) Tryd.func46 (by kernel_rfl) (by kernel_rfl) (by kernel_rfl) (by kernel_rfl) _ w).trans ?_
  rw [Lib.run_compareString]
  rfl
theorem compareString_any (a b : ByteArray) (w : World) : Calls Tryd.prog 38 #[.string a, .string b] w fun e w' => e = .returned (.int .i64 (cmpK a b)) ∧ w' = w := by
  have h := run_cmp a b
  generalize cmpK a b = c at *
  go_enter Tryd.func38, Tryd.ntmps38
  go_wp2
  go_ret
  exact ⟨rfl, rfl⟩
theorem compare_any (a b : ByteArray) (w : World) : Calls Tryd.prog 30 #[.string a, .string b] w fun e w' => e = .returned (.int .i64 (cmpK a b)) ∧ w' = w := by
  have H := Lib.hid (fun W => compareString_any a b W)
  generalize cmpK a b = c at *
  go_enter Tryd.func30, Tryd.ntmps30
  go_wp2_with fail
  refine Calls.mono (H.out _) ?_
  rintro e w' ⟨rfl, he⟩
  have he := he.symm
  subst he
  go_wp2
  go_ret
  exact ⟨rfl, rfl⟩
theorem place1_any (g : Gy) (k : ByteArray) (w : World) : Calls Tryd.prog 29 #[gV g, .string k] w fun e w' => e = .returned (.int .i64 (cmpK g.k k)) ∧ Below w.heap.size w w' := by
  have HA := Lib.hid ((Below.refl _ w).alloc (Nat.le_refl _) (.cells #[.string g.k, .int .i64 g.b, .int .i64 g.l, .bool g.p] 53))
  have H := Lib.hid (fun W => compare_any g.k k W)
  generalize cmpK g.k k = c at *
  unfold gV
  go_enter Tryd.func29, Tryd.ntmps29
  go_wp2_with fail
  refine Calls.mono (H.out _) ?_
  rintro e w' ⟨rfl, he⟩
  have he := he.symm
  subst he
  go_wp2
  go_ret
  exact ⟨rfl, HA.out⟩
end Go.Proofs.YtaglobnfdgencaaDoor
