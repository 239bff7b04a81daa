/-
  The small functions of package disk and of the statements' own text, walked; how what is demanded ends; catch, whatever the function that it runs has written.
  Conditions: as each theorem states them.
-/
import Derived.Test.YtahmihdahgbhkaaDP
import Derived.Test.YtahmihdahgbhkaaRows
import Derived.WalkKit
import Derived.WalkSpells
import Derived.Defers
import Derived.Recover
import Derived.Lib.Hide
import Derived.Below
import Derived.Deep.QuietTactic
namespace Go.Proofs.Ytahmihdahgbhkaa
open Go.RowKit

def inB (x lo hi : Int) : Bool := decide (lo ≤ x) && decide (x ≤ hi)
theorem inB_iff {x lo hi : Int} : inB x lo hi = true ↔ lo ≤ x ∧ x ≤ hi := by
  unfold inB
  rw [Bool.and_eq_true, decide_eq_true_eq, decide_eq_true_eq]
theorem inB_not {x lo hi : Int} : inB x lo hi = false ↔ ¬ (lo ≤ x ∧ x ≤ hi) := by
  rw [← inB_iff]
  cases inB x lo hi <;> simp
theorem wrap_id {x : Int} (h1 : -9223372036854775808 ≤ x) (h2 : x < 9223372036854775808) : IntKind.i64.wrap x = x := by
  have : IntKind.i64.wrap x = (x + 9223372036854775808) % 18446744073709551616 - 9223372036854775808 := by
    simp [IntKind.wrap, IntKind.bits, IntKind.signed]
    split <;> omega
  omega
theorem below_drewN {B : Nat} {a w : World} (h : Below B a w) (n : Nat) : Below B a (w.drewN n) := ⟨h.os, h.tape, h.output, h.size, h.block⟩
theorem num_any (n : Int) (w : World) : Calls Try.prog 12 #[.int .i64 n] w fun e w' => e = .returned (.int .i64 n) ∧ w' = w := by
  go_enter Try.func12, Try.ntmps12
  go_wp2
  go_ret
  exact ⟨rfl, rfl⟩
theorem within_any (x lo hi : Int) (w : World) : Calls Try.prog 57 #[.int .i64 x, .int .i64 lo, .int .i64 hi] w fun e w' => e = .returned (.bool (inB x lo hi)) ∧ w' = w := by
  by_cases h1 : lo ≤ x
  · by_cases h2 : x ≤ hi
    · have HE := Lib.hid (inB_iff.2 ⟨h1, h2⟩)
      go_enter Try.func57, Try.ntmps57
      go_wp2_with fail
      go_ret
      exact ⟨by first | rfl | (rw [HE.out]; rfl), rfl⟩
    · have h2d : decide (x ≤ hi) = false := decide_eq_false h2
      have HE := Lib.hid (inB_not.2 (fun h => h2 h.2 : ¬ (lo ≤ x ∧ x ≤ hi)))
      go_enter Try.func57, Try.ntmps57
      go_wp2_with fail
      go_ret
      exact ⟨by first | rfl | (rw [HE.out]; rfl), rfl⟩
  · have h1d : decide (lo ≤ x) = false := decide_eq_false h1
    have HE := Lib.hid (inB_not.2 (fun h => h1 h.1 : ¬ (lo ≤ x ∧ x ≤ hi)))
    go_enter Try.func57, Try.ntmps57
    go_wp2_with fail
    go_ret
    exact ⟨by first | rfl | (rw [HE.out]; rfl), rfl⟩
/-- A number brought from 0 below another one. -/
def modI (i n : Int) : Int := i % 18446744073709551616 % n
theorem modI_in {i n : Int} (h : 0 < n) : 0 ≤ modI i n ∧ modI i n < n := by
  unfold modI
  exact ⟨Int.emod_nonneg _ (by omega), Int.emod_lt_of_pos _ h⟩
theorem lWithin_any (i n : Int) (w : World) (h1 : 0 < n) (h2 : n < 9223372036854775808) : Calls Try.prog 15 #[.int .i64 i, .int .i64 n] w fun e w' => e = .returned (.int .i64 (modI i n)) ∧ w' = w := by
  obtain ⟨m1, m2⟩ := modI_in (i := i) h1
  have hw : (IntKind.u64.wrap i).tmod n = modI i n := by
    have : IntKind.u64.wrap i = i % 18446744073709551616 := by simp [IntKind.wrap, IntKind.bits, IntKind.signed]
    rw [this, Int.tmod_eq_emod_of_nonneg (Int.emod_nonneg _ (by decide))]
    rfl
  have hn0 : n ≠ 0 := by omega
  generalize modI i n = m at *
  go_enter Try.func15, Try.ntmps15
  go_wp2_with fail
  go_ret
  exact ⟨rfl, rfl⟩

/-- A fault of the package's own. -/
def wrongK (n : Int) : Ending := .panicked [{ v := .iface 92 (.agg #[.int .i64 n]), recovered := false }]
/-- How what answers nothing ends: 0 is no fault. -/
def endE (n : Int) : Ending := if n = 0 then .returned (.tuple #[]) else wrongK n
theorem endE_0 : endE 0 = .returned (.tuple #[]) := rfl
theorem endE_no {n : Int} (h : n ≠ 0) : endE n = wrongK n := if_neg h
/-- What is demanded, and the error where it does not hold. -/
def dem (q : Bool) (n : Int) : Int := if q then 0 else n
theorem demand_ok (n : Int) (w : World) : Calls Try.prog 55 #[.bool true, .int .i64 n] w fun e w' => e = .returned (.tuple #[]) ∧ w' = w := by
  go_enter Try.func55, Try.ntmps55
  go_wp2_with fail
  go_end0
  exact ⟨rfl, rfl⟩
theorem demand_no (n : Int) (w : World) : Calls Try.prog 55 #[.bool false, .int .i64 n] w fun e w' => e = wrongK n ∧ w' = w := by
  go_enter Try.func55, Try.ntmps55
  go_wp2_with fail
  exact ⟨rfl, rfl, rfl⟩

theorem caught_frame (a b : Value) : (#[a] ++ ((Array.replicate 16 undef).setIfInBounds 3 b).setIfInBounds 0 b) = #[a, b, undef, undef, b, undef, undef, undef, undef, undef, undef, undef, undef, undef, undef, undef, undef] := rfl

theorem caught_idle (p : Addr) (w : World) :
    CallsD Try.prog 54 #[.pointer (some p)] .returning w fun e u' w' => e = .returned (.tuple #[]) ∧ u' = .returning ∧ w' = w := by
  refine callsD_of_wpS Try.func54 rfl fun c₀ cs hu => ?_
  apply wpS_seq
  apply wpS_region
  simp [wpOpsS, go_sem, recoverD, hu, Try.ntmps54, Exit.thenS]
  rw [caught_frame]
  refine wpS_of_wp ?_
  go_wp2
  cases c₀
  simp_all [bodyPostS, results, Try.results54]

theorem caught_fault (p : Addr) (x n : Int) (w : World) (hc : w.cell? p = some (.int .i64 x)) (hz : w.frozen? p = false) (hp : p.block < w.heap.size) :
    CallsD Try.prog 54 #[.pointer (some p)] (.panicking [{ v := .iface 92 (.agg #[.int .i64 n]), recovered := false }]) w fun e u' w' =>
      e = .returned (.tuple #[]) ∧ u' = .panicking [{ v := .iface 92 (.agg #[.int .i64 n]), recovered := true }] ∧ w' = (w.alloc (.cells #[.int .i64 n] 92)).setCell p (.int .i64 n) := by
  have hta : ∀ (v : Value) (w : World), (Instr.typeAssert (.iface 92 v) 20 92 true).run Try.prog w = .ok (.tuple #[v, .bool true]) w := fun _ _ => by kernel_rfl
  have hc' : ∀ o, (w.alloc o).cell? p = some (.int .i64 x) := fun o => (World.cell?_alloc_lt w o p hp).trans hc
  have hz' : ∀ o, (w.alloc o).frozen? p = false := fun o => by
    rw [← hz]
    exact World.frozen?_of_block (Below.heap_alloc w o p.block hp)
  refine callsD_of_wpS Try.func54 rfl fun c₀ cs hu => ?_
  apply wpS_seq
  apply wpS_region
  simp [wpOpsS, go_sem, recoverD, hu, Try.ntmps54, Exit.thenS]
  rw [caught_frame]
  refine wpS_of_wp ?_
  go_wp2
  exact ⟨rfl, _, rfl, .tuple #[], by simp [results, Try.results54, go_sem], rfl, rfl, rfl⟩

/-- catch where the function that it runs returns. -/
theorem catch_ret (f : FuncId) (cap : Array Value) (w : World) (R : World → Prop) (hent : ∀ w, (callFunc f cap).run Try.prog w = .ok (.enter f cap) w)
    (h : Calls Try.prog f cap (w.alloc (.cells #[.int .i64 0] 28)) fun e w' => e = .returned (.tuple #[]) ∧ R w' ∧ w'.heap[w.heap.size]? = some (.cells #[.int .i64 0] 28 (0, 0))) :
    Calls Try.prog 37 #[.func (.func f) #[] cap] w fun e w' => e = .returned (.int .i64 0) ∧ ∃ w1, R w1 ∧ w' = w1.setCell ⟨w.heap.size, 0, none⟩ (.int .i64 0) := by
  have hmf : ∀ (fn : Fn) (first cap : Array Value) (w : World), (Instr.makeFunc fn first cap).run Try.prog w = .ok (.func fn first cap) w := fun _ _ _ _ => rfl
  have H : Hid (Calls Try.prog f cap (w.alloc (.cells #[.int .i64 0] 28)) fun e w' => e = .returned (.tuple #[]) ∧ R w' ∧ w'.heap[w.heap.size]? = some (.cells #[.int .i64 0] 28 (0, 0))) := h
  clear h
  go_enter_defers Try.func37, Try.ntmps37
  go_wp2_with fail
  refine H.out.mono ?_
  rintro e w1 ⟨rfl, hR, hcell⟩
  have hc : w1.cell? ⟨w.heap.size, 0, none⟩ = some (.int .i64 0) := by simp [World.cell?, hcell]
  have hz : w1.frozen? ⟨w.heap.size, 0, none⟩ = false := by simp [World.frozen?, hcell]
  have HC := (show Hid _ from hcell)
  clear hcell H
  go_wp2
  refine leaves_cons (f := 54) (args := #[.pointer (some ⟨w.heap.size, 0, none⟩)]) (by simp) (by simp [go_sem]) ?_
  refine (caught_idle ⟨w.heap.size, 0, none⟩ _).mono ?_
  rintro e u' w'' ⟨rfl, rfl, rfl⟩
  refine ⟨.int .i64 0, ?_, rfl, w1, hR, rfl⟩
  have hc2 : (w1.setCell ⟨w.heap.size, 0, none⟩ (.int .i64 0)).cell? ⟨w.heap.size, 0, none⟩ = some (.int .i64 0) := by
    have h1 := HC.out
    simp only [World.cell?, World.setCell, Array.getElem?_modify, if_true, h1]
    rfl
  simp [results, Try.results37, go_sem, hc2]

/-- catch where the function that it runs panics with a fault. -/
theorem catch_fault (f : FuncId) (cap : Array Value) (n : Int) (w : World) (R : World → Prop) (hent : ∀ w, (callFunc f cap).run Try.prog w = .ok (.enter f cap) w)
    (h : Calls Try.prog f cap (w.alloc (.cells #[.int .i64 0] 28)) fun e w' => e = .panicked [{ v := .iface 92 (.agg #[.int .i64 n]), recovered := false }] ∧ R w' ∧ w'.heap[w.heap.size]? = some (.cells #[.int .i64 0] 28 (0, 0))) :
    Calls Try.prog 37 #[.func (.func f) #[] cap] w fun e w' => e = .returned (.int .i64 n) ∧ ∃ w1, R w1 ∧ w' = (w1.alloc (.cells #[.int .i64 n] 92)).setCell ⟨w.heap.size, 0, none⟩ (.int .i64 n) := by
  have hmf : ∀ (fn : Fn) (first cap : Array Value) (w : World), (Instr.makeFunc fn first cap).run Try.prog w = .ok (.func fn first cap) w := fun _ _ _ _ => rfl
  have H : Hid (Calls Try.prog f cap (w.alloc (.cells #[.int .i64 0] 28)) fun e w' => e = .panicked [{ v := .iface 92 (.agg #[.int .i64 n]), recovered := false }] ∧ R w' ∧ w'.heap[w.heap.size]? = some (.cells #[.int .i64 0] 28 (0, 0))) := h
  clear h
  go_enter_defers Try.func37, Try.ntmps37
  go_wp2_with fail
  refine H.out.mono ?_
  rintro e w1 ⟨rfl, hR, hcell⟩
  have hlt : w.heap.size < w1.heap.size := (Array.getElem?_eq_some_iff.1 hcell).1
  have hc : w1.cell? ⟨w.heap.size, 0, none⟩ = some (.int .i64 0) := by simp [World.cell?, hcell]
  have hz : w1.frozen? ⟨w.heap.size, 0, none⟩ = false := by simp [World.frozen?, hcell]
  have HC := (show Hid _ from hcell)
  clear hcell H
  go_wp2
  refine leaves_cons (f := 54) (args := #[.pointer (some ⟨w.heap.size, 0, none⟩)]) (by simp) (by simp [go_sem]) ?_
  refine (caught_fault ⟨w.heap.size, 0, none⟩ 0 n _ hc hz hlt).mono ?_
  rintro e u' w'' ⟨rfl, rfl, rfl⟩
  refine ⟨.int .i64 n, ?_, rfl, w1, hR, rfl⟩
  have hc2 : ((w1.alloc (.cells #[.int .i64 n] 92)).setCell ⟨w.heap.size, 0, none⟩ (.int .i64 n)).cell? ⟨w.heap.size, 0, none⟩ = some (.int .i64 n) := by
    have h1 := HC.out
    have h2 : (w1.alloc (.cells #[.int .i64 n] 92)).heap[w.heap.size]? = some (.cells #[.int .i64 0] 28) := (Below.heap_alloc w1 _ _ hlt).trans h1
    simp only [World.cell?, World.setCell, Array.getElem?_modify, if_true, h2]
    rfl
  simp [results, Try.results37, go_sem, hc2]

/-- All blocks that are there are as they were, but for those that E names. -/
structure Kept (E : Nat → Prop) (w w' : World) : Prop where
  os : w'.os = w.os
  tape : w'.tape = w.tape
  output : w'.output = w.output
  size : w.heap.size ≤ w'.heap.size
  block : ∀ k, k < w.heap.size → ¬ E k → w'.heap[k]? = w.heap[k]?
section
variable {E F : Nat → Prop} {w w1 w' : World}
theorem Kept.refl : Kept E w w := ⟨rfl, rfl, rfl, Nat.le_refl _, fun _ _ _ => rfl⟩
theorem Kept.trans (h : Kept E w w1) (k : Kept E w1 w') : Kept E w w' :=
  ⟨k.os.trans h.os, k.tape.trans h.tape, k.output.trans h.output, Nat.le_trans h.size k.size, fun j hj hn => (k.block j (Nat.lt_of_lt_of_le hj h.size) hn).trans (h.block j hj hn)⟩
theorem Kept.mono (h : Kept E w w') (hE : ∀ k, k < w.heap.size → E k → F k) : Kept F w w' := ⟨h.os, h.tape, h.output, h.size, fun k hk hn => h.block k hk (fun e => hn (hE k hk e))⟩
theorem Kept.of (h : Below w.heap.size w w') : Kept E w w' := ⟨h.os, h.tape, h.output, h.size, fun k hk _ => h.block k hk⟩
theorem Kept.below {B : Nat} (h : Kept E w w') (hB : B ≤ w.heap.size) (hE : ∀ k, k < B → ¬ E k) : Below B w w' := ⟨h.os, h.tape, h.output, h.size, fun k hk => h.block k (Nat.lt_of_lt_of_le hk hB) (hE k hk)⟩
theorem Kept.alloc (h : Kept E w w') (o : Obj) : Kept E w (w'.alloc o) :=
  h.trans ⟨rfl, rfl, rfl, by simp, fun k hk _ => Below.heap_alloc w' o k hk⟩
theorem Kept.setCell (h : Kept E w w') (p : Addr) (hp : w.heap.size ≤ p.block ∨ E p.block) (u : Value) : Kept E w (w'.setCell p u) :=
  ⟨h.os, h.tape, h.output, by simpa [World.setCell] using h.size, fun k hk hm => by
    rw [Below.heap_setCell _ _ _ _ (fun e => by subst e; rcases hp with hp | hp; omega; exact hm hp)]
    exact h.block k hk hm⟩
theorem Kept.grown {row : Option Nat} (h : Kept E w w1) (g : w1.grownBy w' row) (hr : ∀ k, row = some k → w.heap.size ≤ k ∨ E k) : Kept E w w' :=
  ⟨g.os.trans h.os, g.tape.trans h.tape, g.output.trans h.output, Nat.le_trans h.size g.size, fun k hk hm =>
    (g.block k (Nat.lt_of_lt_of_le hk h.size) (fun e => by rcases hr k e.symm with hp | hp; omega; exact hm hp)).trans (h.block k hk hm)⟩
theorem Kept.drewN (h : Kept E w w') (n : Nat) : Kept E w (w'.drewN n) := ⟨h.os, h.tape, h.output, h.size, h.block⟩
end

/-- catch, whatever the function that it runs has written: its own variable aside, all is as that function left it. -/
theorem catch_any (f : FuncId) (cap : Array Value) (n : Int) (w : World) (R : World → Prop) (hent : ∀ w, (callFunc f cap).run Try.prog w = .ok (.enter f cap) w)
    (h : Calls Try.prog f cap (w.alloc (.cells #[.int .i64 0] 28)) fun e w' => e = endE n ∧ R w' ∧ w'.heap[w.heap.size]? = some (.cells #[.int .i64 0] 28 (0, 0))) :
    Calls Try.prog 37 #[.func (.func f) #[] cap] w fun e w' => e = .returned (.int .i64 n) ∧ ∃ w1, R w1 ∧ Kept (· = w.heap.size) w1 w' := by
  by_cases hn : n = 0
  · subst hn
    rw [endE_0] at h
    refine (catch_ret f cap w R hent h).mono ?_
    rintro e w' ⟨rfl, w1, hR, rfl⟩
    exact ⟨rfl, w1, hR, Kept.setCell (E := (· = w.heap.size)) Kept.refl ⟨w.heap.size, 0, none⟩ (.inr rfl) _⟩
  · rw [endE_no hn] at h
    refine (catch_fault f cap n w R hent h).mono ?_
    rintro e w' ⟨rfl, w1, hR, rfl⟩
    exact ⟨rfl, w1, hR, Kept.setCell (E := (· = w.heap.size)) (Kept.refl.alloc _) ⟨w.heap.size, 0, none⟩ (.inr rfl) _⟩
end Go.Proofs.Ytahmihdahgbhkaa
