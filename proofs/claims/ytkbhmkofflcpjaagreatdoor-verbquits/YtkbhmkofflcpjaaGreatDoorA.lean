/-
  The small functions of package addr and of the statements' text, walked: num, catch in its two modes.
  No condition beyond those that each theorem states.
-/
import Derived.Test.YtkbhmkofflcpjaaGreatDoorRows
import Derived.WalkKit
import Derived.WalkSpells
import Derived.Defers
import Derived.Recover
import Derived.Lib.Hide
import Derived.Test.YtkbhmkofflcpjaaGreatDoorP
namespace Go.Proofs.YtkbhmkofflcpjaaGreatDoor
open Go.RowKit

theorem num_any (n : Int) (w : World) : Calls Tryz.prog 19 #[.int .i64 n] w fun e w' => e = .returned (.int .i64 n) ∧ w = w' := by
  go_enter Tryz.func19, Tryz.ntmps19
  go_wp2
  go_ret
  exact ⟨rfl, rfl⟩

theorem byte_ne {c d : UInt8} (h : c ≠ d) : ((c.toNat : Int) == (d.toNat : Int)) = false := by
  rw [beq_eq_false_iff_ne]
  intro e
  exact h (UInt8.toNat_inj.1 (by omega))

theorem caught_frame (a b : Value) : (#[a] ++ ((Array.replicate 16 undef).setIfInBounds 3 b).setIfInBounds 0 b) = #[a, b, undef, undef, b, undef, undef, undef, undef, undef, undef, undef, undef, undef, undef, undef, undef] := rfl

theorem caught_idle (p : Addr) (w : World) :
    CallsD Tryz.prog 98 #[.pointer (some p)] .returning w fun e u' w' => e = .returned (.tuple #[]) ∧ u' = .returning ∧ w' = w := by
  refine callsD_of_wpS Tryz.func98 rfl fun c₀ cs hu => ?_
  apply wpS_seq
  apply wpS_region
  simp [wpOpsS, go_sem, recoverD, hu, Tryz.ntmps98, Exit.thenS]
  rw [caught_frame]
  refine wpS_of_wp ?_
  go_wp2
  cases c₀
  simp_all [bodyPostS, results, Tryz.results98]

theorem caught_fault (p : Addr) (x n : Int) (w : World) (hc : w.cell? p = some (.int .i64 x)) (hz : w.frozen? p = false) (hp : p.block < w.heap.size) :
    CallsD Tryz.prog 98 #[.pointer (some p)] (.panicking [{ v := .iface 87 (.agg #[.int .i64 n]), recovered := false }]) w fun e u' w' =>
      e = .returned (.tuple #[]) ∧ u' = .panicking [{ v := .iface 87 (.agg #[.int .i64 n]), recovered := true }] ∧ w' = (w.alloc (.cells #[.int .i64 n] 87)).setCell p (.int .i64 n) := by
  have hta : ∀ (v : Value) (w : World), (Instr.typeAssert (.iface 87 v) 20 87 true).run Tryz.prog w = .ok (.tuple #[v, .bool true]) w := fun _ _ => by kernel_rfl
  have hc' : ∀ o, (w.alloc o).cell? p = some (.int .i64 x) := fun o => (World.cell?_alloc_lt w o p hp).trans hc
  have hz' : ∀ o, (w.alloc o).frozen? p = false := fun o => by
    rw [← hz]
    exact World.frozen?_of_block (Below.heap_alloc w o p.block hp)
  refine callsD_of_wpS Tryz.func98 rfl fun c₀ cs hu => ?_
  apply wpS_seq
  apply wpS_region
  simp [wpOpsS, go_sem, recoverD, hu, Tryz.ntmps98, Exit.thenS]
  rw [caught_frame]
  refine wpS_of_wp ?_
  go_wp2
  exact ⟨rfl, _, rfl, .tuple #[], by simp [results, Tryz.results98, go_sem], rfl, rfl, rfl⟩

/-- catch where the function that it runs returns. -/
theorem catch_ret (f : FuncId) (cap : Array Value) (w : World) (R : World → Prop) (hent : ∀ w, (callFunc f cap).run Tryz.prog w = .ok (.enter f cap) w)
    (h : Calls Tryz.prog f cap (w.alloc (.cells #[.int .i64 0] 32)) fun e w' => e = .returned (.tuple #[]) ∧ R w' ∧ w'.heap[w.heap.size]? = some (.cells #[.int .i64 0] 32 (0, 0))) :
    Calls Tryz.prog 84 #[.func (.func f) #[] cap] w fun e w' => e = .returned (.int .i64 0) ∧ ∃ w1, R w1 ∧ w' = w1.setCell ⟨w.heap.size, 0, none⟩ (.int .i64 0) := by
  have hmf : ∀ (fn : Fn) (first cap : Array Value) (w : World), (Instr.makeFunc fn first cap).run Tryz.prog w = .ok (.func fn first cap) w := fun _ _ _ _ => rfl
  have H : Hid (Calls Tryz.prog f cap (w.alloc (.cells #[.int .i64 0] 32)) fun e w' => e = .returned (.tuple #[]) ∧ R w' ∧ w'.heap[w.heap.size]? = some (.cells #[.int .i64 0] 32 (0, 0))) := h
  clear h
  go_enter_defers Tryz.func84, Tryz.ntmps84
  go_wp2_with fail
  refine H.out.mono ?_
  rintro e w1 ⟨rfl, hR, hcell⟩
  have hc : w1.cell? ⟨w.heap.size, 0, none⟩ = some (.int .i64 0) := by simp [World.cell?, hcell]
  have hz : w1.frozen? ⟨w.heap.size, 0, none⟩ = false := by simp [World.frozen?, hcell]
  have HC := (show Hid _ from hcell)
  clear hcell H
  go_wp2
  refine leaves_cons (f := 98) (args := #[.pointer (some ⟨w.heap.size, 0, none⟩)]) (by simp) (by simp [go_sem]) ?_
  refine (caught_idle ⟨w.heap.size, 0, none⟩ _).mono ?_
  rintro e u' w'' ⟨rfl, rfl, rfl⟩
  refine ⟨.int .i64 0, ?_, rfl, w1, hR, rfl⟩
  have hc2 : (w1.setCell ⟨w.heap.size, 0, none⟩ (.int .i64 0)).cell? ⟨w.heap.size, 0, none⟩ = some (.int .i64 0) := by
    have h1 := HC.out
    simp only [World.cell?, World.setCell, Array.getElem?_modify, if_true, h1]
    rfl
  simp [results, Tryz.results84, go_sem, hc2]

/-- catch where the function that it runs panics with a fault. -/
theorem catch_fault (f : FuncId) (cap : Array Value) (n : Int) (w : World) (R : World → Prop) (hent : ∀ w, (callFunc f cap).run Tryz.prog w = .ok (.enter f cap) w)
    (h : Calls Tryz.prog f cap (w.alloc (.cells #[.int .i64 0] 32)) fun e w' => e = .panicked [{ v := .iface 87 (.agg #[.int .i64 n]), recovered := false }] ∧ R w' ∧ w'.heap[w.heap.size]? = some (.cells #[.int .i64 0] 32 (0, 0))) :
    Calls Tryz.prog 84 #[.func (.func f) #[] cap] w fun e w' => e = .returned (.int .i64 n) ∧ ∃ w1, R w1 ∧ w' = (w1.alloc (.cells #[.int .i64 n] 87)).setCell ⟨w.heap.size, 0, none⟩ (.int .i64 n) := by
  have hmf : ∀ (fn : Fn) (first cap : Array Value) (w : World), (Instr.makeFunc fn first cap).run Tryz.prog w = .ok (.func fn first cap) w := fun _ _ _ _ => rfl
  have H : Hid (Calls Tryz.prog f cap (w.alloc (.cells #[.int .i64 0] 32)) fun e w' => e = .panicked [{ v := .iface 87 (.agg #[.int .i64 n]), recovered := false }] ∧ R w' ∧ w'.heap[w.heap.size]? = some (.cells #[.int .i64 0] 32 (0, 0))) := h
  clear h
  go_enter_defers Tryz.func84, Tryz.ntmps84
  go_wp2_with fail
  refine H.out.mono ?_
  rintro e w1 ⟨rfl, hR, hcell⟩
  have hlt : w.heap.size < w1.heap.size := (Array.getElem?_eq_some_iff.1 hcell).1
  have hc : w1.cell? ⟨w.heap.size, 0, none⟩ = some (.int .i64 0) := by simp [World.cell?, hcell]
  have hz : w1.frozen? ⟨w.heap.size, 0, none⟩ = false := by simp [World.frozen?, hcell]
  have HC := (show Hid _ from hcell)
  clear hcell H
  go_wp2
  refine leaves_cons (f := 98) (args := #[.pointer (some ⟨w.heap.size, 0, none⟩)]) (by simp) (by simp [go_sem]) ?_
  refine (caught_fault ⟨w.heap.size, 0, none⟩ 0 n _ hc hz hlt).mono ?_
  rintro e u' w'' ⟨rfl, rfl, rfl⟩
  refine ⟨.int .i64 n, ?_, rfl, w1, hR, rfl⟩
  have hc2 : ((w1.alloc (.cells #[.int .i64 n] 87)).setCell ⟨w.heap.size, 0, none⟩ (.int .i64 n)).cell? ⟨w.heap.size, 0, none⟩ = some (.int .i64 n) := by
    have h1 := HC.out
    have h2 : (w1.alloc (.cells #[.int .i64 n] 87)).heap[w.heap.size]? = some (.cells #[.int .i64 0] 32) := (Below.heap_alloc w1 _ _ hlt).trans h1
    simp only [World.cell?, World.setCell, Array.getElem?_modify, if_true, h2]
    rfl
  simp [results, Tryz.results84, go_sem, hc2]
end Go.Proofs.YtkbhmkofflcpjaaGreatDoor
