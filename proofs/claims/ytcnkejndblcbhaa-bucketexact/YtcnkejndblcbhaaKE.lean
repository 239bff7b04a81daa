/-
  Package bucket's catch, in its two modes; a function run under it: what it wrote into variables of its caller, and nothing else, is turned.
  Conditions: as each theorem states them.
-/
import Derived.Test.YtcnkejndblcbhaaKD
namespace Go.Proofs.Ytcnkejndblcbhaa
open Go.RowKit

theorem caught_frame (a b : Value) : (#[a] ++ ((Array.replicate 16 undef).setIfInBounds 3 b).setIfInBounds 0 b) = #[a, b, undef, undef, b, undef, undef, undef, undef, undef, undef, undef, undef, undef, undef, undef, undef] := rfl

theorem caught_idle (p : Addr) (w : World) :
    CallsD Try.prog 32 #[.pointer (some p)] .returning w fun e u' w' => e = .returned (.tuple #[]) ∧ u' = .returning ∧ w' = w := by
  refine callsD_of_wpS Try.func32 rfl fun c₀ cs hu => ?_
  apply wpS_seq
  apply wpS_region
  simp [wpOpsS, go_sem, recoverD, hu, Try.ntmps32, Exit.thenS]
  rw [caught_frame]
  refine wpS_of_wp ?_
  go_wp2
  cases c₀
  simp_all [bodyPostS, results, Try.results32]

theorem caught_fault (p : Addr) (x n : Int) (w : World) (hc : w.cell? p = some (.int .i64 x)) (hz : w.frozen? p = false) (hp : p.block < w.heap.size) :
    CallsD Try.prog 32 #[.pointer (some p)] (.panicking [{ v := .iface 52 (.agg #[.int .i64 n]), recovered := false }]) w fun e u' w' =>
      e = .returned (.tuple #[]) ∧ u' = .panicking [{ v := .iface 52 (.agg #[.int .i64 n]), recovered := true }] ∧ w' = (w.alloc (.cells #[.int .i64 n] 52)).setCell p (.int .i64 n) := by
  have hta : ∀ (v : Value) (w : World), (Instr.typeAssert (.iface 52 v) 20 52 true).run Try.prog w = .ok (.tuple #[v, .bool true]) w := fun _ _ => by kernel_rfl
  have hc' : ∀ o, (w.alloc o).cell? p = some (.int .i64 x) := fun o => (World.cell?_alloc_lt w o p hp).trans hc
  have hz' : ∀ o, (w.alloc o).frozen? p = false := fun o => by
    rw [← hz]
    exact World.frozen?_of_block (Below.heap_alloc w o p.block hp)
  refine callsD_of_wpS Try.func32 rfl fun c₀ cs hu => ?_
  apply wpS_seq
  apply wpS_region
  simp [wpOpsS, go_sem, recoverD, hu, Try.ntmps32, Exit.thenS]
  rw [caught_frame]
  refine wpS_of_wp ?_
  go_wp2
  exact ⟨rfl, _, rfl, .tuple #[], by simp [results, Try.results32, go_sem], rfl, rfl, rfl⟩

/-- catch where the function that it runs returns. -/
theorem catch_ret (f : FuncId) (cap : Array Value) (w : World) (R : World → Prop) (hent : ∀ w, (callFunc f cap).run Try.prog w = .ok (.enter f cap) w)
    (h : Calls Try.prog f cap (w.alloc (.cells #[.int .i64 0] 29)) fun e w' => e = .returned (.tuple #[]) ∧ R w' ∧ w'.heap[w.heap.size]? = some (.cells #[.int .i64 0] 29 (0, 0))) :
    Calls Try.prog 20 #[.func (.func f) #[] cap] w fun e w' => e = .returned (.int .i64 0) ∧ ∃ w1, R w1 ∧ w' = w1.setCell ⟨w.heap.size, 0, none⟩ (.int .i64 0) := by
  have hmf : ∀ (fn : Fn) (first cap : Array Value) (w : World), (Instr.makeFunc fn first cap).run Try.prog w = .ok (.func fn first cap) w := fun _ _ _ _ => rfl
  have H : Hid (Calls Try.prog f cap (w.alloc (.cells #[.int .i64 0] 29)) fun e w' => e = .returned (.tuple #[]) ∧ R w' ∧ w'.heap[w.heap.size]? = some (.cells #[.int .i64 0] 29 (0, 0))) := h
  clear h
  go_enter_defers Try.func20, Try.ntmps20
  go_wp2_with fail
  refine H.out.mono ?_
  rintro e w1 ⟨rfl, hR, hcell⟩
  have hc : w1.cell? ⟨w.heap.size, 0, none⟩ = some (.int .i64 0) := by simp [World.cell?, hcell]
  have hz : w1.frozen? ⟨w.heap.size, 0, none⟩ = false := by simp [World.frozen?, hcell]
  have HC := (show Hid _ from hcell)
  clear hcell H
  go_wp2
  refine leaves_cons (f := 32) (args := #[.pointer (some ⟨w.heap.size, 0, none⟩)]) (by simp) (by simp [go_sem]) ?_
  refine (caught_idle ⟨w.heap.size, 0, none⟩ _).mono ?_
  rintro e u' w'' ⟨rfl, rfl, rfl⟩
  refine ⟨.int .i64 0, ?_, rfl, w1, hR, rfl⟩
  have hc2 : (w1.setCell ⟨w.heap.size, 0, none⟩ (.int .i64 0)).cell? ⟨w.heap.size, 0, none⟩ = some (.int .i64 0) := by
    have h1 := HC.out
    simp only [World.cell?, World.setCell, Array.getElem?_modify, if_true, h1]
    rfl
  simp [results, Try.results20, go_sem, hc2]

/-- catch where the function that it runs panics with a fault. -/
theorem catch_fault (f : FuncId) (cap : Array Value) (n : Int) (w : World) (R : World → Prop) (hent : ∀ w, (callFunc f cap).run Try.prog w = .ok (.enter f cap) w)
    (h : Calls Try.prog f cap (w.alloc (.cells #[.int .i64 0] 29)) fun e w' => e = .panicked [{ v := .iface 52 (.agg #[.int .i64 n]), recovered := false }] ∧ R w' ∧ w'.heap[w.heap.size]? = some (.cells #[.int .i64 0] 29 (0, 0))) :
    Calls Try.prog 20 #[.func (.func f) #[] cap] w fun e w' => e = .returned (.int .i64 n) ∧ ∃ w1, R w1 ∧ w' = (w1.alloc (.cells #[.int .i64 n] 52)).setCell ⟨w.heap.size, 0, none⟩ (.int .i64 n) := by
  have hmf : ∀ (fn : Fn) (first cap : Array Value) (w : World), (Instr.makeFunc fn first cap).run Try.prog w = .ok (.func fn first cap) w := fun _ _ _ _ => rfl
  have H : Hid (Calls Try.prog f cap (w.alloc (.cells #[.int .i64 0] 29)) fun e w' => e = .panicked [{ v := .iface 52 (.agg #[.int .i64 n]), recovered := false }] ∧ R w' ∧ w'.heap[w.heap.size]? = some (.cells #[.int .i64 0] 29 (0, 0))) := h
  clear h
  go_enter_defers Try.func20, Try.ntmps20
  go_wp2_with fail
  refine H.out.mono ?_
  rintro e w1 ⟨rfl, hR, hcell⟩
  have hlt : w.heap.size < w1.heap.size := (Array.getElem?_eq_some_iff.1 hcell).1
  have hc : w1.cell? ⟨w.heap.size, 0, none⟩ = some (.int .i64 0) := by simp [World.cell?, hcell]
  have hz : w1.frozen? ⟨w.heap.size, 0, none⟩ = false := by simp [World.frozen?, hcell]
  have HC := (show Hid _ from hcell)
  clear hcell H
  go_wp2
  refine leaves_cons (f := 32) (args := #[.pointer (some ⟨w.heap.size, 0, none⟩)]) (by simp) (by simp [go_sem]) ?_
  refine (caught_fault ⟨w.heap.size, 0, none⟩ 0 n _ hc hz hlt).mono ?_
  rintro e u' w'' ⟨rfl, rfl, rfl⟩
  refine ⟨.int .i64 n, ?_, rfl, w1, hR, rfl⟩
  have hc2 : ((w1.alloc (.cells #[.int .i64 n] 52)).setCell ⟨w.heap.size, 0, none⟩ (.int .i64 n)).cell? ⟨w.heap.size, 0, none⟩ = some (.int .i64 n) := by
    have h1 := HC.out
    have h2 : (w1.alloc (.cells #[.int .i64 n] 52)).heap[w.heap.size]? = some (.cells #[.int .i64 0] 29) := (Below.heap_alloc w1 _ _ hlt).trans h1
    simp only [World.cell?, World.setCell, Array.getElem?_modify, if_true, h2]
    rfl
  simp [results, Try.results20, go_sem, hc2]

/-- Below, but for the blocks ms. -/
structure But (ms : List Nat) (B : Nat) (w w' : World) : Prop where
  os : w'.os = w.os
  tape : w'.tape = w.tape
  output : w'.output = w.output
  size : w.heap.size ≤ w'.heap.size
  block : ∀ k, k < B → k ∉ ms → w'.heap[k]? = w.heap[k]?

theorem But.of {ms : List Nat} {B : Nat} {w w' : World} (h : Below B w w') : But ms B w w' := ⟨h.os, h.tape, h.output, h.size, fun k hk _ => h.block k hk⟩
theorem But.trans {ms : List Nat} {B : Nat} {a b c : World} (h : But ms B a b) (k : But ms B b c) : But ms B a c :=
  ⟨k.os.trans h.os, k.tape.trans h.tape, k.output.trans h.output, Nat.le_trans h.size k.size, fun j hj hm => (k.block j hj hm).trans (h.block j hj hm)⟩
theorem But.mono {ms : List Nat} {B B' : Nat} {w w' : World} (h : But ms B w w') (hB : B' ≤ B) : But ms B' w w' := ⟨h.os, h.tape, h.output, h.size, fun k hk hm => h.block k (Nat.lt_of_lt_of_le hk hB) hm⟩
theorem But.setCell {ms : List Nat} {B : Nat} {a w : World} (h : But ms B a w) {p : Addr} (hp : p.block ∈ ms ∨ B ≤ p.block) (u : Value) : But ms B a (w.setCell p u) :=
  ⟨h.os, h.tape, h.output, by simpa [World.setCell] using h.size, fun k hk hm => by
    rw [Below.heap_setCell _ _ _ _ (fun e => by subst e; rcases hp with hp | hp; exact hm hp; omega)]
    exact h.block k hk hm⟩
theorem But.below {ms : List Nat} {B B' : Nat} {w w' : World} (h : But ms B w w') (hB : B' ≤ B) (hm : ∀ m ∈ ms, B' ≤ m) : Below B' w w' :=
  ⟨h.os, h.tape, h.output, h.size, fun k hk => h.block k (Nat.lt_of_lt_of_le hk hB) (fun e => by have := hm k e; omega)⟩

/-- catch, where the function that it runs returns. -/
theorem catch_ok (f : FuncId) (cap : Array Value) (ms : List Nat) (w : World) (R : World → Prop) (hent : ∀ w, (callFunc f cap).run Try.prog w = .ok (.enter f cap) w) (hms : ∀ m ∈ ms, m < w.heap.size)
    (h : Calls Try.prog f cap (w.alloc (.cells #[.int .i64 0] 29)) fun e w' => e = .returned (.tuple #[]) ∧ But ms (w.heap.size + 1) (w.alloc (.cells #[.int .i64 0] 29)) w' ∧ R w') :
    Calls Try.prog 20 #[.func (.func f) #[] cap] w fun e w' => e = .returned (.int .i64 0) ∧ But ms w.heap.size w w' ∧ ∃ w1, R w1 ∧ ∀ k, k < w.heap.size → w'.heap[k]? = w1.heap[k]? := by
  refine (catch_ret f cap w (fun w' => But ms (w.heap.size + 1) (w.alloc (.cells #[.int .i64 0] 29)) w' ∧ R w') hent (h.mono ?_)).mono ?_
  · rintro e w' ⟨rfl, hb, hR⟩
    refine ⟨rfl, ⟨hb, hR⟩, ?_⟩
    rw [hb.block w.heap.size (Nat.lt_succ_self _) (fun e => Nat.lt_irrefl _ (hms _ e))]
    exact heap_alloc_new w _
  · rintro e w' ⟨rfl, w1, ⟨hb, hR⟩, rfl⟩
    refine ⟨rfl, ?_, w1, hR, fun k hk => Below.heap_setCell _ _ _ _ (fun e => by subst e; exact Nat.lt_irrefl _ hk)⟩
    have h0 : But ms w.heap.size w (w.alloc (.cells #[.int .i64 0] 29)) := But.of ((Below.refl _ w).alloc (Nat.le_refl _) _)
    exact (h0.trans (hb.mono (Nat.le_succ _))).setCell (p := ⟨w.heap.size, 0, none⟩) (.inr (Nat.le_refl _)) _

/-- catch, where the function that it runs panics with a fault. -/
theorem catch_no (f : FuncId) (cap : Array Value) (n : Int) (w : World) (hent : ∀ w, (callFunc f cap).run Try.prog w = .ok (.enter f cap) w)
    (h : Calls Try.prog f cap (w.alloc (.cells #[.int .i64 0] 29)) fun e w' => e = .panicked [{ v := .iface 52 (.agg #[.int .i64 n]), recovered := false }] ∧ Below (w.heap.size + 1) (w.alloc (.cells #[.int .i64 0] 29)) w') :
    Calls Try.prog 20 #[.func (.func f) #[] cap] w fun e w' => e = .returned (.int .i64 n) ∧ Below w.heap.size w w' := by
  refine (catch_fault f cap n w (fun w' => Below (w.heap.size + 1) (w.alloc (.cells #[.int .i64 0] 29)) w') hent (h.mono ?_)).mono ?_
  · rintro e w' ⟨rfl, hb⟩
    refine ⟨rfl, hb, ?_⟩
    rw [hb.block w.heap.size (Nat.lt_succ_self _)]
    exact heap_alloc_new w _
  · rintro e w' ⟨rfl, w1, hb, rfl⟩
    refine ⟨rfl, ?_⟩
    have h0 : Below w.heap.size w (w.alloc (.cells #[.int .i64 0] 29)) := (Below.refl _ w).alloc (Nat.le_refl _) _
    have h1 := h0.trans (hb.mono (Nat.le_succ _))
    exact (h1.alloc (Nat.le_trans h0.size hb.size) _).setCell (p := ⟨w.heap.size, 0, none⟩) (Nat.le_refl _) _

end Go.Proofs.Ytcnkejndblcbhaa
