/-
  An act of a statement's script: its value, the block that holds it; what keeps the statements awake, walked.
  Conditions: as each theorem states them.
-/
import Derived.Test.YtlkikecnlafmeaaQI
namespace Go.Proofs.Ytlkikecnlafmeaa
open Go.RowKit

/-- An act: what, when, a config's failures and pause, how a try ends, a config's floor by its word. -/
structure AR where
  d : Int
  n : Int
  fl : Int
  pa : Int
  ok : Bool
  fo : Nat
def aV (a : AR) : Value := .agg #[.int .i64 a.d, .int .i64 a.n, .int .i64 a.fl, .int .i64 a.pa, .bool a.ok, .int .u64 (a.fo : Int)]
/-- An act in a block. -/
def AAt (w : World) (k : Nat) (a : AR) : Prop := w.heap[k]? = some (.cells #[.int .i64 a.d, .int .i64 a.n, .int .i64 a.fl, .int .i64 a.pa, .bool a.ok, .int .u64 (a.fo : Int)] 39 (0, 0))
section
variable {w w' : World} {k : Nat} {a : AR}
theorem AAt.lt (h : AAt w k a) : k < w.heap.size := (Array.getElem?_eq_some_iff.1 h).1
theorem AAt.c0 (h : AAt w k a) : w.cell? ⟨k, 0, none⟩ = some (.int .i64 a.d) := by
  have h' : w.heap[k]? = some (.cells #[.int .i64 a.d, .int .i64 a.n, .int .i64 a.fl, .int .i64 a.pa, .bool a.ok, .int .u64 (a.fo : Int)] 39 (0, 0)) := h
  simp [World.cell?, h']
theorem AAt.c1 (h : AAt w k a) : w.cell? ⟨k, 1, none⟩ = some (.int .i64 a.n) := by
  have h' : w.heap[k]? = some (.cells #[.int .i64 a.d, .int .i64 a.n, .int .i64 a.fl, .int .i64 a.pa, .bool a.ok, .int .u64 (a.fo : Int)] 39 (0, 0)) := h
  simp [World.cell?, h']
theorem AAt.c2 (h : AAt w k a) : w.cell? ⟨k, 2, none⟩ = some (.int .i64 a.fl) := by
  have h' : w.heap[k]? = some (.cells #[.int .i64 a.d, .int .i64 a.n, .int .i64 a.fl, .int .i64 a.pa, .bool a.ok, .int .u64 (a.fo : Int)] 39 (0, 0)) := h
  simp [World.cell?, h']
theorem AAt.c3 (h : AAt w k a) : w.cell? ⟨k, 3, none⟩ = some (.int .i64 a.pa) := by
  have h' : w.heap[k]? = some (.cells #[.int .i64 a.d, .int .i64 a.n, .int .i64 a.fl, .int .i64 a.pa, .bool a.ok, .int .u64 (a.fo : Int)] 39 (0, 0)) := h
  simp [World.cell?, h']
theorem AAt.c4 (h : AAt w k a) : w.cell? ⟨k, 4, none⟩ = some (.bool a.ok) := by
  have h' : w.heap[k]? = some (.cells #[.int .i64 a.d, .int .i64 a.n, .int .i64 a.fl, .int .i64 a.pa, .bool a.ok, .int .u64 (a.fo : Int)] 39 (0, 0)) := h
  simp [World.cell?, h']
theorem AAt.c5 (h : AAt w k a) : w.cell? ⟨k, 5, none⟩ = some (.int .u64 (a.fo : Int)) := by
  have h' : w.heap[k]? = some (.cells #[.int .i64 a.d, .int .i64 a.n, .int .i64 a.fl, .int .i64 a.pa, .bool a.ok, .int .u64 (a.fo : Int)] 39 (0, 0)) := h
  simp [World.cell?, h']
theorem AAt.later (h : AAt w k a) (hb : Below w.heap.size w w') : AAt w' k a := (hb.block k h.lt).trans h
theorem AAt.alloc (h : AAt w k a) (o : Obj) : AAt (w.alloc o) k a := (Below.heap_alloc w o k h.lt).trans h
theorem AAt.other (h : AAt w k a) {p : Addr} (hp : k ≠ p.block) (v : Value) : AAt (w.setCell p v) k a := (Below.heap_setCell w p v k hp).trans h
end
theorem AAt.new (w : World) (a : AR) : AAt (w.alloc (.cells #[.int .i64 a.d, .int .i64 a.n, .int .i64 a.fl, .int .i64 a.pa, .bool a.ok, .int .u64 (a.fo : Int)] 39)) w.heap.size a := heap_alloc_new w _
theorem AAt.new1 (w : World) (o : Obj) (a : AR) : AAt ((w.alloc o).alloc (.cells #[.int .i64 a.d, .int .i64 a.n, .int .i64 a.fl, .int .i64 a.pa, .bool a.ok, .int .u64 (a.fo : Int)] 39)) (w.heap.size + 1) a := by
  have := AAt.new (w.alloc o) a
  rwa [show (w.alloc o).heap.size = w.heap.size + 1 by simp] at this
theorem CfAt.drew {w : World} {k : Nat} {fl pa : Int} {fo : Nat} (h : CfAt w k fl pa fo) : CfAt w.drew k fl pa fo := h
theorem AAt.drew {w : World} {k : Nat} {a : AR} (h : AAt w k a) : AAt w.drew k a := h
/-- All blocks that were there, but R, are as they were. -/
def Kp (R : Nat) (w w' : World) : Prop := w.heap.size ≤ w'.heap.size ∧ ∀ k, k < w.heap.size → k ≠ R → w'.heap[k]? = w.heap[k]?
section
variable {R k : Nat} {w w' w'' : World} {b : BR}
theorem Kp.refl (R : Nat) (w : World) : Kp R w w := ⟨Nat.le_refl _, fun _ _ _ => rfl⟩
theorem Kp.drew (h : Kp R w w') : Kp R w w'.drew := h
theorem Kp.set (h : Kp R w w') {p : Addr} (hp : p.block = R) (v : Value) : Kp R w (w'.setCell p v) :=
  ⟨by simpa using h.1, fun k hk hkR => (Below.heap_setCell w' p v k (fun e => hkR (e.trans hp))).trans (h.2 k hk hkR)⟩
theorem Kp.below (h : Kp R w w') (hb : Below w'.heap.size w' w'') : Kp R w w'' :=
  ⟨Nat.le_trans h.1 hb.size, fun k hk hkR => (hb.block k (Nat.lt_of_lt_of_le hk h.1)).trans (h.2 k hk hkR)⟩
theorem Kp.set5 (h : Kp R w w') (t f u : Int) (s : Nat) (c : Int) : Kp R w (((((w'.setCell ⟨R, 0, none⟩ (.int .i64 t)).setCell ⟨R, 1, none⟩ (.int .i64 f)).setCell ⟨R, 2, none⟩ (.int .i64 u)).setCell ⟨R, 3, none⟩ (.float .f64 s)).setCell ⟨R, 4, none⟩ (.int .i64 c)) :=
  ((((h.set (p := ⟨R, 0, none⟩) rfl _).set (p := ⟨R, 1, none⟩) rfl _).set (p := ⟨R, 2, none⟩) rfl _).set (p := ⟨R, 3, none⟩) rfl _).set (p := ⟨R, 4, none⟩) rfl _
theorem BAt.kp (h : BAt w k b) (hk : Kp R w w') (hR : k ≠ R) : BAt w' k b := (hk.2 k h.lt hR).trans h
end
theorem eqB_self (b : BR) : eqB b b = true := by
  unfold eqB
  simp [eq_self]
theorem nan_ok {n : Nat} (hn : n = 9221120237041090561) : okB ⟨0, 0, 0, n, 0⟩ = true := by
  subst hn
  decide
theorem wakes_any (w : World) : Calls Try.prog 18 #[] w fun e w' => e = .returned (.bool true) ∧ Below w.heap.size w w' := by
  obtain ⟨n, hn⟩ : ∃ n, n = 9221120237041090561 := ⟨_, rfl⟩
  have H1 := Lib.hid (fun W => bnew_any n hn W)
  have H2 := Lib.hid (fun W => bmay_any ⟨0, 0, 0, n, 0⟩ 5 W (by simp only; omega))
  rw [show outM ⟨0, 0, 0, n, 0⟩ 5 = .tuple #[.bool true, .int .i64 0] by unfold outM askB; rw [nan_ok hn]; rfl] at H2
  have H3 := Lib.hid (fun W => num_any 0 W)
  unfold bV at *
  clear hn
  go_enter Try.func18, Try.ntmps18
  go_wp2_with fail
  refine Calls.mono (H1.out _) ?_
  rintro e w1 ⟨rfl, hb1⟩
  go_wp2_with fail
  refine Calls.mono (H2.out _) ?_
  rintro e w2 ⟨rfl, hb2⟩
  have HB := Lib.hid (hb1.trans (hb2.mono hb1.size))
  clear hb1 hb2
  go_wp2_with fail
  refine Calls.mono (H3.out _) ?_
  rintro e w' ⟨rfl, he⟩
  have he := he.symm
  subst he
  go_wp2_with fail
  go_ret
  exact ⟨rfl, HB.out⟩
end Go.Proofs.Ytlkikecnlafmeaa
