/-
  A function run under catch: what it wrote into variables of its caller, and nothing else, is turned. Then the quoted local parts, walked.
  Conditions: as each theorem states them.
-/
import Derived.Test.YtkbhmkofflcpjaaGreatDoorI
import Derived.Deep.RegionHeld3
namespace Go.Proofs.YtkbhmkofflcpjaaGreatDoor
open Go.RowKit

/-- Below, but for the blocks ms. -/
structure But (ms : List Nat) (B : Nat) (w w' : World) : Prop where
  os : w'.os = w.os
  tape : w'.tape = w.tape
  output : w'.output = w.output
  size : w.heap.size ≤ w'.heap.size
  block : ∀ k, k < B → k ∉ ms → w'.heap[k]? = w.heap[k]?

theorem But.of {ms : List Nat} {B : Nat} {w w' : World} (h : Below B w w') : But ms B w w' := ⟨h.os, h.tape, h.output, h.size, fun k hk _ => h.block k hk⟩
theorem But.trans {ms : List Nat} {B : Nat} {a b c : World} (h : But ms B a b) (k : But ms B b c) : But ms B a c :=
  ⟨k.os.trans h.os, k.tape.trans h.tape, k.output.trans h.output, Nat.le_trans h.size k.size, fun j hj hm => (k.block j hj hm).trans (h.block j hj hm)⟩
theorem But.mono {ms : List Nat} {B B' : Nat} {w w' : World} (h : But ms B w w') (hB : B' ≤ B) : But ms B' w w' := ⟨h.os, h.tape, h.output, h.size, fun k hk hm => h.block k (Nat.lt_of_lt_of_le hk hB) hm⟩
theorem But.setCell {ms : List Nat} {B : Nat} {a w : World} (h : But ms B a w) {p : Addr} (hp : p.block ∈ ms ∨ B ≤ p.block) (u : Value) : But ms B a (w.setCell p u) :=
  ⟨h.os, h.tape, h.output, by simpa [World.setCell] using h.size, fun k hk hm => by
    rw [Below.heap_setCell _ _ _ _ (fun e => by subst e; rcases hp with hp | hp; exact hm hp; omega)]
    exact h.block k hk hm⟩
theorem But.below {ms : List Nat} {B B' : Nat} {w w' : World} (h : But ms B w w') (hB : B' ≤ B) (hm : ∀ m ∈ ms, B' ≤ m) : Below B' w w' :=
  ⟨h.os, h.tape, h.output, h.size, fun k hk => h.block k (Nat.lt_of_lt_of_le hk hB) (fun e => by have := hm k e; omega)⟩

/-- catch, where the function that it runs returns. -/
theorem catch_ok (f : FuncId) (cap : Array Value) (ms : List Nat) (w : World) (R : World → Prop) (hent : ∀ w, (callFunc f cap).run Tryz.prog w = .ok (.enter f cap) w) (hms : ∀ m ∈ ms, m < w.heap.size)
    (h : Calls Tryz.prog f cap (w.alloc (.cells #[.int .i64 0] 32)) fun e w' => e = .returned (.tuple #[]) ∧ But ms (w.heap.size + 1) (w.alloc (.cells #[.int .i64 0] 32)) w' ∧ R w') :
    Calls Tryz.prog 84 #[.func (.func f) #[] cap] w fun e w' => e = .returned (.int .i64 0) ∧ But ms w.heap.size w w' ∧ ∃ w1, R w1 ∧ ∀ k, k < w.heap.size → w'.heap[k]? = w1.heap[k]? := by
  refine (catch_ret f cap w (fun w' => But ms (w.heap.size + 1) (w.alloc (.cells #[.int .i64 0] 32)) w' ∧ R w') hent (h.mono ?_)).mono ?_
  · rintro e w' ⟨rfl, hb, hR⟩
    refine ⟨rfl, ⟨hb, hR⟩, ?_⟩
    rw [hb.block w.heap.size (Nat.lt_succ_self _) (fun e => Nat.lt_irrefl _ (hms _ e))]
    exact heap_alloc_new w _
  · rintro e w' ⟨rfl, w1, ⟨hb, hR⟩, rfl⟩
    refine ⟨rfl, ?_, w1, hR, fun k hk => Below.heap_setCell _ _ _ _ (fun e => by subst e; exact Nat.lt_irrefl _ hk)⟩
    have h0 : But ms w.heap.size w (w.alloc (.cells #[.int .i64 0] 32)) := But.of ((Below.refl _ w).alloc (Nat.le_refl _) _)
    exact (h0.trans (hb.mono (Nat.le_succ _))).setCell (p := ⟨w.heap.size, 0, none⟩) (.inr (Nat.le_refl _)) _

/-- catch, where the function that it runs panics with a fault. -/
theorem catch_no (f : FuncId) (cap : Array Value) (n : Int) (w : World) (hent : ∀ w, (callFunc f cap).run Tryz.prog w = .ok (.enter f cap) w)
    (h : Calls Tryz.prog f cap (w.alloc (.cells #[.int .i64 0] 32)) fun e w' => e = .panicked [{ v := .iface 87 (.agg #[.int .i64 n]), recovered := false }] ∧ Below (w.heap.size + 1) (w.alloc (.cells #[.int .i64 0] 32)) w') :
    Calls Tryz.prog 84 #[.func (.func f) #[] cap] w fun e w' => e = .returned (.int .i64 n) ∧ Below w.heap.size w w' := by
  refine (catch_fault f cap n w (fun w' => Below (w.heap.size + 1) (w.alloc (.cells #[.int .i64 0] 32)) w') hent (h.mono ?_)).mono ?_
  · rintro e w' ⟨rfl, hb⟩
    refine ⟨rfl, hb, ?_⟩
    rw [hb.block w.heap.size (Nat.lt_succ_self _)]
    exact heap_alloc_new w _
  · rintro e w' ⟨rfl, w1, hb, rfl⟩
    refine ⟨rfl, ?_⟩
    have h0 : Below w.heap.size w (w.alloc (.cells #[.int .i64 0] 32)) := (Below.refl _ w).alloc (Nat.le_refl _) _
    have h1 := h0.trans (hb.mono (Nat.le_succ _))
    exact (h1.alloc (Nat.le_trans h0.size hb.size) _).setCell (p := ⟨w.heap.size, 0, none⟩) (Nat.le_refl _) _

/-- A text in a block of its own. -/
def SAt (w : World) (b : Nat) (s : List UInt8) : Prop := w.heap[b]? = some (.cells #[.string ⟨s.toArray⟩] 9 (0, 0))
theorem SAt.lt {w : World} {b : Nat} {s : List UInt8} (h : SAt w b s) : b < w.heap.size := (Array.getElem?_eq_some_iff.1 h).1
theorem SAt.c {w : World} {b : Nat} {s : List UInt8} (h : SAt w b s) : w.cell? ⟨b, 0, none⟩ = some (.string ⟨s.toArray⟩) := by
  have h' : w.heap[b]? = some (.cells #[.string ⟨s.toArray⟩] 9 (0, 0)) := h
  simp [World.cell?, h']
theorem SAt.fz {w : World} {b : Nat} {s : List UInt8} (h : SAt w b s) : w.frozen? ⟨b, 0, none⟩ = false := by
  have h' : w.heap[b]? = some (.cells #[.string ⟨s.toArray⟩] 9 (0, 0)) := h
  simp [World.frozen?, h']
theorem SAt.later {w w' : World} {b : Nat} {s : List UInt8} (h : SAt w b s) (hb : Below w.heap.size w w') : SAt w' b s := (hb.block b h.lt).trans h
theorem SAt.alloc {w : World} {b : Nat} {s : List UInt8} (h : SAt w b s) (o : Obj) : SAt (w.alloc o) b s := (Below.heap_alloc w o b h.lt).trans h
theorem SAt.set {w : World} {b : Nat} {s : List UInt8} (h : SAt w b s) (t : List UInt8) : SAt (w.setCell ⟨b, 0, none⟩ (.string ⟨t.toArray⟩)) b t := by
  have h' : w.heap[b]? = some (.cells #[.string ⟨s.toArray⟩] 9 (0, 0)) := h
  show (w.setCell ⟨b, 0, none⟩ _).heap[b]? = _
  simp only [World.setCell, Array.getElem?_modify, if_true, h']
  rfl
theorem SAt.new (w : World) (s : List UInt8) : SAt (w.alloc (.cells #[.string ⟨s.toArray⟩] 9)) w.heap.size s := heap_alloc_new w _

theorem enters_isQuoted_1 (args : Array Value) (w : World) : (callFunc 102 args).run Tryz.prog w = .ok (.enter 102 args) w := enters_of Tryz.func102 (by kernel_rfl) rfl args w

theorem isQuoted1_good (s t x r : List UInt8) (n m : Nat) (w : World) (hn : SAt w n s) (hm : SAt w m t) (hs : s.length ≤ 100000) (hr : rdL s = some (x, r)) :
    Calls Tryz.prog 102 #[.pointer (some ⟨n, 0, none⟩), .pointer (some ⟨m, 0, none⟩)] w fun e w' => e = .returned (.tuple #[]) ∧ But [m] w.heap.size w w' ∧ SAt w' m x := by
  have HR := Lib.hid (readQuoted_any s w hs)
  have HM := Lib.hid hm
  have HE := Lib.hid hr
  have hc := hn.c
  clear hn hm hr
  go_enter Tryz.func102, Tryz.ntmps102
  go_wp2_with fail
  refine Calls.mono HR.out ?_
  rintro e w1 ⟨⟨x', r', he, _, _, rfl⟩ | ⟨he, rfl⟩, hb⟩
  · rw [HE.out] at he
    cases he
    have HB := Lib.hid hb
    have HM1 := Lib.hid (HM.out.later hb)
    have hcm := HM1.out.c
    have hzm := HM1.out.fz
    clear hb
    go_wp2_with fail
    go_end0
    exact ⟨rfl, (But.of HB.out).setCell (p := ⟨m, 0, none⟩) (.inl (by simp)) _, HM1.out.set x⟩
  · rw [HE.out] at he
    cases he

theorem isQuoted1_bad (s : List UInt8) (n m : Nat) (w : World) (hn : SAt w n s) (hs : s.length ≤ 100000) (hr : rdL s = none) :
    Calls Tryz.prog 102 #[.pointer (some ⟨n, 0, none⟩), .pointer (some ⟨m, 0, none⟩)] w fun e w' => e = .panicked [{ v := .iface 87 (.agg #[.int .i64 8]), recovered := false }] ∧ Below w.heap.size w w' := by
  have HR := Lib.hid (readQuoted_any s w hs)
  have HE := Lib.hid hr
  have hc := hn.c
  clear hn hr
  go_enter Tryz.func102, Tryz.ntmps102
  go_wp2_with fail
  refine Calls.mono HR.out ?_
  rintro e w1 ⟨⟨x', r', he, _, _, rfl⟩ | ⟨he, rfl⟩, hb⟩
  · rw [HE.out] at he
    cases he
  · exact ⟨rfl, rfl, hb⟩
end Go.Proofs.YtkbhmkofflcpjaaGreatDoor
