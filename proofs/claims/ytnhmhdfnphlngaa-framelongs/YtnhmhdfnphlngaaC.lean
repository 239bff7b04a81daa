/-
  Check of package frame, walked: it answers no error for a framer that may be and the error of form for any other, and turns nothing that was there.
  Conditions: the library's variable internal/bytealg.MaxLen holds some number.
-/
import Derived.Test.YtnhmhdfnphlngaaB
namespace Go.Proofs.Ytnhmhdfnphlngaa
open Go.RowKit

theorem enter19 (args : Array Value) (w : World) : (callFunc 19 args).run Try.prog w = .ok (.enter 19 args) w := enters_of Try.func19 (by kernel_rfl) rfl args w

theorem check1_bad (s : ByteArray) (k : Bool) (m : Int) (b : Nat) (w : World) (hm : w.cell? ⟨0, 0, none⟩ = some (.int .i64 m)) (h0 : 0 < w.heap.size) (hv : validL s.data.toList k = false)
    (hc0 : w.cell? ⟨b, 0, none⟩ = some (.string s)) (hc1 : w.cell? ⟨b, 1, none⟩ = some (.bool k)) :
    Calls Try.prog 19 #[.pointer (some ⟨b, 0, none⟩)] w fun e w' => e = .panicked [{ v := .iface 60 (.agg #[.int .i64 1]), recovered := false }] ∧ Below w.heap.size w w' := by
  have HV : Hid (validL s.data.toList k = false) := hv
  clear hv
  go_enter Try.func19, Try.ntmps19
  go_wp2_with fail
  refine (open_bad s k m _ hm h0 HV.out).mono ?_
  rintro e w1 ⟨rfl, hb⟩
  go_wp2
  exact ⟨rfl, rfl, hb⟩

theorem check1_good (s : ByteArray) (k : Bool) (m : Int) (b : Nat) (w : World) (hm : w.cell? ⟨0, 0, none⟩ = some (.int .i64 m)) (h0 : 0 < w.heap.size) (hs : s.size ≤ maxLen) (hv : validL s.data.toList k = true)
    (hc0 : w.cell? ⟨b, 0, none⟩ = some (.string s)) (hc1 : w.cell? ⟨b, 1, none⟩ = some (.bool k)) :
    Calls Try.prog 19 #[.pointer (some ⟨b, 0, none⟩)] w fun e w' => e = .returned (.tuple #[]) ∧ Below w.heap.size w w' := by
  have HV : Hid (validL s.data.toList k = true) := hv
  clear hv
  go_enter Try.func19, Try.ntmps19
  go_wp2_with fail
  refine (open_good s k m _ hm h0 hs HV.out).mono ?_
  rintro e w1 ⟨v, rfl, hr, hb⟩
  go_wp2
  go_end0
  exact ⟨rfl, hb⟩

/-- The answer's number. -/
def errOf (b : Bool) : Int := if b then 0 else 1

theorem check_any (s : ByteArray) (k : Bool) (m : Int) (w : World) (hm : w.cell? ⟨0, 0, none⟩ = some (.int .i64 m)) (h0 : 0 < w.heap.size) (hs : s.size ≤ maxLen) :
    Calls Try.prog 9 #[.agg #[.string s, .bool k]] w fun e w' => e = .returned (.int .i64 (errOf (validL s.data.toList k))) ∧ Below w.heap.size w w' := by
  have hmf : ∀ (fn : Fn) (first cap : Array Value) (w : World), (Instr.makeFunc fn first cap).run Try.prog w = .ok (.func fn first cap) w := fun _ _ _ _ => rfl
  have hm' : ∀ o o', ((w.alloc o).alloc o').cell? ⟨0, 0, none⟩ = some (.int .i64 m) := fun o o' => (World.cell?_alloc_lt _ o' _ (by simp)).trans ((World.cell?_alloc_lt w o _ h0).trans hm)
  have hstart : Below w.heap.size w ((w.alloc (.cells #[.string s, .bool k] 25)).alloc (.cells #[.int .i64 0] 30)) := ((Below.refl _ _).alloc (Nat.le_refl _) _).alloc (by simp) _
  cases hv : validL s.data.toList k with
  | false =>
    have HV : Hid (validL s.data.toList k = false) := hv
    clear hv
    go_enter Try.func9, Try.ntmps9
    go_wp2_with fail
    refine (catch_fault 19 _ 1 _ (fun w' => Below (w.heap.size + 2) ((w.alloc (.cells #[.string s, .bool k] 25)).alloc (.cells #[.int .i64 0] 30)) w') (enter19 _) ?_).mono ?_
    · refine (check1_bad s k m w.heap.size _ (hm' _ _) (by simp) HV.out (by simp) (by simp)).mono ?_
      rintro e w' ⟨rfl, hb⟩
      have hb' : Below (w.heap.size + 2) ((w.alloc (.cells #[.string s, .bool k] 25)).alloc (.cells #[.int .i64 0] 30)) w' := by simpa using hb
      exact ⟨rfl, hb', (hb'.block _ (by simp)).trans (heap_alloc_new _ _)⟩
    rintro e w' ⟨rfl, w1, hb, rfl⟩
    have hsz := hb.size
    simp at hsz
    go_wp2
    go_ret
    exact ⟨rfl, ((hstart.trans (hb.mono (by omega))).alloc (by omega) _).setCell (by simp) _⟩
  | true =>
    have HV : Hid (validL s.data.toList k = true) := hv
    clear hv
    go_enter Try.func9, Try.ntmps9
    go_wp2_with fail
    refine (catch_ret 19 _ _ (fun w' => Below (w.heap.size + 2) ((w.alloc (.cells #[.string s, .bool k] 25)).alloc (.cells #[.int .i64 0] 30)) w') (enter19 _) ?_).mono ?_
    · refine (check1_good s k m w.heap.size _ (hm' _ _) (by simp) hs HV.out (by simp) (by simp)).mono ?_
      rintro e w' ⟨rfl, hb⟩
      have hb' : Below (w.heap.size + 2) ((w.alloc (.cells #[.string s, .bool k] 25)).alloc (.cells #[.int .i64 0] 30)) w' := by simpa using hb
      exact ⟨rfl, hb', (hb'.block _ (by simp)).trans (heap_alloc_new _ _)⟩
    rintro e w' ⟨rfl, w1, hb, rfl⟩
    go_wp2
    go_ret
    exact ⟨rfl, (hstart.trans (hb.mono (by omega))).setCell (by simp) _⟩
end Go.Proofs.Ytnhmhdfnphlngaa
