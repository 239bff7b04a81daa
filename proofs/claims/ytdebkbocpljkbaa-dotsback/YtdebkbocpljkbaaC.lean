/-
  Check of package dots, walked: it answers no error for a text and the error of form for what is none, and turns nothing that was there.
  Conditions: the library's variable internal/bytealg.MaxLen holds some number.
-/
import Derived.Test.YtdebkbocpljkbaaQ
namespace Go.Proofs.Ytdebkbocpljkbaa
open Go.RowKit

theorem enter24 (args : Array Value) (w : World) : (callFunc 24 args).run Try.prog w = .ok (.enter 24 args) w := enters_of Try.func24 (by kernel_rfl) rfl args w
theorem enter25 (args : Array Value) (w : World) : (callFunc 25 args).run Try.prog w = .ok (.enter 25 args) w := enters_of Try.func25 (by kernel_rfl) rfl args w

theorem each_check (s : ByteArray) (w : World) : Calls Try.prog 25 (#[.string s] ++ #[]) w fun e w' => e = .returned (.tuple #[]) ∧ w' = w := by
  show Calls Try.prog 25 #[.string s] w _
  go_enter Try.func25, Try.ntmps25
  go_wp2
  go_end0
  exact ⟨rfl, rfl⟩

theorem below_max {w w' : World} {m : Int} (hm : w.cell? ⟨0, 0, none⟩ = some (.int .i64 m)) (h0 : 0 < w.heap.size) (h : Below w.heap.size w w') : w'.cell? ⟨0, 0, none⟩ = some (.int .i64 m) := (h.cell (p := ⟨0, 0, none⟩) h0).trans hm

theorem check1_any (s : List UInt8) (m : Int) (b : Nat) (w : World) (hm : w.cell? ⟨0, 0, none⟩ = some (.int .i64 m)) (h0 : 0 < w.heap.size) (hs : s.length ≤ maxLen) (hc : w.cell? ⟨b, 0, none⟩ = some (.string ⟨s.toArray⟩)) :
    Calls Try.prog 24 #[.pointer (some ⟨b, 0, none⟩)] w fun e w' => readEnd (fun _ w' => Below w.heap.size w w') (textL s) e w' := by
  have hR := readLines_any s 25 #[] (fun _ w' => Below w.heap.size w w') w enter25 (fun _ w' h => ⟨m, below_max hm h0 h⟩) (fun _ w1 w2 h1 h2 => h1.trans (h2.mono h1.size))
    (fun rows line w1 h1 _ _ => (each_check ⟨line.toArray⟩ w1).mono (fun _ _ h => ⟨h.1, by rw [h.2]; exact h1⟩)) (Below.refl _ _) hs
  have H := Lib.hid hR
  cases hr : textL s with
  | none =>
    rw [hr] at H
    clear hR hr
    go_enter Try.func24, Try.ntmps24
    go_wp2_with fail
    refine H.out.mono ?_
    rintro e w1 ⟨rfl, rows, hb⟩
    go_wp2_with fail
    exact ⟨rfl, rfl, [], hb⟩
  | some rows =>
    rw [hr] at H
    clear hR hr
    go_enter Try.func24, Try.ntmps24
    go_wp2_with fail
    refine H.out.mono ?_
    rintro e w1 ⟨rfl, hb⟩
    go_wp2_with fail
    go_end0
    exact ⟨rfl, hb⟩

/-- The answer's number. -/
def errOf (b : Bool) : Int := if b then 0 else 1

theorem check_any (s : List UInt8) (m : Int) (w : World) (hm : w.cell? ⟨0, 0, none⟩ = some (.int .i64 m)) (h0 : 0 < w.heap.size) (hs : s.length ≤ maxLen) :
    Calls Try.prog 11 #[.string ⟨s.toArray⟩] w fun e w' => e = .returned (.int .i64 (errOf (textL s).isSome)) ∧ Below w.heap.size w w' := by
  have hmf : ∀ (fn : Fn) (first cap : Array Value) (w : World), (Instr.makeFunc fn first cap).run Try.prog w = .ok (.func fn first cap) w := fun _ _ _ _ => rfl
  have hm' : ∀ o o', ((w.alloc o).alloc o').cell? ⟨0, 0, none⟩ = some (.int .i64 m) := fun o o' => (World.cell?_alloc_lt _ o' _ (by simp)).trans ((World.cell?_alloc_lt w o _ h0).trans hm)
  have hstart : Below w.heap.size w ((w.alloc (.cells #[.string ⟨s.toArray⟩] 9)).alloc (.cells #[.int .i64 0] 26)) := ((Below.refl _ _).alloc (Nat.le_refl _) _).alloc (by simp) _
  have H := Lib.hid (check1_any s m w.heap.size ((w.alloc (.cells #[.string ⟨s.toArray⟩] 9)).alloc (.cells #[.int .i64 0] 26)) (hm' _ _) (by simp) hs (by simp))
  cases hv : textL s with
  | none =>
    rw [hv] at H
    clear hv
    go_enter Try.func11, Try.ntmps11
    go_wp2_with fail
    refine (catch_fault 24 _ 1 _ (fun w' => Below (w.heap.size + 2) ((w.alloc (.cells #[.string ⟨s.toArray⟩] 9)).alloc (.cells #[.int .i64 0] 26)) w') (enter24 _) ?_).mono ?_
    · refine H.out.mono ?_
      rintro e w' ⟨rfl, _, hb⟩
      have hb' : Below (w.heap.size + 2) ((w.alloc (.cells #[.string ⟨s.toArray⟩] 9)).alloc (.cells #[.int .i64 0] 26)) w' := by simpa using hb
      exact ⟨rfl, hb', (hb'.block _ (by simp)).trans (heap_alloc_new _ _)⟩
    rintro e w' ⟨rfl, w1, hb, rfl⟩
    have hsz := hb.size
    simp at hsz
    go_wp2
    go_ret
    exact ⟨rfl, ((hstart.trans (hb.mono (by omega))).alloc (by omega) _).setCell (by simp) _⟩
  | some rows =>
    rw [hv] at H
    clear hv
    go_enter Try.func11, Try.ntmps11
    go_wp2_with fail
    refine (catch_ret 24 _ _ (fun w' => Below (w.heap.size + 2) ((w.alloc (.cells #[.string ⟨s.toArray⟩] 9)).alloc (.cells #[.int .i64 0] 26)) w') (enter24 _) ?_).mono ?_
    · refine H.out.mono ?_
      rintro e w' ⟨rfl, hb⟩
      have hb' : Below (w.heap.size + 2) ((w.alloc (.cells #[.string ⟨s.toArray⟩] 9)).alloc (.cells #[.int .i64 0] 26)) w' := by simpa using hb
      exact ⟨rfl, hb', (hb'.block _ (by simp)).trans (heap_alloc_new _ _)⟩
    rintro e w' ⟨rfl, w1, hb, rfl⟩
    go_wp2
    go_ret
    exact ⟨rfl, (hstart.trans (hb.mono (by omega))).setCell (by simp) _⟩
end Go.Proofs.Ytdebkbocpljkbaa
