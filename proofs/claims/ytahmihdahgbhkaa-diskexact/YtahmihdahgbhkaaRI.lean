/-
  The ways of the page's Read that answer ErrLimit or ErrForm, walked.
  Conditions: as each theorem states them.
-/
import Derived.Test.YtahmihdahgbhkaaRB
namespace Go.Proofs.Ytahmihdahgbhkaa
open Go.RowKit

set_option maxHeartbeats 3000000 in
theorem readr_low (w : World) (p N m cap : Nat) (A : Option Addr) (n a k : Int) (h3 : (n = 0 ∧ N = 0) ∨ (n = 1 ∧ N = 1) ∨ (n = 2 ∧ N = 2)) (h9 : w.cell? ⟨p, 9, none⟩ = some (.bool false)) (cN : w.cell? ⟨p, N * 3 + 1, none⟩ = some (.slice A m cap)) (ck0 : ¬ k < 0) (ca0 : a < 0) :
    Calls Try.prog 19 #[.pointer (some ⟨p, 0, none⟩), .int .i64 n, .int .i64 a, .int .i64 k] w fun e w' => ∃ u, e = .returned (.tuple #[u, .int .i64 2]) ∧ BR w' w.heap.size u [] ∧ Below w.heap.size w w' := by
  rcases h3 with ⟨rfl, rfl⟩ | ⟨rfl, rfl⟩ | ⟨rfl, rfl⟩
  all_goals
    go_enter Try.func19, Try.ntmps19
    go_wp2_with fail
    go_ret2
    exact ⟨_, rfl, BR.nil _ _, Below.refl _ _⟩
set_option maxHeartbeats 3000000 in
theorem readr_high (w : World) (p N m cap : Nat) (A : Option Addr) (n a k : Int) (h3 : (n = 0 ∧ N = 0) ∨ (n = 1 ∧ N = 1) ∨ (n = 2 ∧ N = 2)) (h9 : w.cell? ⟨p, 9, none⟩ = some (.bool false)) (cN : w.cell? ⟨p, N * 3 + 1, none⟩ = some (.slice A m cap)) (ck0 : ¬ k < 0) (ca0 : ¬ a < 0) (ca1 : a > (m : Int)) :
    Calls Try.prog 19 #[.pointer (some ⟨p, 0, none⟩), .int .i64 n, .int .i64 a, .int .i64 k] w fun e w' => ∃ u, e = .returned (.tuple #[u, .int .i64 2]) ∧ BR w' w.heap.size u [] ∧ Below w.heap.size w w' := by
  rcases h3 with ⟨rfl, rfl⟩ | ⟨rfl, rfl⟩ | ⟨rfl, rfl⟩
  all_goals
    go_enter Try.func19, Try.ntmps19
    go_wp2_with fail
    go_ret2
    exact ⟨_, rfl, BR.nil _ _, Below.refl _ _⟩
set_option maxHeartbeats 3000000 in
theorem readr_many (w : World) (p N m cap K M : Nat) (A : Option Addr) (n : Int) (h3 : (n = 0 ∧ N = 0) ∨ (n = 1 ∧ N = 1) ∨ (n = 2 ∧ N = 2)) (h9 : w.cell? ⟨p, 9, none⟩ = some (.bool false)) (cN : w.cell? ⟨p, N * 3 + 1, none⟩ = some (.slice A m cap)) (hm : m ≤ 4194304) (ca1 : ¬ (K : Int) > (m : Int)) (cl1 : (M : Int) > (m : Int) - (K : Int)) :
    Calls Try.prog 19 #[.pointer (some ⟨p, 0, none⟩), .int .i64 n, .int .i64 (K : Int), .int .i64 (M : Int)] w fun e w' => ∃ u, e = .returned (.tuple #[u, .int .i64 2]) ∧ BR w' w.heap.size u [] ∧ Below w.heap.size w w' := by
  have ca0 : ¬ (K : Int) < 0 := by omega
  have ck0 : ¬ (M : Int) < 0 := by omega
  have hw1 : IntKind.i64.wrap ((m : Int) - (K : Int)) = (m : Int) - (K : Int) := wrap_id (by omega) (by omega)
  clear hm
  rcases h3 with ⟨rfl, rfl⟩ | ⟨rfl, rfl⟩ | ⟨rfl, rfl⟩
  all_goals
    go_enter Try.func19, Try.ntmps19
    go_wp2_with fail
    go_ret2
    exact ⟨_, rfl, BR.nil _ _, Below.refl _ _⟩
set_option maxHeartbeats 3000000 in
theorem readr_neg (w : World) (p : Nat) (n a k : Int) (h9 : w.cell? ⟨p, 9, none⟩ = some (.bool false)) (hn0 : ¬ n < 0) (hn2 : ¬ n > 2) (ck0 : k < 0) :
    Calls Try.prog 19 #[.pointer (some ⟨p, 0, none⟩), .int .i64 n, .int .i64 a, .int .i64 k] w fun e w' => ∃ u, e = .returned (.tuple #[u, .int .i64 1]) ∧ BR w' w.heap.size u [] ∧ Below w.heap.size w w' := by
  go_enter Try.func19, Try.ntmps19
  go_wp2_with fail
  go_ret2
  exact ⟨_, rfl, BR.nil _ _, Below.refl _ _⟩
set_option maxHeartbeats 3000000 in
theorem readr_n0 (w : World) (p : Nat) (n a k : Int) (h9 : w.cell? ⟨p, 9, none⟩ = some (.bool false)) (hn0 : n < 0) :
    Calls Try.prog 19 #[.pointer (some ⟨p, 0, none⟩), .int .i64 n, .int .i64 a, .int .i64 k] w fun e w' => ∃ u, e = .returned (.tuple #[u, .int .i64 1]) ∧ BR w' w.heap.size u [] ∧ Below w.heap.size w w' := by
  go_enter Try.func19, Try.ntmps19
  go_wp2_with fail
  go_ret2
  exact ⟨_, rfl, BR.nil _ _, Below.refl _ _⟩
set_option maxHeartbeats 3000000 in
theorem readr_n2 (w : World) (p : Nat) (n a k : Int) (h9 : w.cell? ⟨p, 9, none⟩ = some (.bool false)) (hn0 : ¬ n < 0) (hn2 : n > 2) :
    Calls Try.prog 19 #[.pointer (some ⟨p, 0, none⟩), .int .i64 n, .int .i64 a, .int .i64 k] w fun e w' => ∃ u, e = .returned (.tuple #[u, .int .i64 1]) ∧ BR w' w.heap.size u [] ∧ Below w.heap.size w w' := by
  go_enter Try.func19, Try.ntmps19
  go_wp2_with fail
  go_ret2
  exact ⟨_, rfl, BR.nil _ _, Below.refl _ _⟩
set_option maxHeartbeats 3000000 in
theorem readr_dead (w : World) (p : Nat) (n a k : Int) (h9 : w.cell? ⟨p, 9, none⟩ = some (.bool true)) :
    Calls Try.prog 19 #[.pointer (some ⟨p, 0, none⟩), .int .i64 n, .int .i64 a, .int .i64 k] w fun e w' => ∃ u, e = .returned (.tuple #[u, .int .i64 10]) ∧ BR w' w.heap.size u [] ∧ Below w.heap.size w w' := by
  go_enter Try.func19, Try.ntmps19
  go_wp2_with fail
  go_ret2
  exact ⟨_, rfl, BR.nil _ _, Below.refl _ _⟩
end Go.Proofs.Ytahmihdahgbhkaa
