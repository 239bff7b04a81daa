/-
  Three ways of the page's Read, walked.
  Conditions: as each theorem states them.
-/
import Derived.Test.YtahmihdahgbhkaaRB
namespace Go.Proofs.Ytahmihdahgbhkaa
open Go.RowKit

set_option maxHeartbeats 3000000 in
theorem readr_nil (w : World) (p N : Nat) (n : Int) (h3 : (n = 0 ∧ N = 0) ∨ (n = 1 ∧ N = 1) ∨ (n = 2 ∧ N = 2)) (h9 : w.cell? ⟨p, 9, none⟩ = some (.bool false)) (cN : w.cell? ⟨p, N * 3 + 1, none⟩ = some (.slice none 0 0)) :
    Calls Try.prog 19 #[.pointer (some ⟨p, 0, none⟩), .int .i64 n, .int .i64 0, .int .i64 0] w fun e w' => ∃ u, e = .returned (.tuple #[u, .int .i64 0]) ∧ BR w' w.heap.size u [] ∧ Below w.heap.size w w' := by
  have HC := Lib.hid (copyBytes_any [] _ w (RB.nil w) (by simp))
  rcases h3 with ⟨rfl, rfl⟩ | ⟨rfl, rfl⟩ | ⟨rfl, rfl⟩
  all_goals
    go_enter Try.func19, Try.ntmps19
    go_wp2_with fail
    refine Calls.mono HC.out ?_
    rintro e w1 ⟨u, rfl, hu, hb⟩
    have HU := Lib.hid hu
    have HB := Lib.hid hb
    clear hu hb
    go_wp2_with fail
    go_ret2
    exact ⟨_, rfl, HU.out, HB.out⟩
set_option maxHeartbeats 3000000 in
theorem readr_ne (w : World) (p N g cap K M : Nat) (l : List UInt8) (n : Int) (h3 : (n = 0 ∧ N = 0) ∨ (n = 1 ∧ N = 1) ∨ (n = 2 ∧ N = 2)) (h9 : w.cell? ⟨p, 9, none⟩ = some (.bool false)) (cN : w.cell? ⟨p, N * 3 + 1, none⟩ = some (.slice (some ⟨g, 0, none⟩) l.length cap)) (hrow : RB w (.slice (some ⟨g, 0, none⟩) l.length cap) l)
    (hlc : l.length ≤ cap) (_hcm2 : cap < 9223372036854775808) (hnl : l.length ≤ 4194304) (hKM : K + M ≤ l.length) (hck : ¬ cap = K) :
    Calls Try.prog 19 #[.pointer (some ⟨p, 0, none⟩), .int .i64 n, .int .i64 (K : Int), .int .i64 (M : Int)] w fun e w' => ∃ u, e = .returned (.tuple #[u, .int .i64 0]) ∧ BR w' w.heap.size u ((l.drop K).take M) ∧ Below w.heap.size w w' := by
  have HC := Lib.hid (copyBytes_any ((l.drop K).take M) (.slice (some ⟨g, K, none⟩) M (cap - K)) w (hrow.part hKM (if_neg hck)) (by simp; omega))
  have ca0 : ¬ (K : Int) < 0 := by omega
  have ck0 : ¬ (M : Int) < 0 := by omega
  have ca1 : ¬ (K : Int) > (l.length : Int) := by omega
  have hw1 : IntKind.i64.wrap ((l.length : Int) - (K : Int)) = (l.length : Int) - (K : Int) := wrap_id (by omega) (by omega)
  have cl1 : ¬ (M : Int) > (l.length : Int) - (K : Int) := by omega
  have hw2 : IntKind.i64.wrap ((K : Int) + (M : Int)) = (K : Int) + (M : Int) := wrap_id (by omega) (by omega)
  have cap1 : (K : Int) + (M : Int) ≤ (cap : Int) := by omega
  have hK0 : (0 : Int) ≤ (K : Int) := by omega
  have hKM0 : (K : Int) ≤ (K : Int) + (M : Int) := by omega
  clear hrow hKM hnl
  rcases h3 with ⟨rfl, rfl⟩ | ⟨rfl, rfl⟩ | ⟨rfl, rfl⟩
  all_goals
    go_enter Try.func19, Try.ntmps19
    go_wp2_with fail
    refine Calls.mono HC.out ?_
    rintro e w1 ⟨u, rfl, hu, hb⟩
    have HU := Lib.hid hu
    have HB := Lib.hid hb
    clear hu hb
    go_wp2_with fail
    go_ret2
    exact ⟨_, rfl, HU.out, HB.out⟩
end Go.Proofs.Ytahmihdahgbhkaa
