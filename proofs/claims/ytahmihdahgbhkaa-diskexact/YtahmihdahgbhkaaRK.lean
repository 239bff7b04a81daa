/-
  One way more of the page's Read, walked.
  Conditions: as each theorem states them.
-/
import Derived.Test.YtahmihdahgbhkaaRB
namespace Go.Proofs.Ytahmihdahgbhkaa
open Go.RowKit

set_option maxHeartbeats 3000000 in
theorem readr_eq (w : World) (p N g cap K M : Nat) (l : List UInt8) (n : Int) (h3 : (n = 0 ∧ N = 0) ∨ (n = 1 ∧ N = 1) ∨ (n = 2 ∧ N = 2)) (h9 : w.cell? ⟨p, 9, none⟩ = some (.bool false)) (cN : w.cell? ⟨p, N * 3 + 1, none⟩ = some (.slice (some ⟨g, 0, none⟩) l.length cap)) (hrow : RB w (.slice (some ⟨g, 0, none⟩) l.length cap) l)
    (hlc : l.length ≤ cap) (hcm2 : cap < 9223372036854775808) (hnl : l.length ≤ 4194304) (hKM : K + M ≤ l.length) (hck : cap = K) :
    Calls Try.prog 19 #[.pointer (some ⟨p, 0, none⟩), .int .i64 n, .int .i64 (K : Int), .int .i64 (M : Int)] w fun e w' => ∃ u, e = .returned (.tuple #[u, .int .i64 0]) ∧ BR w' w.heap.size u ((l.drop K).take M) ∧ Below w.heap.size w w' := by
  subst hck
  obtain rfl : M = 0 := by omega
  have HC := Lib.hid (copyBytes_any ((l.drop cap).take 0) (.slice (some ⟨g, 0, none⟩) 0 (cap - cap)) w (hrow.part hKM (if_pos rfl)) (by simp))
  have hlK : l.length = cap := by omega
  have HL := Lib.hid (show (l.drop cap).take 0 = [] from rfl)
  rw [hlK] at cN
  have ca0 : ¬ (cap : Int) < 0 := by omega
  have hw1 : IntKind.i64.wrap ((cap : Int) - (cap : Int)) = 0 := by rw [Int.sub_self]; rfl
  have hw2 : IntKind.i64.wrap ((cap : Int) + 0) = (cap : Int) := wrap_id (by omega) (by omega)
  have hK0 : (0 : Int) ≤ (cap : Int) := by omega
  have hss : cap - cap = 0 := Nat.sub_self cap
  rw [hss] at HC
  clear hlK hlc hss
  clear hrow hKM hnl
  rcases h3 with ⟨rfl, rfl⟩ | ⟨rfl, rfl⟩ | ⟨rfl, rfl⟩
  all_goals
    go_enter Try.func19, Try.ntmps19
    go_wp2_with fail
    refine Calls.mono HC.out ?_
    rintro e w1 ⟨u, rfl, hu, hb⟩
    have HU := Lib.hid hu
    have HB := Lib.hid hb
    clear hu hb
    go_wp2_with fail
    go_ret2
    exact ⟨_, rfl, HU.out, HB.out⟩
end Go.Proofs.Ytahmihdahgbhkaa
