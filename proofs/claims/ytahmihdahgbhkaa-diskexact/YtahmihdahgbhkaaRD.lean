/-
  The page's Read.
  Conditions: as each theorem states them.
-/
import Derived.Test.YtahmihdahgbhkaaRH
import Derived.Test.YtahmihdahgbhkaaRK
import Derived.Test.YtahmihdahgbhkaaRI
import Derived.Test.YtahmihdahgbhkaaDR
namespace Go.Proofs.Ytahmihdahgbhkaa
open Go.RowKit

theorem fileOk_no {n : Int} (h : ¬ (0 ≤ n ∧ n ≤ 2)) : fileOk n = false := by cases hq : fileOk n with | false => rfl | true => exact absurd (fileOk_iff.1 hq) h
theorem Read_r (w : World) (ρ : Ro) (B p : Nat) (x : RdV) (d : Dk) (h : RAt w ρ B p x d) (n a k : Int) :
    Calls Try.prog 19 #[.pointer (some ⟨p, 0, none⟩), .int .i64 n, .int .i64 a, .int .i64 k] w fun e w' => ∃ u, e = .returned (.tuple #[u, .int .i64 (readD d n a k).2]) ∧ BR w' w.heap.size u (readD d n a k).1 ∧ Below w.heap.size w w' := by
  have h9 := h.blk.c 9 (u := .bool x.dead) rfl
  have hde := h.dead_eq
  cases hd : x.dead with
  | true =>
    rw [hd] at h9
    rw [show readD d n a k = ([], 10) from if_pos (hde.symm.trans hd)]
    exact readr_dead w p n a k h9
  | false =>
    rw [hd] at h9
    have hp : d.p.isNone = false := hde.symm.trans hd
    by_cases c : 0 ≤ n ∧ n ≤ 2
    · by_cases ck : 0 ≤ k
      · obtain ⟨N, hN⟩ : ∃ N, n.toNat = N := ⟨_, rfl⟩
        have hN2 : N ≤ 2 := by omega
        have h3 : (n = 0 ∧ N = 0) ∨ (n = 1 ∧ N = 1) ∨ (n = 2 ∧ N = 2) := by omega
        have hrd : readD d n a k = if inB a 0 (d.f N).now.length && decide (k ≤ ((d.f N).now.length : Int) - a) then (((d.f N).now.drop a.toNat).take k.toNat, 0) else ([], 2) := by
          unfold readD
          rw [hp, fileOk_iff.2 c, hN, if_pos ck]
          rfl
        have cN := h.cN hN2
        have hrow := (h.now N hN2).br
        have hnl := h.nowLen hN2
        generalize (d.f N).now = l at *
        by_cases ca : 0 ≤ a ∧ a ≤ (l.length : Int)
        · obtain ⟨K, hK⟩ : ∃ K : Nat, a = (K : Int) := ⟨a.toNat, by omega⟩
          obtain ⟨M, hM⟩ : ∃ M : Nat, k = (M : Int) := ⟨k.toNat, by omega⟩
          subst hK hM
          by_cases cl : (M : Int) ≤ (l.length : Int) - (K : Int)
          · rw [inB_iff.2 ca, decide_eq_true cl] at hrd
            rw [show readD d n K M = ((l.drop K).take M, 0) from hrd]
            rcases hrow.form with ⟨hv, hl0⟩ | ⟨g, cap, hv, hg, hlt, hlc, hcm⟩
            · rw [hv] at cN
              subst hl0
              obtain rfl : K = 0 := by simpa using ca.2
              obtain rfl : M = 0 := by simpa using cl
              exact readr_nil w p N n h3 h9 cN
            · rw [hv] at cN hrow
              have hcm2 : cap < 9223372036854775808 := by unfold maxLen at hcm; omega
              by_cases hck : cap = K
              · exact readr_eq w p N g cap K M l n h3 h9 cN hrow.rb hlc hcm2 hnl (by omega) hck
              · exact readr_ne w p N g cap K M l n h3 h9 cN hrow.rb hlc hcm2 hnl (by omega) hck
          · rw [inB_iff.2 ca, decide_eq_false cl] at hrd
            rw [show readD d n K M = ([], 2) from hrd]
            obtain ⟨nA, nc, hnv, _, _⟩ := hrow.slice
            rw [hnv] at cN
            exact readr_many w p N l.length nc K M nA n h3 h9 cN hnl (by omega) (by omega)
        · rw [inB_not.2 ca] at hrd
          rw [show readD d n a k = ([], 2) from hrd]
          obtain ⟨nA, nc, hnv, _, _⟩ := hrow.slice
          rw [hnv] at cN
          by_cases ca0 : a < 0
          · exact readr_low w p N l.length nc nA n a k h3 h9 cN (by omega) ca0
          · exact readr_high w p N l.length nc nA n a k h3 h9 cN (by omega) ca0 (by omega)
      · rw [show readD d n a k = ([], 1) by unfold readD; rw [hp, fileOk_iff.2 c, if_neg ck]; rfl]
        exact readr_neg w p n a k h9 (by omega) (by omega) (by omega)
    · rw [show readD d n a k = ([], 1) by unfold readD; rw [hp, fileOk_no c]; rfl]
      by_cases c0 : n < 0
      · exact readr_n0 w p n a k h9 c0
      · exact readr_n2 w p n a k h9 c0 (by omega)
end Go.Proofs.Ytahmihdahgbhkaa
