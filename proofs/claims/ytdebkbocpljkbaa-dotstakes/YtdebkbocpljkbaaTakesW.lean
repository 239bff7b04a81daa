/-
  The law DotsTakes, walked: at every list of texts that can be read it answers true and turns nothing that was there.
  Conditions: as the theorem states them.
-/
import Derived.Test.YtdebkbocpljkbaaO
namespace Go.Proofs.Ytdebkbocpljkbaa
open Go.RowKit

set_option maxHeartbeats 1000000 in
theorem takes_any (m : Int) (l : List (List UInt8)) (v : Value) (w : World) (hm : w.cell? ⟨0, 0, none⟩ = some (.int .i64 m)) (h0 : 0 < w.heap.size) (hl : TextsAt w v l) :
    Calls Try.prog 4 #[v] w fun e w' => e = .returned (.bool true) ∧ Below w.heap.size w w' := by
  obtain ⟨A, c, rfl, hll, hlm, hl⟩ := hl
  unfold maxLen at hll hlm
  have HL := Lib.hid hl
  have HM := Lib.hid hlm
  clear hl hlm
  go_enter Try.func4, Try.ntmps4
  go_wp2_with fail
  go_loopw [3] (fun i wr => ∃ j : Nat, j ≤ l.length ∧ i = .int .i64 j ∧ wr = w) (fun i _ => l.length - (intOf i).toNat)
  case atStart => exact ⟨0, Nat.zero_le _, rfl, rfl⟩
  case round =>
    obtain ⟨j, hj, rfl, rfl⟩ := hrel
    by_cases hlt : j < l.length
    · by_cases h30 : j < 30
      · obtain ⟨b, o, rfl, hab, hac⟩ := HL.out (fun e => by rw [e] at hlt; exact absurd hlt (by simp))
        have hc := hac j hlt
        have hsm : l[j].length ≤ 9223372036854775807 := HM.out _ (List.getElem_mem hlt)
        clear hac
        generalize l[j] = s at *
        by_cases h5 : 5000 < s.length
        · go_wp2
          go_ret
          exact ⟨rfl, Below.refl _ _⟩
        · go_wp2_with fail
          refine (take_any s _).mono ?_
          rintro e w1 ⟨rfl, rfl⟩
          go_wp2_with fail
          refine (takeP_any ⟨s.toArray⟩ _).mono ?_
          rintro e w1 ⟨rfl, rfl⟩
          rw [show takeL (⟨s.toArray⟩ : ByteArray).data.toList = takeL s from rfl]
          generalize takeL s = t at *
          obtain ⟨t1, t2⟩ := t
          go_wp2
          exact ⟨⟨j + 1, hlt, by go_num, trivial⟩, by simp [intOf]; omega⟩
      · have h30' : decide ((j : Int) < 30) = false := by simp; omega
        go_wp2_with fail
        refine (wakes_any m _ hm h0).mono ?_
        rintro e w1 ⟨rfl, hb1⟩
        go_wp2
        go_ret
        exact ⟨rfl, hb1⟩
    · go_wp2_with fail
      refine (wakes_any m _ hm h0).mono ?_
      rintro e w1 ⟨rfl, hb1⟩
      go_wp2
      go_ret
      exact ⟨rfl, hb1⟩
end Go.Proofs.Ytdebkbocpljkbaa
