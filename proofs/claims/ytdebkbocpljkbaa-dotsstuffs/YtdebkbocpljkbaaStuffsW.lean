/-
  The law DotsStuffs, walked: at every list of texts that can be read it answers true and turns nothing that was there.
  Conditions: as the theorem states them.
-/
import Derived.Test.YtdebkbocpljkbaaH
namespace Go.Proofs.Ytdebkbocpljkbaa
open Go.RowKit

set_option maxHeartbeats 2000000 in
theorem stuffs_any (m : Int) (l : List (List UInt8)) (v : Value) (w : World) (hm : w.cell? ⟨0, 0, none⟩ = some (.int .i64 m)) (h0 : 0 < w.heap.size) (hl : TextsAt w v l) :
    Calls Try.prog 3 #[v] w fun e w' => e = .returned (.bool true) ∧ Below w.heap.size w w' := by
  obtain ⟨A, c, rfl, hll, hlm, hl⟩ := hl
  unfold maxLen at hll hlm
  have HL := Lib.hid hl
  have HM := Lib.hid hlm
  clear hl hlm
  go_enter Try.func3, Try.ntmps3
  go_wp2_with fail
  go_loopw [3] (fun i wr => ∃ j : Nat, j ≤ l.length ∧ i = .int .i64 j ∧ Below w.heap.size w wr) (fun i _ => l.length - (intOf i).toNat)
  case atStart => exact ⟨0, Nat.zero_le _, rfl, Below.refl _ _⟩
  case round =>
    obtain ⟨j, hj, rfl, hB⟩ := hrel
    have hm1 := (hB.cell (p := ⟨0, 0, none⟩) h0).trans hm
    have hsz := hB.size
    by_cases hlt : j < l.length
    · by_cases h10 : j < 10
      · obtain ⟨b, o, rfl, hab, hac⟩ := HL.out (fun e => by rw [e] at hlt; exact absurd hlt (by simp))
        have hc0 := hac j hlt
        have hsm : l[j].length ≤ 9223372036854775807 := HM.out _ (List.getElem_mem hlt)
        clear hac
        generalize l[j] = s at *
        have hc := (hB.cell (p := ⟨b, o + j, none⟩) hab).trans hc0
        by_cases h5 : 5000 < s.length
        · go_wp2
          go_ret
          exact ⟨rfl, hB⟩
        · have hsl : s.length ≤ maxLen := by unfold maxLen; omega
          cases ht : textL s with
          | none =>
            have HT := Lib.hid ht
            clear ht
            go_wp2_with fail
            refine (rowsP_any s _ hsl).mono ?_
            rintro e w1 ⟨v1, rfl, hb1, _⟩
            rw [HT.out]
            have hB1 := hB.trans (hb1.mono hsz)
            have hsz1 := hB1.size
            have hc1 := (hB1.cell (p := ⟨b, o + j, none⟩) hab).trans hc0
            have hm2 := (hB1.cell (p := ⟨0, 0, none⟩) h0).trans hm
            clear hc hm1
            go_wp2_with fail
            refine (stuff_any s m _ hm2 (by omega) hsl).mono ?_
            rintro e w2 ⟨rfl, hb2⟩
            rw [HT.out]
            have hB2 := hB1.trans (hb2.mono hsz1)
            have hsz2 := hB2.size
            have hc2 := (hB2.cell (p := ⟨b, o + j, none⟩) hab).trans hc0
            have hm3 := (hB2.cell (p := ⟨0, 0, none⟩) h0).trans hm
            clear hc1 hm2
            go_wp2_with fail
            refine (check_any s m _ hm3 (by omega) hsl).mono ?_
            rintro e w3 ⟨rfl, hb3⟩
            rw [HT.out]
            have hB3 := hB2.trans (hb3.mono hsz2)
            clear hc2 hm3
            go_wp2_with (go_at_call 10; refine (num_any _ _).mono ?_; rintro e w' ⟨rfl, rfl⟩)
            exact ⟨⟨j + 1, hlt, by go_num, hB3⟩, by simp [intOf]; omega⟩
          | some rows =>
            have HT := Lib.hid ht
            clear ht
            go_wp2_with fail
            refine (rowsP_any s _ hsl).mono ?_
            rintro e w0 ⟨v1, rfl, hb0, _⟩
            rw [HT.out]
            have hB0 := hB.trans (hb0.mono hsz)
            have hsz0 := hB0.size
            have hc1 := (hB0.cell (p := ⟨b, o + j, none⟩) hab).trans hc0
            clear hc hm1
            go_wp2_with fail
            refine (stuffP_any s rows _ HT.out).mono ?_
            rintro e w1 ⟨rfl, hb1⟩
            have hB1 := hB0.trans (hb1.mono hsz0)
            have hsz1 := hB1.size
            have hc2 := (hB1.cell (p := ⟨b, o + j, none⟩) hab).trans hc0
            have hm2 := (hB1.cell (p := ⟨0, 0, none⟩) h0).trans hm
            clear hc1
            go_wp2_with fail
            refine (stuff_any s m _ hm2 (by omega) hsl).mono ?_
            rintro e w2 ⟨rfl, hb2⟩
            rw [HT.out, show sentOf (some rows) = sentL rows from rfl]
            have hB2 := hB1.trans (hb2.mono hsz1)
            have hsz2 := hB2.size
            have hc3 := (hB2.cell (p := ⟨b, o + j, none⟩) hab).trans hc0
            have hm3 := (hB2.cell (p := ⟨0, 0, none⟩) h0).trans hm
            clear hc2 hm2
            go_wp2_with fail
            refine (check_any s m _ hm3 (by omega) hsl).mono ?_
            rintro e w3 ⟨rfl, hb3⟩
            rw [HT.out]
            have hB3 := hB2.trans (hb3.mono hsz2)
            clear hc3 hm3
            generalize sentL rows = t at *
            go_wp2_with (go_at_call 10; refine (num_any _ _).mono ?_; rintro e w' ⟨rfl, rfl⟩)
            exact ⟨⟨j + 1, hlt, by go_num, hB3⟩, by simp [intOf]; omega⟩
      · have h10' : decide ((j : Int) < 10) = false := by simp; omega
        go_wp2_with fail
        refine (wakes_any m _ hm1 (by omega)).mono ?_
        rintro e w1 ⟨rfl, hb1⟩
        go_wp2
        go_ret
        exact ⟨rfl, hB.trans (hb1.mono hsz)⟩
    · go_wp2_with fail
      refine (wakes_any m _ hm1 (by omega)).mono ?_
      rintro e w1 ⟨rfl, hb1⟩
      go_wp2
      go_ret
      exact ⟨rfl, hB.trans (hb1.mono hsz)⟩
end Go.Proofs.Ytdebkbocpljkbaa
