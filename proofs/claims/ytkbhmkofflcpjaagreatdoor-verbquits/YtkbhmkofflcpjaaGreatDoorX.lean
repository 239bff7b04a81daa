/-
  The page's quote and inner, walked.
  Conditions: as each theorem states them.
-/
import Derived.Test.YtkbhmkofflcpjaaGreatDoorV
namespace Go.Proofs.YtkbhmkofflcpjaaGreatDoor
open Go.RowKit

set_option maxHeartbeats 1000000 in
set_option maxRecDepth 100000 in
theorem quote_any (s : List UInt8) (w : World) (hs : s.length ≤ 10000) :
    Calls Tryz.prog 69 #[.string ⟨s.toArray⟩] w fun e w' => e = .returned (.string ⟨(quoteL s).toArray⟩) ∧ w = w' := by
  go_enter Tryz.func69, Tryz.ntmps69
  go_wp2_with fail
  go_loop [3, 4] (fun qv iv => ∃ j : Nat, j ≤ s.length ∧ iv = .int .i64 j ∧ qv = .string ⟨(34 :: escL (s.take j)).toArray⟩) (fun _ iv => s.length - (intOf iv).toNat)
  case atStart => exact ⟨0, Nat.zero_le _, rfl, rfl⟩
  case round =>
    obtain ⟨j, hj, rfl, rfl⟩ := hrel
    have hel : (34 :: escL (s.take j)).length ≤ 20001 := by
      have h1 := esc_len (s.take j)
      have h2 : (s.take j).length ≤ j := List.length_take_le _ _
      simp only [List.length_cons]
      omega
    by_cases hlt : j < s.length
    · have hjB : j < (⟨s.toArray⟩ : ByteArray).size := hlt
      have HX := Lib.hid (show ((⟨s.toArray⟩ : ByteArray)[j]'hjB) = s[j] from rfl)
      have HE := Lib.hid (show 34 :: escL (s.take (j + 1)) = 34 :: escL (s.take j) ++ escC s[j] by rw [take_snoc hlt, esc_snoc]; rfl)
      have HP := Lib.hid (show (⟨s.toArray⟩ : ByteArray).extract j (j + 1) = ⟨[s[j]].toArray⟩ by
        rw [cut_piece, show j + 1 - j = 1 by omega, List.drop_eq_getElem_cons hlt]
        rfl)
      have hj1 : (j : Int) + 1 ≤ (s.length : Int) := by omega
      by_cases hq : s[j] = 34 ∨ s[j] = 92
      · have HQ := Lib.hid (show 34 :: escL (s.take (j + 1)) = (34 :: escL (s.take j) ++ [92]) ++ [s[j]] by rw [HE.out, escC, if_pos hq]; simp)
        generalize 34 :: escL (s.take j) = q at *
        have hadd1 := fun w => add_str q [92] w (by simp; omega)
        have hadd2 : ∀ w, (Op.stringOp .add ⟨(q ++ [92]).toArray⟩ ((⟨s.toArray⟩ : ByteArray).extract j (j + 1))).run Tryz.prog w = .ok (.string ⟨((q ++ [92]) ++ [s[j]]).toArray⟩) w := fun w => by
          rw [HP.out]
          exact add_str _ _ w (by simp; omega)
        rw [← HQ.out] at hadd2
        by_cases h34 : s[j] = 34
        · have h1 : ((((⟨s.toArray⟩ : ByteArray)[j]'hjB).toNat : Int) == 34) = true := by rw [HX.out, h34]; rfl
          clear hq h34
          go_wp2_with fail
          exact ⟨⟨j + 1, hlt, by go_num, rfl⟩, by simp [intOf]; omega⟩
        · have h92 : s[j] = 92 := hq.resolve_left h34
          have h1 : ((((⟨s.toArray⟩ : ByteArray)[j]'hjB).toNat : Int) == 34) = false := byte_ne (d := 34) (by rw [HX.out]; exact h34)
          have h2 : ((((⟨s.toArray⟩ : ByteArray)[j]'hjB).toNat : Int) == 92) = true := by rw [HX.out, h92]; rfl
          clear hq h34 h92
          go_wp2_with fail
          exact ⟨⟨j + 1, hlt, by go_num, rfl⟩, by simp [intOf]; omega⟩
      · have HQ := Lib.hid (show 34 :: escL (s.take (j + 1)) = (34 :: escL (s.take j)) ++ [s[j]] by rw [HE.out, escC, if_neg hq])
        simp only [not_or] at hq
        have h1 : ((((⟨s.toArray⟩ : ByteArray)[j]'hjB).toNat : Int) == 34) = false := byte_ne (d := 34) (by rw [HX.out]; exact hq.1)
        have h2 : ((((⟨s.toArray⟩ : ByteArray)[j]'hjB).toNat : Int) == 92) = false := byte_ne (d := 92) (by rw [HX.out]; exact hq.2)
        generalize 34 :: escL (s.take j) = q at *
        have hadd2 : ∀ w, (Op.stringOp .add ⟨q.toArray⟩ ((⟨s.toArray⟩ : ByteArray).extract j (j + 1))).run Tryz.prog w = .ok (.string ⟨(q ++ [s[j]]).toArray⟩) w := fun w => by
          rw [HP.out]
          exact add_str _ _ w (by simp; omega)
        rw [← HQ.out] at hadd2
        clear hq
        go_wp2_with fail
        exact ⟨⟨j + 1, hlt, by go_num, rfl⟩, by simp [intOf]; omega⟩
    · obtain rfl : j = s.length := by omega
      rw [List.take_length] at hel ⊢
      have HQ := Lib.hid (show quoteL s = (34 :: escL s) ++ [34] from rfl)
      generalize 34 :: escL s = q at *
      have hadd1 := fun w => add_str q [34] w (by simp; omega)
      go_wp2_with fail
      go_ret
      exact ⟨ret_str HQ.out.symm, rfl⟩
end Go.Proofs.YtkbhmkofflcpjaaGreatDoor
