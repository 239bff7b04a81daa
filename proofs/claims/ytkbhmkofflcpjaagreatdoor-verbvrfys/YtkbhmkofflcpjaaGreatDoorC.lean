/-
  The tests of a label and of a number, walked: they answer what the plain mathematics says.
  No condition beyond those that each theorem states.
-/
import Derived.Test.YtkbhmkofflcpjaaGreatDoorB
namespace Go.Proofs.YtkbhmkofflcpjaaGreatDoor
open Go.RowKit

theorem head_eq {s : List UInt8} (h : 0 < (⟨s.toArray⟩ : ByteArray).size) : s.head? = some ((⟨s.toArray⟩ : ByteArray)[0]'h) := by
  cases s with
  | nil => exact absurd h (Nat.lt_irrefl 0)
  | cons c t => rfl
theorem last_eq {s : List UInt8} {n : Nat} (h : n < (⟨s.toArray⟩ : ByteArray).size) (hn : s.length = n + 1) : s.getLast? = some ((⟨s.toArray⟩ : ByteArray)[n]'h) := by
  rw [List.getLast?_eq_getElem?, hn, Nat.add_sub_cancel, List.getElem?_eq_getElem (by omega)]
  rfl
theorem byte_bne {c : UInt8} {n : Nat} (hn : n < 256) (h : c ≠ UInt8.ofNat n) : ((c.toNat : Int) != (n : Int)) = true := by
  rw [bne_iff_ne]
  intro e
  apply h
  apply UInt8.toNat_inj.1
  rw [UInt8.toNat_ofNat_of_lt' hn]
  omega

set_option maxHeartbeats 1000000 in
set_option maxRecDepth 100000 in
theorem isLabel_any (s : List UInt8) (w : World) (hs : s.length ≤ maxLen) :
    Calls Tryz.prog 105 #[.string ⟨s.toArray⟩] w fun e w' => e = .returned (.bool (labelB s)) ∧ w = w' := by
  unfold maxLen at hs
  go_enter Tryz.func105, Tryz.ntmps105
  go_wp2_with fail
  go_loop [6] (fun i => ∃ j : Nat, j ≤ s.length ∧ i = .int .i64 j ∧ ∀ k, (hk : k < s.length) → k < j → labC s[k] = true) (fun i => s.length - (intOf i).toNat)
  case atStart => exact ⟨0, by omega, rfl, fun k _ h => absurd h (Nat.not_lt_zero _)⟩
  case round =>
    obtain ⟨j, hj, rfl, hno⟩ := hrel
    have hN := Lib.hid hno
    clear hno
    by_cases hlt : j < s.length
    · have hjB : j < (⟨s.toArray⟩ : ByteArray).size := hlt
      have HC := Lib.hid (show labC s[j] = (smallB ((⟨s.toArray⟩ : ByteArray)[j]'hjB) || digB ((⟨s.toArray⟩ : ByteArray)[j]'hjB) || ((⟨s.toArray⟩ : ByteArray)[j]'hjB) == 45) from rfl)
      have HK : Hid (labC s[j] = true → ∃ j' : Nat, j' ≤ s.length ∧ Value.int .i64 ((j : Int) + 1) = .int .i64 j' ∧ ∀ k, (hk : k < s.length) → k < j' → labC s[k] = true) := Lib.hid fun hE => by
        refine ⟨j + 1, by omega, by go_num, fun k hk hkj => ?_⟩
        rcases Nat.lt_or_eq_of_le (Nat.le_of_lt_succ hkj) with h | h
        · exact hN.out k hk h
        · subst h
          exact hE
      go_wp2_with fail
      refine (isSmall_any _ _).mono ?_
      rintro e w1 ⟨rfl, rfl⟩
      cases h1 : smallB ((⟨s.toArray⟩ : ByteArray)[j]'hjB) with
      | true =>
        have HE := Lib.hid (HC.out.trans (by rw [h1]))
        clear h1
        go_wp2_with fail
        exact ⟨HK.out HE.out, by simp [intOf]; omega⟩
      | false =>
        have H1 := Lib.hid h1
        clear h1
        go_wp2_with fail
        refine (isDigit_any _ _).mono ?_
        rintro e w1 ⟨rfl, rfl⟩
        cases h2 : digB ((⟨s.toArray⟩ : ByteArray)[j]'hjB) with
        | true =>
          have HE := Lib.hid (HC.out.trans (by rw [H1.out, h2]))
          clear h2
          go_wp2_with fail
          exact ⟨HK.out HE.out, by simp [intOf]; omega⟩
        | false =>
          have H2 := Lib.hid h2
          clear h2
          by_cases h3 : ((⟨s.toArray⟩ : ByteArray)[j]'hjB) = 45
          · have HE := Lib.hid (HC.out.trans (by rw [H1.out, H2.out, h3]))
            have hb : ((((⟨s.toArray⟩ : ByteArray)[j]'hjB).toNat : Int) != 45) = false := by rw [h3]; rfl
            clear h3
            go_wp2_with fail
            exact ⟨HK.out HE.out, by simp [intOf]; omega⟩
          · have hb : ((((⟨s.toArray⟩ : ByteArray)[j]'hjB).toNat : Int) != 45) = true := byte_bne (n := 45) (by decide) h3
            have HE := Lib.hid (show labelB s = false from by
                unfold labelB
                rw [not_all hlt (HC.out.trans (by rw [H1.out, H2.out]; simpa using h3))]
                rfl)
            clear h3
            go_wp2_with fail
            go_ret
            exact ⟨ret_bool HE.out.symm, rfl⟩
    · obtain rfl : j = s.length := by omega
      have HE := Lib.hid (show s.all labC = true from all_of fun k hk => hN.out k hk hk)
      clear hN
      by_cases h0 : s = []
      · subst h0
        go_wp2_with fail
        go_ret
        exact ⟨rfl, rfl⟩
      · have hne := ne_empty h0
        obtain ⟨n, hn⟩ : ∃ n, s.length = n + 1 := ⟨s.length - 1, by have := List.length_pos_iff.2 h0; omega⟩
        have hB0 : 0 < (⟨s.toArray⟩ : ByteArray).size := by show 0 < s.length; omega
        have hBn : n < (⟨s.toArray⟩ : ByteArray).size := by show n < s.length; omega
        have hi0 : (0 : Int) < (s.length : Int) := by omega
        have hin : (n : Int) < (s.length : Int) := by omega
        have hl1 : (s.length : Int) - 1 = (n : Int) := by omega
        have HH := Lib.hid (head_eq hB0)
        have HL := Lib.hid (last_eq hBn hn)
        have HF := Lib.hid (show labelB s = (decide (s.length ≤ 63) && !((⟨s.toArray⟩ : ByteArray)[0]'hB0 == 45) && !((⟨s.toArray⟩ : ByteArray)[n]'hBn == 45)) from by
          unfold labelB
          rw [HE.out, hne, HH.out, HL.out]
          simp)
        clear h0
        by_cases h63 : s.length ≤ 63
        · have h63i : (s.length : Int) ≤ 63 := by omega
          by_cases ha : ((⟨s.toArray⟩ : ByteArray)[0]'hB0) = 45
          · have hb : ((((⟨s.toArray⟩ : ByteArray)[0]'hB0).toNat : Int) != 45) = false := by rw [ha]; rfl
            have HG := Lib.hid (HF.out.trans (show _ = false by rw [ha]; simp))
            clear ha
            go_wp2_with fail
            go_ret
            exact ⟨ret_bool HG.out.symm, rfl⟩
          · have hb : ((((⟨s.toArray⟩ : ByteArray)[0]'hB0).toNat : Int) != 45) = true := byte_bne (n := 45) (by decide) ha
            by_cases hc : ((⟨s.toArray⟩ : ByteArray)[n]'hBn) = 45
            · have hd : ((((⟨s.toArray⟩ : ByteArray)[n]'hBn).toNat : Int) != 45) = false := by rw [hc]; rfl
              have HG := Lib.hid (HF.out.trans (show _ = false by rw [hc]; simp))
              clear ha hc
              go_wp2_with fail
              go_ret
              exact ⟨ret_bool HG.out.symm, rfl⟩
            · have hd : ((((⟨s.toArray⟩ : ByteArray)[n]'hBn).toNat : Int) != 45) = true := byte_bne (n := 45) (by decide) hc
              have HG := Lib.hid (HF.out.trans (show _ = true by simp [h63, ha, hc]))
              clear ha hc
              go_wp2_with fail
              go_ret
              exact ⟨ret_bool HG.out.symm, rfl⟩
        · have h63i : ¬ ((s.length : Int) ≤ 63) := by omega
          have HG := Lib.hid (HF.out.trans (show _ = false by simp [h63]))
          go_wp2_with fail
          go_ret
          exact ⟨ret_bool HG.out.symm, rfl⟩

theorem val_snoc (t : List UInt8) (c : UInt8) : valN (t ++ [c]) = 10 * valN t + (c.toNat - 48) := by simp [valN]
theorem take_snoc {s : List UInt8} {j : Nat} (h : j < s.length) : s.take (j + 1) = s.take j ++ [s[j]] := by
  rw [List.take_add_one, List.getElem?_eq_getElem h]; rfl
theorem dig_lt {c : UInt8} (h : digB c = true) : 48 ≤ c.toNat ∧ c.toNat ≤ 57 := by
  simpa [digB] using h

theorem val_le_foldl (t : List UInt8) : ∀ n : Nat, n ≤ t.foldl (fun n c => 10 * n + (c.toNat - 48)) n := by
  induction t with
  | nil => intro n; exact Nat.le_refl _
  | cons c t ih =>
    intro n
    rw [List.foldl_cons]
    exact Nat.le_trans (by omega) (ih _)
theorem val_take_le (s : List UInt8) (j : Nat) : valN (s.take j) ≤ valN s := by
  conv => rhs; rw [← List.take_append_drop j s]
  unfold valN
  rw [List.foldl_append]
  exact val_le_foldl _ _

set_option maxHeartbeats 1000000 in
set_option maxRecDepth 100000 in
theorem isNumber_any (s : List UInt8) (w : World) (hs : s.length ≤ maxLen) :
    Calls Tryz.prog 109 #[.string ⟨s.toArray⟩] w fun e w' => e = .returned (.bool (numB s)) ∧ w = w' := by
  unfold maxLen at hs
  go_enter Tryz.func109, Tryz.ntmps109
  go_wp2_with fail
  go_loop [3, 7] (fun v i => ∃ j : Nat, j ≤ s.length ∧ i = .int .i64 j ∧ v = .int .i64 (valN (s.take j)) ∧ valN (s.take j) ≤ 255 ∧ (s.take j).all digB = true) (fun _ i => s.length - (intOf i).toNat)
  case atStart => exact ⟨0, by omega, rfl, rfl, Nat.zero_le _, rfl⟩
  case round =>
    obtain ⟨j, hj, rfl, rfl, hv, hall⟩ := hrel
    have HA := Lib.hid hall
    clear hall
    by_cases hlt : j < s.length
    · have hjB : j < (⟨s.toArray⟩ : ByteArray).size := hlt
      have HEL := Lib.hid (show ((⟨s.toArray⟩ : ByteArray)[j]'hjB) = s[j] from rfl)
      have HN := Lib.hid (val_snoc (s.take j) s[j])
      have HT := Lib.hid (take_snoc hlt)
      go_wp2_with fail
      refine (isDigit_any _ _).mono ?_
      rintro e w1 ⟨rfl, rfl⟩
      cases h1 : digB ((⟨s.toArray⟩ : ByteArray)[j]'hjB) with
      | false =>
        have HE := Lib.hid (show numB s = false from by
          unfold numB
          rw [not_all hlt (HEL.out ▸ h1)]
          rfl)
        clear h1
        go_wp2_with fail
        go_ret
        exact ⟨ret_bool HE.out.symm, rfl⟩
      | true =>
        have hd := dig_lt h1
        have HD := Lib.hid h1
        clear h1
        have hA : (48 : Int) ≤ ((((⟨s.toArray⟩ : ByteArray)[j]'hjB).toNat : Nat) : Int) := by omega
        have hB : ((((⟨s.toArray⟩ : ByteArray)[j]'hjB).toNat : Nat) : Int) ≤ 57 := by omega
        have hvi : ((valN (s.take j) : Nat) : Int) ≤ 255 := by omega
        have HV : Hid (valN (s.take (j + 1)) = 10 * valN (s.take j) + (((⟨s.toArray⟩ : ByteArray)[j]'hjB).toNat - 48)) := Lib.hid (by rw [HT.out, HN.out, HEL.out])
        have HVL := Lib.hid (val_take_le s (j + 1))
        generalize valN (s.take j) = v at *
        by_cases hb : (255 : Int) < (v : Int) * 10 + (((((⟨s.toArray⟩ : ByteArray)[j]'hjB).toNat : Nat) : Int) - 48)
        · have HE := Lib.hid (show numB s = false from by
            have h1 := HVL.out
            rw [HV.out] at h1
            have : ¬ (valN s ≤ 255) := by omega
            unfold numB
            simp [this])
          go_wp2_with fail
          go_ret
          exact ⟨ret_bool HE.out.symm, rfl⟩
        · go_wp2_with fail
          refine ⟨⟨j + 1, by omega, by go_num, ?_, ?_, ?_⟩, by simp [intOf]; omega⟩
          · rw [HV.out]
            congr 1
            omega
          · rw [HV.out]
            omega
          · rw [HT.out, List.all_append, HA.out]
            simp only [List.all_cons, List.all_nil, Bool.and_true, Bool.true_and]
            exact HEL.out ▸ HD.out
    · obtain rfl : j = s.length := by omega
      rw [List.take_length] at HA hv
      have HF := Lib.hid (show numB s = (!s.isEmpty && (s == [48] || !(s.head? == some 48))) from by
        unfold numB
        rw [HA.out]
        simp [hv])
      by_cases h48 : s = [48]
      · subst h48
        go_wp2_with fail
        go_ret
        exact ⟨ret_bool HF.out.symm, rfl⟩
      · by_cases h0 : s = []
        · subst h0
          go_wp2_with fail
          go_ret
          exact ⟨ret_bool HF.out.symm, rfl⟩
        · have hne := ne_empty h0
          have hB0 : 0 < (⟨s.toArray⟩ : ByteArray).size := List.length_pos_iff.2 h0
          have hi0 : (0 : Int) < (s.length : Int) := by have := List.length_pos_iff.2 h0; omega
          have HH := Lib.hid (head_eq hB0)
          have HG := Lib.hid (show numB s = !((⟨s.toArray⟩ : ByteArray)[0]'hB0 == 48) from by
            rw [HF.out, hne, HH.out]
            simp [h48])
          have hq : (s == [48]) = false := beq_eq_false_iff_ne.2 h48
          clear h0
          by_cases ha : ((⟨s.toArray⟩ : ByteArray)[0]'hB0) = 48
          · have hb : ((((⟨s.toArray⟩ : ByteArray)[0]'hB0).toNat : Int) != 48) = false := by rw [ha]; rfl
            have HI := Lib.hid (HG.out.trans (show _ = false by rw [ha]; rfl))
            clear ha
            go_wp2_with fail
            go_ret
            exact ⟨ret_bool HI.out.symm, rfl⟩
          · have hb : ((((⟨s.toArray⟩ : ByteArray)[0]'hB0).toNat : Int) != 48) = true := byte_bne (n := 48) (by decide) ha
            have HI := Lib.hid (HG.out.trans (show _ = true by simp [ha]))
            clear ha
            go_wp2_with fail
            go_ret
            exact ⟨ret_bool HI.out.symm, rfl⟩
end Go.Proofs.YtkbhmkofflcpjaaGreatDoor
