/-
  The page's Value, Literal and Domain, walked.
  Conditions: as each theorem states them.
-/
import Derived.Test.YtkbhmkofflcpjaaGreatDoorT
namespace Go.Proofs.YtkbhmkofflcpjaaGreatDoor
open Go.RowKit

theorem val_ge (t : List UInt8) : ∀ n : Nat, n * 10 ^ t.length ≤ t.foldl (fun n c => 10 * n + (c.toNat - 48)) n := by
  induction t with
  | nil => intro n; simp
  | cons c t ih =>
    intro n
    rw [List.foldl_cons, List.length_cons, Nat.pow_succ]
    refine Nat.le_trans ?_ (ih _)
    have : n * (10 ^ t.length * 10) = (10 * n) * 10 ^ t.length := by rw [Nat.mul_comm 10 n, Nat.mul_assoc, Nat.mul_comm (10 ^ t.length) 10]
    rw [this]
    exact Nat.mul_le_mul_right _ (by omega)
theorem val_lt {t : List UInt8} (h : t.all digB = true) : valN t < 10 ^ t.length := by
  have key : ∀ (t : List UInt8) (n : Nat), t.all digB = true → t.foldl (fun n c => 10 * n + (c.toNat - 48)) n < (n + 1) * 10 ^ t.length := by
    intro t
    induction t with
    | nil => intro n _; simp
    | cons c t ih =>
      intro n h
      simp only [List.all_cons, Bool.and_eq_true] at h
      have hd := dig_lt h.1
      rw [List.foldl_cons, List.length_cons, Nat.pow_succ]
      refine Nat.lt_of_lt_of_le (ih _ h.2) ?_
      have : (n + 1) * (10 ^ t.length * 10) = (10 * (n + 1)) * 10 ^ t.length := by rw [Nat.mul_comm 10 (n + 1), Nat.mul_assoc, Nat.mul_comm (10 ^ t.length) 10]
      rw [this]
      exact Nat.mul_le_mul_right _ (by omega)
  have := key t 0 h
  simpa [valN] using this
theorem num_len {s : List UInt8} (h : numB s = true) : s.length ≤ 16 := by
  simp only [numB, Bool.and_eq_true, Bool.or_eq_true, decide_eq_true_eq, Bool.not_eq_true', beq_iff_eq] at h
  obtain ⟨⟨⟨h1, h2⟩, h3⟩, h4⟩ := h
  rcases h4 with h4 | h4
  · rw [h4]; decide
  · cases s with
    | nil => simp
    | cons c t =>
      have hc : c ≠ 48 := by simpa using h4
      simp only [List.all_cons, Bool.and_eq_true] at h1
      have hd := dig_lt h1.1
      have hc1 : 1 ≤ c.toNat - 48 := by
        have : c.toNat ≠ 48 := fun e => hc (UInt8.toNat_inj.1 e)
        omega
      have h5 := val_ge t (c.toNat - 48)
      have h6 : valN (c :: t) = t.foldl (fun n c => 10 * n + (c.toNat - 48)) (c.toNat - 48) := by
        show t.foldl _ (10 * 0 + (c.toNat - 48)) = _
        simp
      rw [h6] at h2
      have h7 : 10 ^ t.length ≤ 255 := Nat.le_trans (Nat.le_trans (by rw [Nat.one_mul]; exact Nat.le_refl _) (Nat.mul_le_mul_right (10 ^ t.length) hc1)) (Nat.le_trans h5 h2)
      rcases Nat.lt_or_ge t.length 15 with h8 | h8
      · simp; omega
      · have : 10 ^ 15 ≤ 10 ^ t.length := Nat.pow_le_pow_right (by omega) h8
        omega

/-- What Value answers. -/
def okV (s : List UInt8) : Bool := !s.isEmpty && decide (s.length ≤ 16) && !(decide (1 < s.length) && s.head? == some 48) && s.all digB
def valV (s : List UInt8) : Int := if okV s then (valN s : Int) else 0

theorem num_val (s : List UInt8) : numB s = (okV s && decide (valN s ≤ 255)) := by
  rw [Bool.eq_iff_iff]
  constructor
  · intro h
    have hl := num_len h
    simp only [numB, Bool.and_eq_true, Bool.or_eq_true, decide_eq_true_eq, Bool.not_eq_true', beq_iff_eq] at h
    obtain ⟨⟨⟨h1, h2⟩, h3⟩, h4⟩ := h
    simp only [okV, Bool.and_eq_true, decide_eq_true_eq, Bool.not_eq_true', h1, h2, h3, hl, true_and, and_true]
    rcases h4 with rfl | h4
    · rfl
    · rw [h4, Bool.and_false]
  · intro h
    simp only [okV, Bool.and_eq_true, decide_eq_true_eq, Bool.not_eq_true'] at h
    obtain ⟨⟨⟨⟨h1, h2⟩, h3⟩, h4⟩, h5⟩ := h
    simp only [numB, Bool.and_eq_true, Bool.or_eq_true, decide_eq_true_eq, Bool.not_eq_true', beq_iff_eq, h1, h4, h5, true_and]
    cases s with
    | nil => cases h1
    | cons c t =>
      cases t with
      | nil =>
        by_cases hc : c = 48
        · exact .inl (by rw [hc])
        · exact .inr (by simpa using hc)
      | cons d u =>
        refine .inr ?_
        simpa using h3

theorem ret_ib {a b : Int} {c d : Bool} (h : a = b) (k : c = d) : Ending.returned (.tuple #[.int .i64 a, .bool c]) = .returned (.tuple #[.int .i64 b, .bool d]) := by rw [h, k]

set_option maxHeartbeats 2000000 in
set_option maxRecDepth 100000 in
theorem value_any (s : List UInt8) (w : World) (hs : s.length ≤ 10000) :
    Calls Tryz.prog 66 #[.string ⟨s.toArray⟩] w fun e w' => e = .returned (.tuple #[.int .i64 (valV s), .bool (okV s)]) ∧ w = w' := by
  cases hs0 : s with
  | nil =>
    subst hs0
    go_enter Tryz.func66, Tryz.ntmps66
    go_wp2_with fail
    go_ret2
    exact ⟨rfl, rfl⟩
  | cons c0 t0 =>
    have hB0 : 0 < (⟨s.toArray⟩ : ByteArray).size := by rw [hs0]; exact Nat.zero_lt_succ _
    have HH := Lib.hid (head_eq hB0)
    have h0 : s ≠ [] := by rw [hs0]; exact List.cons_ne_nil _ _
    rw [← hs0]
    clear hs0
    have hne := ne_empty h0
    have hn2 : (s == []) = false := beq_eq_false_iff_ne.2 h0
    have hi0 : (0 : Int) < (s.length : Int) := by have := List.length_pos_iff.2 h0; omega
    have HOK := Lib.hid (show okV s = (decide (s.length ≤ 16) && !(decide (1 < s.length) && s.head? == some 48) && s.all digB) by simp [okV, hne])
    have HV0 : Hid (okV s = false → valV s = 0) := Lib.hid fun h => by simp [valV, h]
    clear h0
    by_cases h16 : s.length ≤ 16
    · have h16i : ¬ ((16 : Int) < (s.length : Int)) := by omega
      have hcase : (1 < s.length ∧ s.head? = some 48) ∨ ¬ (1 < s.length ∧ s.head? = some 48) := Classical.em _
      rcases hcase with ⟨hl1, hz⟩ | hgood
      · have hl1i : (1 : Int) < (s.length : Int) := by omega
        have HE := Lib.hid (show okV s = false by rw [HOK.out, hz]; simp [hl1])
        have hb : ((((⟨s.toArray⟩ : ByteArray)[0]'hB0).toNat : Int) == 48) = true := by
          have h1 := HH.out
          rw [hz] at h1
          rw [← Option.some.inj h1]
          rfl
        clear hz
        go_enter Tryz.func66, Tryz.ntmps66
        go_wp2_with fail
        go_ret2
        exact ⟨ret_ib (HV0.out HE.out).symm HE.out.symm, rfl⟩
      · have HG := Lib.hid (show okV s = s.all digB by
          rw [HOK.out]
          have : (decide (1 < s.length) && s.head? == some 48) = false := by
            rw [Bool.and_eq_false_iff]
            by_cases h : 1 < s.length
            · right
              exact beq_eq_false_iff_ne.2 fun e => hgood ⟨h, e⟩
            · left
              exact decide_eq_false h
          rw [this]
          simp [h16])
        have hrun : ∀ (hh : (¬ (1 : Int) < (s.length : Int)) ∨ ((1 : Int) < (s.length : Int) ∧ ((((⟨s.toArray⟩ : ByteArray)[0]'hB0).toNat : Int) == 48) = false)), Calls Tryz.prog 66 #[.string ⟨s.toArray⟩] w fun e w' => e = .returned (.tuple #[.int .i64 (valV s), .bool (okV s)]) ∧ w = w' := by
          intro hh
          rcases hh with hh | ⟨hh, hh2⟩
          all_goals
            go_enter Tryz.func66, Tryz.ntmps66
            go_wp2_with fail
            go_loop [4, 5] (fun v i => ∃ j : Nat, j ≤ s.length ∧ i = .int .i64 j ∧ v = .int .i64 (valN (s.take j)) ∧ (s.take j).all digB = true) (fun _ i => s.length - (intOf i).toNat)
            case atStart => exact ⟨0, Nat.zero_le _, rfl, rfl, rfl⟩
            case round =>
              obtain ⟨j, hj, rfl, rfl, hall⟩ := hrel
              have HA := Lib.hid hall
              clear hall
              by_cases hlt : j < s.length
              · have hjB : j < (⟨s.toArray⟩ : ByteArray).size := hlt
                have HX := Lib.hid (show ((⟨s.toArray⟩ : ByteArray)[j]'hjB) = s[j] from rfl)
                have HN := Lib.hid (val_snoc (s.take j) s[j])
                have HT := Lib.hid (take_snoc hlt)
                have hvi : ((valN (s.take j) : Nat) : Int) ≤ 1000000000000000 := by
                  have h1 := val_lt HA.out
                  have h2 : (s.take j).length ≤ 15 := by rw [List.length_take]; omega
                  have h3 : 10 ^ (s.take j).length ≤ 10 ^ 15 := Nat.pow_le_pow_right (by omega) h2
                  omega
                have hv0 : (0 : Int) ≤ ((valN (s.take j) : Nat) : Int) := by omega
                cases hd : digB s[j] with
                | true =>
                  have hd1 := dig_lt hd
                  have HD := Lib.hid hd
                  have hA : (48 : Int) ≤ ((((⟨s.toArray⟩ : ByteArray)[j]'hjB).toNat : Nat) : Int) := by rw [HX.out]; omega
                  have hB : ((((⟨s.toArray⟩ : ByteArray)[j]'hjB).toNat : Nat) : Int) ≤ 57 := by rw [HX.out]; omega
                  have HVV : Hid (((valN (s.take (j + 1)) : Nat) : Int) = 10 * ((valN (s.take j) : Nat) : Int) + (((((⟨s.toArray⟩ : ByteArray)[j]'hjB).toNat : Nat) : Int) - 48)) := Lib.hid (by rw [HT.out, HN.out, HX.out]; omega)
                  clear hd hd1
                  generalize valN (s.take j) = v at *
                  go_wp2_with fail
                  refine ⟨⟨j + 1, hlt, by go_num, ?_, ?_⟩, by simp [intOf]; omega⟩
                  · rw [HVV.out]
                  · rw [HT.out, List.all_append, HA.out]
                    simp [HD.out]
                | false =>
                  have HE := Lib.hid (show okV s = false by rw [HG.out]; exact not_all hlt hd)
                  by_cases hA : (48 : Int) ≤ ((((⟨s.toArray⟩ : ByteArray)[j]'hjB).toNat : Nat) : Int)
                  · have hB : (57 : Int) < ((((⟨s.toArray⟩ : ByteArray)[j]'hjB).toNat : Nat) : Int) := by
                      rw [HX.out] at hA ⊢
                      simp only [digB, Bool.and_eq_false_iff, decide_eq_false_iff_not] at hd
                      omega
                    clear hd
                    go_wp2_with fail
                    go_ret2
                    exact ⟨ret_ib (HV0.out HE.out).symm HE.out.symm, rfl⟩
                  · clear hd
                    go_wp2_with fail
                    go_ret2
                    exact ⟨ret_ib (HV0.out HE.out).symm HE.out.symm, rfl⟩
              · obtain rfl : j = s.length := by omega
                rw [List.take_length] at HA ⊢
                have HE := Lib.hid (show okV s = true by rw [HG.out, HA.out])
                have HF := Lib.hid (show valV s = (valN s : Int) by simp [valV, HE.out])
                go_wp2_with fail
                go_ret2
                exact ⟨ret_ib HF.out.symm HE.out.symm, rfl⟩
        by_cases hl1 : (1 : Int) < (s.length : Int)
        · refine hrun (.inr ⟨hl1, ?_⟩)
          refine byte_ne (d := 48) fun e => hgood ⟨by omega, ?_⟩
          rw [HH.out, e]
        · exact hrun (.inl hl1)
    · have h16i : (16 : Int) < (s.length : Int) := by omega
      have HE := Lib.hid (show okV s = false by rw [HOK.out]; simp [h16])
      go_enter Tryz.func66, Tryz.ntmps66
      go_wp2_with fail
      go_ret2
      exact ⟨ret_ib (HV0.out HE.out).symm HE.out.symm, rfl⟩
end Go.Proofs.YtkbhmkofflcpjaaGreatDoor
