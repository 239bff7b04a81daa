/-
  The page's tests of a byte, of a plain local part, of a number, of a literal, of a domain, walked.
  Conditions: as each theorem states them.
-/
import Derived.Test.YtkbhmkofflcpjaaGreatDoorS
namespace Go.Proofs.YtkbhmkofflcpjaaGreatDoor
open Go.RowKit

theorem digit_any (c : UInt8) (w : World) : Calls Tryz.prog 44 #[.int .u8 (c.toNat : Int)] w fun e w' => e = .returned (.bool (digB c)) ∧ w = w' := by
  by_cases h1 : (48 : Int) ≤ (c.toNat : Int)
  · by_cases h2 : (c.toNat : Int) ≤ 57
    · have h : digB c = true := by simp [digB]; omega
      rw [h]
      clear h
      go_enter Tryz.func44, Tryz.ntmps44
      go_wp2
      go_ret
      exact ⟨rfl, rfl⟩
    · have h : digB c = false := by simp [digB]; omega
      rw [h]
      clear h
      go_enter Tryz.func44, Tryz.ntmps44
      go_wp2
      go_ret
      exact ⟨rfl, rfl⟩
  · have h : digB c = false := by simp [digB]; omega
    rw [h]
    clear h
    go_enter Tryz.func44, Tryz.ntmps44
    go_wp2
    go_ret
    exact ⟨rfl, rfl⟩

def letB (c : UInt8) : Bool := smallB c || capB c

theorem letter_any (c : UInt8) (w : World) : Calls Tryz.prog 82 #[.int .u8 (c.toNat : Int)] w fun e w' => e = .returned (.bool (letB c)) ∧ w = w' := by
  by_cases h1 : (97 : Int) ≤ (c.toNat : Int)
  · by_cases h2 : (c.toNat : Int) ≤ 122
    · have h : letB c = true := by simp [letB, smallB, capB]; omega
      rw [h]
      clear h
      go_enter Tryz.func82, Tryz.ntmps82
      go_wp2
      go_ret
      exact ⟨rfl, rfl⟩
    · have h : letB c = false := by simp [letB, smallB, capB]; omega
      have h3 : (65 : Int) ≤ (c.toNat : Int) := by omega
      have h4 : ¬ ((c.toNat : Int) ≤ 90) := by omega
      rw [h]
      clear h
      go_enter Tryz.func82, Tryz.ntmps82
      go_wp2
      go_ret
      exact ⟨rfl, rfl⟩
  · by_cases h3 : (65 : Int) ≤ (c.toNat : Int)
    · by_cases h4 : (c.toNat : Int) ≤ 90
      · have h : letB c = true := by simp [letB, smallB, capB]; omega
        rw [h]
        clear h
        go_enter Tryz.func82, Tryz.ntmps82
        go_wp2
        go_ret
        exact ⟨rfl, rfl⟩
      · have h : letB c = false := by simp [letB, smallB, capB]; omega
        rw [h]
        clear h
        go_enter Tryz.func82, Tryz.ntmps82
        go_wp2
        go_ret
        exact ⟨rfl, rfl⟩
    · have h : letB c = false := by simp [letB, smallB, capB]; omega
      rw [h]
      clear h
      go_enter Tryz.func82, Tryz.ntmps82
      go_wp2
      go_ret
      exact ⟨rfl, rfl⟩

theorem sign_len : signL.length = 19 := rfl
set_option maxHeartbeats 1000000 in
theorem rsign_any (c : UInt8) (w : World) : Calls Tryz.prog 83 #[.int .u8 (c.toNat : Int)] w fun e w' => e = .returned (.bool (signB c)) ∧ w = w' := by
  go_enter Tryz.func83, Tryz.ntmps83
  go_wp2_with fail
  rw [show (⟨#[33, 35, 36, 37, 38, 39, 42, 43, 45, 47, 61, 63, 94, 95, 96, 123, 124, 125, 126]⟩ : ByteArray) = ⟨signL.toArray⟩ from rfl]
  have hsl := sign_len
  have HSL := Lib.hid hsl
  have hsi : (signL.length : Int) = 19 := by rw [hsl]; rfl
  have HC := Lib.hid (show signB c = signL.contains c from rfl)
  clear hsl hsi
  generalize signL = sl at *
  go_loop [4] (fun i => ∃ j : Nat, j ≤ sl.length ∧ i = .int .i64 j ∧ ∀ k, (hk : k < sl.length) → k < j → sl[k] ≠ c) (fun i => sl.length - (intOf i).toNat)
  case atStart => exact ⟨0, Nat.zero_le _, rfl, fun k _ h => absurd h (Nat.not_lt_zero _)⟩
  case round =>
    obtain ⟨j, hj, rfl, hno⟩ := hrel
    have hN := Lib.hid hno
    have hl19 : sl.length ≤ 19 := by rw [HSL.out]; exact Nat.le_refl _
    clear hno
    by_cases hlt : j < sl.length
    · have hjB : j < (⟨sl.toArray⟩ : ByteArray).size := hlt
      have HX := Lib.hid (show ((⟨sl.toArray⟩ : ByteArray)[j]'hjB) = sl[j] from rfl)
      by_cases hc : sl[j] = c
      · have hb : ((((⟨sl.toArray⟩ : ByteArray)[j]'hjB).toNat : Int) == (c.toNat : Int)) = true := by rw [HX.out, hc]; exact beq_self_eq_true _
        have HE := Lib.hid (show signB c = true by rw [HC.out, List.contains_eq_mem, decide_eq_true_eq, ← hc]; exact List.getElem_mem hlt)
        clear hc
        go_wp2_with fail
        go_ret
        exact ⟨ret_bool HE.out.symm, rfl⟩
      · have hb : ((((⟨sl.toArray⟩ : ByteArray)[j]'hjB).toNat : Int) == (c.toNat : Int)) = false := byte_ne (by rw [HX.out]; exact hc)
        have HK := Lib.hid (show ∀ k, (hk : k < sl.length) → k < j + 1 → sl[k] ≠ c from fun k hk hkj => by
          rcases Nat.lt_or_eq_of_le (Nat.le_of_lt_succ hkj) with h | h
          · exact hN.out k hk h
          · subst h; exact hc)
        clear hc
        go_wp2_with fail
        exact ⟨⟨j + 1, hlt, by go_num, HK.out⟩, by simp [intOf]; omega⟩
    · have HE := Lib.hid (show signB c = false by
        rw [HC.out, List.contains_eq_mem, decide_eq_false_iff_not]
        intro hm
        obtain ⟨k, hk, e⟩ := List.mem_iff_getElem.1 hm
        exact hN.out k hk (by omega) e)
      go_wp2_with fail
      go_ret
      exact ⟨ret_bool HE.out.symm, rfl⟩

set_option maxHeartbeats 2000000 in
set_option maxRecDepth 100000 in
theorem plain_any (s : List UInt8) (w : World) (hs : s.length ≤ 10000) :
    Calls Tryz.prog 67 #[.string ⟨s.toArray⟩] w fun e w' => e = .returned (.bool (plainL s)) ∧ Below w.heap.size w w' := by
  have HS := Lib.hid (split_any 46 s w hs 46 rfl)
  have HP := Lib.hid (show plainL s = (splitB 46 s).all wordB from rfl)
  have HNE := Lib.hid (split_ne 46 s)
  have hln := split_len 46 s
  have hct : s.count 46 ≤ s.length := List.count_le_length
  have hll : (splitB 46 s).length ≤ 10001 := by omega
  have HSZ := Lib.hid (show ∀ p ∈ splitB 46 s, p.length ≤ s.length from fun p hp => split_short hp)
  clear hln hct
  go_enter Tryz.func67, Tryz.ntmps67
  go_wp2_with fail
  refine Calls.mono HS.out ?_
  rintro e w1 ⟨v, rfl, hrow, hb⟩
  obtain ⟨g, cap, rfl, hg, hcell⟩ := hrow.get HNE.out
  have HB := Lib.hid hb
  have HC := Lib.hid hcell
  clear hrow hb hcell HS
  generalize splitB 46 s = rows at *
  go_wp2_with fail
  go_loop [4] (fun iv => ∃ j : Nat, j ≤ rows.length ∧ iv = .int .i64 j ∧ ∀ k, (hk : k < rows.length) → k < j → wordB rows[k] = true) (fun iv => rows.length - (intOf iv).toNat)
  case atStart => exact ⟨0, Nat.zero_le _, rfl, fun k _ h => absurd h (Nat.not_lt_zero _)⟩
  case round =>
    obtain ⟨j, hj, rfl, hno⟩ := hrel
    have hN := Lib.hid hno
    clear hno
    by_cases hlt : j < rows.length
    · have hc := HC.out j hlt
      have HWB := Lib.hid (show wordB rows[j] = (rows[j].all wordC && !rows[j].isEmpty) from rfl)
      have hpl : rows[j].length ≤ 10000 := by have := HSZ.out rows[j] (List.getElem_mem hlt); omega
      have HK : Hid (wordB rows[j] = true → ∀ k, (hk : k < rows.length) → k < j + 1 → wordB rows[k] = true) := Lib.hid fun hE k hk hkj => by
        rcases Nat.lt_or_eq_of_le (Nat.le_of_lt_succ hkj) with h | h
        · exact hN.out k hk h
        · subst h; exact hE
      have HF : Hid (wordB rows[j] = false → plainL s = false) := Lib.hid fun hE => by
        rw [HP.out, List.all_eq_false]
        exact ⟨rows[j], List.getElem_mem hlt, by rw [hE]; exact Bool.false_ne_true⟩
      generalize rows[j] = p at *
      by_cases h0 : p = []
      · subst h0
        have HE := Lib.hid (HF.out (by rfl))
        go_wp2_with fail
        go_ret
        exact ⟨ret_bool HE.out.symm, HB.out⟩
      · have hne := ne_empty h0
        have hn2 : (p == []) = false := beq_eq_false_iff_ne.2 h0
        clear h0
        go_wp2_with fail
        go_loop [5] (fun iv => ∃ q : Nat, q ≤ p.length ∧ iv = .int .i64 q ∧ ∀ k, (hk : k < p.length) → k < q → wordC p[k] = true) (fun iv => p.length - (intOf iv).toNat)
        case atStart => exact ⟨0, Nat.zero_le _, rfl, fun k _ h => absurd h (Nat.not_lt_zero _)⟩
        case round =>
          obtain ⟨q, hq, rfl, hno2⟩ := hrel
          have hN2 := Lib.hid hno2
          clear hno2
          by_cases hlt2 : q < p.length
          · have hqB : q < (⟨p.toArray⟩ : ByteArray).size := hlt2
            have HCC := Lib.hid (show wordC p[q] = (letB ((⟨p.toArray⟩ : ByteArray)[q]'hqB) || digB ((⟨p.toArray⟩ : ByteArray)[q]'hqB) || signB ((⟨p.toArray⟩ : ByteArray)[q]'hqB)) from rfl)
            have HK2 : Hid (wordC p[q] = true → ∀ k, (hk : k < p.length) → k < q + 1 → wordC p[k] = true) := Lib.hid fun hE k hk hkj => by
              rcases Nat.lt_or_eq_of_le (Nat.le_of_lt_succ hkj) with h | h
              · exact hN2.out k hk h
              · subst h; exact hE
            go_wp2_with fail
            refine (letter_any _ _).mono ?_
            rintro e w2 ⟨rfl, rfl⟩
            cases h1 : letB ((⟨p.toArray⟩ : ByteArray)[q]'hqB) with
            | true =>
              have HE := Lib.hid (HK2.out (HCC.out.trans (by rw [h1]; rfl)))
              clear h1
              go_wp2_with fail
              exact ⟨⟨q + 1, hlt2, by go_num, HE.out⟩, by simp [intOf]; omega⟩
            | false =>
              have H1 := Lib.hid h1
              clear h1
              go_wp2_with fail
              refine (digit_any _ _).mono ?_
              rintro e w2 ⟨rfl, rfl⟩
              cases h2 : digB ((⟨p.toArray⟩ : ByteArray)[q]'hqB) with
              | true =>
                have HE := Lib.hid (HK2.out (HCC.out.trans (by rw [H1.out, h2]; rfl)))
                clear h2
                go_wp2_with fail
                exact ⟨⟨q + 1, hlt2, by go_num, HE.out⟩, by simp [intOf]; omega⟩
              | false =>
                have H2 := Lib.hid h2
                clear h2
                go_wp2_with fail
                refine (rsign_any _ _).mono ?_
                rintro e w2 ⟨rfl, rfl⟩
                cases h3 : signB ((⟨p.toArray⟩ : ByteArray)[q]'hqB) with
                | true =>
                  have HE := Lib.hid (HK2.out (HCC.out.trans (by rw [H1.out, H2.out, h3]; rfl)))
                  clear h3
                  go_wp2_with fail
                  exact ⟨⟨q + 1, hlt2, by go_num, HE.out⟩, by simp [intOf]; omega⟩
                | false =>
                  have HE := Lib.hid (HF.out (HWB.out.trans (by rw [not_all hlt2 (HCC.out.trans (by rw [H1.out, H2.out, h3]; rfl))]; rfl)))
                  clear h3
                  go_wp2_with fail
                  go_ret
                  exact ⟨ret_bool HE.out.symm, HB.out⟩
          · have HE := Lib.hid (HK.out (HWB.out.trans (by rw [all_of (fun k hk => hN2.out k hk (by omega)), hne]; rfl)))
            go_wp2_with fail
            exact ⟨⟨j + 1, hlt, by go_num, HE.out⟩, by simp [intOf]; omega⟩
    · have HE := Lib.hid (show plainL s = true by
        rw [HP.out, List.all_eq_true]
        intro p hp
        obtain ⟨k, hk, e⟩ := List.mem_iff_getElem.1 hp
        rw [← e]
        exact hN.out k hk (by omega))
      go_wp2_with fail
      go_ret
      exact ⟨ret_bool HE.out.symm, HB.out⟩
end Go.Proofs.YtkbhmkofflcpjaaGreatDoor
