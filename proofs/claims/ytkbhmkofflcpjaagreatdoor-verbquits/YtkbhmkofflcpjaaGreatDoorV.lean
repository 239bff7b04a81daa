/-
  The page's Literal and Domain, walked.
  Conditions: as each theorem states them.
-/
import Derived.Test.YtkbhmkofflcpjaaGreatDoorU
namespace Go.Proofs.YtkbhmkofflcpjaaGreatDoor
open Go.RowKit

theorem last_cons {s : List UInt8} {n : Nat} (h : n < (⟨s.toArray⟩ : ByteArray).size) (hn : s.length = n + 1) (h1 : 0 < n) (h0 : 0 < (⟨s.toArray⟩ : ByteArray).size) :
    s = ((⟨s.toArray⟩ : ByteArray)[0]'h0) :: (((s.drop 1).take (n - 1)) ++ [((⟨s.toArray⟩ : ByteArray)[n]'h)]) := by
  cases s with
  | nil => exact absurd h0 (Nat.lt_irrefl 0)
  | cons c t =>
    have ht : t ≠ [] := fun e => by rw [e] at hn; simp at hn; omega
    have hl := last_eq h hn
    rw [List.getLast?_cons, Option.some.injEq] at hl
    have h2 := List.dropLast_concat_getLast ht
    have h3 : t.length = n := by simpa using hn
    have h4 : t.dropLast = t.take (n - 1) := by rw [List.dropLast_eq_take, h3]
    have h5 : t.getLast ht = ((⟨(c :: t).toArray⟩ : ByteArray)[n]'h) := by
      rw [List.getLast?_eq_some_getLast ht] at hl
      exact hl
    show c :: t = c :: (t.take (n - 1) ++ [_])
    rw [← h4, ← h5, h2]

theorem lit_head {s : List UInt8} (h : litL s = true) : s.head? = some 91 := by
  cases hh : (s.head? == some 91) with
  | true => simpa using hh
  | false =>
    have : s.head? ≠ some 91 := by simpa using hh
    rw [lit_not this] at h
    cases h
theorem lit_short {s : List UInt8} (h : s.length < 2) : litL s = false := by
  cases s with
  | nil => rfl
  | cons c t =>
    cases t with
    | nil => simp [litL]
    | cons d u => simp only [List.length_cons] at h; omega
theorem lit_last {s : List UInt8} (h : s.getLast? ≠ some 93) : litL s = false := by
  cases s with
  | nil => rfl
  | cons c t =>
    cases t with
    | nil => exact lit_short (by simp)
    | cons d u =>
      have h1 : ((d :: u).getLast? == some 93) = false := by
        rw [List.getLast?_cons_cons] at h
        simpa using h
      simp only [litL, h1, Bool.and_false, Bool.false_and]

set_option maxHeartbeats 2000000 in
set_option maxRecDepth 100000 in
theorem literal_any (s : List UInt8) (w : World) (hs : s.length ≤ 10000) :
    Calls Tryz.prog 42 #[.string ⟨s.toArray⟩] w fun e w' => e = .returned (.bool (litL s)) ∧ Below w.heap.size w w' := by
  by_cases h2 : s.length < 2
  · have HE := Lib.hid (lit_short h2)
    have h2i : (s.length : Int) < 2 := by omega
    go_enter Tryz.func42, Tryz.ntmps42
    go_wp2_with fail
    go_ret
    exact ⟨ret_bool HE.out.symm, Below.refl _ _⟩
  · have h2i : ¬ ((s.length : Int) < 2) := by omega
    have hB0 : 0 < (⟨s.toArray⟩ : ByteArray).size := by show 0 < s.length; omega
    have HH := Lib.hid (head_eq hB0)
    obtain ⟨n, hn⟩ : ∃ n, s.length = n + 1 := ⟨s.length - 1, by omega⟩
    have hBn : n < (⟨s.toArray⟩ : ByteArray).size := by show n < s.length; omega
    have HLS := Lib.hid (last_eq hBn hn)
    have HCS := Lib.hid (last_cons hBn hn (by omega) hB0)
    have hi0 : (0 : Int) < (s.length : Int) := by omega
    have hni : (s.length : Int) - 1 = (n : Int) := by omega
    by_cases ha : ((⟨s.toArray⟩ : ByteArray)[0]'hB0) = 91
    · have hba : ((((⟨s.toArray⟩ : ByteArray)[0]'hB0).toNat : Int) != 91) = false := by rw [ha]; rfl
      by_cases hz : ((⟨s.toArray⟩ : ByteArray)[n]'hBn) = 93
      · have hbz : ((((⟨s.toArray⟩ : ByteArray)[n]'hBn).toNat : Int) != 93) = false := by rw [hz]; rfl
        have hin := HCS.out
        rw [ha, hz] at hin
        have HL := Lib.hid (show litL s = (decide (((s.drop 1).take (n - 1)).count 46 = 3) && (splitB 46 ((s.drop 1).take (n - 1))).all numB) by
          conv => lhs; rw [hin]
          exact lit_in _)
        have hul : ((s.drop 1).take (n - 1)).length ≤ 10000 := by simp; omega
        have HX := Lib.hid (show (⟨s.toArray⟩ : ByteArray).extract 1 n = ⟨((s.drop 1).take (n - 1)).toArray⟩ from cut_piece s 1 n)
        have HSP := Lib.hid (split_any 46 ((s.drop 1).take (n - 1)) w hul 46 rfl)
        have HNE := Lib.hid (split_ne 46 ((s.drop 1).take (n - 1)))
        have HLN := Lib.hid (split_len 46 ((s.drop 1).take (n - 1)))
        have HSZ := Lib.hid (show ∀ p ∈ splitB 46 ((s.drop 1).take (n - 1)), p.length ≤ 10000 from fun p hp => Nat.le_trans (split_short hp) hul)
        have hct : ((s.drop 1).take (n - 1)).count 46 ≤ 10000 := Nat.le_trans List.count_le_length hul
        generalize (s.drop 1).take (n - 1) = u at *
        have hn1 : (1 : Int) ≤ (n : Int) := by omega
        have hnl : (n : Int) ≤ (s.length : Int) := by omega
        clear ha hz hin hul
        go_enter Tryz.func42, Tryz.ntmps42
        go_wp2_with fail
        rw [HX.out]
        refine Calls.mono HSP.out ?_
        rintro e w1 ⟨v, rfl, hrow, hb⟩
        obtain ⟨g, cap, rfl, hg, hcell⟩ := hrow.get HNE.out
        have HB := Lib.hid hb
        have HC := Lib.hid hcell
        have hrl : (splitB 46 u).length ≤ 10001 := by rw [HLN.out]; omega
        have HR4 := Lib.hid (show litL s = (decide ((splitB 46 u).length = 4) && (splitB 46 u).all numB) by rw [HL.out, HLN.out]; congr 1; rw [decide_eq_decide]; omega)
        clear hrow hb hcell HSP HL HLN hct
        generalize splitB 46 u = rows at *
        go_wp2_with fail
        go_loop [4] (fun iv => ∃ j : Nat, j ≤ rows.length ∧ iv = .int .i64 j ∧ ∀ k, (hk : k < rows.length) → k < j → numB rows[k] = true) (fun iv => rows.length - (intOf iv).toNat)
        case atStart => exact ⟨0, Nat.zero_le _, rfl, fun k _ h => absurd h (Nat.not_lt_zero _)⟩
        case round =>
          obtain ⟨j, hj, rfl, hno⟩ := hrel
          have hN := Lib.hid hno
          clear hno
          by_cases hlt : j < rows.length
          · have hc := HC.out j hlt
            have hpl := HSZ.out rows[j] (List.getElem_mem hlt)
            have HNV := Lib.hid (num_val rows[j])
            have HK : Hid (numB rows[j] = true → ∀ k, (hk : k < rows.length) → k < j + 1 → numB rows[k] = true) := Lib.hid fun hE k hk hkj => by
              rcases Nat.lt_or_eq_of_le (Nat.le_of_lt_succ hkj) with h | h
              · exact hN.out k hk h
              · subst h; exact hE
            have HF : Hid (numB rows[j] = false → litL s = false) := Lib.hid fun hE => by
              have : rows.all numB = false := by
                rw [List.all_eq_false]
                exact ⟨rows[j], List.getElem_mem hlt, by rw [hE]; exact Bool.false_ne_true⟩
              rw [HR4.out, this, Bool.and_false]
            generalize rows[j] = p at *
            have HV := Lib.hid (value_any p w1 hpl)
            go_wp2_with fail
            refine Calls.mono HV.out ?_
            rintro e w2 ⟨rfl, rfl⟩
            cases hok : okV p with
            | false =>
              have HE := Lib.hid (HF.out (by rw [HNV.out, hok]; rfl))
              clear hok
              go_wp2_with fail
              go_ret
              exact ⟨ret_bool HE.out.symm, HB.out⟩
            | true =>
              have HVV := Lib.hid (show valV p = (valN p : Int) by simp [valV, hok])
              rw [HVV.out]
              by_cases h255 : valN p ≤ 255
              · have h255i : ¬ ((255 : Int) < (valN p : Int)) := by omega
                have HE := Lib.hid (HK.out (by rw [HNV.out, hok]; simp [h255]))
                clear hok
                go_wp2_with fail
                exact ⟨⟨j + 1, hlt, by go_num, HE.out⟩, by simp [intOf]; omega⟩
              · have h255i : (255 : Int) < (valN p : Int) := by omega
                have HE := Lib.hid (HF.out (by rw [HNV.out, hok]; simp [h255]))
                clear hok
                go_wp2_with fail
                go_ret
                exact ⟨ret_bool HE.out.symm, HB.out⟩
          · have hall : rows.all numB = true := by
              rw [List.all_eq_true]
              intro p hp
              obtain ⟨k, hk, e⟩ := List.mem_iff_getElem.1 hp
              rw [← e]
              exact hN.out k hk (by omega)
            by_cases h4 : rows.length = 4
            · have h4b : ((rows.length : Int) == 4) = true := by rw [h4]; rfl
              have HE := Lib.hid (show litL s = true by rw [HR4.out, hall, h4]; rfl)
              clear hall h4
              go_wp2_with fail
              go_ret
              exact ⟨ret_bool HE.out.symm, HB.out⟩
            · have h4b : ((rows.length : Int) == 4) = false := beq_eq_false_iff_ne.2 (by omega)
              have HE := Lib.hid (show litL s = false by rw [HR4.out, decide_eq_false h4]; rfl)
              clear hall h4
              go_wp2_with fail
              go_ret
              exact ⟨ret_bool HE.out.symm, HB.out⟩
      · have hbz : ((((⟨s.toArray⟩ : ByteArray)[n]'hBn).toNat : Int) != 93) = true := byte_bne (n := 93) (by decide) hz
        have HE := Lib.hid (lit_last (s := s) (by rw [HLS.out]; simpa using hz))
        clear ha hz
        go_enter Tryz.func42, Tryz.ntmps42
        go_wp2_with fail
        go_ret
        exact ⟨ret_bool HE.out.symm, Below.refl _ _⟩
    · have hba : ((((⟨s.toArray⟩ : ByteArray)[0]'hB0).toNat : Int) != 91) = true := byte_bne (n := 91) (by decide) ha
      have HE := Lib.hid (lit_not (s := s) (by rw [HH.out]; simpa using ha))
      clear ha
      go_enter Tryz.func42, Tryz.ntmps42
      go_wp2_with fail
      go_ret
      exact ⟨ret_bool HE.out.symm, Below.refl _ _⟩

theorem label_eq (p : List UInt8) : labelB p = (p.all labC && !p.isEmpty && decide (p.length ≤ 63) && !(p.head? == some 45) && !(p.getLast? == some 45)) := rfl

set_option maxHeartbeats 2000000 in
set_option maxRecDepth 100000 in
theorem rdomain_any (s : List UInt8) (w : World) (hs : s.length ≤ 10000) :
    Calls Tryz.prog 26 #[.string ⟨s.toArray⟩] w fun e w' => e = .returned (.bool (domL s)) ∧ Below w.heap.size w w' := by
  by_cases h255 : s.length ≤ 255
  · have h255i : ¬ ((255 : Int) < (s.length : Int)) := by omega
    have HLT := Lib.hid (literal_any s w hs)
    have HD := Lib.hid (show domL s = (hostL s || litL s) by simp [domL, h255])
    have HSP := Lib.hid (fun W => split_any 46 s W hs 46 rfl)
    have HNE := Lib.hid (split_ne 46 s)
    have HH := Lib.hid (show hostL s = (splitB 46 s).all labelB from rfl)
    have HSZ := Lib.hid (show ∀ p ∈ splitB 46 s, p.length ≤ 10000 from fun p hp => Nat.le_trans (split_short hp) hs)
    have hln := split_len 46 s
    have hct : s.count 46 ≤ s.length := List.count_le_length
    have hrl : (splitB 46 s).length ≤ 10001 := by omega
    clear hln hct
    go_enter Tryz.func26, Tryz.ntmps26
    go_wp2_with fail
    refine Calls.mono HLT.out ?_
    rintro e w1 ⟨rfl, hb1⟩
    have HB1 := Lib.hid hb1
    clear hb1 HLT
    cases hl : litL s with
    | true =>
      have HE := Lib.hid (HD.out.trans (by rw [hl, Bool.or_true]) : domL s = true)
      clear hl
      go_wp2_with fail
      go_ret
      exact ⟨ret_bool HE.out.symm, HB1.out⟩
    | false =>
      have HE := Lib.hid (HD.out.trans (by rw [hl, Bool.or_false]) : domL s = hostL s)
      clear hl
      go_wp2_with fail
      refine Calls.mono (HSP.out _) ?_
      rintro e w2 ⟨v, rfl, hrow, hb2⟩
      obtain ⟨g, cap, rfl, hg, hcell⟩ := hrow.get HNE.out
      have HB := Lib.hid (HB1.out.trans (hb2.mono HB1.out.size))
      have HC := Lib.hid hcell
      clear hrow hb2 hcell HSP HB1
      generalize splitB 46 s = rows at *
      go_wp2_with fail
      go_loop [4] (fun iv => ∃ j : Nat, j ≤ rows.length ∧ iv = .int .i64 j ∧ ∀ k, (hk : k < rows.length) → k < j → labelB rows[k] = true) (fun iv => rows.length - (intOf iv).toNat)
      case atStart => exact ⟨0, Nat.zero_le _, rfl, fun k _ h => absurd h (Nat.not_lt_zero _)⟩
      case round =>
        obtain ⟨j, hj, rfl, hno⟩ := hrel
        have hN := Lib.hid hno
        clear hno
        by_cases hlt : j < rows.length
        · have hc := HC.out j hlt
          have hpl := HSZ.out rows[j] (List.getElem_mem hlt)
          have HK : Hid (labelB rows[j] = true → ∀ k, (hk : k < rows.length) → k < j + 1 → labelB rows[k] = true) := Lib.hid fun hE k hk hkj => by
            rcases Nat.lt_or_eq_of_le (Nat.le_of_lt_succ hkj) with h | h
            · exact hN.out k hk h
            · subst h; exact hE
          have HF : Hid (labelB rows[j] = false → domL s = false) := Lib.hid fun hE => by
            rw [HE.out, HH.out, List.all_eq_false]
            exact ⟨rows[j], List.getElem_mem hlt, by rw [hE]; exact Bool.false_ne_true⟩
          generalize rows[j] = p at *
          have HLE := Lib.hid (label_eq p)
          by_cases h0 : p = []
          · subst h0
            have HE2 := Lib.hid (HF.out (by rfl))
            go_wp2_with fail
            go_ret
            exact ⟨ret_bool HE2.out.symm, HB.out⟩
          · have hne := ne_empty h0
            have hp0 := List.length_pos_iff.2 h0
            have hi0 : (0 : Int) < (p.length : Int) := by omega
            have hi1 : ¬ ((p.length : Int) < 1) := by omega
            have hB0 : 0 < (⟨p.toArray⟩ : ByteArray).size := hp0
            have HHD := Lib.hid (head_eq hB0)
            obtain ⟨n, hn⟩ : ∃ n, p.length = n + 1 := ⟨p.length - 1, by omega⟩
            have hBn : n < (⟨p.toArray⟩ : ByteArray).size := by show n < p.length; omega
            have HLS := Lib.hid (last_eq hBn hn)
            have hni : (p.length : Int) - 1 = (n : Int) := by omega
            clear h0
            by_cases h63 : p.length ≤ 63
            · have h63i : ¬ ((63 : Int) < (p.length : Int)) := by omega
              by_cases ha : ((⟨p.toArray⟩ : ByteArray)[0]'hB0) = 45
              · have hba : ((((⟨p.toArray⟩ : ByteArray)[0]'hB0).toNat : Int) == 45) = true := by rw [ha]; rfl
                have HE2 := Lib.hid (HF.out (by rw [HLE.out, HHD.out, ha]; simp))
                clear ha
                go_wp2_with fail
                go_ret
                exact ⟨ret_bool HE2.out.symm, HB.out⟩
              · have hba : ((((⟨p.toArray⟩ : ByteArray)[0]'hB0).toNat : Int) == 45) = false := byte_ne (d := 45) ha
                by_cases hz : ((⟨p.toArray⟩ : ByteArray)[n]'hBn) = 45
                · have hbz : ((((⟨p.toArray⟩ : ByteArray)[n]'hBn).toNat : Int) == 45) = true := by rw [hz]; rfl
                  have HE2 := Lib.hid (HF.out (by rw [HLE.out, HLS.out, hz]; simp))
                  clear ha hz
                  go_wp2_with fail
                  go_ret
                  exact ⟨ret_bool HE2.out.symm, HB.out⟩
                · have hbz : ((((⟨p.toArray⟩ : ByteArray)[n]'hBn).toNat : Int) == 45) = false := byte_ne (d := 45) hz
                  have HLL := Lib.hid (show labelB p = p.all labC by rw [HLE.out, HHD.out, HLS.out, hne]; simp [h63, beq_eq_false_iff_ne.2 ha, beq_eq_false_iff_ne.2 hz])
                  clear ha hz
                  go_wp2_with fail
                  go_loop [6] (fun iv => ∃ q : Nat, q ≤ p.length ∧ iv = .int .i64 q ∧ ∀ k, (hk : k < p.length) → k < q → labC p[k] = true) (fun iv => p.length - (intOf iv).toNat)
                  case atStart => exact ⟨0, Nat.zero_le _, rfl, fun k _ h => absurd h (Nat.not_lt_zero _)⟩
                  case round =>
                    obtain ⟨q, hq, rfl, hno2⟩ := hrel
                    have hN2 := Lib.hid hno2
                    clear hno2
                    by_cases hlt2 : q < p.length
                    · have hqB : q < (⟨p.toArray⟩ : ByteArray).size := hlt2
                      have HX := Lib.hid (show ((⟨p.toArray⟩ : ByteArray)[q]'hqB) = p[q] from rfl)
                      have HCC := Lib.hid (show labC p[q] = (smallB ((⟨p.toArray⟩ : ByteArray)[q]'hqB) || digB ((⟨p.toArray⟩ : ByteArray)[q]'hqB) || ((⟨p.toArray⟩ : ByteArray)[q]'hqB) == 45) from rfl)
                      have HK2 : Hid (labC p[q] = true → ∀ k, (hk : k < p.length) → k < q + 1 → labC p[k] = true) := Lib.hid fun hE k hk hkj => by
                        rcases Nat.lt_or_eq_of_le (Nat.le_of_lt_succ hkj) with h | h
                        · exact hN2.out k hk h
                        · subst h; exact hE
                      have HF2 : Hid (labC p[q] = false → domL s = false) := Lib.hid fun hE => HF.out (HLL.out.trans (not_all hlt2 hE))
                      by_cases hA : (97 : Int) ≤ ((((⟨p.toArray⟩ : ByteArray)[q]'hqB).toNat : Nat) : Int)
                      · by_cases hB : ((((⟨p.toArray⟩ : ByteArray)[q]'hqB).toNat : Nat) : Int) ≤ 122
                        · have HE2 := Lib.hid (HK2.out (HCC.out.trans (by rw [show smallB ((⟨p.toArray⟩ : ByteArray)[q]'hqB) = true by simp [smallB]; omega]; rfl)))
                          go_wp2_with fail
                          exact ⟨⟨q + 1, hlt2, by go_num, HE2.out⟩, by simp [intOf]; omega⟩
                        · have HSM := Lib.hid (show smallB ((⟨p.toArray⟩ : ByteArray)[q]'hqB) = false by simp [smallB]; omega)
                          have HDG := Lib.hid (show digB ((⟨p.toArray⟩ : ByteArray)[q]'hqB) = false by simp [digB]; omega)
                          have HNB := Lib.hid (show ((⟨p.toArray⟩ : ByteArray)[q]'hqB) ≠ 45 from fun e => by rw [e] at hA; exact absurd hA (by decide))
                          have hb45 : ((((⟨p.toArray⟩ : ByteArray)[q]'hqB).toNat : Int) != 45) = true := byte_bne (n := 45) (by decide) HNB.out
                          have HE2 := Lib.hid (HF2.out (HCC.out.trans (by rw [HSM.out, HDG.out]; simpa using HNB.out)))
                          go_wp2_with fail
                          refine (digit_any _ _).mono ?_
                          rintro e w3 ⟨rfl, rfl⟩
                          rw [HDG.out]
                          go_wp2_with fail
                          go_ret
                          exact ⟨ret_bool HE2.out.symm, HB.out⟩
                      · have HSM := Lib.hid (show smallB ((⟨p.toArray⟩ : ByteArray)[q]'hqB) = false by simp [smallB]; omega)
                        go_wp2_with fail
                        refine (digit_any _ _).mono ?_
                        rintro e w3 ⟨rfl, rfl⟩
                        cases hdg : digB ((⟨p.toArray⟩ : ByteArray)[q]'hqB) with
                        | true =>
                          have HE2 := Lib.hid (HK2.out (HCC.out.trans (by rw [HSM.out, hdg]; rfl)))
                          clear hdg
                          go_wp2_with fail
                          exact ⟨⟨q + 1, hlt2, by go_num, HE2.out⟩, by simp [intOf]; omega⟩
                        | false =>
                          have HDG := Lib.hid hdg
                          clear hdg
                          by_cases h45 : ((⟨p.toArray⟩ : ByteArray)[q]'hqB) = 45
                          · have hb45 : ((((⟨p.toArray⟩ : ByteArray)[q]'hqB).toNat : Int) != 45) = false := by rw [h45]; rfl
                            have HE2 := Lib.hid (HK2.out (HCC.out.trans (by rw [HSM.out, HDG.out, h45]; rfl)))
                            clear h45
                            go_wp2_with fail
                            exact ⟨⟨q + 1, hlt2, by go_num, HE2.out⟩, by simp [intOf]; omega⟩
                          · have hb45 : ((((⟨p.toArray⟩ : ByteArray)[q]'hqB).toNat : Int) != 45) = true := byte_bne (n := 45) (by decide) h45
                            have HE2 := Lib.hid (HF2.out (HCC.out.trans (by rw [HSM.out, HDG.out]; simpa using h45)))
                            clear h45
                            go_wp2_with fail
                            go_ret
                            exact ⟨ret_bool HE2.out.symm, HB.out⟩
                    · have HE2 := Lib.hid (HK.out (HLL.out.trans (all_of (fun k hk => hN2.out k hk (by omega)))))
                      go_wp2_with fail
                      exact ⟨⟨j + 1, hlt, by go_num, HE2.out⟩, by simp [intOf]; omega⟩
            · have h63i : (63 : Int) < (p.length : Int) := by omega
              have HE2 := Lib.hid (HF.out (by rw [HLE.out]; simp [h63]))
              go_wp2_with fail
              go_ret
              exact ⟨ret_bool HE2.out.symm, HB.out⟩
        · have HE2 := Lib.hid (show domL s = true by
            rw [HE.out, HH.out, List.all_eq_true]
            intro p hp
            obtain ⟨k, hk, e⟩ := List.mem_iff_getElem.1 hp
            rw [← e]
            exact hN.out k hk (by omega))
          go_wp2_with fail
          go_ret
          exact ⟨ret_bool HE2.out.symm, HB.out⟩
  · have h255i : (255 : Int) < (s.length : Int) := by omega
    have HD := Lib.hid (show domL s = false by simp [domL, h255])
    go_enter Tryz.func26, Tryz.ntmps26
    go_wp2_with fail
    go_ret
    exact ⟨ret_bool HD.out.symm, Below.refl _ _⟩
end Go.Proofs.YtkbhmkofflcpjaaGreatDoor
