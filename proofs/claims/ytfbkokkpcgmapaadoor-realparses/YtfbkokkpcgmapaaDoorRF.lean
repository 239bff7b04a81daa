/-
  The texts of floats: package real's Text, walked, at every float.
  Conditions: as each theorem states them: the library's two tables are as their initialisers lay them.
-/
import Derived.Test.YtfbkokkpcgmapaaDoorRE
namespace Go.Proofs.YtfbkokkpcgmapaaDoor
open Go.RowKit

theorem add_str (a b : List UInt8) (w : World) (h : a.length + b.length ≤ 1000000) : (Op.stringOp .add ⟨a.toArray⟩ ⟨b.toArray⟩).run Tryd.prog w = .ok (.string ⟨(a ++ b).toArray⟩) w :=
  run_string_add_lists (P := Tryd.prog) w a b (by omega) (by omega)

theorem class_body {a : Nat} (hn : nanF a = false) (h0 : 0 < a % 9223372036854775808) (h1 : a % 9223372036854775808 < 9218868437227405312) : classF a = 2 ∨ classF a = 3 ∨ classF a = 6 ∨ classF a = 7 := by
  unfold classF kindR
  rw [hn]
  by_cases h2 : 4503599627370496 ≤ a % 9223372036854775808
  · cases negF a
    · simp only [Bool.false_eq_true, if_false]
      rw [if_neg (by omega), if_neg (by omega), if_pos h2]
      omega
    · simp only [Bool.false_eq_true, if_false, if_true]
      rw [if_neg (by omega), if_neg (by omega), if_pos h2]
      omega
  · cases negF a
    · simp only [Bool.false_eq_true, if_false]
      rw [if_neg (by omega), if_neg (by omega), if_neg h2, if_pos h0]
      omega
    · simp only [Bool.false_eq_true, if_false, if_true]
      rw [if_neg (by omega), if_neg (by omega), if_neg h2, if_pos h0]
      omega
theorem dec16 {n : Nat} (h : n < 9007199254740992) : (Lib.decDigits n).length ≤ 16 := dec_len 15 n (by omega)
theorem itoa_len {z : Int} (h1 : -1000000 ≤ z) (h2 : z ≤ 1000000) : (Lib.itoa z).length ≤ 8 := by
  unfold Lib.itoa
  split
  · have := dec_len 6 z.natAbs (by omega)
    simp
    omega
  · have := dec_len 6 z.toNat (by omega)
    omega
theorem body_len {r : Nat} (h0 : 0 < r) (h : r < 9218868437227405312) : (bodyF r).length ≤ 25 := by
  have h1 := oddE_in h0 h
  have h2 := dec16 (odd_spec h0).2.2.1
  have h3 := itoa_len (z := oddE r) (by omega) (by omega)
  unfold bodyF
  simp
  omega
theorem text_len {a : Nat} : (textF a).length ≤ 26 := by
  unfold textF
  split
  · decide
  split
  · split <;> decide
  split
  · split <;> decide
  rename_i hn h1 h2
  have hn' : ¬ (9218868437227405312 < a % 9223372036854775808) := fun h => hn (decide_eq_true h)
  have := body_len (r := a % 9223372036854775808) (by omega) (by omega)
  split
  · simp; omega
  · omega
theorem ret_str {a b : List UInt8} (h : a = b) : Ending.returned (.string ⟨a.toArray⟩) = .returned (.string ⟨b.toArray⟩) := by rw [h]
theorem bne_of {c : Nat} {n : Int} (h : (c : Int) ≠ n) : ((c : Int) == n) = false := beq_eq_false_iff_ne.2 h

set_option maxHeartbeats 1000000 in
set_option maxRecDepth 100000 in
theorem fText_any (a : Nat) (w : World) (hT : Tabs w) (ha : a < 18446744073709551616) :
    Calls Tryd.prog 28 #[.float .f64 a] w fun e w' => e = .returned (.string ⟨(textF a).toArray⟩) ∧ Below w.heap.size w w' := by
  have HC := Lib.hid (fun W => fClass_any a W ha)
  have HG := Lib.hid (fun W => signbit_any a W ha)
  have hneg := neg_iff ha
  by_cases hn : nanF a = true
  · have hc : classF a = 0 := by unfold classF; rw [hn]; rfl
    rw [hc] at HC
    have HTX := Lib.hid (show textF a = [110, 97, 110] by unfold textF; rw [hn]; rfl)
    clear hneg
    go_enter Tryd.func28, Tryd.ntmps28
    go_wp2_with fail
    refine Calls.mono (HC.out _) ?_
    rintro e w' ⟨rfl, rfl⟩
    go_wp2_with fail
    go_ret
    exact ⟨ret_str HTX.out.symm, Below.refl _ _⟩
  rw [Bool.not_eq_true] at hn
  have hn' : ¬ (9218868437227405312 < a % 9223372036854775808) := of_decide_eq_false hn
  by_cases hi : a % 9223372036854775808 = 9218868437227405312
  · cases hg : negF a with
    | true =>
      have hc : classF a = 1 := by unfold classF kindR; rw [hn, hg, hi]; rfl
      rw [hc] at HC
      have HTX := Lib.hid (show textF a = [45, 105, 110, 102] by unfold textF; rw [hn, hg, if_pos hi]; rfl)
      clear hneg
      go_enter Tryd.func28, Tryd.ntmps28
      go_wp2_with fail
      refine Calls.mono (HC.out _) ?_
      rintro e w' ⟨rfl, rfl⟩
      go_wp2_with fail
      go_ret
      exact ⟨ret_str HTX.out.symm, Below.refl _ _⟩
    | false =>
      have hc : classF a = 8 := by unfold classF kindR; rw [hn, hg, hi]; rfl
      rw [hc] at HC
      have HTX := Lib.hid (show textF a = [43, 105, 110, 102] by unfold textF; rw [hn, hg, if_pos hi]; rfl)
      clear hneg
      go_enter Tryd.func28, Tryd.ntmps28
      go_wp2_with fail
      refine Calls.mono (HC.out _) ?_
      rintro e w' ⟨rfl, rfl⟩
      go_wp2_with fail
      go_ret
      exact ⟨ret_str HTX.out.symm, Below.refl _ _⟩
  by_cases hz : a % 9223372036854775808 = 0
  · cases hg : negF a with
    | true =>
      have hc : classF a = 4 := by unfold classF kindR; rw [hn, hg, hz]; rfl
      rw [hc] at HC
      have HTX := Lib.hid (show textF a = [45, 48] by unfold textF; rw [hn, hg, if_neg hi, if_pos hz]; rfl)
      clear hneg
      go_enter Tryd.func28, Tryd.ntmps28
      go_wp2_with fail
      refine Calls.mono (HC.out _) ?_
      rintro e w' ⟨rfl, rfl⟩
      go_wp2_with fail
      go_ret
      exact ⟨ret_str HTX.out.symm, Below.refl _ _⟩
    | false =>
      have hc : classF a = 5 := by unfold classF kindR; rw [hn, hg, hz]; rfl
      rw [hc] at HC
      have HTX := Lib.hid (show textF a = [48] by unfold textF; rw [hn, hg, if_neg hi, if_pos hz]; rfl)
      clear hneg
      go_enter Tryd.func28, Tryd.ntmps28
      go_wp2_with fail
      refine Calls.mono (HC.out _) ?_
      rintro e w' ⟨rfl, rfl⟩
      go_wp2_with fail
      go_ret
      exact ⟨ret_str HTX.out.symm, Below.refl _ _⟩
  obtain ⟨r, hr⟩ : ∃ r, a % 9223372036854775808 = r := ⟨_, rfl⟩
  have hcl := class_body hn (by omega) (by omega)
  have h0 : 0 < r := by omega
  have h1 : r < 9218868437227405312 := by omega
  have HTX := Lib.hid (show textF a = if negF a then 45 :: bodyF r else bodyF r by unfold textF; rw [hn, if_neg hi, if_neg hz, hr]; rfl)
  have HSP := Lib.hid (split_float a r w hT ha hr h0 h1)
  have hin := oddE_in h0 h1
  have hod := odd_spec h0
  have HF := Lib.hid (formatUint_any (oddM r) w hT (by omega))
  have HI := Lib.hid (fun W (hb : Below w.heap.size w W) => itoa_any (oddE r) W (hT.keep hb) (by omega) (by omega))
  have HBD := Lib.hid (show Lib.decDigits (oddM r) ++ [112] ++ Lib.itoa (oddE r) = bodyF r by unfold bodyF; rw [List.append_assoc]; rfl)
  have hl1 := dec16 hod.2.2.1
  have hl2 := itoa_len (z := oddE r) (by omega) (by omega)
  have hadd1 := fun W => add_str (Lib.decDigits (oddM r)) [112] W (by simp; omega)
  have hadd2 := fun W => add_str (Lib.decDigits (oddM r) ++ [112]) (Lib.itoa (oddE r)) W (by simp; omega)
  have hadd3 := fun W => add_str [45] (bodyF r) W (by have := body_len h0 h1; simp; omega)
  rw [HBD.out] at hadd2
  generalize Lib.decDigits (oddM r) ++ [112] = dp at *
  generalize Lib.decDigits (oddM r) = ds at *
  generalize Lib.itoa (oddE r) = es at *
  generalize bodyF r = bd at *
  generalize oddM r = m at *
  generalize oddE r = ee at *
  have hc0 : ((classF a : Int) == 0) = false := bne_of (by omega)
  have hc1 : ((classF a : Int) == 1) = false := bne_of (by omega)
  have hc4 : ((classF a : Int) == 4) = false := bne_of (by omega)
  have hc5 : ((classF a : Int) == 5) = false := bne_of (by omega)
  have hc8 : ((classF a : Int) == 8) = false := bne_of (by omega)
  generalize classF a = cc at *
  clear hcl hneg hn hn' hi hz hr h0 h1 hin hod hl1 hl2 HBD hT
  cases hg : negF a with
  | true =>
    rw [hg] at HTX HG
    go_enter Tryd.func28, Tryd.ntmps28
    go_wp2_with fail
    refine Calls.mono (HC.out _) ?_
    rintro e w' ⟨rfl, rfl⟩
    go_wp2_with fail
    refine Calls.mono HSP.out ?_
    rintro e w' ⟨rfl, rfl⟩
    go_wp2_with fail
    refine Calls.mono HF.out ?_
    rintro e w1 ⟨rfl, hb⟩
    have HB1 := Lib.hid hb
    have hsz := hb.size
    clear hb
    go_wp2_with fail
    refine Calls.mono (HI.out _ HB1.out) ?_
    rintro e w2 ⟨rfl, hb⟩
    have HB2 := Lib.hid (HB1.out.trans (hb.mono hsz))
    clear hb
    go_wp2_with fail
    refine Calls.mono (HG.out _) ?_
    rintro e w' ⟨rfl, rfl⟩
    go_wp2_with fail
    go_ret
    exact ⟨ret_str (by rw [HTX.out]; rfl), HB2.out⟩
  | false =>
    rw [hg] at HTX HG
    go_enter Tryd.func28, Tryd.ntmps28
    go_wp2_with fail
    refine Calls.mono (HC.out _) ?_
    rintro e w' ⟨rfl, rfl⟩
    go_wp2_with fail
    refine Calls.mono HSP.out ?_
    rintro e w' ⟨rfl, rfl⟩
    go_wp2_with fail
    refine Calls.mono HF.out ?_
    rintro e w1 ⟨rfl, hb⟩
    have HB1 := Lib.hid hb
    have hsz := hb.size
    clear hb
    go_wp2_with fail
    refine Calls.mono (HI.out _ HB1.out) ?_
    rintro e w2 ⟨rfl, hb⟩
    have HB2 := Lib.hid (HB1.out.trans (hb.mono hsz))
    clear hb
    go_wp2_with fail
    refine Calls.mono (HG.out _) ?_
    rintro e w' ⟨rfl, rfl⟩
    go_wp2_with fail
    go_ret
    exact ⟨ret_str (by rw [HTX.out]; rfl), HB2.out⟩
end Go.Proofs.YtfbkokkpcgmapaaDoor
