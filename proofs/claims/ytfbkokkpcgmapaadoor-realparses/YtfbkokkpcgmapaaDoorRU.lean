/-
  The page's Decimal and Text, walked: the texts of numbers and of floats.
  Conditions: as each theorem states them: a word is below 2 to the 64.
-/
import Derived.Test.YtfbkokkpcgmapaaDoorRF
namespace Go.Proofs.YtfbkokkpcgmapaaDoor
open Go.RowKit

theorem one_byte (x : UInt8) (z : Int) (hz : z = (x.toNat : Int)) (w : World) :
    (convert 75 9 (.slice (some ⟨w.heap.size, 0, none⟩) 1 1)).run Tryd.prog (w.alloc (.cells #[.int .u8 z] 5)) = .ok (.string ⟨[x].toArray⟩) (w.alloc (.cells #[.int .u8 z] 5)) := by
  subst hz
  refine run_convert_bytes_back (P := Tryd.prog) _ 75 9 5 ⟨w.heap.size, 0, none⟩ 1 [x] Tryd.underlying75 Tryd.underlying5 Tryd.underlying9 (fun j hj => ?_)
  obtain rfl : j = 0 := by simp at hj; exact hj
  have h := heap_alloc_new w (.cells #[.int .u8 (x.toNat : Int)] 5)
  rw [Addr.add_lit, Nat.add_zero, Lib.cell_of_heap h]
  rfl

set_option maxHeartbeats 2000000 in
set_option maxRecDepth 100000 in
theorem rdecimal_nat (n : Nat) (w : World) (h2 : n ≤ 9007199254740992) :
    Calls Tryd.prog 53 #[.int .i64 (n : Int)] w fun e w' => e = .returned (.string ⟨(Lib.decDigits n).toArray⟩) ∧ Below w.heap.size w w' := by
  have hn0 : ¬ ((n : Int) < 0) := by omega
  have hL := dec_len 15 n (by omega)
  go_enter Tryd.func53, Tryd.ntmps53
  go_wp2_with fail
  go_loopg [0, 3] n (fun g nv sv wx => Below w.heap.size w wx ∧ ∃ (m : Nat) (ds : List UInt8), nv = .int .i64 (m : Int) ∧ sv = .string ⟨ds.toArray⟩ ∧ m ≤ g ∧ m ≤ n ∧ Lib.decDigits m ++ ds = Lib.decDigits n)
  case atStart => exact ⟨Below.refl _ _, n, [], rfl, rfl, by omega, by omega, by simp⟩
  case round =>
    obtain ⟨hb, m, ds, rfl, rfl, hmg, hmn, hds⟩ := hrel
    have HB := Lib.hid hb
    have hsz := hb.size
    have hdl : ds.length ≤ 16 := by
      have := congrArg List.length hds
      simp at this
      omega
    have HDS := Lib.hid hds
    clear hb hds
    by_cases hm : m < 10
    · have hge : ¬ ((10 : Int) ≤ (m : Int)) := by omega
      obtain ⟨x, hx⟩ : ∃ x : UInt8, UInt8.ofNat (48 + m) = x := ⟨_, rfl⟩
      have hxn : x.toNat = 48 + m := by rw [← hx, UInt8.toNat_ofNat']; omega
      have hcv := one_byte x (48 + (m : Int)) (by omega) wr
      have hadd := fun w => add_str [x] ds w (by simp; omega)
      have HB1 := Lib.hid (HB.out.alloc hsz (.cells #[.int .u8 (48 + (m : Int))] 5))
      have HE := Lib.hid (show x :: ds = Lib.decDigits n by
        rw [← HDS.out, Lib.decDigits, dif_pos hm, hx]
        rfl)
      clear hx hxn hL
      go_wp2_with fail
      go_ret
      exact ⟨by rw [← HE.out]; rfl, HB1.out⟩
    · have hge : (10 : Int) ≤ (m : Int) := by omega
      obtain ⟨x, hx⟩ : ∃ x : UInt8, UInt8.ofNat (48 + m % 10) = x := ⟨_, rfl⟩
      have hxn : x.toNat = 48 + m % 10 := by rw [← hx, UInt8.toNat_ofNat']; omega
      have hcv := one_byte x (48 + (m : Int) % 10) (by omega) wr
      have hadd := fun w => add_str [x] ds w (by simp; omega)
      have HB1 := Lib.hid (HB.out.alloc hsz (.cells #[.int .u8 (48 + (m : Int) % 10)] 5))
      have HE := Lib.hid (show Lib.decDigits (m / 10) ++ (x :: ds) = Lib.decDigits n by
        have e : Lib.decDigits m = Lib.decDigits (m / 10) ++ [UInt8.ofNat (48 + m % 10)] := by
          rw [Lib.decDigits, dif_neg hm]
        rw [← HDS.out, e, hx]
        simp)
      clear hx hxn hL
      cases gk with
      | zero => omega
      | succ g =>
        go_wp2_with fail
        go_roundg g
        case measure => omega
        case rel => exact ⟨HB1.out, m / 10, x :: ds, by go_num, rfl, by omega, by omega, HE.out⟩

set_option maxRecDepth 100000 in
theorem rdecimal_any (z : Int) (w : World) (h1 : -9007199254740992 ≤ z) (h2 : z ≤ 9007199254740992) :
    Calls Tryd.prog 53 #[.int .i64 z] w fun e w' => e = .returned (.string ⟨(Lib.itoa z).toArray⟩) ∧ Below w.heap.size w w' := by
  by_cases hz : z < 0
  · obtain ⟨n, hn⟩ : ∃ n : Nat, -z = (n : Int) := ⟨z.natAbs, by omega⟩
    have HD := Lib.hid (rdecimal_nat n w (by omega))
    have HE := Lib.hid (show 45 :: Lib.decDigits n = Lib.itoa z by
      unfold Lib.itoa
      rw [if_pos hz, show z.natAbs = n by omega])
    have hl := dec_len 15 n (by omega)
    have hadd := fun W => add_str [45] (Lib.decDigits n) W (by simp; omega)
    generalize Lib.decDigits n = ds at *
    obtain rfl : z = -(n : Int) := by omega
    clear hn hl
    go_enter Tryd.func53, Tryd.ntmps53
    go_wp2_with fail
    refine Calls.mono HD.out ?_
    rintro e w1 ⟨rfl, hb⟩
    have HB := Lib.hid hb
    clear hb
    go_wp2_with fail
    go_ret
    exact ⟨by rw [← HE.out]; rfl, HB.out⟩
  · obtain ⟨n, rfl⟩ : ∃ n : Nat, z = (n : Int) := ⟨z.toNat, by omega⟩
    refine (rdecimal_nat n w (by omega)).mono ?_
    rintro e w' ⟨rfl, hb⟩
    refine ⟨?_, hb⟩
    unfold Lib.itoa
    rw [if_neg (by omega)]
    simp

/-- One odd number, one power. -/
theorem odd_only {m n j t : Nat} (h : m * 2 ^ j = n * 2 ^ t) (hm : m % 2 = 1) (hn : n % 2 = 1) : j = t ∧ m = n := by
  rcases Nat.lt_trichotomy j t with k | k | k
  · exfalso
    obtain ⟨d, rfl⟩ : ∃ d, t = j + (d + 1) := ⟨t - j - 1, by omega⟩
    rw [Nat.pow_add, Nat.mul_comm (2 ^ j), ← Nat.mul_assoc] at h
    have := Nat.eq_of_mul_eq_mul_right (Nat.two_pow_pos j) h
    rw [Nat.pow_succ, ← Nat.mul_assoc] at this
    omega
  · subst k
    exact ⟨rfl, Nat.eq_of_mul_eq_mul_right (Nat.two_pow_pos j) h⟩
  · exfalso
    obtain ⟨d, rfl⟩ : ∃ d, j = t + (d + 1) := ⟨j - t - 1, by omega⟩
    rw [Nat.pow_add, Nat.mul_comm (2 ^ t), ← Nat.mul_assoc] at h
    have := Nat.eq_of_mul_eq_mul_right (Nat.two_pow_pos t) h
    rw [Nat.pow_succ, ← Nat.mul_assoc] at this
    omega
theorem pow_small {m j M : Nat} (h : m * 2 ^ j = M) (hm : 0 < m) (hM : M < 9007199254740992) : j ≤ 52 ∧ m < 9007199254740992 := by
  have h1 : 2 ^ j ≤ m * 2 ^ j := Nat.le_mul_of_pos_left _ hm
  have h2 : m ≤ m * 2 ^ j := Nat.le_mul_of_pos_right _ (Nat.two_pow_pos j)
  refine ⟨?_, by omega⟩
  apply Nat.le_of_not_lt
  intro h53
  have h3 : (2 : Nat) ^ 53 ≤ 2 ^ j := Nat.pow_le_pow_right (by omega) h53
  have e : (2 : Nat) ^ 53 = 9007199254740992 := by decide
  omega

set_option maxHeartbeats 2000000 in
set_option maxRecDepth 100000 in
theorem rText_any (a : Nat) (w : World) (ha : a < 18446744073709551616) :
    Calls Tryd.prog 30 #[.float .f64 a] w fun e w' => e = .returned (.string ⟨(textF a).toArray⟩) ∧ Below w.heap.size w w' := by
  have HC := Lib.hid (fun W => rClass_any a W ha)
  have hneg := neg_iff ha
  by_cases hn : nanF a = true
  · have hc : classF a = 0 := by unfold classF; rw [hn]; rfl
    rw [hc] at HC
    have HTX := Lib.hid (show textF a = [110, 97, 110] by unfold textF; rw [hn]; rfl)
    clear hneg
    go_enter Tryd.func30, Tryd.ntmps30
    go_wp2_with fail
    refine Calls.mono (HC.out _) ?_
    rintro e w' ⟨rfl, rfl⟩
    go_wp2_with fail
    go_ret
    exact ⟨ret_str HTX.out.symm, Below.refl _ _⟩
  rw [Bool.not_eq_true] at hn
  have hn' : ¬ (9218868437227405312 < a % 9223372036854775808) := of_decide_eq_false hn
  by_cases hi : a % 9223372036854775808 = 9218868437227405312
  · cases hg : negF a with
    | true =>
      have hc : classF a = 1 := by unfold classF kindR; rw [hn, hg, hi]; rfl
      rw [hc] at HC
      have HTX := Lib.hid (show textF a = [45, 105, 110, 102] by unfold textF; rw [hn, hg, if_pos hi]; rfl)
      clear hneg
      go_enter Tryd.func30, Tryd.ntmps30
      go_wp2_with fail
      refine Calls.mono (HC.out _) ?_
      rintro e w' ⟨rfl, rfl⟩
      go_wp2_with fail
      go_ret
      exact ⟨ret_str HTX.out.symm, Below.refl _ _⟩
    | false =>
      have hc : classF a = 8 := by unfold classF kindR; rw [hn, hg, hi]; rfl
      rw [hc] at HC
      have HTX := Lib.hid (show textF a = [43, 105, 110, 102] by unfold textF; rw [hn, hg, if_pos hi]; rfl)
      clear hneg
      go_enter Tryd.func30, Tryd.ntmps30
      go_wp2_with fail
      refine Calls.mono (HC.out _) ?_
      rintro e w' ⟨rfl, rfl⟩
      go_wp2_with fail
      go_ret
      exact ⟨ret_str HTX.out.symm, Below.refl _ _⟩
  by_cases hz : a % 9223372036854775808 = 0
  · cases hg : negF a with
    | true =>
      have hc : classF a = 4 := by unfold classF kindR; rw [hn, hg, hz]; rfl
      rw [hc] at HC
      have HTX := Lib.hid (show textF a = [45, 48] by unfold textF; rw [hn, hg, if_neg hi, if_pos hz]; rfl)
      clear hneg
      go_enter Tryd.func30, Tryd.ntmps30
      go_wp2_with fail
      refine Calls.mono (HC.out _) ?_
      rintro e w' ⟨rfl, rfl⟩
      go_wp2_with fail
      go_ret
      exact ⟨ret_str HTX.out.symm, Below.refl _ _⟩
    | false =>
      have hc : classF a = 5 := by unfold classF kindR; rw [hn, hg, hz]; rfl
      rw [hc] at HC
      have HTX := Lib.hid (show textF a = [48] by unfold textF; rw [hn, hg, if_neg hi, if_pos hz]; rfl)
      clear hneg
      go_enter Tryd.func30, Tryd.ntmps30
      go_wp2_with fail
      refine Calls.mono (HC.out _) ?_
      rintro e w' ⟨rfl, rfl⟩
      go_wp2_with fail
      go_ret
      exact ⟨ret_str HTX.out.symm, Below.refl _ _⟩
  obtain ⟨r, hr⟩ : ∃ r, a % 9223372036854775808 = r := ⟨_, rfl⟩
  have hcl := class_body hn (by omega) (by omega)
  have h0 : 0 < r := by omega
  have h1 : r < 9218868437227405312 := by omega
  have HTX := Lib.hid (show textF a = if negF a then 45 :: bodyF r else bodyF r by unfold textF; rw [hn, if_neg hi, if_neg hz, hr]; rfl)
  have hfb := run_bits a
  have hE := exp_field ha
  have hF := low_mask ha
  have hin := oddE_in h0 h1
  have hod := odd_spec h0
  have hmp := mag_pos h0
  have hml := mag_lt r
  have hxl := exp_le h1
  have HBD := Lib.hid (show Lib.decDigits (oddM r) ++ [112] ++ Lib.itoa (oddE r) = bodyF r by unfold bodyF; rw [List.append_assoc]; rfl)
  have HI0 := Lib.hid (show Lib.itoa (oddM r : Int) = Lib.decDigits (oddM r) by unfold Lib.itoa; rw [if_neg (by omega)]; simp)
  have hl1 := dec16 hod.2.2.1
  have hl2 := itoa_len (z := oddE r) (by omega) (by omega)
  have hadd1 := fun W => add_str (Lib.decDigits (oddM r)) [112] W (by simp; omega)
  have hadd2 := fun W => add_str (Lib.decDigits (oddM r) ++ [112]) (Lib.itoa (oddE r)) W (by simp; omega)
  have hadd3 := fun W => add_str [45] (bodyF r) W (by have := body_len h0 h1; simp; omega)
  rw [HBD.out] at hadd2
  have HD1 := Lib.hid (fun W => rdecimal_any (oddM r : Int) W (by omega) (by omega))
  have HD2 := Lib.hid (fun W => rdecimal_any (oddE r) W (by omega) (by omega))
  rw [HI0.out] at HD1
  have HOE := Lib.hid (show oddE r = -1074 + (expF r : Int) + (tzN (magF r) : Int) from rfl)
  have HOD := Lib.hid hod
  obtain ⟨E, hEe⟩ : ∃ E, a / 4503599627370496 % 2048 = E := ⟨_, rfl⟩
  obtain ⟨F, hFe⟩ : ∃ F, a % 4503599627370496 = F := ⟨_, rfl⟩
  rw [hEe] at hE
  rw [hFe] at hF
  have hrE : r = E * 4503599627370496 + F := by omega
  have hEl : E ≤ 2046 := by omega
  have hFl : F < 4503599627370496 := by omega
  have hsn : ((a : Int) / 9223372036854775808 == 1) = negF a := by
    rw [hneg]
    by_cases k : 9223372036854775808 ≤ a
    · rw [decide_eq_true k]; exact beq_iff_eq.2 (by omega)
    · rw [decide_eq_false k]; exact beq_eq_false_iff_ne.2 (by omega)
  generalize Lib.decDigits (oddM r) ++ [112] = dp at *
  generalize Lib.decDigits (oddM r) = ds at *
  generalize Lib.itoa (oddE r) = es at *
  generalize bodyF r = bd at *
  have hc0 : ((classF a : Int) == 0) = false := bne_of (by omega)
  have hc1 : ((classF a : Int) == 1) = false := bne_of (by omega)
  have hc4 : ((classF a : Int) == 4) = false := bne_of (by omega)
  have hc5 : ((classF a : Int) == 5) = false := bne_of (by omega)
  have hc8 : ((classF a : Int) == 8) = false := bne_of (by omega)
  generalize classF a = cc at *
  clear hcl hneg hn hn' hi hz hr h1 hod hl1 hl2 HBD HI0 hEe hFe
  by_cases hE0 : 0 < E
  · have hg : (-1075 : Int) < (E : Int) - 1075 := by omega
    have HMR := Lib.hid (show magF r = 4503599627370496 + F by unfold magF; rw [if_neg (by omega)]; omega)
    have HER := Lib.hid (show expF r = E - 1 by unfold expF; omega)
    clear hrE
    go_enter Tryd.func30, Tryd.ntmps30
    go_wp2_with fail
    refine Calls.mono (HC.out _) ?_
    rintro e w' ⟨rfl, rfl⟩
    go_wp2_with fail
    go_loopw [4, 5] (fun mv ev wr => ∃ m j : Nat, mv = .int .i64 m ∧ ev = .int .i64 (-1074 + (expF r : Int) + (j : Int)) ∧ m * 2 ^ j = magF r ∧ 0 < m ∧ wr = w') (fun mv _ _ => (intOf mv).toNat)
    case atStart => exact ⟨magF r, 0, by rw [HMR.out]; go_num, by rw [HER.out]; go_num, by simp, hmp, rfl⟩
    case round =>
      obtain ⟨m, j, rfl, rfl, hmj, hm0, rfl⟩ := hrel
      have hps := pow_small hmj hm0 hml
      have HMJ := Lib.hid hmj
      clear hmj
      by_cases hev : m % 2 = 0
      · have hevi : (m : Int).tmod 2 = 0 := by rw [Int.tmod_eq_emod_of_nonneg (by omega)]; omega
        have hevj : (m : Int) % 2 = 0 := by omega
        have HN := Lib.hid (show m / 2 * 2 ^ (j + 1) = magF r by
          rw [Nat.pow_succ, Nat.mul_comm (2 ^ j) 2, ← Nat.mul_assoc, Nat.div_mul_cancel (Nat.dvd_of_mod_eq_zero hev)]
          exact HMJ.out)
        have hdiv : (m : Int).tdiv 2 = ((m / 2 : Nat) : Int) := by rw [Int.tdiv_eq_ediv_of_nonneg (by omega)]; omega
        go_wp2_with fail
        exact ⟨⟨m / 2, j + 1, by go_num, by go_num, HN.out, by omega, trivial⟩, by simp [intOf]; omega⟩
      · have hevi : (m : Int).tmod 2 = 1 := by rw [Int.tmod_eq_emod_of_nonneg (by omega)]; omega
        have hevj : (m : Int) % 2 = 1 := by omega
        obtain ⟨e1, e2⟩ := odd_only (HMJ.out.trans HOD.out.1.symm) (by omega) HOD.out.2.1
        have HOE2 := Lib.hid (show -1074 + (expF r : Int) + (j : Int) = oddE r by rw [HOE.out, e1])
        rw [e2]
        rw [e2] at hevi hevj
        rw [HOE2.out]
        clear hps hm0 HMJ e1 e2 hev HOE2 HOE HOD
        generalize oddM r = mm at *
        generalize oddE r = ee at *
        clear hin hmp hml hxl hEl hFl HC hE hF
        cases hg : negF a with
        | true =>
          rw [hg] at HTX hsn
          go_wp2_with fail
          refine Calls.mono (HD1.out _) ?_
          rintro e w1 ⟨rfl, hb⟩
          have HB1 := Lib.hid hb
          have hsz := hb.size
          clear hb
          go_wp2_with fail
          refine Calls.mono (HD2.out _) ?_
          rintro e w2 ⟨rfl, hb⟩
          have HB2 := Lib.hid (HB1.out.trans (hb.mono hsz))
          clear hb
          go_wp2_with fail
          go_ret
          exact ⟨ret_str (by rw [HTX.out]; rfl), HB2.out⟩
        | false =>
          rw [hg] at HTX hsn
          go_wp2_with fail
          refine Calls.mono (HD1.out _) ?_
          rintro e w1 ⟨rfl, hb⟩
          have HB1 := Lib.hid hb
          have hsz := hb.size
          clear hb
          go_wp2_with fail
          refine Calls.mono (HD2.out _) ?_
          rintro e w2 ⟨rfl, hb⟩
          have HB2 := Lib.hid (HB1.out.trans (hb.mono hsz))
          clear hb
          go_wp2_with fail
          go_ret
          exact ⟨ret_str (by rw [HTX.out]; rfl), HB2.out⟩
  · obtain rfl : E = 0 := by omega
    have HMR := Lib.hid (show magF r = F by unfold magF; rw [if_pos (by omega)]; omega)
    have HER := Lib.hid (show expF r = 0 by unfold expF; omega)
    clear hrE hE0
    go_enter Tryd.func30, Tryd.ntmps30
    go_wp2_with fail
    refine Calls.mono (HC.out _) ?_
    rintro e w' ⟨rfl, rfl⟩
    go_wp2_with fail
    go_loopw [4, 5] (fun mv ev wr => ∃ m j : Nat, mv = .int .i64 m ∧ ev = .int .i64 (-1074 + (expF r : Int) + (j : Int)) ∧ m * 2 ^ j = magF r ∧ 0 < m ∧ wr = w') (fun mv _ _ => (intOf mv).toNat)
    case atStart => exact ⟨magF r, 0, by rw [HMR.out], by rw [HER.out]; go_num, by simp, hmp, rfl⟩
    case round =>
      obtain ⟨m, j, rfl, rfl, hmj, hm0, rfl⟩ := hrel
      have hps := pow_small hmj hm0 hml
      have HMJ := Lib.hid hmj
      clear hmj
      by_cases hev : m % 2 = 0
      · have hevi : (m : Int).tmod 2 = 0 := by rw [Int.tmod_eq_emod_of_nonneg (by omega)]; omega
        have hevj : (m : Int) % 2 = 0 := by omega
        have HN := Lib.hid (show m / 2 * 2 ^ (j + 1) = magF r by
          rw [Nat.pow_succ, Nat.mul_comm (2 ^ j) 2, ← Nat.mul_assoc, Nat.div_mul_cancel (Nat.dvd_of_mod_eq_zero hev)]
          exact HMJ.out)
        have hdiv : (m : Int).tdiv 2 = ((m / 2 : Nat) : Int) := by rw [Int.tdiv_eq_ediv_of_nonneg (by omega)]; omega
        go_wp2_with fail
        exact ⟨⟨m / 2, j + 1, by go_num, by go_num, HN.out, by omega, trivial⟩, by simp [intOf]; omega⟩
      · have hevi : (m : Int).tmod 2 = 1 := by rw [Int.tmod_eq_emod_of_nonneg (by omega)]; omega
        have hevj : (m : Int) % 2 = 1 := by omega
        obtain ⟨e1, e2⟩ := odd_only (HMJ.out.trans HOD.out.1.symm) (by omega) HOD.out.2.1
        have HOE2 := Lib.hid (show -1074 + (expF r : Int) + (j : Int) = oddE r by rw [HOE.out, e1])
        rw [e2]
        rw [e2] at hevi hevj
        rw [HOE2.out]
        clear hps hm0 HMJ e1 e2 hev HOE2 HOE HOD
        generalize oddM r = mm at *
        generalize oddE r = ee at *
        clear hin hmp hml hxl hEl hFl HC hE hF
        cases hg : negF a with
        | true =>
          rw [hg] at HTX hsn
          go_wp2_with fail
          refine Calls.mono (HD1.out _) ?_
          rintro e w1 ⟨rfl, hb⟩
          have HB1 := Lib.hid hb
          have hsz := hb.size
          clear hb
          go_wp2_with fail
          refine Calls.mono (HD2.out _) ?_
          rintro e w2 ⟨rfl, hb⟩
          have HB2 := Lib.hid (HB1.out.trans (hb.mono hsz))
          clear hb
          go_wp2_with fail
          go_ret
          exact ⟨ret_str (by rw [HTX.out]; rfl), HB2.out⟩
        | false =>
          rw [hg] at HTX hsn
          go_wp2_with fail
          refine Calls.mono (HD1.out _) ?_
          rintro e w1 ⟨rfl, hb⟩
          have HB1 := Lib.hid hb
          have hsz := hb.size
          clear hb
          go_wp2_with fail
          refine Calls.mono (HD2.out _) ?_
          rintro e w2 ⟨rfl, hb⟩
          have HB2 := Lib.hid (HB1.out.trans (hb.mono hsz))
          clear hb
          go_wp2_with fail
          go_ret
          exact ⟨ret_str (by rw [HTX.out]; rfl), HB2.out⟩
end Go.Proofs.YtfbkokkpcgmapaaDoor
