/-
  The page's made, walked: the float of an odd number and a power, or none.
  Conditions: as each theorem states them.
-/
import Derived.Test.YtfbkokkpcgmapaaDoorRV
import Derived.Test.YtfbkokkpcgmapaaDoorRR
namespace Go.Proofs.YtfbkokkpcgmapaaDoor
open Go.RowKit

theorem or_high {x k : Nat} (h : x < 4503599627370496) (hk : k < 4096) : bits .or .u64 (x : Int) ((k * 4503599627370496 : Nat) : Int) = ((x + k * 4503599627370496 : Nat) : Int) := by
  rw [bits_or_u64_nat x _ (by omega) (by omega), Nat.or_comm]
  have := Nat.two_pow_add_eq_or_of_lt (i := 52) (b := x) (by omega) k
  rw [Nat.mul_comm k, show (4503599627370496 : Nat) = 2 ^ 52 from rfl, ← this, Nat.add_comm]
theorem shr_pos {m n L : Nat} (hL : 2 ^ (L - 1) ≤ m) (h : n < L) : 0 < m / 2 ^ n := by
  apply Nat.div_pos _ (Nat.two_pow_pos n)
  exact Nat.le_trans (Nat.pow_le_pow_right (by omega) (by omega)) hL

set_option maxHeartbeats 2000000 in
set_option maxRecDepth 100000 in
theorem rmade_any (m : Nat) (e : Int) (w : World) (hm0 : 1 ≤ m) (hm : m < 9007199254740992) (he1 : -2000 ≤ e) (he2 : e ≤ 2000) :
    Calls Tryd.prog 56 #[.int .i64 (m : Int), .int .i64 e] w fun o w' => o = endR (madeL m e) ∧ w' = w := by
  obtain ⟨hL1, hLa, hLb⟩ := Lib.bitLenAux_bounds 64 m (by omega) (by omega)
  have hL53 := Lib.bitLen_le m 53 (by omega) (by omega)
  obtain ⟨L, hL⟩ : ∃ L, Lib.bitLen m = L := ⟨_, rfl⟩
  have hL' : Lib.bitLenAux 64 m = L := hL
  rw [hL'] at hL1 hLa hLb
  have HM := Lib.hid (show madeL m e = if e < -1074 ∨ 1023 < e + (L : Int) - 1 then none else if e + (L : Int) - 1 < -1022 then some (m * 2 ^ (e + 1074).toNat) else some (m * 2 ^ (53 - L) % 4503599627370496 + (e + (L : Int) + 1022).toNat * 4503599627370496) by rw [← hL]; rfl)
  rw [hL] at hL53
  have HPOS := Lib.hid (show ∀ n, n < L → 0 < m / 2 ^ n from fun n h => shr_pos hLa h)
  have HZ := Lib.hid (show m / 2 ^ L = 0 from Nat.div_eq_of_lt hLb)
  have HLB := Lib.hid hLb
  have HDV := Lib.hid (show ∀ n, (m : Int) / 2 ^ n = ((m / 2 ^ n : Nat) : Int) from fun n => by rw [Int.natCast_ediv, Int.natCast_pow]; rfl)
  clear hL hL' hLa hLb
  go_enter Tryd.func56, Tryd.ntmps56
  go_wp2_with fail
  go_loopw [6] (fun nv wr => ∃ n : Nat, nv = .int .i64 n ∧ n ≤ L ∧ wr = w) (fun nv _ => L - (intOf nv).toNat)
  case atStart => exact ⟨0, rfl, Nat.zero_le _, rfl⟩
  case round =>
    obtain ⟨n, rfl, hn, rfl⟩ := hrel
    have hmin : min n 64 = n := by omega
    have hdv := HDV.out n
    by_cases hlt : n < L
    · have hq := HPOS.out n hlt
      generalize m / 2 ^ n = q at *
      have hqi : (0 : Int) < (q : Int) := by omega
      go_wp2_with fail
      exact ⟨⟨n + 1, by go_num, by omega, trivial⟩, by simp [intOf]; omega⟩
    · obtain rfl : n = L := by omega
      rw [HZ.out] at hdv
      have hdv0 : (m : Int) / 2 ^ n = 0 := hdv
      clear hdv hlt hn
      by_cases h1 : e < -1074
      · have HN := Lib.hid (show madeL m e = none by rw [HM.out, if_pos (.inl h1)])
        clear HM
        go_wp2_with fail
        go_ret2
        exact ⟨by rw [HN.out]; rfl, rfl⟩
      · have h1d : decide (e < -1074) = false := decide_eq_false h1
        by_cases h2 : 1023 < e + (n : Int) - 1
        · have HN := Lib.hid (show madeL m e = none by rw [HM.out, if_pos (.inr h2)])
          clear HM
          go_wp2_with fail
          go_ret2
          exact ⟨by rw [HN.out]; rfl, rfl⟩
        · have h2d : decide (1023 < e + (n : Int) - 1) = false := decide_eq_false h2
          rw [if_neg (by omega)] at HM
          by_cases h3 : e + (n : Int) - 1 < -1022
          · rw [if_pos h3] at HM
            obtain ⟨K, hK⟩ : ∃ K : Nat, e + 1074 = (K : Int) := ⟨(e + 1074).toNat, by omega⟩
            rw [show (e + 1074).toNat = K by omega] at HM
            have hKb : K ≤ 53 - n := by omega
            have hMl : m * 2 ^ K < 9007199254740992 := by
              have a1 : m * 2 ^ K < 2 ^ n * 2 ^ K := Nat.mul_lt_mul_of_pos_right HLB.out (Nat.two_pow_pos _)
              have a2 : 2 ^ n * 2 ^ K ≤ 2 ^ 53 := by rw [← Nat.pow_add]; exact Nat.pow_le_pow_right (by omega) (by omega)
              have a3 : (2 : Nat) ^ 53 = 9007199254740992 := by decide
              omega
            obtain ⟨M, hM⟩ : ∃ M, m * 2 ^ K = M := ⟨_, rfl⟩
            have hMi : (m : Int) * 2 ^ K = (M : Int) := by rw [← hM, Int.natCast_mul, Int.natCast_pow]; rfl
            rw [hM] at HM hMl
            have hff := run_from M
            have hmk : min K 64 = K := by omega
            have hK0 : (0 : Int) ≤ (K : Int) := by omega
            have hmi : (m : Int) < 9007199254740992 := by omega
            have he : e = (K : Int) - 1074 := by omega
            subst he
            clear hM hK h1
            go_wp2_with fail
            go_ret2
            exact ⟨by rw [HM.out]; rfl, rfl⟩
          · have h3d : decide (e + (n : Int) - 1 < -1022) = false := decide_eq_false h3
            rw [if_neg h3] at HM
            obtain ⟨k, hk⟩ : ∃ k : Nat, e + (n : Int) + 1022 = (k : Int) := ⟨(e + (n : Int) + 1022).toNat, by omega⟩
            rw [show (e + (n : Int) + 1022).toNat = k by omega] at HM
            have hkb : k ≤ 2046 := by omega
            obtain ⟨u, hu⟩ : ∃ u, 53 - n = u := ⟨_, rfl⟩
            have hui : (53 : Int) - (n : Int) = (u : Int) := by omega
            rw [hu] at HM
            have hMl : m * 2 ^ u < 9007199254740992 := by
              have a1 : m * 2 ^ u < 2 ^ n * 2 ^ u := Nat.mul_lt_mul_of_pos_right HLB.out (Nat.two_pow_pos _)
              have a2 : 2 ^ n * 2 ^ u ≤ 2 ^ 53 := by rw [← Nat.pow_add]; exact Nat.pow_le_pow_right (by omega) (by omega)
              have a3 : (2 : Nat) ^ 53 = 9007199254740992 := by decide
              omega
            obtain ⟨M, hM⟩ : ∃ M, m * 2 ^ u = M := ⟨_, rfl⟩
            have hMi : (m : Int) * 2 ^ u = (M : Int) := by rw [← hM, Int.natCast_mul, Int.natCast_pow]; rfl
            rw [hM] at HM hMl
            have hand := low_mask (a := M) (by omega)
            have hor := or_high (x := M % 4503599627370496) (k := k) (by omega) (by omega)
            obtain ⟨F, hF⟩ : ∃ F, M % 4503599627370496 = F := ⟨_, rfl⟩
            rw [hF] at hand hor HM
            obtain ⟨Z, hZ⟩ : ∃ Z, F + k * 4503599627370496 = Z := ⟨_, rfl⟩
            rw [hZ] at hor HM
            have hor2 : bits .or .u64 (F : Int) ((k : Int) * 4503599627370496) = (Z : Int) := hor
            have hff := run_from Z
            have hmk : min u 64 = u := by omega
            have hu0 : (0 : Int) ≤ (u : Int) := by omega
            have hmi : (m : Int) < 9007199254740992 := by omega
            have hki : (k : Int) ≤ 2046 := by omega
            have he : e = (k : Int) - (n : Int) - 1022 := by omega
            have hk2 : (k : Int) - (n : Int) - 1022 + (n : Int) - 1 + 1023 = (k : Int) := by omega
            have hMi2 : (M : Int) < 9007199254740992 := by omega
            subst he
            clear hM hk h1 hu hF hZ
            go_wp2_with fail
            go_ret2
            exact ⟨by rw [HM.out]; rfl, rfl⟩
end Go.Proofs.YtfbkokkpcgmapaaDoor
