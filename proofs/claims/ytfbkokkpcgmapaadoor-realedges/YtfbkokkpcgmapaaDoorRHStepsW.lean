/-
  RealSteps: numbers beside one another are floats beside one another: halves and sums of floats, and the statement's own walk.
  Conditions: as each theorem states them: the words given lie in memory; the library's two tables are as their initialisers lay them.
-/
import Derived.Test.YtfbkokkpcgmapaaDoorRG
import Derived.Test.YtfbkokkpcgmapaaDoorRHClassesW
namespace Go.Proofs.YtfbkokkpcgmapaaDoor
open Go.RowKit

theorem word_parts (s : Bool) {r : Nat} (h : r < 9223372036854775808) : negF (Ieee.double.word s r) = s ∧ Ieee.double.word s r % 9223372036854775808 = r ∧ Ieee.double.word s r < 18446744073709551616 := by
  have e : Ieee.double.word s r = if s then 9223372036854775808 + r else r := rfl
  rw [e]
  unfold negF
  cases s
  · simp only [Bool.false_eq_true, if_false]
    refine ⟨?_, by omega, by omega⟩
    rw [show r / 9223372036854775808 % 2 = 0 by omega]
    rfl
  · simp only [if_true]
    refine ⟨?_, by omega, by omega⟩
    rw [show (9223372036854775808 + r) / 9223372036854775808 % 2 = 1 by omega]
    rfl
theorem nearest_word (s : Bool) (m : Nat) (p : Int) : ∃ r, r ≤ 9218868437227405312 ∧ Ieee.double.nearest s m p = Ieee.double.word s r := by
  unfold Ieee.Format.nearest
  dsimp only
  split
  · exact ⟨0, by omega, rfl⟩
  · exact ⟨_, Nat.min_le_right _ _, rfl⟩
/-- What is written of a number or an infinity is no NaN, and keeps its sign. -/
theorem written {s : Bool} {p r : Nat} (h : p = Ieee.double.word s r) (hr : r ≤ 9218868437227405312) : p < 18446744073709551616 ∧ nanF p = false ∧ negF p = s := by
  obtain ⟨h1, h2, h3⟩ := word_parts s (r := r) (by omega)
  subst h
  refine ⟨h3, ?_, h1⟩
  unfold nanF
  rw [h2]
  exact decide_eq_false (by omega)
theorem read_two : Ieee.double.read 4611686018427387904 = .number false 4503599627370496 (-51) := by decide
/-- Half a float. -/
theorem half_ok {x : Nat} (hn : nanF x = false) : ∃ p, floatBits .quo .f64 x 4611686018427387904 = some p ∧ p < 18446744073709551616 ∧ nanF p = false ∧ negF p = negF x := by
  have hn' : ¬ (9218868437227405312 < x % 9223372036854775808) := of_decide_eq_false hn
  have e : floatBits .quo .f64 x 4611686018427387904 = ((Ieee.double.read x).quotient 54 (Ieee.double.read 4611686018427387904)).map Ieee.double.write := rfl
  rw [e, read_two]
  by_cases hi : x % 9223372036854775808 = 9218868437227405312
  · rw [read_inf hi]
    refine ⟨Ieee.double.word (negF x ^^ false) 9218868437227405312, rfl, ?_⟩
    rw [Bool.xor_false]
    exact written rfl (Nat.le_refl _)
  · rw [read_num (by omega)]
    have hz : ¬ ((4503599627370496 : Nat) = 0) := by decide
    simp only [Ieee.Datum.quotient, if_neg hz, Option.map_some, Ieee.Format.write, Bool.xor_false]
    obtain ⟨r, hr, hw⟩ := nearest_word (negF x) (2 * (magF (x % 9223372036854775808) <<< (54 + Nat.log2 4503599627370496 - (magF (x % 9223372036854775808)).log2) / 4503599627370496) + (magF (x % 9223372036854775808) <<< (54 + Nat.log2 4503599627370496 - (magF (x % 9223372036854775808)).log2) % 4503599627370496 != 0).toNat) (-1074 + (expF (x % 9223372036854775808) : Int) - -51 - ((54 + Nat.log2 4503599627370496 - (magF (x % 9223372036854775808)).log2 : Nat) : Int) - 1)
    exact ⟨_, rfl, written hw hr⟩
/-- The sum of two floats of one sign. -/
theorem add_ok {p q : Nat} (hp : nanF p = false) (hq : nanF q = false) (hs : negF p = negF q) : ∃ r, floatBits .add .f64 p q = some r ∧ r < 18446744073709551616 := by
  have hp' : ¬ (9218868437227405312 < p % 9223372036854775808) := of_decide_eq_false hp
  have hq' : ¬ (9218868437227405312 < q % 9223372036854775808) := of_decide_eq_false hq
  have key : ∃ r, floatBits .add .f64 p q = some r := by
    have e : floatBits .add .f64 p q = ((Ieee.double.read p).sum (Ieee.double.read q)).map Ieee.double.write := rfl
    rw [e]
    by_cases hi : p % 9223372036854775808 = 9218868437227405312
    · rw [read_inf hi]
      by_cases hj : q % 9223372036854775808 = 9218868437227405312
      · rw [read_inf hj]
        simp only [Ieee.Datum.sum, if_pos hs]
        exact ⟨_, rfl⟩
      · rw [read_num (show q % 9223372036854775808 < 9218868437227405312 by omega)]
        exact ⟨_, rfl⟩
    · rw [read_num (show p % 9223372036854775808 < 9218868437227405312 by omega)]
      by_cases hj : q % 9223372036854775808 = 9218868437227405312
      · rw [read_inf hj]
        exact ⟨_, rfl⟩
      · rw [read_num (show q % 9223372036854775808 < 9218868437227405312 by omega)]
        exact ⟨_, rfl⟩
  obtain ⟨r, hr⟩ := key
  refine ⟨r, hr, ?_⟩
  have := Ieee.Format.add_lt Ieee.double hr
  have e : (2 : Nat) ^ Ieee.double.width = 18446744073709551616 := by decide
  omega

theorem within_any (a n : Nat) (w : World) (ha : a < 9223372036854775808) (hn0 : 0 < n) (hn : n < 9223372036854775808) : Calls Tryd.prog 40 #[.int .i64 (a : Int), .int .i64 (n : Int)] w fun e w' => e = .returned (.int .i64 ((a % n : Nat) : Int)) ∧ w' = w := by
  obtain ⟨m, hm, hmn⟩ : ∃ m, a % n = m ∧ m < n := ⟨_, rfl, Nat.mod_lt _ hn0⟩
  rw [hm]
  have h1 : (a : Int).tmod (n : Int) = (m : Int) := by
    rw [Int.tmod_eq_emod_of_nonneg (by omega), ← Int.natCast_emod, hm]
  have h2 : (a : Int) % (n : Int) = (m : Int) := by rw [← Int.natCast_emod, hm]
  have hz : ((n : Int) == 0) = false := beq_eq_false_iff_ne.2 (by omega)
  have hz2 : ¬ ((n : Int) = 0) := by omega
  have ha2 : (a : Int) < 18446744073709551616 := by omega
  have hn2 : (n : Int) < 18446744073709551616 := by omega
  have hm2 : (m : Int) < 9223372036854775808 := by omega
  clear hm
  go_enter Tryd.func40, Tryd.ntmps40
  go_wp2_with fail
  go_ret
  exact ⟨rfl, rfl⟩
/-- The number that the statement takes. -/
theorem step_num {x : Nat} : x / 2 % 4611686018427387904 < 4611686018427387904 := Nat.mod_lt _ (by decide)
theorem of_step {n : Nat} (h1 : 4503599627370495 ≤ n) (h2 : n < 9223372036854775808) : ofF n = 18446744073709551615 - n ∧ nanF (ofF n) = false ∧ negF (ofF n) = true ∧ ofF n < 18446744073709551616 := by
  have hk : nanF (18446744073709551615 - n) = false := by
    unfold nanF
    exact decide_eq_false (by omega)
  have e : ofF n = 18446744073709551615 - n := by
    unfold ofF
    simp only [if_pos h2]
    rw [hk]
    rfl
  rw [e]
  refine ⟨rfl, hk, ?_, by omega⟩
  rw [neg_iff (by omega)]
  exact decide_eq_true (by omega)

set_option maxHeartbeats 8000000 in
set_option maxRecDepth 100000 in
theorem steps_any (l : List Nat) (v : Value) (w : World) (h : UsAt w v l) (hT : Tabs w) :
    Calls Tryd.prog 12 #[v] w fun e w' => e = .returned (.bool true) ∧ Below w.heap.size w w' := by
  have HT := Lib.hid hT
  have HU := Lib.hid h
  obtain ⟨A0, c0, rfl, hlen0, hlt0, _⟩ := h
  have HL0 := Lib.hid hlt0
  have hll : l.length < 9223372036854775808 := by unfold maxLen at hlen0; omega
  clear hT hlen0 hlt0
  go_enter Tryd.func12, Tryd.ntmps12
  go_wp2_with fail
  go_loopw [3] (fun iv wr => ∃ i : Nat, iv = .int .i64 i ∧ i ≤ l.length ∧ i ≤ 30 ∧ Below w.heap.size w wr) (fun iv _ => 31 - (intOf iv).toNat)
  case atStart => exact ⟨0, rfl, Nat.zero_le _, Nat.zero_le _, Below.refl _ _⟩
  case round =>
    obtain ⟨i, rfl, hil, hi30, hb⟩ := hrel
    have HB := Lib.hid hb
    have hszr := hb.size
    clear hb
    by_cases hin : i < l.length ∧ i < 30
    · have hlti : (i : Int) < (l.length : Int) := by omega
      have h30i : (i : Int) < 30 := by omega
      obtain ⟨b, o, hA, hcell⟩ := HU.out.cell hin.1 rfl HB.out
      have hx := HL0.out _ (List.getElem_mem hin.1)
      generalize l[i]'hin.1 = z at *
      subst hA
      obtain ⟨d, hd, hd63⟩ : ∃ d, z / 2 = d ∧ d < 9223372036854775808 := ⟨_, rfl, by omega⟩
      have hdi : (z : Int) / 2 = (d : Int) := by omega
      have HWI := Lib.hid (fun W => within_any d 4611686018427387904 W hd63 (by decide) (by decide))
      have ht62 : d % 4611686018427387904 < 4611686018427387904 := Nat.mod_lt _ (by decide)
      obtain ⟨t, ht⟩ : ∃ t, d % 4611686018427387904 = t := ⟨_, rfl⟩
      rw [ht] at HWI ht62
      obtain ⟨n, hn⟩ : ∃ n, 4503599627370495 + t = n := ⟨_, rfl⟩
      have hni : (4503599627370495 : Int) + (t : Int) = (n : Int) := by omega
      have hn1 : 4503599627370495 ≤ n := by omega
      have hn2 : n + 1 < 9223372036854775808 := by omega
      obtain ⟨ex, nx, gx, lx⟩ := of_step hn1 (by omega)
      obtain ⟨ey, ny, gy, ly⟩ := of_step (n := n + 1) (by omega) hn2
      have bx : bitsF (ofF n) = n := bits_of (by omega) nx
      have by1 : bitsF (ofF (n + 1)) = n + 1 := bits_of (by omega) ny
      obtain ⟨p, hp1, hp2, hp3, hp4⟩ := half_ok nx
      obtain ⟨q, hq1, hq2, hq3, hq4⟩ := half_ok ny
      obtain ⟨r, hr1, hr2⟩ := add_ok hp3 hq3 (by rw [hp4, hq4, gx, gy])
      have hP := fun W => run_float_arith (P := Tryd.prog) W .quo 26 .f64 _ _ p hp1
      have hQ := fun W => run_float_arith (P := Tryd.prog) W .quo 26 .f64 _ _ q hq1
      have hR := fun W => run_float_arith (P := Tryd.prog) W .add 26 .f64 _ _ r hr1
      have HO1 := Lib.hid (fun W => fOf_any n W (by omega))
      have HO2 : Hid (∀ W, Calls Tryd.prog 35 #[.int .u64 ((n : Int) + 1)] W fun e w' => e = .returned (.float .f64 (ofF (n + 1))) ∧ w' = W) := Lib.hid (fun W => fOf_any (n + 1) W (by omega))
      have HC := Lib.hid (fun W => fCmp_any (ofF n) (ofF (n + 1)) W lx ly)
      rw [show cmpF (ofF n) (ofF (n + 1)) = -1 by unfold cmpF; rw [bx, by1, if_pos (by omega)]] at HC
      have HB1 := Lib.hid (fun W => fBits_any (ofF n) W lx)
      have HB2 := Lib.hid (fun W => fBits_any (ofF (n + 1)) W ly)
      rw [bx] at HB1
      rw [by1] at HB2
      have HM1 := Lib.hid (fun W => fCmp_any r (ofF n) W hr2 lx)
      have HM2 := Lib.hid (fun W => fCmp_any r (ofF (n + 1)) W hr2 ly)
      have hnot : ¬ (0 < cmpF r (ofF n) ∧ cmpF r (ofF (n + 1)) < 0) := by
        rw [cmp_pos, cmp_neg, bx, by1]
        omega
      have hox := ord_ne (ofF n)
      have hoy := ord_ne (ofF (n + 1))
      rw [nx] at hox
      rw [ny] at hoy
      clear ex ey nx ny gx gy lx ly bx by1 hp1 hp2 hp3 hp4 hq1 hq2 hq3 hq4 hr1 hr2 hx hd hn
      generalize cmpF r (ofF n) = c1 at *
      generalize cmpF r (ofF (n + 1)) = c2 at *
      generalize ofF (n + 1) = y at *
      generalize ofF n = x at *
      have hne := int_same (n : Int)
      have hne1 : (((n + 1 : Nat) : Int) != (n : Int) + 1) = false := int_same _
      go_wp2_with fail
      refine Calls.mono (HWI.out _) ?_
      rintro e w5 ⟨rfl, rfl⟩
      go_wp2_with fail
      refine Calls.mono (HO1.out _) ?_
      rintro e w5 ⟨rfl, rfl⟩
      go_wp2_with fail
      refine Calls.mono (HO2.out _) ?_
      rintro e w5 ⟨rfl, rfl⟩
      go_wp2_with fail
      refine Calls.mono (HC.out _) ?_
      rintro e w5 ⟨rfl, rfl⟩
      go_wp2_with fail
      refine Calls.mono (HB1.out _) ?_
      rintro e w5 ⟨rfl, rfl⟩
      go_wp2_with fail
      refine Calls.mono (HB2.out _) ?_
      rintro e w5 ⟨rfl, rfl⟩
      by_cases h1 : 0 < c1
      · have h2 : decide (c2 < 0) = false := decide_eq_false fun k => hnot ⟨h1, k⟩
        go_wp2_with fail
        refine Calls.mono (HM1.out _) ?_
        rintro e w5 ⟨rfl, rfl⟩
        go_wp2_with fail
        refine Calls.mono (HM2.out _) ?_
        rintro e w5 ⟨rfl, rfl⟩
        go_wp2_with fail
        exact ⟨⟨i + 1, by go_num, by omega, by omega, HB.out⟩, by simp [intOf]; omega⟩
      · have h1d : decide (0 < c1) = false := decide_eq_false h1
        go_wp2_with fail
        refine Calls.mono (HM1.out _) ?_
        rintro e w5 ⟨rfl, rfl⟩
        go_wp2_with fail
        exact ⟨⟨i + 1, by go_num, by omega, by omega, HB.out⟩, by simp [intOf]; omega⟩
    have HI1 := Lib.hid (fun W => inf_minus W)
    have HI2 := Lib.hid (fun W => inf_plus W)
    have HN1 := Lib.hid (fun W => nan_any W)
    have HB1 := Lib.hid (fun W => fBits_any 18442240474082181120 W (by decide))
    have HB2 := Lib.hid (fun W => fBits_any 9218868437227405312 W (by decide))
    rw [show bitsF 18442240474082181120 = 4503599627370495 by decide] at HB1
    rw [show bitsF 9218868437227405312 = 18442240474082181120 by decide] at HB2
    have HO : Hid (∀ W, Calls Tryd.prog 35 #[.int .u64 0] W fun e w' => e = .returned (.float .f64 9221120237041090561) ∧ w' = W) := Lib.hid (fun W => by
      have := fOf_any 0 W (by decide)
      rw [show ofF 0 = 9221120237041090561 by decide] at this
      exact this)
    have HE := Lib.hid (fun W => eqFloat_any 9221120237041090561 9221120237041090561 W)
    rw [eq_self] at HE
    have HW := Lib.hid (wakes_any wr (HT.out.keep HB.out))
    by_cases hlt : i < l.length
    · have hlti : (i : Int) < (l.length : Int) := by omega
      have h30i : decide ((i : Int) < 30) = false := decide_eq_false (by omega)
      go_wp2_with fail
      refine Calls.mono (HI1.out _) ?_
      rintro e w5 ⟨rfl, rfl⟩
      go_wp2_with fail
      refine Calls.mono (HB1.out _) ?_
      rintro e w5 ⟨rfl, rfl⟩
      go_wp2_with fail
      refine Calls.mono (HI2.out _) ?_
      rintro e w5 ⟨rfl, rfl⟩
      go_wp2_with fail
      refine Calls.mono (HB2.out _) ?_
      rintro e w5 ⟨rfl, rfl⟩
      go_wp2_with fail
      refine Calls.mono (HO.out _) ?_
      rintro e w5 ⟨rfl, rfl⟩
      go_wp2_with fail
      refine Calls.mono (HN1.out _) ?_
      rintro e w5 ⟨rfl, rfl⟩
      go_wp2_with fail
      refine Calls.mono (HE.out _) ?_
      rintro e w5 ⟨rfl, rfl⟩
      go_wp2_with fail
      refine Calls.mono HW.out ?_
      rintro e w6 ⟨rfl, hb⟩
      have HB3 := Lib.hid (HB.out.trans (hb.mono hszr))
      clear hb
      go_wp2_with fail
      go_ret
      exact ⟨rfl, HB3.out⟩
    · have hlti : decide ((i : Int) < (l.length : Int)) = false := decide_eq_false (by omega)
      go_wp2_with fail
      refine Calls.mono (HI1.out _) ?_
      rintro e w5 ⟨rfl, rfl⟩
      go_wp2_with fail
      refine Calls.mono (HB1.out _) ?_
      rintro e w5 ⟨rfl, rfl⟩
      go_wp2_with fail
      refine Calls.mono (HI2.out _) ?_
      rintro e w5 ⟨rfl, rfl⟩
      go_wp2_with fail
      refine Calls.mono (HB2.out _) ?_
      rintro e w5 ⟨rfl, rfl⟩
      go_wp2_with fail
      refine Calls.mono (HO.out _) ?_
      rintro e w5 ⟨rfl, rfl⟩
      go_wp2_with fail
      refine Calls.mono (HN1.out _) ?_
      rintro e w5 ⟨rfl, rfl⟩
      go_wp2_with fail
      refine Calls.mono (HE.out _) ?_
      rintro e w5 ⟨rfl, rfl⟩
      go_wp2_with fail
      refine Calls.mono HW.out ?_
      rintro e w6 ⟨rfl, hb⟩
      have HB3 := Lib.hid (HB.out.trans (hb.mono hszr))
      clear hb
      go_wp2_with fail
      go_ret
      exact ⟨rfl, HB3.out⟩
end Go.Proofs.YtfbkokkpcgmapaaDoor
