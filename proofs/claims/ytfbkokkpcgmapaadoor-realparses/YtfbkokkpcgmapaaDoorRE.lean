/-
  The texts of floats: how often two divides (package math/bits), decimal numbers (package strconv), and package real's split and Text, walked.
  Conditions: as each theorem states them: the library's two tables are as their initialisers lay them.
-/
import Derived.Test.YtfbkokkpcgmapaaDoorRD
import Derived.Test.YtfbkokkpcgmapaaDoorSA
import Derived.Deep.RegionHeld3
import Derived.Lib.AppendIntMem
import Derived.Lib.SmallJoins
import Derived.Lib.ItoaMem
namespace Go.Proofs.YtfbkokkpcgmapaaDoor
open Go.RowKit Go.Sort Go.Lib

def dbTab : List Int := [0, 1, 56, 2, 57, 49, 28, 3, 61, 58, 42, 50, 38, 29, 17, 4, 62, 47, 59, 36, 45, 43, 51, 22, 53, 39, 33, 30, 24, 18, 12, 5, 63, 55, 48, 27, 60, 41, 37, 16, 46, 35, 44, 21, 52, 32, 23, 11, 54, 26, 40, 15, 34, 20, 31, 10, 25, 14, 19, 9, 13, 8, 7, 6]
/-- The library's tables are as they are laid. -/
structure Tabs (w : World) : Prop where
  pow : Lib.TabIs Tryd.prog w "internal/strconv.uint64pow10" .u64 Lib.pow10Tab
  deb : Lib.TabIs Tryd.prog w "math/bits.deBruijn64tab" .u8 dbTab
theorem gPow : Tryd.prog.globalNamed "internal/strconv.uint64pow10" = some 2 := by kernel_rfl
theorem gDeb : Tryd.prog.globalNamed "math/bits.deBruijn64tab" = some 1 := by kernel_rfl
theorem Tabs.keep {w w' : World} (h : Tabs w) (hb : Below w.heap.size w w') : Tabs w' :=
  ⟨Joins.tab_stays gPow h.pow hb (Nat.le_refl _), Joins.tab_stays gDeb h.deb hb (Nat.le_refl _)⟩

theorem low_bit {t k : Nat} (h : 2 ^ t * (2 * k + 1) < 18446744073709551616) : 2 ^ t * (2 * k + 1) &&& (18446744073709551616 - 2 ^ t * (2 * k + 1)) = 2 ^ t := by
  have hp := Nat.two_pow_pos t
  have e1 : 2 ^ t * (2 * k + 1) = 2 ^ t * (2 * k) + (2 ^ t - 1) + 1 := by rw [Nat.mul_add, Nat.mul_one]; omega
  apply Nat.eq_of_testBit_eq
  intro i
  rw [Nat.testBit_and, show 18446744073709551616 - 2 ^ t * (2 * k + 1) = 2 ^ 64 - ((2 ^ t * (2 * k) + (2 ^ t - 1)) + 1) by omega, Nat.testBit_two_pow_sub_succ (by omega), Nat.testBit_two_pow]
  rw [Nat.testBit_two_pow_mul, Nat.testBit_two_pow_mul_add _ (by omega)]
  by_cases h1 : i < t
  · rw [decide_eq_false (by omega), decide_eq_false (show ¬ t = i by omega)]
    simp
  · rw [if_neg h1, decide_eq_true (show t ≤ i by omega)]
    by_cases h2 : t = i
    · subst h2
      have h64 : t < 64 := by
        apply Nat.lt_of_not_le
        intro h64
        have : (2 : Nat) ^ 64 ≤ 2 ^ t := Nat.pow_le_pow_right (by omega) h64
        have : 2 ^ t ≤ 2 ^ t * (2 * k + 1) := Nat.le_mul_of_pos_right _ (by omega)
        omega
      rw [Nat.sub_self, decide_eq_true h64, decide_eq_true rfl]
      simp
    · rw [decide_eq_false h2]
      obtain ⟨j, hj⟩ : ∃ j, i - t = j + 1 := ⟨i - t - 1, by omega⟩
      rw [hj, Nat.testBit_succ, Nat.testBit_succ, show (2 * k + 1) / 2 = k by omega, show 2 * k / 2 = k by omega]
      cases k.testBit j <;> simp
theorem db_fin : ∀ t : Fin 64, dbTab.getD (2 ^ t.val * 285870213051353865 % 18446744073709551616 / 288230376151711744) 0 = (t.val : Int) := by decide +kernel
theorem db_idx : ∀ t : Fin 64, 2 ^ t.val * 285870213051353865 % 18446744073709551616 / 288230376151711744 < 64 := by decide +kernel

set_option maxRecDepth 100000 in
theorem trailing_any (m : Nat) (w : World) (hT : Tabs w) (h0 : 0 < m) (h1 : m < 18446744073709551616) : Calls Tryd.prog 58 #[.int .u64 (m : Int)] w fun e w' => e = .returned (.int .i64 (tzN m : Int)) ∧ w' = w := by
  obtain ⟨⟨k, hk⟩, ht⟩ := ntz_spec 64 m h0 h1
  have e2 : m &&& (18446744073709551616 - m) = 2 ^ Lib.ntzAux 64 m := by
    have := low_bit (t := Lib.ntzAux 64 m) (k := k) (by rw [← hk]; exact h1)
    rw [← hk] at this
    exact this
  obtain ⟨q, hq, hq64⟩ : ∃ q : Nat, 18446744073709551616 - m = q ∧ q < 18446744073709551616 := ⟨_, rfl, by omega⟩
  have hneg : IntKind.u64.wrap (0 - (m : Int)) = (q : Int) := by rw [IntKind.wrap_u64]; omega
  have hneg2 : IntKind.u64.wrap (-(m : Int)) = (q : Int) := by rw [IntKind.wrap_u64]; omega
  rw [hq] at e2
  have hand := bits_and_u64_nat m q h1 hq64
  rw [e2] at hand
  have hi := db_idx ⟨_, ht⟩
  have hv := db_fin ⟨_, ht⟩
  simp only at hi hv
  have hcell := hT.deb.cell gDeb _ (show _ < dbTab.length from hi)
  rw [hv] at hcell
  have HE := Lib.hid (show (Lib.ntzAux 64 m : Int) = (tzN m : Int) from rfl)
  generalize Lib.ntzAux 64 m = t at *
  generalize hp : 2 ^ t = p at *
  obtain ⟨r, hr⟩ : ∃ r, p * 285870213051353865 % 18446744073709551616 = r := ⟨_, rfl⟩
  have hmul : IntKind.u64.wrap ((p : Int) * 285870213051353865) = (r : Int) := by rw [IntKind.wrap_u64]; omega
  rw [hr] at hcell hi
  have hr64 : r < 18446744073709551616 := by omega
  obtain ⟨i, hi2⟩ : ∃ i, r / 288230376151711744 = i := ⟨_, rfl⟩
  have hdiv : (r : Int) / 288230376151711744 = (i : Int) := by omega
  rw [hi2] at hcell hi
  have hm0 : ((m : Int) == 0) = false := beq_eq_false_iff_ne.2 (by omega)
  have htl : (t : Int) < 64 := Int.ofNat_lt.2 ht
  have hil : (i : Int) < 64 := Int.ofNat_lt.2 hi
  have hr64i : (r : Int) < 18446744073709551616 := Int.ofNat_lt.2 hr64
  clear hv hk e2 hq hr hi2 hp hT k
  go_enter Tryd.func58, Tryd.ntmps58
  go_wp2_with fail
  go_ret
  exact ⟨by rw [← HE.out]; rfl, rfl⟩

theorem or_first {x : Nat} (h : x < 4503599627370496) : bits .or .u64 (x : Int) 4503599627370496 = ((4503599627370496 + x : Nat) : Int) := by
  rw [show (4503599627370496 : Int) = ((4503599627370496 : Nat) : Int) from rfl, bits_or_u64_nat x _ (by omega) (by decide), Nat.or_comm]
  have := Nat.two_pow_add_eq_or_of_lt (i := 52) (b := x) (by omega) 1
  rw [Nat.mul_one] at this
  rw [show (4503599627370496 : Nat) = 2 ^ 52 from rfl, this]

set_option maxRecDepth 100000 in
theorem split_float (a r : Nat) (w : World) (hT : Tabs w) (ha : a < 18446744073709551616) (hr : a % 9223372036854775808 = r) (h0 : 0 < r) (h1 : r < 9218868437227405312) :
    Calls Tryd.prog 49 #[.float .f64 a] w fun e w' => e = .returned (.tuple #[.int .u64 (oddM r : Int), .int .i64 (oddE r)]) ∧ w' = w := by
  have HS := Lib.hid (fun W => sizeOf_any a W ha)
  rw [hr] at HS
  have HZ := Lib.hid (trailing_any (magF r) w hT (mag_pos h0) (by have := mag_lt r; omega))
  obtain ⟨hodd, _, ho53, htz⟩ := odd_spec h0
  have hme := mag_lt r
  have hee := exp_le h1
  have hshr : ((magF r : Nat) : Int) / 2 ^ tzN (magF r) = (oddM r : Int) := by
    rw [show ((2 : Int) ^ tzN (magF r)) = ((2 ^ tzN (magF r) : Nat) : Int) by rw [Int.natCast_pow]; rfl, ← Int.natCast_ediv]
    rfl
  have hmin : min (tzN (magF r)) 64 = tzN (magF r) := Nat.min_eq_left (by omega)
  have HO := Lib.hid (show oddE r = -1074 + (expF r : Int) + (tzN (magF r) : Int) from rfl)
  clear hodd
  by_cases hn : 4503599627370496 ≤ r
  · have hg : (4503599627370496 : Int) ≤ (r : Int) := by omega
    have hM : magF r = 4503599627370496 + r % 4503599627370496 := by unfold magF; rw [if_neg (by omega)]
    have hand := low_mask (a := r) (by omega)
    have hor := or_first (x := r % 4503599627370496) (by omega)
    rw [← hM] at hor
    have hE : (r : Int) / 4503599627370496 = (expF r : Int) + 1 := by unfold expF; omega
    clear hM
    generalize magF r = M at *
    generalize expF r = E at *
    generalize tzN M = t at *
    generalize oddM r = o at *
    generalize oddE r = oe at *
    obtain ⟨x, hx⟩ : ∃ x, r % 4503599627370496 = x := ⟨_, rfl⟩
    rw [hx] at hand hor
    have hri : (r : Int) < 18446744073709551616 := by omega
    have hx2 : (x : Int) < 4503599627370496 := by omega
    clear hx hr hn h0 h1 ha
    go_enter Tryd.func49, Tryd.ntmps49
    go_wp2_with fail
    refine Calls.mono (HS.out _) ?_
    rintro e w' ⟨rfl, rfl⟩
    go_wp2_with fail
    refine Calls.mono HZ.out ?_
    rintro e w' ⟨rfl, rfl⟩
    go_wp2_with fail
    go_ret2
    exact ⟨by rw [HO.out]; go_num, rfl⟩
  · have hg : decide ((4503599627370496 : Int) ≤ (r : Int)) = false := decide_eq_false (by omega)
    have hM : magF r = r := by unfold magF; rw [if_pos (by omega)]
    have hE : expF r = 0 := by unfold expF; omega
    rw [hE] at HO
    rw [hM] at HZ hshr hmin HO hme htz
    clear hM hE
    generalize tzN r = t at *
    generalize oddM r = o at *
    generalize oddE r = oe at *
    have hri : (r : Int) < 18446744073709551616 := by omega
    clear hr hn h0 h1 ha
    go_enter Tryd.func49, Tryd.ntmps49
    go_wp2_with fail
    refine Calls.mono (HS.out _) ?_
    rintro e w' ⟨rfl, rfl⟩
    go_wp2_with fail
    refine Calls.mono HZ.out ?_
    rintro e w' ⟨rfl, rfl⟩
    go_wp2_with fail
    go_ret2
    exact ⟨by rw [HO.out]; go_num, rfl⟩

theorem fin_zero (w : World) (o : Obj) (dk : Array UInt8) (k : Nat) : ∃ os, (putRow (fun (b : UInt8) => Value.int .u8 (b.toNat : Int)) (w.alloc o) w.heap.size 0 dk).drewN k = grow (w.drewN k) os := by
  rw [alloc_eq_grow]
  obtain ⟨os', _, e⟩ := putRow_grow_new (fun (b : UInt8) => Value.int .u8 (b.toNat : Int)) w #[o] w.heap.size 0 dk (Nat.le_refl _)
  exact ⟨os', by rw [e]; rfl⟩

set_option maxRecDepth 100000 in
theorem iformatUint_any (u : Nat) (w : World) (hT : Tabs w) (hu64 : u < 18446744073709551616) :
    Calls Tryd.prog 59 #[.int .u64 (u : Int), .int .i64 10] w fun e w' => e = .returned (.string ⟨(Lib.decDigits u).toArray⟩) ∧ Below w.heap.size w w' := by
  by_cases hs : u < 100
  · have hsi : (u : Int) < 100 := by omega
    have HS := Lib.hid (Tryd.internal_strconv_small u hs w)
    go_enter Tryd.func59, Tryd.ntmps59
    go_wp2_with fail
    refine Calls.mono HS.out ?_
    rintro e w' ⟨rfl, rfl⟩
    go_wp2_with fail
    go_ret
    exact ⟨rfl, Below.refl _ _⟩
  · have hsi : decide ((u : Int) < 100) = false := decide_eq_false (by omega)
    have hu1 : 1 ≤ u := by omega
    have hnd20 : Lib.nDigits u ≤ 20 := by have := Lib.numDigits_eq u hu1 hu64; split at this <;> omega
    have hal : Tryd.prog.arrayLen 77 = 24 := by kernel_rfl
    have hsl : ∀ W, (Instr.sliceAt 77 (.pointer (some ⟨w.heap.size, 0, none⟩)) none (some (.int .i64 (Lib.nDigits u : Int))) none).run Tryd.prog W = .ok (.slice (some ⟨w.heap.size, 0, none⟩) (Lib.nDigits u) 24) W := fun W => by
      rw [run_sliceAt_array_h W 77 ⟨w.heap.size, 0, none⟩ (by kernel_rfl) .i64 (Lib.nDigits u : Int) (by omega) (by rw [hal]; omega)]
      rw [hal]
      rfl
    have hH0 := Lib.holds_zero0 w 77 (Lib.nDigits u) (by omega)
    have hfmt := Tryd.internal_strconv_formatBase10 w.heap.size 0 24 u (Array.replicate (Lib.nDigits u) 0) (w.alloc (.cells Lib.zeros24 77)) hH0 (by rw [Array.size_replicate]; exact Lib.lt_pow_nDigits u) hu64 (by rw [Array.size_replicate]; omega)
    rw [Array.size_replicate] at hfmt
    have HF := Lib.hid hfmt
    have HH0 := Lib.hid hH0
    have HD := Lib.hid (Tryd.internal_strconv_numDigits u hu1 hu64 _ (Lib.tabIs_alloc hT.pow (.cells Lib.zeros24 77)))
    clear hH0 hal hfmt hT
    go_enter Tryd.func59, Tryd.ntmps59
    go_wp2_with fail
    refine Calls.mono HD.out ?_
    rintro e w' ⟨rfl, rfl⟩
    go_wp2_with fail
    refine Calls.mono HF.out ?_
    rintro e w' ⟨rfl, k, v', dk, rfl, hF⟩
    have hcv : (convert 75 9 (.slice (some ⟨w.heap.size, 0, none⟩) (Lib.nDigits u) 24)).run Tryd.prog ((putRow (fun (b : UInt8) => Value.int .u8 (b.toNat : Int)) (w.alloc (.cells Lib.zeros24 77)) w.heap.size 0 dk).drewN k) = .ok (.string ⟨(Lib.decDigits u).toArray⟩) ((putRow (fun (b : UInt8) => Value.int .u8 (b.toNat : Int)) (w.alloc (.cells Lib.zeros24 77)) w.heap.size 0 dk).drewN k) := by
      have h := run_convert_bytes_back (P := Tryd.prog) ((putRow (fun (b : UInt8) => Value.int .u8 (b.toNat : Int)) (w.alloc (.cells Lib.zeros24 77)) w.heap.size 0 dk).drewN k) 75 9 5 ⟨w.heap.size, 0, none⟩ 24 (Lib.decDigits u) Tryd.underlying75 Tryd.underlying5 Tryd.underlying9 (fun j hj => by
        rw [Lib.row_is_numeral hF j hj, Lib.add_plain, World.cell?_drewN]
        exact cell?_putRow (fun (b : UInt8) => Value.int .u8 (b.toNat : Int)) _ w.heap.size 0 _ dk HH0.out (by rw [hF.size, Array.size_replicate]) j (by rw [hF.size]; rw [Lib.decDigits_length] at hj; exact hj))
      rw [Lib.decDigits_length] at h
      exact h
    have HB := Lib.hid (show Below w.heap.size w ((putRow (fun (b : UInt8) => Value.int .u8 (b.toNat : Int)) (w.alloc (.cells Lib.zeros24 77)) w.heap.size 0 dk).drewN k) by
      obtain ⟨os, eo⟩ := fin_zero w (.cells Lib.zeros24 77) dk k
      rw [eo]
      exact Lib.below_grow _ w (Nat.le_refl _) k os)
    clear hF HH0
    generalize ((putRow (fun (b : UInt8) => Value.int .u8 (b.toNat : Int)) (w.alloc (.cells Lib.zeros24 77)) w.heap.size 0 dk).drewN k) = w2 at *
    go_wp2_with fail
    go_ret
    exact ⟨rfl, HB.out⟩
theorem formatUint_any (u : Nat) (w : World) (hT : Tabs w) (hu64 : u < 18446744073709551616) :
    Calls Tryd.prog 50 #[.int .u64 (u : Int), .int .i64 10] w fun e w' => e = .returned (.string ⟨(Lib.decDigits u).toArray⟩) ∧ Below w.heap.size w w' := by
  have HI := Lib.hid (iformatUint_any u w hT hu64)
  clear hT
  go_enter Tryd.func50, Tryd.ntmps50
  go_wp2_with fail
  refine Calls.mono HI.out ?_
  rintro e w1 ⟨rfl, hb⟩
  have HB := Lib.hid hb
  clear hb
  go_wp2_with fail
  go_ret
  exact ⟨rfl, HB.out⟩
theorem itoa_any (z : Int) (w : World) (hT : Tabs w) (h1 : -1000000 ≤ z) (h2 : z ≤ 1000000) :
    Calls Tryd.prog 51 #[.int .i64 z] w fun e w' => e = .returned (.string ⟨(Lib.itoa z).toArray⟩) ∧ Below w.heap.size w w' := by
  refine (Tryd.strconv_Itoa z (by omega) (by omega) w hT.pow).mono ?_
  rintro e w' ⟨rfl, k, os, rfl⟩
  exact ⟨rfl, Lib.below_grow _ w (Nat.le_refl _) k os⟩
end Go.Proofs.YtfbkokkpcgmapaaDoor
