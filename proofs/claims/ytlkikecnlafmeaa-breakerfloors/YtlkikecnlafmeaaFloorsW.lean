/-
  BreakerFloors: the statement's own walk.
  Conditions: as the theorem states them: the argument lies in memory.
-/
import Derived.Test.YtlkikecnlafmeaaQM
import Derived.Deep.CutRange
import Derived.Deep.DeepCutAuto
import Derived.Deep.QuietTactic
import Derived.BigQuiet
import Derived.WalkSmall
namespace Go.Proofs.Ytlkikecnlafmeaa
open Go.RowKit

/-- The two floors. -/
def floF (k : Nat) : Nat := if k = 0 then 4591870180066957722 else 4606281698874543309
/-- The breaker behind so many ends, good ones and bad ones in turn. -/
def floB (n k : Nat) : Nat → BR
  | 0 => ⟨0, 0, 0, n, 0⟩
  | i + 1 => endB (recB (floB n k i) (i % 2 == 0)) (i % 2 == 0) (i : Int) 5 9 (floF k) n
def floChk (n k i : Nat) : Bool := okB (floB n k i) && decide ((floB n k i).s < 18446744073709551616) && (if k = 0 then (floB n k i).t == 0 else (((floB n k i).t == 0 && decide (i < 20)) || (floB n k i).t == 1))
theorem flo_all : ((List.range 2).all fun k => (List.range 21).all fun i => floChk 9221120237041090561 k i) = true := by decide +kernel
theorem flo_chk {n k i : Nat} (hn : n = 9221120237041090561) (hk : k < 2) (hi : i ≤ 20) : floChk n k i = true := by
  subst hn
  have h := List.all_eq_true.1 flo_all k (List.mem_range.2 hk)
  exact List.all_eq_true.1 h i (List.mem_range.2 (by omega))
theorem flo_ok {n k i : Nat} (hn : n = 9221120237041090561) (hk : k < 2) (hi : i ≤ 20) : okB (floB n k i) = true ∧ (floB n k i).s < 18446744073709551616 := by
  have h := flo_chk hn hk hi
  unfold floChk at h
  rw [Bool.and_eq_true, Bool.and_eq_true, decide_eq_true_eq] at h
  exact h.1
theorem flo_low {n i : Nat} (hn : n = 9221120237041090561) (hi : i ≤ 20) : (floB n 0 i).t = 0 := by
  have h := flo_chk (k := 0) hn (by omega) hi
  unfold floChk at h
  rw [Bool.and_eq_true, if_pos rfl, beq_iff_eq] at h
  exact h.2
theorem flo_high {n i : Nat} (hn : n = 9221120237041090561) (hi : i ≤ 20) : ((floB n 1 i).t = 0 ∧ i < 20) ∨ (floB n 1 i).t = 1 := by
  have h := flo_chk (k := 1) hn (by omega) hi
  unfold floChk at h
  rw [Bool.and_eq_true, if_neg (by omega)] at h
  simpa using h.2
theorem flo_end {n k i : Nat} (hn : n = 9221120237041090561) (hk : k < 2) (hi : i ≤ 20) : outB (endR (floB n k i) (i % 2 == 0) (i : Int) 5 9 (floF k) n) = .tuple #[bV (floB n k (i + 1)), .int .i64 0] := by
  have hm : mayE (floB n k i) (i : Int) 5 9 = true := by
    unfold mayE okC
    rw [(flo_ok hn hk hi).1, inB_iff.2 ⟨(by omega : (0 : Int) ≤ (i : Int)), (by omega : (i : Int) ≤ 1099511627776)⟩]
    rfl
  unfold endR
  rw [hm]
  rfl
set_option maxHeartbeats 4000000 in
set_option maxRecDepth 100000 in
theorem floors_any (b : BR) (sc : Nat) (v : Value) (l : List AR) (w : World) (h : AcsAt w v l) :
    Calls Try.prog 8 #[sV b sc v] w fun e w' => e = .returned (.bool true) ∧ Below w.heap.size w w' := by
  obtain ⟨A0, cp, rfl, hll⟩ := h.slice
  clear h
  have hst := store_float
  obtain ⟨n, hn⟩ : ∃ n, n = 9221120237041090561 := ⟨_, rfl⟩
  have HN := Lib.hid hn
  have HEN := Lib.hid (fun (c : BR) (ok : Bool) (i : Int) (fo : Nat) W (hs : c.s < 18446744073709551616) => bend_any c ok i 5 9 fo n hn W hs)
  have HNW := Lib.hid (fun W => bnew_any n hn W)
  have HW := Lib.hid (fun W => wakes_any W)
  have HN0 := Lib.hid (fun W => num_any 0 W)
  have HS := Lib.hid (SAt.new w b sc (.slice A0 l.length cp))
  have HB := Lib.hid ((Below.refl _ w).alloc (Nat.le_refl _) (.cells #[.int .i64 b.t, .int .i64 b.f, .int .i64 b.u, .float .f64 b.s, .int .i64 b.c, .int .u64 (sc : Int), .slice A0 l.length cp] 30))
  clear hn
  unfold bV at HNW
  unfold sV
  go_enter Try.func8, Try.ntmps8
  go_wp2_with fail
  go_loopw [3] (fun kv wr => ∃ k : Nat, kv = .int .i64 k ∧ k ≤ 2 ∧ SAt wr w.heap.size b sc (.slice A0 l.length cp) ∧ Below w.heap.size w wr) (fun kv _ => 3 - (intOf kv).toNat)
  case atStart => exact ⟨0, rfl, by omega, HS.out, HB.out⟩
  case round =>
    obtain ⟨k, rfl, hk2, hS, hb⟩ := hrel
    have HS0 := Lib.hid hS
    have HB0 := Lib.hid hb
    clear hS hb HS HB
    generalize wr = wo at *
    rcases (show k = 0 ∨ k = 1 ∨ k = 2 by omega) with h | h | h
    · subst h
      rw [show ((0 : Nat) : Int) = 0 from rfl]
      have HS1 := Lib.hid ((HS0.out.alloc (.cells #[.float .f64 4591870180066957722, .float .f64 4606281698874543309] 22)).alloc (.cells #[.slice none 0 0, .string ByteArray.empty, .int .i64 0, .int .i64 0, .slice none 0 0, .int .i64 5, .int .i64 9, .float .f64 4591870180066957722] 50))
      have HB1 := Lib.hid ((HB0.out.alloc HB0.out.size (.cells #[.float .f64 4591870180066957722, .float .f64 4606281698874543309] 22)).alloc (HB0.out.alloc HB0.out.size (.cells #[.float .f64 4591870180066957722, .float .f64 4606281698874543309] 22)).size (.cells #[.slice none 0 0, .string ByteArray.empty, .int .i64 0, .int .i64 0, .slice none 0 0, .int .i64 5, .int .i64 9, .float .f64 4591870180066957722] 50))
      have HC1 := Lib.hid (CfAt.new1 wo (.cells #[.float .f64 4591870180066957722, .float .f64 4606281698874543309] 22) 5 9 4591870180066957722)
      clear HS0 HB0
      go_wp2_with fail
      refine Calls.mono (HNW.out _) ?_
      rintro e w2 ⟨rfl, hb2⟩
      have HS2 := Lib.hid ((HS1.out.later hb2).alloc (.cells #[.int .i64 (BR.mk 0 0 0 n 0).t, .int .i64 (BR.mk 0 0 0 n 0).f, .int .i64 (BR.mk 0 0 0 n 0).u, .float .f64 (BR.mk 0 0 0 n 0).s, .int .i64 (BR.mk 0 0 0 n 0).c] 26))
      have HC2 := Lib.hid ((HC1.out.later hb2).alloc (.cells #[.int .i64 (BR.mk 0 0 0 n 0).t, .int .i64 (BR.mk 0 0 0 n 0).f, .int .i64 (BR.mk 0 0 0 n 0).u, .float .f64 (BR.mk 0 0 0 n 0).s, .int .i64 (BR.mk 0 0 0 n 0).c] 26))
      have HB2 := Lib.hid ((HB1.out.trans (hb2.mono HB1.out.size)).alloc (HB1.out.trans (hb2.mono HB1.out.size)).size (.cells #[.int .i64 (BR.mk 0 0 0 n 0).t, .int .i64 (BR.mk 0 0 0 n 0).f, .int .i64 (BR.mk 0 0 0 n 0).u, .float .f64 (BR.mk 0 0 0 n 0).s, .int .i64 (BR.mk 0 0 0 n 0).c] 26))
      have HX2 := Lib.hid (BAt.new w2 ⟨0, 0, 0, n, 0⟩)
      have hCn : wo.heap.size + 1 ≠ w2.heap.size := by
        have := (HC1.out.later hb2).lt
        omega
      have hSn : w.heap.size ≠ w2.heap.size := by
        have := (HS1.out.later hb2).lt
        omega
      have hBs : w.heap.size ≤ w2.heap.size := (HB1.out.trans (hb2.mono HB1.out.size)).size
      clear hb2 HS1 HB1 HC1
      go_wp2_with fail
      generalize wo.heap.size + 1 = C at *
      generalize w2.heap.size = B at *
      go_loopw [6] (fun iv wi => ∃ i : Nat, iv = .int .i64 i ∧ i ≤ 20 ∧ BAt wi B (floB n 0 i) ∧ CfAt wi C 5 9 4591870180066957722 ∧ SAt wi w.heap.size b sc (.slice A0 l.length cp) ∧ Below w.heap.size w wi) (fun iv _ => 21 - (intOf iv).toNat)
      case atStart => exact ⟨0, rfl, by omega, HX2.out, HC2.out, HS2.out, HB2.out⟩
      case round =>
        clear HX2 HC2 HS2 HB2
        obtain ⟨i, rfl, hi20, hX, hC, hS, hb⟩ := hrel
        have HX3 := Lib.hid hX
        have HC3 := Lib.hid hC
        have HS3 := Lib.hid hS
        have HB3 := Lib.hid hb
        clear hX hC hS hb
        have HT := Lib.hid (flo_low HN.out hi20)
        have HE1 := Lib.hid (fun W => HEN.out (floB n 0 i) (i % 2 == 0) (i : Int) 4591870180066957722 W (flo_ok HN.out (by omega) hi20).2)
        have HE := Lib.hid (flo_end (k := 0) HN.out (by omega) hi20)
        rw [show floF 0 = 4591870180066957722 from rfl] at HE
        rw [HE.out] at HE1
        generalize floB n 0 i = c at *
        obtain ⟨d, hd⟩ : ∃ d, floB n 0 (i + 1) = d := ⟨_, rfl⟩
        rw [hd] at HE1
        have HD := Lib.hid hd
        clear hd HE
        obtain ⟨q, hq⟩ : ∃ q, (i % 2 == 0) = q := ⟨_, rfl⟩
        rw [hq] at HE1
        have hp1 : ((i : Int) % 2 == 0) = q := by
          rw [← hq]
          by_cases h : i % 2 = 0
          · rw [beq_iff_eq.2 h]
            exact beq_iff_eq.2 (by omega)
          · rw [beq_eq_false_iff_ne.2 h]
            exact beq_eq_false_iff_ne.2 (by omega)
        have hp2 : ((i : Int).tmod 2 == 0) = q := by rw [Int.tmod_eq_emod_of_nonneg (by omega)]; exact hp1
        clear hq
        unfold bV cV at HE1
        have m0 := HX3.out.c0
        have m1 := HX3.out.c1
        have m2 := HX3.out.c2
        have m3 := HX3.out.c3
        have m4 := HX3.out.c4
        have k0 := HC3.out.c0
        have k1 := HC3.out.c1
        have k2 := HC3.out.c2
        have k3 := HC3.out.c3
        have k4 := HC3.out.c4
        have k5 := HC3.out.c5
        have k6 := HC3.out.c6
        have k7 := HC3.out.c7
        by_cases hin : i < 20 ∧ c.t = 0
        · have hi20i : (i : Int) < 20 := by omega
          have hct : (c.t == 0) = true := beq_iff_eq.2 hin.2
          have hilt := hin.1
          clear HT hin
          go_wp2_with fail
          refine Calls.mono (HE1.out _) ?_
          rintro e w4 ⟨rfl, hb4⟩
          have HX4 := Lib.hid ((HX3.out.later hb4).alloc (.cells #[.int .i64 d.t, .int .i64 d.f, .int .i64 d.u, .float .f64 d.s, .int .i64 d.c] 26))
          have HC4 := Lib.hid ((HC3.out.later hb4).alloc (.cells #[.int .i64 d.t, .int .i64 d.f, .int .i64 d.u, .float .f64 d.s, .int .i64 d.c] 26))
          have HS4 := Lib.hid ((HS3.out.later hb4).alloc (.cells #[.int .i64 d.t, .int .i64 d.f, .int .i64 d.u, .float .f64 d.s, .int .i64 d.c] 26))
          have HB4 := Lib.hid ((HB3.out.trans (hb4.mono HB3.out.size)).alloc (HB3.out.trans (hb4.mono HB3.out.size)).size (.cells #[.int .i64 d.t, .int .i64 d.f, .int .i64 d.u, .float .f64 d.s, .int .i64 d.c] 26))
          have HY4 := Lib.hid (BAt.new w4 d)
          clear hb4 HX3 HC3 HS3 HB3 m0 m1 m2 m3 m4 k0 k1 k2 k3 k4 k5 k6 k7 hp1 hp2
          go_wp2_with fail
          generalize w4.alloc (.cells #[.int .i64 d.t, .int .i64 d.f, .int .i64 d.u, .float .f64 d.s, .int .i64 d.c] 26) = w5 at *
          generalize w4.heap.size = Y at *
          have n0 := HX4.out.c0
          have n1 := HX4.out.c1
          have n2 := HX4.out.c2
          have n3 := HX4.out.c3
          have n4 := HX4.out.c4
          have nz0 := HX4.out.fz 0
          have nz1 := HX4.out.fz 1
          have nz2 := HX4.out.fz 2
          have nz3 := HX4.out.fz 3
          have nz4 := HX4.out.fz 4
          have nlt := HX4.out.lt
          have y0 := HY4.out.c0
          have y1 := HY4.out.c1
          have y2 := HY4.out.c2
          have y3 := HY4.out.c3
          have y4 := HY4.out.c4
          refine Calls.mono (HN0.out _) ?_
          rintro e w' ⟨rfl, he⟩
          have he := he.symm
          subst he
          go_wp2_with fail
          exact ⟨⟨i + 1, by go_num, by omega, by rw [HD.out]; exact HX4.out.set5 d.t d.f d.u d.s d.c, HC4.out.other5 (by omega) _ _ _ _ _, HS4.out.other5 (by omega) _ _ _ _ _, below_set5 HB4.out (by omega) _ _ _ _ _⟩, by simp [intOf]; omega⟩
        · have hi20e : i = 20 := by
            rcases Classical.em (i = 20) with h | h
            · exact h
            · exact absurd ⟨by omega, HT.out⟩ hin
          have hnd : decide ((i : Int) < 20) = false := decide_eq_false (by omega)
          have hnn : ¬ (i : Int) < 20 := by omega
          have hc1 : (c.t == 1) = false := by rw [HT.out]; rfl
          clear hin hi20e HT
          go_wp2_with fail
          exact ⟨⟨1, by go_num, by omega, HS3.out, HB3.out⟩, by simp [intOf]⟩
    · subst h
      rw [show ((1 : Nat) : Int) = 1 from rfl]
      have HS1 := Lib.hid ((HS0.out.alloc (.cells #[.float .f64 4591870180066957722, .float .f64 4606281698874543309] 22)).alloc (.cells #[.slice none 0 0, .string ByteArray.empty, .int .i64 0, .int .i64 0, .slice none 0 0, .int .i64 5, .int .i64 9, .float .f64 4606281698874543309] 50))
      have HB1 := Lib.hid ((HB0.out.alloc HB0.out.size (.cells #[.float .f64 4591870180066957722, .float .f64 4606281698874543309] 22)).alloc (HB0.out.alloc HB0.out.size (.cells #[.float .f64 4591870180066957722, .float .f64 4606281698874543309] 22)).size (.cells #[.slice none 0 0, .string ByteArray.empty, .int .i64 0, .int .i64 0, .slice none 0 0, .int .i64 5, .int .i64 9, .float .f64 4606281698874543309] 50))
      have HC1 := Lib.hid (CfAt.new1 wo (.cells #[.float .f64 4591870180066957722, .float .f64 4606281698874543309] 22) 5 9 4606281698874543309)
      clear HS0 HB0
      go_wp2_with fail
      refine Calls.mono (HNW.out _) ?_
      rintro e w2 ⟨rfl, hb2⟩
      have HS2 := Lib.hid ((HS1.out.later hb2).alloc (.cells #[.int .i64 (BR.mk 0 0 0 n 0).t, .int .i64 (BR.mk 0 0 0 n 0).f, .int .i64 (BR.mk 0 0 0 n 0).u, .float .f64 (BR.mk 0 0 0 n 0).s, .int .i64 (BR.mk 0 0 0 n 0).c] 26))
      have HC2 := Lib.hid ((HC1.out.later hb2).alloc (.cells #[.int .i64 (BR.mk 0 0 0 n 0).t, .int .i64 (BR.mk 0 0 0 n 0).f, .int .i64 (BR.mk 0 0 0 n 0).u, .float .f64 (BR.mk 0 0 0 n 0).s, .int .i64 (BR.mk 0 0 0 n 0).c] 26))
      have HB2 := Lib.hid ((HB1.out.trans (hb2.mono HB1.out.size)).alloc (HB1.out.trans (hb2.mono HB1.out.size)).size (.cells #[.int .i64 (BR.mk 0 0 0 n 0).t, .int .i64 (BR.mk 0 0 0 n 0).f, .int .i64 (BR.mk 0 0 0 n 0).u, .float .f64 (BR.mk 0 0 0 n 0).s, .int .i64 (BR.mk 0 0 0 n 0).c] 26))
      have HX2 := Lib.hid (BAt.new w2 ⟨0, 0, 0, n, 0⟩)
      have hCn : wo.heap.size + 1 ≠ w2.heap.size := by
        have := (HC1.out.later hb2).lt
        omega
      have hSn : w.heap.size ≠ w2.heap.size := by
        have := (HS1.out.later hb2).lt
        omega
      have hBs : w.heap.size ≤ w2.heap.size := (HB1.out.trans (hb2.mono HB1.out.size)).size
      clear hb2 HS1 HB1 HC1
      go_wp2_with fail
      generalize wo.heap.size + 1 = C at *
      generalize w2.heap.size = B at *
      go_loopw [6] (fun iv wi => ∃ i : Nat, iv = .int .i64 i ∧ i ≤ 20 ∧ BAt wi B (floB n 1 i) ∧ CfAt wi C 5 9 4606281698874543309 ∧ SAt wi w.heap.size b sc (.slice A0 l.length cp) ∧ Below w.heap.size w wi) (fun iv _ => 21 - (intOf iv).toNat)
      case atStart => exact ⟨0, rfl, by omega, HX2.out, HC2.out, HS2.out, HB2.out⟩
      case round =>
        clear HX2 HC2 HS2 HB2
        obtain ⟨i, rfl, hi20, hX, hC, hS, hb⟩ := hrel
        have HX3 := Lib.hid hX
        have HC3 := Lib.hid hC
        have HS3 := Lib.hid hS
        have HB3 := Lib.hid hb
        clear hX hC hS hb
        have HT := Lib.hid (flo_high HN.out hi20)
        have HE1 := Lib.hid (fun W => HEN.out (floB n 1 i) (i % 2 == 0) (i : Int) 4606281698874543309 W (flo_ok HN.out (by omega) hi20).2)
        have HE := Lib.hid (flo_end (k := 1) HN.out (by omega) hi20)
        rw [show floF 1 = 4606281698874543309 from rfl] at HE
        rw [HE.out] at HE1
        generalize floB n 1 i = c at *
        obtain ⟨d, hd⟩ : ∃ d, floB n 1 (i + 1) = d := ⟨_, rfl⟩
        rw [hd] at HE1
        have HD := Lib.hid hd
        clear hd HE
        obtain ⟨q, hq⟩ : ∃ q, (i % 2 == 0) = q := ⟨_, rfl⟩
        rw [hq] at HE1
        have hp1 : ((i : Int) % 2 == 0) = q := by
          rw [← hq]
          by_cases h : i % 2 = 0
          · rw [beq_iff_eq.2 h]
            exact beq_iff_eq.2 (by omega)
          · rw [beq_eq_false_iff_ne.2 h]
            exact beq_eq_false_iff_ne.2 (by omega)
        have hp2 : ((i : Int).tmod 2 == 0) = q := by rw [Int.tmod_eq_emod_of_nonneg (by omega)]; exact hp1
        clear hq
        unfold bV cV at HE1
        have m0 := HX3.out.c0
        have m1 := HX3.out.c1
        have m2 := HX3.out.c2
        have m3 := HX3.out.c3
        have m4 := HX3.out.c4
        have k0 := HC3.out.c0
        have k1 := HC3.out.c1
        have k2 := HC3.out.c2
        have k3 := HC3.out.c3
        have k4 := HC3.out.c4
        have k5 := HC3.out.c5
        have k6 := HC3.out.c6
        have k7 := HC3.out.c7
        by_cases hin : i < 20 ∧ c.t = 0
        · have hi20i : (i : Int) < 20 := by omega
          have hct : (c.t == 0) = true := beq_iff_eq.2 hin.2
          have hilt := hin.1
          clear HT hin
          go_wp2_with fail
          refine Calls.mono (HE1.out _) ?_
          rintro e w4 ⟨rfl, hb4⟩
          have HX4 := Lib.hid ((HX3.out.later hb4).alloc (.cells #[.int .i64 d.t, .int .i64 d.f, .int .i64 d.u, .float .f64 d.s, .int .i64 d.c] 26))
          have HC4 := Lib.hid ((HC3.out.later hb4).alloc (.cells #[.int .i64 d.t, .int .i64 d.f, .int .i64 d.u, .float .f64 d.s, .int .i64 d.c] 26))
          have HS4 := Lib.hid ((HS3.out.later hb4).alloc (.cells #[.int .i64 d.t, .int .i64 d.f, .int .i64 d.u, .float .f64 d.s, .int .i64 d.c] 26))
          have HB4 := Lib.hid ((HB3.out.trans (hb4.mono HB3.out.size)).alloc (HB3.out.trans (hb4.mono HB3.out.size)).size (.cells #[.int .i64 d.t, .int .i64 d.f, .int .i64 d.u, .float .f64 d.s, .int .i64 d.c] 26))
          have HY4 := Lib.hid (BAt.new w4 d)
          clear hb4 HX3 HC3 HS3 HB3 m0 m1 m2 m3 m4 k0 k1 k2 k3 k4 k5 k6 k7 hp1 hp2
          go_wp2_with fail
          generalize w4.alloc (.cells #[.int .i64 d.t, .int .i64 d.f, .int .i64 d.u, .float .f64 d.s, .int .i64 d.c] 26) = w5 at *
          generalize w4.heap.size = Y at *
          have n0 := HX4.out.c0
          have n1 := HX4.out.c1
          have n2 := HX4.out.c2
          have n3 := HX4.out.c3
          have n4 := HX4.out.c4
          have nz0 := HX4.out.fz 0
          have nz1 := HX4.out.fz 1
          have nz2 := HX4.out.fz 2
          have nz3 := HX4.out.fz 3
          have nz4 := HX4.out.fz 4
          have nlt := HX4.out.lt
          have y0 := HY4.out.c0
          have y1 := HY4.out.c1
          have y2 := HY4.out.c2
          have y3 := HY4.out.c3
          have y4 := HY4.out.c4
          refine Calls.mono (HN0.out _) ?_
          rintro e w' ⟨rfl, he⟩
          have he := he.symm
          subst he
          go_wp2_with fail
          exact ⟨⟨i + 1, by go_num, by omega, by rw [HD.out]; exact HX4.out.set5 d.t d.f d.u d.s d.c, HC4.out.other5 (by omega) _ _ _ _ _, HS4.out.other5 (by omega) _ _ _ _ _, below_set5 HB4.out (by omega) _ _ _ _ _⟩, by simp [intOf]; omega⟩
        · have hc1 : (c.t == 1) = true := by
            rcases HT.out with h | h
            · exact absurd ⟨h.2, h.1⟩ hin
            · rw [h]; rfl
          have hc0 : (c.t == 0) = false := by rw [beq_iff_eq.1 hc1]; rfl
          by_cases hlt : i < 20
          · have hi20i : (i : Int) < 20 := by omega
            clear hin HT
            go_wp2_with fail
            exact ⟨⟨2, by go_num, by omega, HS3.out, HB3.out⟩, by simp [intOf]⟩
          · have hnd : decide ((i : Int) < 20) = false := decide_eq_false (by omega)
            have hnn : ¬ (i : Int) < 20 := by omega
            clear hin HT
            go_wp2_with fail
            exact ⟨⟨2, by go_num, by omega, HS3.out, HB3.out⟩, by simp [intOf]⟩
    · subst h
      rw [show ((2 : Nat) : Int) = 2 from rfl]
      have s2 := HS0.out.c6
      go_wp2_with fail
      refine Calls.mono (HW.out _) ?_
      rintro e w4 ⟨rfl, hb4⟩
      have HB4 := Lib.hid (HB0.out.trans (hb4.mono HB0.out.size))
      clear hb4
      go_wp2_with fail
      go_ret
      exact ⟨rfl, HB4.out⟩
end Go.Proofs.Ytlkikecnlafmeaa
