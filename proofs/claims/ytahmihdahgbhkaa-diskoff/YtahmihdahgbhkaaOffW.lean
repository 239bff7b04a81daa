/-
  DiskOff: the law's walk.
  Conditions: as each theorem states them.
-/
import Derived.Test.YtahmihdahgbhkaaDX
namespace Go.Proofs.Ytahmihdahgbhkaa
open Go.RowKit

def offA (n : Int) : Dk := ⟨(newDk []).f, setP n (newDk []).p⟩
def offB (n : Int) : Dk := (wrD (offA n) 0 0 [97, 98, 99]).1
def offC (n : Int) : Dk := (cutD (offB n) 0 2).1
def offE (n : Int) : Dk := (syD (offC n) 0).1
def offG (n : Int) : Dk := (wrD (offE n) 0 0 [113]).1
set_option maxHeartbeats 8000000 in
set_option maxRecDepth 100000 in
theorem off_any (A0 A1 : Option Addr) (n0 k0 n1 k1 : Nat) (w : World) (hn1 : n1 < 9223372036854775808) :
    Calls Try.prog 6 #[.agg #[.slice A0 n0 k0, .slice A1 n1 k1]] w fun e w' => e = .returned (.bool true) ∧ Below w.heap.size w w' := by
  have HN := Lib.hid (fun n W => num_any n W)
  have HWK := Lib.hid (fun W => wakes_any W)
  have hn1i : (0 : Int) ≤ (n1 : Int) := by omega
  obtain ⟨W0, hW0⟩ : ∃ W0, w.alloc (.cells #[.slice A0 n0 k0, .slice A1 n1 k1] 25) = W0 := ⟨_, rfl⟩
  have HX := Lib.hid (show Blk W0 w.heap.size #[.slice A0 n0 k0, .slice A1 n1 k1] 25 by rw [← hW0]; exact Blk.new w _ _)
  have HB0 := Lib.hid (show Below w.heap.size w W0 by rw [← hW0]; exact (Below.refl _ w).alloc (Nat.le_refl _) _)
  go_enter Try.func6, Try.ntmps6
  go_wp2_with fail
  clear hW0
  go_loopw [3] (fun iv wr => ∃ i : Nat, iv = .int .i64 i ∧ i ≤ 6 ∧ Below w.heap.size w wr ∧ Blk wr w.heap.size #[.slice A0 n0 k0, .slice A1 n1 k1] 25) (fun iv _ => 6 - (intOf iv).toNat)
  case atStart => exact ⟨0, rfl, Nat.zero_le _, HB0.out, HX.out⟩
  case round =>
    obtain ⟨i, rfl, hil, hb, hx⟩ := hrel
    have HB := Lib.hid hb
    have HXr := Lib.hid hx
    have hsr := hb.size
    have hsx := hx.lt
    clear hx
    by_cases hlt : i ≤ 5
    · clear hb
      have hcase : i = 0 ∨ i = 1 ∨ i = 2 ∨ i = 3 ∨ i = 4 ∨ i = 5 := by omega
      have HNEW := Lib.hid (New_ok wr [] (.slice none 0 0) (RC.nil wr) rfl)
      obtain ⟨r0, hr0⟩ : ∃ r, (sizeD (offA i) 0).2 = r := ⟨_, rfl⟩
      obtain ⟨s0, hs0⟩ : ∃ r, (sizeD (offA i) 0).1 = r := ⟨_, rfl⟩
      obtain ⟨r1, hr1⟩ : ∃ r, (wrD (offA i) 0 0 [97, 98, 99]).2 = r := ⟨_, rfl⟩
      obtain ⟨r2, hr2⟩ : ∃ r, (cutD (offB i) 0 2).2 = r := ⟨_, rfl⟩
      obtain ⟨r3, hr3⟩ : ∃ r, (readD (offC i) 0 0 0).2 = r := ⟨_, rfl⟩
      obtain ⟨r4, hr4⟩ : ∃ r, (syD (offC i) 0).2 = r := ⟨_, rfl⟩
      obtain ⟨r5, hr5⟩ : ∃ r, (wrD (offE i) 0 0 [113]).2 = r := ⟨_, rfl⟩
      obtain ⟨x0, x1, x2, hcr⟩ : ∃ x0 x1 x2, crashD (offG i) [] = [x0, x1, x2] := ⟨_, _, _, rfl⟩
      have hmA : MxD (offA i) 0 := MxD.new []
      have hmB : MxD (offB i) 1 := hmA.wr 0 0 _
      have hmC : MxD (offC i) 2 := hmB.cut 0 2
      have hmE : MxD (offE i) 3 := hmC.sy 0
      have hmG : MxD (offG i) 4 := hmE.wr 0 0 _
      have hin : (i : Int) < 9223372036854775808 := by omega
      have hle : (i : Int) ≤ 5 := by omega
      have HTAB := Lib.hid (show (r0 = 10 ↔ i < 1) ∧ (r1 = 10 ↔ i ≤ 1) ∧ (r2 = 10 ↔ i ≤ 2) ∧ (r3 = 10 ↔ i ≤ 2) ∧ (r4 = 10 ↔ i ≤ 3) ∧ (r5 = 10 ↔ i ≤ 4) ∧ ((3 < i → x0 = [97, 98]) ∧ (i ≤ 3 → x0 = [])) by
        have e0 : x0 = (crashD (offG i) []).headD [] := by rw [hcr]; rfl
        subst hr0 hr1 hr2 hr3 hr4 hr5 e0
        clear hcr hs0 hin hle hmA hmB hmC hmE hmG HNEW
        rcases hcase with rfl | rfl | rfl | rfl | rfl | rfl <;> decide)
      go_wp2_with fail
      refine Calls.mono HNEW.out ?_
      rintro e w1 ⟨p, rfl, hp, hb1, hk1⟩
      have HB1 := Lib.hid (HB.out.trans (hb1.mono hsr))
      have HX1 := Lib.hid (HXr.out.later hb1)
      have HO := Lib.hid (nOff w1 wr.heap.size p (newDk []) hk1 hb1.size i hin)
      rw [show (⟨(newDk []).f, setP (i : Int) (newDk []).p⟩ : Dk) = offA i from rfl] at HO
      have hp1 := hk1.lt
      have hs1 := hb1.size
      clear hb1 hk1
      go_wp2_with fail
      refine Calls.mono (HN.out _ _) ?_
      rintro e w' ⟨rfl, he⟩
      have he := he.symm
      subst he
      go_wp2_with fail
      refine Calls.mono HO.out ?_
      rintro e w2 ⟨rfl, hk2, hb2⟩
      have HB2 := Lib.hid (HB1.out.trans (hb2.mono hsr))
      have HX2 := Lib.hid (HX1.out.heap (hb2.block _ (by omega)))
      have HS := Lib.hid (nSize w2 wr.heap.size p (offA i) hk2 0)
      rw [hr0, hs0] at HS
      have hp2 := hk2.lt
      have hs2 := hb2.size
      clear hb2 hk2 HO
      go_wp2_with fail
      refine Calls.mono HS.out ?_
      rintro e w3 ⟨rfl, hk3, hb3⟩
      have HB3 := Lib.hid (HB2.out.trans (hb3.mono (by omega)))
      have HX3 := Lib.hid (HX2.out.later hb3)
      have hp3 := hk3.lt
      have hs3 := hb3.size
      obtain ⟨v3, hcb, hbv, hrv, hov, _⟩ := lit_b w3 [97, 98, 99] #[.int .u8 97, .int .u8 98, .int .u8 99] 3 rfl rfl (by omega)
      have HW := Lib.hid (nWrite w3 v3 wr.heap.size p 0 (offA i) hk3 hbv (by omega) 0 0 [97, 98, 99] _ hrv (fun j hj => .inr (Nat.le_of_eq (hov j hj))) hmA (by decide))
      rw [hr1, show (wrD (offA i) 0 0 [97, 98, 99]).1 = offB i from rfl] at HW
      have HBV := Lib.hid (HB3.out.trans (hbv.mono (by omega)))
      have HXV := Lib.hid (HX3.out.later hbv)
      have hsv := hbv.size
      have hpv : p < v3.heap.size := by omega
      clear hb3 hk3 HS hbv hrv
      go_wp2_with fail
      refine Calls.mono HW.out ?_
      rintro e w4 ⟨rfl, hk4, hb4⟩
      have HB4 := Lib.hid (HBV.out.trans (hb4.mono hsr))
      have HX4 := Lib.hid (HXV.out.heap (hb4.block _ (by omega)))
      have HCU := Lib.hid (nCut w4 wr.heap.size p 1 (offB i) hk4 (by have := hb4.size; omega) 0 2 hmB (by decide))
      rw [hr2, show (cutD (offB i) 0 2).1 = offC i from rfl] at HCU
      have hp4 := hk4.lt
      have hs4 := hb4.size
      clear hb4 hk4 HW hcb
      go_wp2_with fail
      refine Calls.mono HCU.out ?_
      rintro e w5 ⟨rfl, hk5, hb5⟩
      have HB5 := Lib.hid (HB4.out.trans (hb5.mono hsr))
      have HX5 := Lib.hid (HX4.out.heap (hb5.block _ (by omega)))
      have HRD := Lib.hid (nRead w5 wr.heap.size p (offC i) hk5 0 0 0)
      rw [hr3] at HRD
      have hp5 := hk5.lt
      have hs5 := hb5.size
      clear hb5 hk5 HCU
      go_wp2_with fail
      refine Calls.mono HRD.out ?_
      rintro e w6 ⟨u6, rfl, hu6, hk6, hb6⟩
      have HB6 := Lib.hid (HB5.out.trans (hb6.mono (by omega)))
      have HX6 := Lib.hid (HX5.out.later hb6)
      have HSY := Lib.hid (nSync w6 wr.heap.size p (offC i) hk6 (by have := hb6.size; omega) 0)
      rw [hr4, show (syD (offC i) 0).1 = offE i from rfl] at HSY
      obtain ⟨uA6, uc6, rfl, _, _⟩ := hu6.slice
      have hp6 := hk6.lt
      have hs6 := hb6.size
      clear hb6 hk6 hu6 HRD
      go_wp2_with fail
      refine Calls.mono HSY.out ?_
      rintro e w7 ⟨rfl, hk7, hb7⟩
      have HB7 := Lib.hid (HB6.out.trans (hb7.mono hsr))
      have HX7 := Lib.hid (HX6.out.heap (hb7.block _ (by omega)))
      have hp7 := hk7.lt
      have hs7 := hb7.size
      obtain ⟨v7, hcb, hbv, hrv, hov, _⟩ := lit_b w7 [113] #[.int .u8 113] 1 rfl rfl (by omega)
      have HW := Lib.hid (nWrite w7 v7 wr.heap.size p 3 (offE i) hk7 hbv (by omega) 0 0 [113] _ hrv (fun j hj => .inr (Nat.le_of_eq (hov j hj))) hmE (by decide))
      rw [hr5, show (wrD (offE i) 0 0 [113]).1 = offG i from rfl] at HW
      have HBV := Lib.hid (HB7.out.trans (hbv.mono (by omega)))
      have HXV := Lib.hid (HX7.out.later hbv)
      have hsv7 := hbv.size
      have hpv7 : p < v7.heap.size := by omega
      clear hb7 hk7 HSY hbv hrv
      go_wp2_with fail
      refine Calls.mono HW.out ?_
      rintro e w8 ⟨rfl, hk8, hb8⟩
      have HB8 := Lib.hid (HBV.out.trans (hb8.mono hsr))
      have HX8 := Lib.hid (HXV.out.heap (hb8.block _ (by omega)))
      have HK8 := Lib.hid hk8
      have hp8 := hk8.lt
      have hs8 := hb8.size
      clear hb8 hk8 HW hcb
      go_wp2_with fail
      refine Calls.mono (HN.out _ _) ?_
      rintro e w' ⟨rfl, he⟩
      have he := he.symm
      subst he
      go_wp2_with fail
      refine Calls.mono (HN.out _ _) ?_
      rintro e w' ⟨rfl, he⟩
      have he := he.symm
      subst he
      go_wp2_with fail
      refine Calls.mono (HN.out _ _) ?_
      rintro e w' ⟨rfl, he⟩
      have he := he.symm
      subst he
      go_wp2_with fail
      refine Calls.mono (HN.out _ _) ?_
      rintro e w' ⟨rfl, he⟩
      have he := he.symm
      subst he
      go_wp2_with fail
      have HB9 := Lib.hid (HB8.out.trans ((Below.refl _ w8).alloc (Nat.le_refl _) (.cells #[.int .i64 r1, .int .i64 r2, .int .i64 r4, .int .i64 r5] 3) |>.mono (by omega)))
      have HX9 := Lib.hid (HX8.out.alloc (.cells #[.int .i64 r1, .int .i64 r2, .int .i64 r4, .int .i64 r5] 3))
      have HA9 := Lib.hid (Blk.new w8 #[.int .i64 r1, .int .i64 r2, .int .i64 r4, .int .i64 r5] 3)
      have HK9 := Lib.hid (HK8.out.later ((Below.refl _ w8).alloc (Nat.le_refl _) (.cells #[.int .i64 r1, .int .i64 r2, .int .i64 r4, .int .i64 r5] 3)))
      have hs9 : (w8.alloc (.cells #[.int .i64 r1, .int .i64 r2, .int .i64 r4, .int .i64 r5] 3)).heap.size = w8.heap.size + 1 := by simp
      generalize w8.alloc (.cells #[.int .i64 r1, .int .i64 r2, .int .i64 r4, .int .i64 r5] 3) = w9 at *
      have g0 := HA9.out.c 0 (u := .int .i64 r1) rfl
      have g1 := HA9.out.c 1 (u := .int .i64 r2) rfl
      have g2 := HA9.out.c 2 (u := .int .i64 r4) rfl
      have g3 := HA9.out.c 3 (u := .int .i64 r5) rfl
      clear HNEW hr0 hs0 hr1 hr2 hr3 hr4 hr5 hmA hmB hmC hmE
      have HCASE := Lib.hid hcase
      clear hcase
      go_loopw [15] (fun iv wz => ∃ j : Nat, iv = .int .i64 j ∧ j ≤ 4 ∧ wz = w9) (fun iv _ => 4 - (intOf iv).toNat)
      case atStart => exact ⟨0, rfl, Nat.zero_le _, rfl⟩
      case round =>
        obtain ⟨j, rfl, hjl, he⟩ := hrel
        have he := he.symm
        subst he
        obtain ⟨-, t1, t2, -, t4, t5, -⟩ := HTAB.out
        by_cases hj : j < 4
        · have hj4 : j = 0 ∨ j = 1 ∨ j = 2 ∨ j = 3 := by omega
          rcases hj4 with rfl | rfl | rfl | rfl
          · by_cases hc : i ≤ 1
            · have hr : (r1 == 10) = true := beq_iff_eq.2 (t1.2 hc)
              have hci : (i : Int) ≤ 1 := by omega
              clear t1 t2 t4 t5
              go_wp2_with fail
              exact ⟨⟨1, by go_num, by omega, by first | rfl | trivial⟩, by simp [intOf]⟩
            · have hr : (r1 == 10) = false := beq_false_of_ne (fun e => hc (t1.1 e))
              have hci : ¬ ((i : Int) ≤ 1) := by omega
              clear t1 t2 t4 t5
              go_wp2_with fail
              exact ⟨⟨1, by go_num, by omega, by first | rfl | trivial⟩, by simp [intOf]⟩
          · by_cases hc : i ≤ 2
            · have hr : (r2 == 10) = true := beq_iff_eq.2 (t2.2 hc)
              have hci : (i : Int) ≤ 2 := by omega
              clear t1 t2 t4 t5
              go_wp2_with fail
              exact ⟨⟨2, by go_num, by omega, by first | rfl | trivial⟩, by simp [intOf]⟩
            · have hr : (r2 == 10) = false := beq_false_of_ne (fun e => hc (t2.1 e))
              have hci : ¬ ((i : Int) ≤ 2) := by omega
              clear t1 t2 t4 t5
              go_wp2_with fail
              exact ⟨⟨2, by go_num, by omega, by first | rfl | trivial⟩, by simp [intOf]⟩
          · by_cases hc : i ≤ 3
            · have hr : (r4 == 10) = true := beq_iff_eq.2 (t4.2 hc)
              have hci : (i : Int) ≤ 3 := by omega
              clear t1 t2 t4 t5
              go_wp2_with fail
              exact ⟨⟨3, by go_num, by omega, by first | rfl | trivial⟩, by simp [intOf]⟩
            · have hr : (r4 == 10) = false := beq_false_of_ne (fun e => hc (t4.1 e))
              have hci : ¬ ((i : Int) ≤ 3) := by omega
              clear t1 t2 t4 t5
              go_wp2_with fail
              exact ⟨⟨3, by go_num, by omega, by first | rfl | trivial⟩, by simp [intOf]⟩
          · by_cases hc : i ≤ 4
            · have hr : (r5 == 10) = true := beq_iff_eq.2 (t5.2 hc)
              have hci : (i : Int) ≤ 4 := by omega
              clear t1 t2 t4 t5
              go_wp2_with fail
              exact ⟨⟨4, by go_num, by omega, by first | rfl | trivial⟩, by simp [intOf]⟩
            · have hr : (r5 == 10) = false := beq_false_of_ne (fun e => hc (t5.1 e))
              have hci : ¬ ((i : Int) ≤ 4) := by omega
              clear t1 t2 t4 t5
              go_wp2_with fail
              exact ⟨⟨4, by go_num, by omega, by first | rfl | trivial⟩, by simp [intOf]⟩
        · obtain rfl : j = 4 := by omega
          clear t1 t2 t4 t5 g0 g1 g2 g3
          obtain ⟨t0, -, -, t3, -, -, t6⟩ := HTAB.out
          have HCR := Lib.hid (nCrash w9 wr.heap.size p 4 (offG i) HK9.out (by omega) [] (.slice none 0 0) (IA.nil _) (fun j hj => by cases hj) hmG (by decide))
          rw [hcr] at HCR
          have hp9 := HK9.out.lt
          obtain ⟨b0, hb0⟩ : ∃ b, (r0 == 10) = b := ⟨_, rfl⟩
          obtain ⟨b3, hb3⟩ : ∃ b, (r3 == 10) = b := ⟨_, rfl⟩
          have h00 : decide ((i : Int) < 1) = b0 := by
            rw [← hb0]
            by_cases hc : i < 1
            · rw [beq_iff_eq.2 (t0.2 hc)]; exact decide_eq_true (by omega)
            · rw [beq_false_of_ne (fun e => hc (t0.1 e))]; exact decide_eq_false (by omega)
          have h33 : decide ((i : Int) ≤ 2) = b3 := by
            rw [← hb3]
            by_cases hc : i ≤ 2
            · rw [beq_iff_eq.2 (t3.2 hc)]; exact decide_eq_true (by omega)
            · rw [beq_false_of_ne (fun e => hc (t3.1 e))]; exact decide_eq_false (by omega)
          clear t0 t3 hcr
          go_wp2_with fail
          refine Calls.mono (HN.out _ _) ?_
          rintro e w' ⟨rfl, he⟩
          have he := he.symm
          subst he
          go_wp2_with fail
          refine Calls.mono (HN.out _ _) ?_
          rintro e w' ⟨rfl, he⟩
          have he := he.symm
          subst he
          go_wp2_with fail
          refine Calls.mono HCR.out ?_
          rintro e w10 ⟨u, rfl, ⟨us, hoc⟩, -, hb10⟩
          have HB10 := Lib.hid (HB9.out.trans (hb10.mono hsr))
          have HX10 := Lib.hid (HX9.out.heap (hb10.block _ (by omega)))
          have hrc := hoc.rc
          obtain ⟨uA, uc, rfl⟩ := hoc.slice
          obtain ⟨b, o, y0, rfl, hbl, hcell, hrb⟩ := hrc.at (i := 0) (by simp)
          have hst := to_str w10 y0 x0 hrb
          simp only [Nat.add_zero] at hcell
          clear hoc hrc hb10 HCR
          by_cases hc : 3 < i
          · obtain rfl : x0 = [97, 98] := t6.1 hc
            have hci : (3 : Int) < (i : Int) := by omega
            clear t6
            go_wp2_with fail
            exact ⟨⟨i + 1, by go_num, by omega, HB10.out, HX10.out⟩, by simp [intOf]; omega⟩
          · obtain rfl : x0 = [] := t6.2 (by omega)
            have hci : ¬ ((3 : Int) < (i : Int)) := by omega
            have hcd : decide ((3 : Int) < (i : Int)) = false := decide_eq_false hci
            clear t6 h00 h33 hci
            go_wp2_with fail
            exact ⟨⟨i + 1, by go_num, by omega, HB10.out, HX10.out⟩, by simp [intOf]; omega⟩
    · obtain rfl : i = 6 := by omega
      have c1 := HXr.out.c 1 (u := .slice A1 n1 k1) rfl
      clear hb
      go_wp2_with fail
      refine Calls.mono (HWK.out _) ?_
      rintro e w9 ⟨rfl, hb9⟩
      have HB9 := Lib.hid (HB.out.trans (hb9.mono hsr))
      clear hb9
      go_wp2_with fail
      go_ret
      exact ⟨rfl, HB9.out⟩
end Go.Proofs.Ytahmihdahgbhkaa
