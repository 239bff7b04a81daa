/-
  BucketWaits: the statement's own walk.
  Conditions: as the theorem states them: the argument lies in memory.
-/
import Derived.Test.YtcnkejndblcbhaaKJ
import Derived.Deep.CutRange
import Derived.Deep.DeepCutAuto
import Derived.WalkSmall
namespace Go.Proofs.Ytcnkejndblcbhaa
open Go.RowKit

set_option maxHeartbeats 4000000 in
set_option maxRecDepth 100000 in
theorem waits_any (b : BI) (v : Value) (l : List F4) (w : World) (h : FsAt w v l) :
    Calls Try.prog 5 #[.agg #[.int .i64 b.l, .int .i64 b.c, .int .i64 b.f, .int .i64 b.e, .int .i64 b.d, v]] w fun e w' => e = .returned (.bool true) ∧ Below w.heap.size w w' := by
  have HU := Lib.hid h
  obtain ⟨A0, cp, rfl, hlen0, _, _⟩ := h
  have hll : l.length < 9223372036854775808 := by unfold maxLen at hlen0; omega
  clear hlen0
  obtain ⟨W, hW⟩ : ∃ W, w.alloc (.cells #[.int .i64 b.l, .int .i64 b.c, .int .i64 b.f, .int .i64 b.e, .int .i64 b.d, .slice A0 l.length cp] 26) = W := ⟨_, rfl⟩
  have HS := Lib.hid (show SAt W w.heap.size b (.slice A0 l.length cp) by rw [← hW]; exact SAt.new w b _)
  have HA := Lib.hid (show Below w.heap.size w W by rw [← hW]; exact (Below.refl _ w).alloc (Nat.le_refl _) _)
  have HQ := Lib.hid (fun X => rBucket_any b X)
  have H0 := Lib.hid (fun X => num_any 0 X)
  have H9 := Lib.hid (fun X => num_any 9 X)
  unfold bV at HQ
  have p0 := HS.out.c0
  have p1 := HS.out.c1
  have p2 := HS.out.c2
  have p3 := HS.out.c3
  have p4 := HS.out.c4
  have p5 := HS.out.c5
  have plt := HS.out.lt
  cases hq : okB b with
  | false =>
    rw [hq] at HQ
    go_enter Try.func5, Try.ntmps5
    go_wp2_with fail
    refine Calls.mono (HQ.out _) ?_
    rintro e w1 ⟨rfl, hb1⟩
    have HB1 := Lib.hid (HA.out.trans (hb1.mono HA.out.size))
    clear hb1
    go_wp2_with fail
    go_ret
    exact ⟨rfl, HB1.out⟩
  | true =>
    rw [hq] at HQ
    have HOK := Lib.hid hq
    obtain ⟨⟨bc0, bc1⟩, _, ⟨bl0, bl1⟩, _, _⟩ := okB_iff.1 hq
    have HWI := Lib.hid (fun (i : Int) X => lWithin_any i 1048577 X (by decide) (by decide))
    have HWC := Lib.hid (fun (i : Int) X => lWithin_any i (b.c + 2) X (by omega) (by omega))
    have hcw : IntKind.i64.wrap (b.c + 2) = b.c + 2 := wrap_id (by omega) (by omega)
    clear hq
    go_enter Try.func5, Try.ntmps5
    go_wp2_with fail
    refine Calls.mono (HQ.out _) ?_
    rintro e w1 ⟨rfl, hb1⟩
    have HB1 := Lib.hid (HA.out.trans (hb1.mono HA.out.size))
    have HS1 := Lib.hid (HS.out.later hb1)
    clear hb1 HQ HS HA hW plt
    clear p0 p1 p2 p3 p4 p5
    go_wp2_with fail
    go_loopw [3] (fun iv wr => ∃ (i : Nat), iv = .int .i64 i ∧ i ≤ l.length ∧ i ≤ 20 ∧ SAt wr w.heap.size b (.slice A0 l.length cp) ∧ Below w.heap.size w wr) (fun iv _ => 21 - (intOf iv).toNat)
    case atStart => exact ⟨0, rfl, Nat.zero_le _, Nat.zero_le _, HS1.out, HB1.out⟩
    case round =>
      obtain ⟨i, rfl, hil, hi20, hS, hb⟩ := hrel
      have HB := Lib.hid hb
      have HS := Lib.hid hS
      clear hb hS HS1 HB1
      have p0 := HS.out.c0
      have p1 := HS.out.c1
      have p2 := HS.out.c2
      have p3 := HS.out.c3
      have p4 := HS.out.c4
      have p5 := HS.out.c5
      have plt := HS.out.lt
      by_cases hin : i < l.length ∧ i < 20
      · have hlti : (i : Int) < (l.length : Int) := by omega
        have h20i : (i : Int) < 20 := by omega
        obtain ⟨kb, o, x, hA, _, _, _, hc1, _, _⟩ := HU.out.cell hin.1 rfl HB.out
        subst hA
        obtain ⟨n0, n9⟩ := modI_in (i := x.b) (n := 1048577) (by decide)
        go_wp2_with fail
        refine Calls.mono (HWI.out _ _) ?_
        rintro e w' ⟨rfl, he⟩
        have he := he.symm
        subst he
        obtain ⟨N, hN, N9⟩ : ∃ N : Nat, modI x.b 1048577 = (N : Int) ∧ N ≤ 1048576 := ⟨(modI x.b 1048577).toNat, by omega, by omega⟩
        rw [hN]
        clear hN n0 n9
        obtain ⟨m, hm, hm3⟩ : ∃ m : Nat, (i : Int).tmod 3 = (m : Int) ∧ m < 3 := ⟨i % 3, by rw [Int.tmod_eq_emod_of_nonneg (by omega)]; omega, by omega⟩
        have hm2 : (i : Int) % 3 = (m : Int) := by rw [← hm, Int.tmod_eq_emod_of_nonneg (by omega)]
        obtain ⟨q, hq⟩ : ∃ q, decide (0 < m) = q := ⟨_, rfl⟩
        go_upto_if 39 with (fail)
        go_cut [4] (fun nv wc => ∃ n : Nat, nv = .int .i64 (n : Int) ∧ n ≤ 1048577 ∧ wr = wc)
        case first =>
          obtain ⟨n0, n9⟩ := modI_in (i := (N : Int)) (n := b.c + 2) (by omega)
          cases q with
          | true =>
            go_wp2_with fail
            refine Calls.mono (HWC.out _ _) ?_
            rintro e w' ⟨rfl, he⟩
            have he := he.symm
            subst he
            go_wp2_with fail
            go_meet
            case rel => exact ⟨(modI (N : Int) (b.c + 2)).toNat, by rw [Int.toNat_of_nonneg n0], by omega, rfl⟩
          | false =>
            go_wp2_with fail
            go_meet
            case rel => exact ⟨N, rfl, by omega, rfl⟩
        case rest =>
          clear hq hm hm2 hm3 N9
          obtain ⟨n, rfl, hn, hwc⟩ := hcut
          subst hwc
          by_cases hn6 : n ≤ 1048576
          · have hng : ¬ (1048576 : Int) < (n : Int) := by omega
            obtain ⟨hwr, hcase⟩ := waits_facts HOK.out hn6
            have HWT := Lib.hid (fun X => wait_any b (n : Int) X)
            rw [hwr] at HWT
            clear hwr
            simp only [outI] at HWT
            unfold bV at HWT
            rcases hcase with ⟨hw1, hlow⟩ | ⟨t, hwt, ht, hen, hbf⟩
            · rw [hw1] at HWT
              have HP := Lib.hid (fun X => pass_any b 1099511627776 X)
              rw [passR_ok HOK.out (by decide) (by decide)] at HP
              have HT := Lib.hid (fun X => take_any (passI b 1099511627776) (n : Int) X)
              rw [takeR_no (passI_ok HOK.out (by decide)) (by omega) (by omega) hlow] at HT
              generalize passI b 1099511627776 = a at *
              simp only [outB] at HP HT
              unfold bV at HP
              unfold bV zI at HT
              simp only [] at HT
              clear hw1 hlow
              go_wp2_with fail
              refine Calls.mono (HWT.out _) ?_
              rintro e w3 ⟨rfl, hb3⟩
              have HS3 := Lib.hid (HS.out.later hb3)
              have HB3 := Lib.hid (HB.out.trans (hb3.mono HB.out.size))
              clear hb3 HS HB HWT plt
              clear p0 p1 p2 p3 p4 p5
              have p0 := HS3.out.c0
              have p1 := HS3.out.c1
              have p2 := HS3.out.c2
              have p3 := HS3.out.c3
              have p4 := HS3.out.c4
              have p5 := HS3.out.c5
              have plt := HS3.out.lt
              go_wp2_with fail
              refine Calls.mono (H0.out _) ?_
              rintro e w' ⟨rfl, he⟩
              have he := he.symm
              subst he
              go_wp2_with fail
              refine Calls.mono (HP.out _) ?_
              rintro e w4 ⟨rfl, hb4⟩
              have HS4 := Lib.hid (HS3.out.later hb4)
              have HB4 := Lib.hid (HB3.out.trans (hb4.mono HB3.out.size))
              clear hb4 HS3 HB3 HP plt
              clear p0 p1 p2 p3 p4 p5
              go_wp2_with fail
              refine Calls.mono (HT.out _) ?_
              rintro e w5 ⟨rfl, hb5⟩
              have HS5 := Lib.hid ((HS4.out.alloc (.cells #[.int .i64 a.l, .int .i64 a.c, .int .i64 a.f, .int .i64 a.e, .int .i64 a.d] 23)).later hb5)
              have HBa := Lib.hid (HB4.out.alloc HB4.out.size (.cells #[.int .i64 a.l, .int .i64 a.c, .int .i64 a.f, .int .i64 a.e, .int .i64 a.d] 23))
              have HB5 := Lib.hid (HBa.out.trans (hb5.mono HBa.out.size))
              clear hb5 HS4 HB4 HT HBa
              go_wp2_with fail
              refine Calls.mono (H0.out _) ?_
              rintro e w' ⟨rfl, he⟩
              have he := he.symm
              subst he
              go_wp2_with fail
              refine Calls.mono (H9.out _) ?_
              rintro e w' ⟨rfl, he⟩
              have he := he.symm
              subst he
              go_wp2_with fail
              exact ⟨⟨i + 1, by go_num, by omega, by omega, HS5.out.alloc _, HB5.out.alloc HB5.out.size _⟩, by simp [intOf]; omega⟩
            · by_cases htp : 0 < t
              · have ht0 : (0 : Int) < (t : Int) := by omega
                have htw : IntKind.i64.wrap ((t : Int) - 1) = (t : Int) - 1 := wrap_id (by omega) (by omega)
                have hlow := hbf htp
                have HP2 := Lib.hid (fun X => pass_any b ((t : Int) - 1) X)
                rw [passR_ok HOK.out (by omega) (by omega)] at HP2
                have HT2 := Lib.hid (fun X => take_any (passI b ((t : Int) - 1)) (n : Int) X)
                rw [takeR_no (passI_ok HOK.out (by omega)) (by omega) (by omega) hlow] at HT2
                generalize passI b ((t : Int) - 1) = c at *
                simp only [outB] at HP2 HT2
                unfold bV at HP2
                unfold bV zI at HT2
                simp only [] at HT2
                clear hlow hbf
                rw [hwt] at HWT
                have HP := Lib.hid (fun X => pass_any b (t : Int) X)
                rw [passR_ok HOK.out (by omega) (by omega)] at HP
                have HAO := Lib.hid (passI_ok HOK.out (show 0 ≤ (t : Int) by omega))
                have HT := Lib.hid (fun X => take_any (passI b (t : Int)) (n : Int) X)
                rw [takeR_yes HAO.out (by omega) (by omega) hen] at HT
                obtain ⟨⟨_, ac1⟩, _, ⟨al0, al1⟩, _, _⟩ := okB_iff.1 HAO.out
                generalize passI b (t : Int) = a at *
                have hwl : IntKind.i64.wrap (a.l - (n : Int)) = a.l - (n : Int) := wrap_id (by omega) (by omega)
                simp only [outB, takeI] at HP HT
                unfold bV at HP HT
                simp only [] at HT
                have ht1 : ((t : Int) == -1) = false := beq_eq_false_iff_ne.2 (by omega)
                have ht2 : ¬ (t : Int) < -1 := by omega
                have ht3 : ¬ (1099511627776 : Int) < (t : Int) := by omega
                obtain ⟨z, hz⟩ : ∃ z : Int, a.l - (n : Int) = z := ⟨_, rfl⟩
                rw [hz] at HT
                have hwl2 : IntKind.i64.wrap (a.l - (n : Int)) = z := hwl.trans hz
                have z0 : 0 ≤ z := by omega
                have z1 : z ≤ 1048576 := by omega
                have hwz : wrap64 z = z := by unfold wrap64; omega
                clear hwl
                clear hwt hen ac1 al0 al1
                go_wp2_with fail
                refine Calls.mono (HWT.out _) ?_
                rintro e w3 ⟨rfl, hb3⟩
                have HS3 := Lib.hid (HS.out.later hb3)
                have HB3 := Lib.hid (HB.out.trans (hb3.mono HB.out.size))
                clear hb3 HS HB HWT plt
                clear p0 p1 p2 p3 p4 p5
                have p0 := HS3.out.c0
                have p1 := HS3.out.c1
                have p2 := HS3.out.c2
                have p3 := HS3.out.c3
                have p4 := HS3.out.c4
                have p5 := HS3.out.c5
                have plt := HS3.out.lt
                go_wp2_with fail
                refine Calls.mono (H0.out _) ?_
                rintro e w' ⟨rfl, he⟩
                have he := he.symm
                subst he
                go_wp2_with fail
                refine Calls.mono (HP.out _) ?_
                rintro e w4 ⟨rfl, hb4⟩
                have HS4 := Lib.hid (HS3.out.later hb4)
                have HB4 := Lib.hid (HB3.out.trans (hb4.mono HB3.out.size))
                have HX4 := Lib.hid (BAt.new w4 a)
                have hx4 : w.heap.size < w4.heap.size := HS4.out.lt
                clear hb4 HS3 HB3 HP plt
                clear p0 p1 p2 p3 p4 p5
                go_wp2_with fail
                refine Calls.mono (HT.out _) ?_
                rintro e w5 ⟨rfl, hb5⟩
                have HS5 := Lib.hid ((HS4.out.alloc (.cells #[.int .i64 a.l, .int .i64 a.c, .int .i64 a.f, .int .i64 a.e, .int .i64 a.d] 23)).later hb5)
                have HBa := Lib.hid (HB4.out.alloc HB4.out.size (.cells #[.int .i64 a.l, .int .i64 a.c, .int .i64 a.f, .int .i64 a.e, .int .i64 a.d] 23))
                have HB5 := Lib.hid (HBa.out.trans (hb5.mono HBa.out.size))
                have HX5 := Lib.hid (HX4.out.later hb5)
                clear hb5 HS4 HB4 HT HBa HX4
                generalize w4.heap.size = X at *
                have hX5 := HX5.out.lt
                have x0 := HX5.out.c0
                have x1 := HX5.out.c1
                have x2 := HX5.out.c2
                have x3 := HX5.out.c3
                have x4 := HX5.out.c4
                go_wp2_with fail
                refine Calls.mono (H0.out _) ?_
                rintro e w' ⟨rfl, he⟩
                have he := he.symm
                subst he
                go_wp2_with fail
                refine Calls.mono (H0.out _) ?_
                rintro e w' ⟨rfl, he⟩
                have he := he.symm
                subst he
                have p0 := HS5.out.c0
                have p1 := HS5.out.c1
                have p2 := HS5.out.c2
                have p3 := HS5.out.c3
                have p4 := HS5.out.c4
                have p5 := HS5.out.c5
                have plt := HS5.out.lt
                have HS6 := Lib.hid (HS5.out.alloc (.cells #[.int .i64 z, .int .i64 a.c, .int .i64 a.f, .int .i64 a.e, .int .i64 a.d] 23))
                have HB6 := Lib.hid (HB5.out.alloc HB5.out.size (.cells #[.int .i64 z, .int .i64 a.c, .int .i64 a.f, .int .i64 a.e, .int .i64 a.d] 23))
                have HX6 := Lib.hid (HX5.out.alloc (.cells #[.int .i64 z, .int .i64 a.c, .int .i64 a.f, .int .i64 a.e, .int .i64 a.d] 23))
                go_wp2_with fail
                refine Calls.mono (HP2.out _) ?_
                rintro e w7 ⟨rfl, hb7⟩
                have HS7 := Lib.hid (HS6.out.later hb7)
                have HB7 := Lib.hid (HB6.out.trans (hb7.mono HB6.out.size))
                have HX7 := Lib.hid (HX6.out.later hb7)
                clear x0 x1 x2 x3 x4
                clear p0 p1 p2 p3 p4 p5
                clear hb7 plt HS5 HS6 HB5 HB6 HX5 HX6 HP2 hX5
                have x0 := HX7.out.c0
                have xz0 := HX7.out.fz 0
                have x1 := HX7.out.c1
                have xz1 := HX7.out.fz 1
                have x2 := HX7.out.c2
                have xz2 := HX7.out.fz 2
                have x3 := HX7.out.c3
                have xz3 := HX7.out.fz 3
                have x4 := HX7.out.c4
                have xz4 := HX7.out.fz 4
                have xlt := HX7.out.lt
                have HS8 := Lib.hid (HS7.out.other5 (Nat.ne_of_lt hx4) c.l c.c c.f c.e c.d)
                have HB8 := Lib.hid (below_set5 (k := X) HB7.out (Nat.le_of_lt hx4) c.l c.c c.f c.e c.d)
                have HX8 := Lib.hid (HX7.out.set5 c.l c.c c.f c.e c.d)
                go_wp2_with fail
                refine Calls.mono (HT2.out _) ?_
                rintro e w9 ⟨rfl, hb9⟩
                have HS9 := Lib.hid (HS8.out.later hb9)
                have HB9 := Lib.hid (HB8.out.trans (hb9.mono HB8.out.size))
                clear hb9 HS8 HB8 HX8 HT2 HX7 HS7 HB7 xlt
                clear x0 xz0 x1 xz1 x2 xz2 x3 xz3 x4 xz4
                go_wp2_with fail
                refine Calls.mono (H0.out _) ?_
                rintro e w' ⟨rfl, he⟩
                have he := he.symm
                subst he
                go_wp2_with fail
                refine Calls.mono (H9.out _) ?_
                rintro e w' ⟨rfl, he⟩
                have he := he.symm
                subst he
                go_wp2_with fail
                exact ⟨⟨i + 1, by go_num, by omega, by omega, HS9.out, HB9.out⟩, by simp [intOf]; omega⟩
              · have ht0 : ¬ (0 : Int) < (t : Int) := by omega
                rw [hwt] at HWT
                have HP := Lib.hid (fun X => pass_any b (t : Int) X)
                rw [passR_ok HOK.out (by omega) (by omega)] at HP
                have HAO := Lib.hid (passI_ok HOK.out (show 0 ≤ (t : Int) by omega))
                have HT := Lib.hid (fun X => take_any (passI b (t : Int)) (n : Int) X)
                rw [takeR_yes HAO.out (by omega) (by omega) hen] at HT
                obtain ⟨⟨_, ac1⟩, _, ⟨al0, al1⟩, _, _⟩ := okB_iff.1 HAO.out
                generalize passI b (t : Int) = a at *
                have hwl : IntKind.i64.wrap (a.l - (n : Int)) = a.l - (n : Int) := wrap_id (by omega) (by omega)
                simp only [outB, takeI] at HP HT
                unfold bV at HP HT
                simp only [] at HT
                have ht1 : ((t : Int) == -1) = false := beq_eq_false_iff_ne.2 (by omega)
                have ht2 : ¬ (t : Int) < -1 := by omega
                have ht3 : ¬ (1099511627776 : Int) < (t : Int) := by omega
                obtain ⟨z, hz⟩ : ∃ z : Int, a.l - (n : Int) = z := ⟨_, rfl⟩
                rw [hz] at HT
                have hwl2 : IntKind.i64.wrap (a.l - (n : Int)) = z := hwl.trans hz
                have z0 : 0 ≤ z := by omega
                have z1 : z ≤ 1048576 := by omega
                have hwz : wrap64 z = z := by unfold wrap64; omega
                clear hwl
                clear hwt hen ac1 al0 al1
                go_wp2_with fail
                refine Calls.mono (HWT.out _) ?_
                rintro e w3 ⟨rfl, hb3⟩
                have HS3 := Lib.hid (HS.out.later hb3)
                have HB3 := Lib.hid (HB.out.trans (hb3.mono HB.out.size))
                clear hb3 HS HB HWT plt
                clear p0 p1 p2 p3 p4 p5
                have p0 := HS3.out.c0
                have p1 := HS3.out.c1
                have p2 := HS3.out.c2
                have p3 := HS3.out.c3
                have p4 := HS3.out.c4
                have p5 := HS3.out.c5
                have plt := HS3.out.lt
                go_wp2_with fail
                refine Calls.mono (H0.out _) ?_
                rintro e w' ⟨rfl, he⟩
                have he := he.symm
                subst he
                go_wp2_with fail
                refine Calls.mono (HP.out _) ?_
                rintro e w4 ⟨rfl, hb4⟩
                have HS4 := Lib.hid (HS3.out.later hb4)
                have HB4 := Lib.hid (HB3.out.trans (hb4.mono HB3.out.size))
                have HX4 := Lib.hid (BAt.new w4 a)
                have hx4 : w.heap.size < w4.heap.size := HS4.out.lt
                clear hb4 HS3 HB3 HP plt
                clear p0 p1 p2 p3 p4 p5
                go_wp2_with fail
                refine Calls.mono (HT.out _) ?_
                rintro e w5 ⟨rfl, hb5⟩
                have HS5 := Lib.hid ((HS4.out.alloc (.cells #[.int .i64 a.l, .int .i64 a.c, .int .i64 a.f, .int .i64 a.e, .int .i64 a.d] 23)).later hb5)
                have HBa := Lib.hid (HB4.out.alloc HB4.out.size (.cells #[.int .i64 a.l, .int .i64 a.c, .int .i64 a.f, .int .i64 a.e, .int .i64 a.d] 23))
                have HB5 := Lib.hid (HBa.out.trans (hb5.mono HBa.out.size))
                have HX5 := Lib.hid (HX4.out.later hb5)
                clear hb5 HS4 HB4 HT HBa HX4
                generalize w4.heap.size = X at *
                have hX5 := HX5.out.lt
                have x0 := HX5.out.c0
                have x1 := HX5.out.c1
                have x2 := HX5.out.c2
                have x3 := HX5.out.c3
                have x4 := HX5.out.c4
                go_wp2_with fail
                refine Calls.mono (H0.out _) ?_
                rintro e w' ⟨rfl, he⟩
                have he := he.symm
                subst he
                go_wp2_with fail
                refine Calls.mono (H0.out _) ?_
                rintro e w' ⟨rfl, he⟩
                have he := he.symm
                subst he
                go_wp2_with fail
                exact ⟨⟨i + 1, by go_num, by omega, by omega, HS5.out.alloc _, HB5.out.alloc HB5.out.size _⟩, by simp [intOf]; omega⟩
          · have hng : (1048576 : Int) < (n : Int) := by omega
            go_wp2_with fail
            exact ⟨⟨i + 1, by go_num, by omega, by omega, HS.out, HB.out⟩, by simp [intOf]; omega⟩
      have HW := Lib.hid (wakes_any wr)
      by_cases hlt : i < l.length
      · have hlti : (i : Int) < (l.length : Int) := by omega
        have h20i : decide ((i : Int) < 20) = false := decide_eq_false (by omega)
        go_wp2_with fail
        refine Calls.mono HW.out ?_
        rintro e w6 ⟨rfl, hb⟩
        have HB3 := Lib.hid (HB.out.trans (hb.mono HB.out.size))
        clear hb
        go_wp2_with fail
        go_ret
        exact ⟨rfl, HB3.out⟩
      · have hlti : decide ((i : Int) < (l.length : Int)) = false := decide_eq_false (by omega)
        go_wp2_with fail
        refine Calls.mono HW.out ?_
        rintro e w6 ⟨rfl, hb⟩
        have HB3 := Lib.hid (HB.out.trans (hb.mono HB.out.size))
        clear hb
        go_wp2_with fail
        go_ret
        exact ⟨rfl, HB3.out⟩
end Go.Proofs.Ytcnkejndblcbhaa
