/-
  BucketParts: the statement's own walk.
  Conditions: as the theorem states them: the argument lies in memory.
-/
import Derived.Test.YtcnkejndblcbhaaKJ
import Derived.Deep.CutRange
import Derived.Deep.DeepCutAuto
import Derived.WalkSmall
import Derived.BigRegion
namespace Go.Proofs.Ytcnkejndblcbhaa
open Go.RowKit

set_option maxHeartbeats 4000000 in
set_option maxRecDepth 100000 in
theorem parts_any (b : BI) (v : Value) (l : List F4) (w : World) (h : FsAt w v l) :
    Calls Try.prog 4 #[.agg #[.int .i64 b.l, .int .i64 b.c, .int .i64 b.f, .int .i64 b.e, .int .i64 b.d, v]] w fun e w' => e = .returned (.bool true) ∧ Below w.heap.size w w' := by
  have HU := Lib.hid h
  obtain ⟨A0, cp, rfl, hlen0, _, _⟩ := h
  have hll : l.length < 9223372036854775808 := by unfold maxLen at hlen0; omega
  clear hlen0
  obtain ⟨W, hW⟩ : ∃ W, w.alloc (.cells #[.int .i64 b.l, .int .i64 b.c, .int .i64 b.f, .int .i64 b.e, .int .i64 b.d, .slice A0 l.length cp] 26) = W := ⟨_, rfl⟩
  have HS := Lib.hid (show SAt W w.heap.size b (.slice A0 l.length cp) by rw [← hW]; exact SAt.new w b _)
  have HA := Lib.hid (show Below w.heap.size w W by rw [← hW]; exact (Below.refl _ w).alloc (Nat.le_refl _) _)
  have HQ := Lib.hid (fun X => rBucket_any b X)
  have H0 := Lib.hid (fun X => num_any 0 X)
  have HWI := Lib.hid (fun (i : Int) X => lWithin_any i 549755813888 X (by decide) (by decide))
  have hnw : w.heap.size < W.heap.size := HS.out.lt
  unfold bV at HQ
  have hps := HS
  have p0 := HS.out.c0
  have p1 := HS.out.c1
  have p2 := HS.out.c2
  have p3 := HS.out.c3
  have p4 := HS.out.c4
  clear hps
  cases hq : okB b with
  | false =>
    rw [hq] at HQ
    go_enter Try.func4, Try.ntmps4
    go_wp2_with fail
    refine Calls.mono (HQ.out _) ?_
    rintro e w1 ⟨rfl, hb1⟩
    have HB1 := Lib.hid (HA.out.trans (hb1.mono HA.out.size))
    clear hb1
    go_wp2_with fail
    go_ret
    exact ⟨rfl, HB1.out⟩
  | true =>
    rw [hq] at HQ
    have HOK := Lib.hid hq
    clear hq
    go_enter Try.func4, Try.ntmps4
    go_wp2_with fail
    refine Calls.mono (HQ.out _) ?_
    rintro e w1 ⟨rfl, hb1⟩
    have HB1 := Lib.hid (HA.out.trans (hb1.mono HA.out.size))
    have HS1 := Lib.hid (HS.out.later hb1)
    clear hb1 HQ HS HA hW p0 p1 p2 p3 p4 hnw
    go_wp2_with fail
    go_loopw [3] (fun iv wr => ∃ (i : Nat), iv = .int .i64 i ∧ i ≤ l.length ∧ i ≤ 10 ∧ SAt wr w.heap.size b (.slice A0 l.length cp) ∧ Below w.heap.size w wr) (fun iv _ => 11 - (intOf iv).toNat)
    case atStart => exact ⟨0, rfl, Nat.zero_le _, Nat.zero_le _, HS1.out, HB1.out⟩
    case round =>
      obtain ⟨i, rfl, hil, hi10, hS, hb⟩ := hrel
      have HB := Lib.hid hb
      have HS := Lib.hid hS
      have p5 := hS.c5
      clear hb hS HS1 HB1
      by_cases hin : i < l.length ∧ i < 10
      · have hlti : (i : Int) < (l.length : Int) := by omega
        have h10i : (i : Int) < 10 := by omega
        obtain ⟨kb, o, x, hA, _, _, _, hc1, hc2, _⟩ := HU.out.cell hin.1 rfl HB.out
        subst hA
        obtain ⟨n0, n9⟩ := modI_in (i := x.b) (n := 549755813888) (by decide)
        obtain ⟨k0, k9⟩ := modI_in (i := x.c) (n := 549755813888) (by decide)
        go_wp2_with fail
        go_quiet ((go_at_call 11; exact Calls.quiet_of_same (HWI.out _ _)))
        have HS2 := Lib.hid (show SAt (wr.drewN nq) w.heap.size b (.slice (some ⟨kb, o, none⟩) l.length cp) from HS.out)
        have HB2 := Lib.hid (below_drewN HB.out nq)
        clear hc1 hc2 p5 HS HB
        generalize wr.drewN nq = w2 at *
        generalize modI x.b 549755813888 = n at *
        generalize modI x.c 549755813888 = k at *
        have hnk : IntKind.i64.wrap (n + k) = n + k := wrap_id (by omega) (by omega)
        have HP1 := Lib.hid (fun X => pass_any b n X)
        have HP2 := Lib.hid (fun X => pass_any (passI b n) k X)
        have HP3 := Lib.hid (fun X => pass_any b (n + k) X)
        rw [passR_ok HOK.out n0 (by omega)] at HP1
        rw [passR_ok (passI_ok HOK.out n0) k0 (by omega), passI_two HOK.out n0 k0] at HP2
        rw [passR_ok HOK.out (show 0 ≤ n + k by omega) (by omega)] at HP3
        obtain ⟨d1, d2⟩ := passI_le HOK.out (show 0 ≤ n + k by omega)
        generalize passI b n = a at *
        generalize passI b (n + k) = d at *
        have hne : ∀ X, (binOp .neq 23 (bV d) (bV d)).run Try.prog X = .ok (.bool false) X := fun X => by rw [neq_bucket, eqBI_self]; rfl
        simp only [outB] at HP1 HP2 HP3
        unfold bV at HP1 HP2 HP3 hne
        have d1' : ¬ d.c < d.l := by omega
        have d2' : ¬ d.l < b.l := by omega
        clear d1 d2 n0 n9 k0 k9
        have p0 := HS2.out.c0
        have p1 := HS2.out.c1
        have p2 := HS2.out.c2
        have p3 := HS2.out.c3
        have p4 := HS2.out.c4
        have p5 := HS2.out.c5
        have plt := HS2.out.lt
        go_wp2_with fail
        refine Calls.mono (HP1.out _) ?_
        rintro e w3 ⟨rfl, hb3⟩
        have HS3 := Lib.hid (HS2.out.later hb3)
        have HB3 := Lib.hid (HB2.out.trans (hb3.mono HB2.out.size))
        have HA3 := Lib.hid (BAt.new w3 a)
        clear hb3 HS2 HB2 HP1 plt
        clear p0 p1 p2 p3 p4 p5
        go_wp2_with fail
        refine Calls.mono (HP2.out _) ?_
        rintro e w4 ⟨rfl, hb4⟩
        have HS4 := Lib.hid ((HS3.out.alloc (.cells #[.int .i64 a.l, .int .i64 a.c, .int .i64 a.f, .int .i64 a.e, .int .i64 a.d] 23)).later hb4)
        have HBa := Lib.hid (HB3.out.alloc HB3.out.size (.cells #[.int .i64 a.l, .int .i64 a.c, .int .i64 a.f, .int .i64 a.e, .int .i64 a.d] 23))
        have HB4 := Lib.hid (HBa.out.trans (hb4.mono HBa.out.size))
        have HD4 := Lib.hid (BAt.new w4 d)
        clear hb4 HS3 HB3 HP2 HBa HA3
        have p0 := HS4.out.c0
        have p1 := HS4.out.c1
        have p2 := HS4.out.c2
        have p3 := HS4.out.c3
        have p4 := HS4.out.c4
        have p5 := HS4.out.c5
        have plt := HS4.out.lt
        go_wp2_with fail
        refine Calls.mono (HP3.out _) ?_
        rintro e w5 ⟨rfl, hb5⟩
        have HS5 := Lib.hid ((HS4.out.alloc (.cells #[.int .i64 d.l, .int .i64 d.c, .int .i64 d.f, .int .i64 d.e, .int .i64 d.d] 23)).later hb5)
        have HBb := Lib.hid (HB4.out.alloc HB4.out.size (.cells #[.int .i64 d.l, .int .i64 d.c, .int .i64 d.f, .int .i64 d.e, .int .i64 d.d] 23))
        have HB5 := Lib.hid (HBb.out.trans (hb5.mono HBb.out.size))
        have HD5 := Lib.hid (HD4.out.later hb5)
        clear hb5 HS4 HB4 HP3 HBb HD4 plt
        clear p0 p1 p2 p3 p4 p5
        have p0 := HS5.out.c0
        have p1 := HS5.out.c1
        have p2 := HS5.out.c2
        have p3 := HS5.out.c3
        have p4 := HS5.out.c4
        have p5 := HS5.out.c5
        have plt := HS5.out.lt
        have c0 := HD5.out.c0
        have c1 := HD5.out.c1
        have c2 := HD5.out.c2
        have c3 := HD5.out.c3
        have c4 := HD5.out.c4
        have hlt5 := HD5.out.lt
        have HSE := Lib.hid (HS5.out.alloc (.cells #[.int .i64 d.l, .int .i64 d.c, .int .i64 d.f, .int .i64 d.e, .int .i64 d.d] 23))
        have HBE := Lib.hid (HB5.out.alloc HB5.out.size (.cells #[.int .i64 d.l, .int .i64 d.c, .int .i64 d.f, .int .i64 d.e, .int .i64 d.d] 23))
        go_wp2_with fail
        refine Calls.mono (H0.out _) ?_
        rintro e w' ⟨rfl, he⟩
        have he := he.symm
        subst he
        go_wp2_with fail
        refine Calls.mono (H0.out _) ?_
        rintro e w' ⟨rfl, he⟩
        have he := he.symm
        subst he
        go_wp2_with fail
        refine Calls.mono (H0.out _) ?_
        rintro e w' ⟨rfl, he⟩
        have he := he.symm
        subst he
        go_wp2_with fail
        exact ⟨⟨i + 1, by go_num, by omega, by omega, HSE.out, HBE.out⟩, by simp [intOf]; omega⟩
      have p0 := HS.out.c0
      have p1 := HS.out.c1
      have p2 := HS.out.c2
      have p3 := HS.out.c3
      have p4 := HS.out.c4
      have p5 := HS.out.c5
      have plt := HS.out.lt
      by_cases hlt : i < l.length
      · have hlti : (i : Int) < (l.length : Int) := by omega
        have h10i : decide ((i : Int) < 10) = false := decide_eq_false (by omega)
        have hszr := HB.out.size
        go_upto_region 12 with (fail)
        go_cut [12, 13] (fun xv yv wc => ∃ X Y, xv = .pointer (some ⟨X, 0, none⟩) ∧ yv = .pointer (some ⟨Y, 0, none⟩) ∧ X ≠ Y ∧ w.heap.size < X ∧ w.heap.size < Y ∧ BAt wc X b ∧ BAt wc Y b ∧ SAt wc w.heap.size b (.slice A0 l.length cp) ∧ Below w.heap.size w wc)
        case first =>
          have HX := Lib.hid ((BAt.new wr b).alloc (.cells #[.int .i64 b.l, .int .i64 b.c, .int .i64 b.f, .int .i64 b.e, .int .i64 b.d] 23))
          have HY := Lib.hid (BAt.new1 wr (.cells #[.int .i64 b.l, .int .i64 b.c, .int .i64 b.f, .int .i64 b.e, .int .i64 b.d] 23) b)
          have HBa := Lib.hid ((HB.out.alloc HB.out.size (.cells #[.int .i64 b.l, .int .i64 b.c, .int .i64 b.f, .int .i64 b.e, .int .i64 b.d] 23)).alloc (by simp; omega) (.cells #[.int .i64 b.l, .int .i64 b.c, .int .i64 b.f, .int .i64 b.e, .int .i64 b.d] 23))
          have HSa := Lib.hid ((HS.out.alloc (.cells #[.int .i64 b.l, .int .i64 b.c, .int .i64 b.f, .int .i64 b.e, .int .i64 b.d] 23)).alloc (.cells #[.int .i64 b.l, .int .i64 b.c, .int .i64 b.f, .int .i64 b.e, .int .i64 b.d] 23))
          go_region
          all_goals
            go_wp2_with fail
            go_meet
            case rel =>
              first
              | exact ⟨wr.heap.size, wr.heap.size + 1, rfl, rfl, by omega, by omega, by omega, HX.out, HY.out, HSa.out, HBa.out.drew⟩
              | exact ⟨wr.heap.size + 1, wr.heap.size, rfl, rfl, by omega, by omega, by omega, HY.out, HX.out, HSa.out, HBa.out.drew⟩
        case rest =>
          obtain ⟨X, Y, rfl, rfl, hXY, hX, hY, hx, hy, hs, hbc⟩ := hcut
          have HX := Lib.hid hx
          have HY := Lib.hid hy
          have HSc := Lib.hid hs
          have HBc := Lib.hid hbc
          clear p0 p1 p2 p3 p4 p5
          clear hx hy hs hbc HB HS hszr plt hlti hil hi10 hin
          go_wp2_with fail
          go_loopw [14] (fun iv wr => ∃ (j : Nat), iv = .int .i64 (j : Int) ∧ 1 ≤ j ∧ j ≤ 41 ∧ BAt wr X (passI b ((j : Int) - 1)) ∧ BAt wr Y (passI b ((j : Int) - 1)) ∧ SAt wr w.heap.size b (.slice A0 l.length cp) ∧ Below w.heap.size w wr) (fun iv _ => 42 - (intOf iv).toNat)
          case atStart => exact ⟨1, rfl, by omega, by omega, by rw [show ((1 : Nat) : Int) - 1 = 0 from rfl, passI_zero HOK.out]; exact HX.out, by rw [show ((1 : Nat) : Int) - 1 = 0 from rfl, passI_zero HOK.out]; exact HY.out, HSc.out, HBc.out⟩
          case round =>
            clear HX HY HSc HBc
            obtain ⟨j, rfl, hj1, hj41, hx, hy, hs, hb⟩ := hrel
            have HX := Lib.hid hx
            have HY := Lib.hid hy
            have HS := Lib.hid hs
            have HB := Lib.hid hb
            clear hx hy hs hb
            by_cases hj : j ≤ 40
            · have hj40 : (j : Int) ≤ 40 := by omega
              have HP1 := Lib.hid (fun Z => pass_any (passI b ((j : Int) - 1)) 1 Z)
              have HP2 := Lib.hid (fun Z => pass_any b (j : Int) Z)
              rw [passR_ok (passI_ok HOK.out (by omega)) (by decide) (by decide), passI_two HOK.out (by omega) (by decide), show (j : Int) - 1 + 1 = (j : Int) by omega] at HP1
              rw [passR_ok HOK.out (by omega) (by omega)] at HP2
              have HEN := Lib.hid (fun (m : Nat) (hm : m = j + 1) => (show passI b ((m : Int) - 1) = passI b (j : Int) by rw [show (m : Int) - 1 = (j : Int) by omega]))
              generalize passI b ((j : Int) - 1) = a at *
              generalize passI b (j : Int) = d at *
              have hne : ∀ Z, (binOp .neq 23 (bV d) (bV d)).run Try.prog Z = .ok (.bool false) Z := fun Z => by rw [neq_bucket, eqBI_self]; rfl
              simp only [outB] at HP1 HP2
              unfold bV at HP1 HP2 hne
              have x0 := HX.out.c0
              have x1 := HX.out.c1
              have x2 := HX.out.c2
              have x3 := HX.out.c3
              have x4 := HX.out.c4
              go_wp2_with fail
              refine Calls.mono (HP1.out _) ?_
              rintro e w3 ⟨rfl, hb3⟩
              have HX3 := Lib.hid (HX.out.later hb3)
              have HY3 := Lib.hid (HY.out.later hb3)
              have HS3 := Lib.hid (HS.out.later hb3)
              have HB3 := Lib.hid (HB.out.trans (hb3.mono HB.out.size))
              have HA3 := Lib.hid (BAt.new w3 d)
              clear hb3 HX HY HS HB HP1
              clear x0 x1 x2 x3 x4
              have p0 := HS3.out.c0
              have p1 := HS3.out.c1
              have p2 := HS3.out.c2
              have p3 := HS3.out.c3
              have p4 := HS3.out.c4
              have p5 := HS3.out.c5
              have plt := HS3.out.lt
              go_wp2_with fail
              refine Calls.mono (HP2.out _) ?_
              rintro e w4 ⟨rfl, hb4⟩
              have HX4 := Lib.hid ((HX3.out.alloc (.cells #[.int .i64 d.l, .int .i64 d.c, .int .i64 d.f, .int .i64 d.e, .int .i64 d.d] 23)).later hb4)
              have HY4 := Lib.hid ((HY3.out.alloc (.cells #[.int .i64 d.l, .int .i64 d.c, .int .i64 d.f, .int .i64 d.e, .int .i64 d.d] 23)).later hb4)
              have HS4 := Lib.hid ((HS3.out.alloc (.cells #[.int .i64 d.l, .int .i64 d.c, .int .i64 d.f, .int .i64 d.e, .int .i64 d.d] 23)).later hb4)
              have HBa := Lib.hid (HB3.out.alloc HB3.out.size (.cells #[.int .i64 d.l, .int .i64 d.c, .int .i64 d.f, .int .i64 d.e, .int .i64 d.d] 23))
              have HB4 := Lib.hid (HBa.out.trans (hb4.mono HBa.out.size))
              have HA4 := Lib.hid (HA3.out.later hb4)
              have hXne : X ≠ w3.heap.size := Nat.ne_of_lt HX3.out.lt
              have hYne : Y ≠ w3.heap.size := Nat.ne_of_lt HY3.out.lt
              clear hb4 HX3 HY3 HS3 HB3 HBa HA3 HP2 plt
              clear p0 p1 p2 p3 p4 p5
              generalize w3.heap.size = a4 at *
              have HX5 := Lib.hid (HX4.out.alloc (.cells #[.int .i64 d.l, .int .i64 d.c, .int .i64 d.f, .int .i64 d.e, .int .i64 d.d] 23))
              have HY5 := Lib.hid (HY4.out.alloc (.cells #[.int .i64 d.l, .int .i64 d.c, .int .i64 d.f, .int .i64 d.e, .int .i64 d.d] 23))
              have HS5 := Lib.hid (HS4.out.alloc (.cells #[.int .i64 d.l, .int .i64 d.c, .int .i64 d.f, .int .i64 d.e, .int .i64 d.d] 23))
              have HB5 := Lib.hid (HB4.out.alloc HB4.out.size (.cells #[.int .i64 d.l, .int .i64 d.c, .int .i64 d.f, .int .i64 d.e, .int .i64 d.d] 23))
              have HA5 := Lib.hid (HA4.out.alloc (.cells #[.int .i64 d.l, .int .i64 d.c, .int .i64 d.f, .int .i64 d.e, .int .i64 d.d] 23))
              have HD5 := Lib.hid (BAt.new w4 d)
              have hX4 := HX4.out.lt
              have hY4 := HY4.out.lt
              have hXd : X ≠ w4.heap.size := Nat.ne_of_lt HX4.out.lt
              have hYd : Y ≠ w4.heap.size := Nat.ne_of_lt HY4.out.lt
              have c0 := HA4.out.c0
              have c1 := HA4.out.c1
              have c2 := HA4.out.c2
              have c3 := HA4.out.c3
              have c4 := HA4.out.c4
              have hA4 := HA4.out.lt
              go_wp2_with fail
              refine Calls.mono (H0.out _) ?_
              rintro e w' ⟨rfl, he⟩
              have he := he.symm
              subst he
              go_wp2_with fail
              refine Calls.mono (H0.out _) ?_
              rintro e w' ⟨rfl, he⟩
              have he := he.symm
              subst he
              go_upto_region 25 with (fail)
              clear c0 c1 c2 c3 c4
              generalize w4.heap.size = d4 at *
              generalize (w4.alloc (.cells #[.int .i64 d.l, .int .i64 d.c, .int .i64 d.f, .int .i64 d.e, .int .i64 d.d] 23)) = w5 at *
              clear hX4 hY4 hA4 HX4 HY4 HS4 HB4 HA4
              have x0 := HX5.out.c0
              have xz0 := HX5.out.fz 0
              have x1 := HX5.out.c1
              have xz1 := HX5.out.fz 1
              have x2 := HX5.out.c2
              have xz2 := HX5.out.fz 2
              have x3 := HX5.out.c3
              have xz3 := HX5.out.fz 3
              have x4 := HX5.out.c4
              have xz4 := HX5.out.fz 4
              have xlt := HX5.out.lt
              have y0 := HY5.out.c0
              have yz0 := HY5.out.fz 0
              have y1 := HY5.out.c1
              have yz1 := HY5.out.fz 1
              have y2 := HY5.out.c2
              have yz2 := HY5.out.fz 2
              have y3 := HY5.out.c3
              have yz3 := HY5.out.fz 3
              have y4 := HY5.out.c4
              have yz4 := HY5.out.fz 4
              have ylt := HY5.out.lt
              have c0 := HA5.out.c0
              have c1 := HA5.out.c1
              have c2 := HA5.out.c2
              have c3 := HA5.out.c3
              have c4 := HA5.out.c4
              have e0 := HD5.out.c0
              have e1 := HD5.out.c1
              have e2 := HD5.out.c2
              have e3 := HD5.out.c3
              have e4 := HD5.out.c4
              have HXE := Lib.hid ((HX5.out.set5 d.l d.c d.f d.e d.d).other5 hXY d.l d.c d.f d.e d.d)
              have HYE := Lib.hid ((HY5.out.other5 (Ne.symm hXY) d.l d.c d.f d.e d.d).set5 d.l d.c d.f d.e d.d)
              have HSE := Lib.hid ((HS5.out.other5 (Nat.ne_of_lt hX) d.l d.c d.f d.e d.d).other5 (Nat.ne_of_lt hY) d.l d.c d.f d.e d.d)
              have HBE := Lib.hid (below_set5 (k := Y) (below_set5 (k := X) HB5.out (Nat.le_of_lt hX) d.l d.c d.f d.e d.d) (Nat.le_of_lt hY) d.l d.c d.f d.e d.d)
              go_region
              all_goals
                go_wp2_with fail
                refine ⟨⟨j + 1, by go_num, by omega, by omega, ?_, ?_, HSE.out.drew, HBE.out.drew⟩, by simp [intOf]; omega⟩
                · rw [HEN.out (j + 1) rfl]
                  exact HXE.out.drew
                · rw [HEN.out (j + 1) rfl]
                  exact HYE.out.drew
            · have hj40 : ¬ (j : Int) ≤ 40 := by omega
              generalize passI b ((j : Int) - 1) = a at *
              have heq : ∀ Z, (binOp .eql 23 (bV a) (bV a)).run Try.prog Z = .ok (.bool true) Z := fun Z => by rw [eq_bucket, eqBI_self]
              unfold bV at heq
              have HW := Lib.hid (wakes_any wr)
              have x0 := HX.out.c0
              have x1 := HX.out.c1
              have x2 := HX.out.c2
              have x3 := HX.out.c3
              have x4 := HX.out.c4
              have y0 := HY.out.c0
              have y1 := HY.out.c1
              have y2 := HY.out.c2
              have y3 := HY.out.c3
              have y4 := HY.out.c4
              go_wp2_with fail
              refine Calls.mono HW.out ?_
              rintro e w6 ⟨rfl, hb⟩
              have HB3 := Lib.hid (HB.out.trans (hb.mono HB.out.size))
              clear hb
              go_wp2_with fail
              go_ret
              exact ⟨rfl, HB3.out⟩
      · have hlti : decide ((i : Int) < (l.length : Int)) = false := decide_eq_false (by omega)
        have hszr := HB.out.size
        go_upto_region 12 with (fail)
        go_cut [12, 13] (fun xv yv wc => ∃ X Y, xv = .pointer (some ⟨X, 0, none⟩) ∧ yv = .pointer (some ⟨Y, 0, none⟩) ∧ X ≠ Y ∧ w.heap.size < X ∧ w.heap.size < Y ∧ BAt wc X b ∧ BAt wc Y b ∧ SAt wc w.heap.size b (.slice A0 l.length cp) ∧ Below w.heap.size w wc)
        case first =>
          have HX := Lib.hid ((BAt.new wr b).alloc (.cells #[.int .i64 b.l, .int .i64 b.c, .int .i64 b.f, .int .i64 b.e, .int .i64 b.d] 23))
          have HY := Lib.hid (BAt.new1 wr (.cells #[.int .i64 b.l, .int .i64 b.c, .int .i64 b.f, .int .i64 b.e, .int .i64 b.d] 23) b)
          have HBa := Lib.hid ((HB.out.alloc HB.out.size (.cells #[.int .i64 b.l, .int .i64 b.c, .int .i64 b.f, .int .i64 b.e, .int .i64 b.d] 23)).alloc (by simp; omega) (.cells #[.int .i64 b.l, .int .i64 b.c, .int .i64 b.f, .int .i64 b.e, .int .i64 b.d] 23))
          have HSa := Lib.hid ((HS.out.alloc (.cells #[.int .i64 b.l, .int .i64 b.c, .int .i64 b.f, .int .i64 b.e, .int .i64 b.d] 23)).alloc (.cells #[.int .i64 b.l, .int .i64 b.c, .int .i64 b.f, .int .i64 b.e, .int .i64 b.d] 23))
          go_region
          all_goals
            go_wp2_with fail
            go_meet
            case rel =>
              first
              | exact ⟨wr.heap.size, wr.heap.size + 1, rfl, rfl, by omega, by omega, by omega, HX.out, HY.out, HSa.out, HBa.out.drew⟩
              | exact ⟨wr.heap.size + 1, wr.heap.size, rfl, rfl, by omega, by omega, by omega, HY.out, HX.out, HSa.out, HBa.out.drew⟩
        case rest =>
          obtain ⟨X, Y, rfl, rfl, hXY, hX, hY, hx, hy, hs, hbc⟩ := hcut
          have HX := Lib.hid hx
          have HY := Lib.hid hy
          have HSc := Lib.hid hs
          have HBc := Lib.hid hbc
          clear p0 p1 p2 p3 p4 p5
          clear hx hy hs hbc HB HS hszr plt hlti hil hi10 hin
          go_wp2_with fail
          go_loopw [14] (fun iv wr => ∃ (j : Nat), iv = .int .i64 (j : Int) ∧ 1 ≤ j ∧ j ≤ 41 ∧ BAt wr X (passI b ((j : Int) - 1)) ∧ BAt wr Y (passI b ((j : Int) - 1)) ∧ SAt wr w.heap.size b (.slice A0 l.length cp) ∧ Below w.heap.size w wr) (fun iv _ => 42 - (intOf iv).toNat)
          case atStart => exact ⟨1, rfl, by omega, by omega, by rw [show ((1 : Nat) : Int) - 1 = 0 from rfl, passI_zero HOK.out]; exact HX.out, by rw [show ((1 : Nat) : Int) - 1 = 0 from rfl, passI_zero HOK.out]; exact HY.out, HSc.out, HBc.out⟩
          case round =>
            clear HX HY HSc HBc
            obtain ⟨j, rfl, hj1, hj41, hx, hy, hs, hb⟩ := hrel
            have HX := Lib.hid hx
            have HY := Lib.hid hy
            have HS := Lib.hid hs
            have HB := Lib.hid hb
            clear hx hy hs hb
            by_cases hj : j ≤ 40
            · have hj40 : (j : Int) ≤ 40 := by omega
              have HP1 := Lib.hid (fun Z => pass_any (passI b ((j : Int) - 1)) 1 Z)
              have HP2 := Lib.hid (fun Z => pass_any b (j : Int) Z)
              rw [passR_ok (passI_ok HOK.out (by omega)) (by decide) (by decide), passI_two HOK.out (by omega) (by decide), show (j : Int) - 1 + 1 = (j : Int) by omega] at HP1
              rw [passR_ok HOK.out (by omega) (by omega)] at HP2
              have HEN := Lib.hid (fun (m : Nat) (hm : m = j + 1) => (show passI b ((m : Int) - 1) = passI b (j : Int) by rw [show (m : Int) - 1 = (j : Int) by omega]))
              generalize passI b ((j : Int) - 1) = a at *
              generalize passI b (j : Int) = d at *
              have hne : ∀ Z, (binOp .neq 23 (bV d) (bV d)).run Try.prog Z = .ok (.bool false) Z := fun Z => by rw [neq_bucket, eqBI_self]; rfl
              simp only [outB] at HP1 HP2
              unfold bV at HP1 HP2 hne
              have x0 := HX.out.c0
              have x1 := HX.out.c1
              have x2 := HX.out.c2
              have x3 := HX.out.c3
              have x4 := HX.out.c4
              go_wp2_with fail
              refine Calls.mono (HP1.out _) ?_
              rintro e w3 ⟨rfl, hb3⟩
              have HX3 := Lib.hid (HX.out.later hb3)
              have HY3 := Lib.hid (HY.out.later hb3)
              have HS3 := Lib.hid (HS.out.later hb3)
              have HB3 := Lib.hid (HB.out.trans (hb3.mono HB.out.size))
              have HA3 := Lib.hid (BAt.new w3 d)
              clear hb3 HX HY HS HB HP1
              clear x0 x1 x2 x3 x4
              have p0 := HS3.out.c0
              have p1 := HS3.out.c1
              have p2 := HS3.out.c2
              have p3 := HS3.out.c3
              have p4 := HS3.out.c4
              have p5 := HS3.out.c5
              have plt := HS3.out.lt
              go_wp2_with fail
              refine Calls.mono (HP2.out _) ?_
              rintro e w4 ⟨rfl, hb4⟩
              have HX4 := Lib.hid ((HX3.out.alloc (.cells #[.int .i64 d.l, .int .i64 d.c, .int .i64 d.f, .int .i64 d.e, .int .i64 d.d] 23)).later hb4)
              have HY4 := Lib.hid ((HY3.out.alloc (.cells #[.int .i64 d.l, .int .i64 d.c, .int .i64 d.f, .int .i64 d.e, .int .i64 d.d] 23)).later hb4)
              have HS4 := Lib.hid ((HS3.out.alloc (.cells #[.int .i64 d.l, .int .i64 d.c, .int .i64 d.f, .int .i64 d.e, .int .i64 d.d] 23)).later hb4)
              have HBa := Lib.hid (HB3.out.alloc HB3.out.size (.cells #[.int .i64 d.l, .int .i64 d.c, .int .i64 d.f, .int .i64 d.e, .int .i64 d.d] 23))
              have HB4 := Lib.hid (HBa.out.trans (hb4.mono HBa.out.size))
              have HA4 := Lib.hid (HA3.out.later hb4)
              have hXne : X ≠ w3.heap.size := Nat.ne_of_lt HX3.out.lt
              have hYne : Y ≠ w3.heap.size := Nat.ne_of_lt HY3.out.lt
              clear hb4 HX3 HY3 HS3 HB3 HBa HA3 HP2 plt
              clear p0 p1 p2 p3 p4 p5
              generalize w3.heap.size = a4 at *
              have HX5 := Lib.hid (HX4.out.alloc (.cells #[.int .i64 d.l, .int .i64 d.c, .int .i64 d.f, .int .i64 d.e, .int .i64 d.d] 23))
              have HY5 := Lib.hid (HY4.out.alloc (.cells #[.int .i64 d.l, .int .i64 d.c, .int .i64 d.f, .int .i64 d.e, .int .i64 d.d] 23))
              have HS5 := Lib.hid (HS4.out.alloc (.cells #[.int .i64 d.l, .int .i64 d.c, .int .i64 d.f, .int .i64 d.e, .int .i64 d.d] 23))
              have HB5 := Lib.hid (HB4.out.alloc HB4.out.size (.cells #[.int .i64 d.l, .int .i64 d.c, .int .i64 d.f, .int .i64 d.e, .int .i64 d.d] 23))
              have HA5 := Lib.hid (HA4.out.alloc (.cells #[.int .i64 d.l, .int .i64 d.c, .int .i64 d.f, .int .i64 d.e, .int .i64 d.d] 23))
              have HD5 := Lib.hid (BAt.new w4 d)
              have hX4 := HX4.out.lt
              have hY4 := HY4.out.lt
              have hXd : X ≠ w4.heap.size := Nat.ne_of_lt HX4.out.lt
              have hYd : Y ≠ w4.heap.size := Nat.ne_of_lt HY4.out.lt
              have c0 := HA4.out.c0
              have c1 := HA4.out.c1
              have c2 := HA4.out.c2
              have c3 := HA4.out.c3
              have c4 := HA4.out.c4
              have hA4 := HA4.out.lt
              go_wp2_with fail
              refine Calls.mono (H0.out _) ?_
              rintro e w' ⟨rfl, he⟩
              have he := he.symm
              subst he
              go_wp2_with fail
              refine Calls.mono (H0.out _) ?_
              rintro e w' ⟨rfl, he⟩
              have he := he.symm
              subst he
              go_upto_region 25 with (fail)
              clear c0 c1 c2 c3 c4
              generalize w4.heap.size = d4 at *
              generalize (w4.alloc (.cells #[.int .i64 d.l, .int .i64 d.c, .int .i64 d.f, .int .i64 d.e, .int .i64 d.d] 23)) = w5 at *
              clear hX4 hY4 hA4 HX4 HY4 HS4 HB4 HA4
              have x0 := HX5.out.c0
              have xz0 := HX5.out.fz 0
              have x1 := HX5.out.c1
              have xz1 := HX5.out.fz 1
              have x2 := HX5.out.c2
              have xz2 := HX5.out.fz 2
              have x3 := HX5.out.c3
              have xz3 := HX5.out.fz 3
              have x4 := HX5.out.c4
              have xz4 := HX5.out.fz 4
              have xlt := HX5.out.lt
              have y0 := HY5.out.c0
              have yz0 := HY5.out.fz 0
              have y1 := HY5.out.c1
              have yz1 := HY5.out.fz 1
              have y2 := HY5.out.c2
              have yz2 := HY5.out.fz 2
              have y3 := HY5.out.c3
              have yz3 := HY5.out.fz 3
              have y4 := HY5.out.c4
              have yz4 := HY5.out.fz 4
              have ylt := HY5.out.lt
              have c0 := HA5.out.c0
              have c1 := HA5.out.c1
              have c2 := HA5.out.c2
              have c3 := HA5.out.c3
              have c4 := HA5.out.c4
              have e0 := HD5.out.c0
              have e1 := HD5.out.c1
              have e2 := HD5.out.c2
              have e3 := HD5.out.c3
              have e4 := HD5.out.c4
              have HXE := Lib.hid ((HX5.out.set5 d.l d.c d.f d.e d.d).other5 hXY d.l d.c d.f d.e d.d)
              have HYE := Lib.hid ((HY5.out.other5 (Ne.symm hXY) d.l d.c d.f d.e d.d).set5 d.l d.c d.f d.e d.d)
              have HSE := Lib.hid ((HS5.out.other5 (Nat.ne_of_lt hX) d.l d.c d.f d.e d.d).other5 (Nat.ne_of_lt hY) d.l d.c d.f d.e d.d)
              have HBE := Lib.hid (below_set5 (k := Y) (below_set5 (k := X) HB5.out (Nat.le_of_lt hX) d.l d.c d.f d.e d.d) (Nat.le_of_lt hY) d.l d.c d.f d.e d.d)
              go_region
              all_goals
                go_wp2_with fail
                refine ⟨⟨j + 1, by go_num, by omega, by omega, ?_, ?_, HSE.out.drew, HBE.out.drew⟩, by simp [intOf]; omega⟩
                · rw [HEN.out (j + 1) rfl]
                  exact HXE.out.drew
                · rw [HEN.out (j + 1) rfl]
                  exact HYE.out.drew
            · have hj40 : ¬ (j : Int) ≤ 40 := by omega
              generalize passI b ((j : Int) - 1) = a at *
              have heq : ∀ Z, (binOp .eql 23 (bV a) (bV a)).run Try.prog Z = .ok (.bool true) Z := fun Z => by rw [eq_bucket, eqBI_self]
              unfold bV at heq
              have HW := Lib.hid (wakes_any wr)
              have x0 := HX.out.c0
              have x1 := HX.out.c1
              have x2 := HX.out.c2
              have x3 := HX.out.c3
              have x4 := HX.out.c4
              have y0 := HY.out.c0
              have y1 := HY.out.c1
              have y2 := HY.out.c2
              have y3 := HY.out.c3
              have y4 := HY.out.c4
              go_wp2_with fail
              refine Calls.mono HW.out ?_
              rintro e w6 ⟨rfl, hb⟩
              have HB3 := Lib.hid (HB.out.trans (hb.mono HB.out.size))
              clear hb
              go_wp2_with fail
              go_ret
              exact ⟨rfl, HB3.out⟩
end Go.Proofs.Ytcnkejndblcbhaa
