/-
  One step of a statement's script: a try ends.
  Conditions: as the theorem states them: a word is below 2 to the 64.
-/
import Derived.Test.YtlkikecnlafmeaaQL
import Derived.Deep.CutRange
import Derived.Deep.DeepCutAuto
import Derived.Deep.RegionWith
import Derived.Deep.RegionHeld3
import Derived.Deep.RegionLaw
import Derived.Deep.QuietTactic
import Derived.BigQuiet
import Derived.WalkSmall
namespace Go.Proofs.Ytlkikecnlafmeaa
open Go.RowKit

theorem end_s {r : BR} {ok : Bool} {now fl pa : Int} {fo n : Nat} (h : r.s < 18446744073709551616) (hn : n = 9221120237041090561) : (endB r ok now fl pa fo n).s < 18446744073709551616 := by
  unfold endB
  split
  · split
    · show n < _
      omega
    · exact h
  · split
    · split <;> exact h
    · exact h
set_option maxHeartbeats 8000000 in
set_option maxRecDepth 100000 in
theorem step_end (b : BR) (a : AR) (w : World) (hs : b.s < 18446744073709551616) (_hf : a.fo < 18446744073709551616) (m6 : Int) (hd : modI a.d 6 = m6) (hm : 3 ≤ m6) :
    Calls Try.prog 14 #[bV b, aV a] w fun e w' => (∃ x : BR, e = .returned (.tuple #[bV x, .bool true]) ∧ x.s < 18446744073709551616) ∧ Below w.heap.size w w' := by
  have hst := store_float
  have HV := Lib.hid (fun W => rBreaker_any b W hs)
  have HT := Lib.hid (fun W => rNumB_any a.n 1099511627776 W)
  have HWi := Lib.hid (fun W => lWithin_any a.d 6 W (by decide) (by decide))
  have hfr := run_from a.fo
  have HA := Lib.hid ((((Below.refl _ w).alloc (Nat.le_refl _) (.cells #[.int .i64 b.t, .int .i64 b.f, .int .i64 b.u, .float .f64 b.s, .int .i64 b.c] 26)).alloc (by simp) (.cells #[.int .i64 a.d, .int .i64 a.n, .int .i64 a.fl, .int .i64 a.pa, .bool a.ok, .int .u64 (a.fo : Int)] 39)).alloc (by simp; omega) (.cells #[.int .i64 zB.t, .int .i64 zB.f, .int .i64 zB.u, .float .f64 zB.s, .int .i64 zB.c] 26))
  have HX := Lib.hid (((BAt.new w b).alloc (.cells #[.int .i64 a.d, .int .i64 a.n, .int .i64 a.fl, .int .i64 a.pa, .bool a.ok, .int .u64 (a.fo : Int)] 39)).alloc (.cells #[.int .i64 zB.t, .int .i64 zB.f, .int .i64 zB.u, .float .f64 zB.s, .int .i64 zB.c] 26))
  have HK := Lib.hid ((AAt.new1 w (.cells #[.int .i64 b.t, .int .i64 b.f, .int .i64 b.u, .float .f64 b.s, .int .i64 b.c] 26) a).alloc (.cells #[.int .i64 zB.t, .int .i64 zB.f, .int .i64 zB.u, .float .f64 zB.s, .int .i64 zB.c] 26))
  have HR := Lib.hid (BAt.new2 w (.cells #[.int .i64 b.t, .int .i64 b.f, .int .i64 b.u, .float .f64 b.s, .int .i64 b.c] 26) (.cells #[.int .i64 a.d, .int .i64 a.n, .int .i64 a.fl, .int .i64 a.pa, .bool a.ok, .int .u64 (a.fo : Int)] 39) zB)
  have HQ := Lib.hid (show askB b a.n = (okB b && inB a.n 0 1099511627776) from rfl)
  have HS0 := Lib.hid hs
  obtain ⟨n, hn⟩ : ∃ n, n = 9221120237041090561 := ⟨_, rfl⟩
  obtain ⟨bad, x, wt, hbg, hz, hws, hf1, hf3, hg⟩ : ∃ (bad : Int) (x wt : BR), outB (endR b a.ok a.n a.fl a.pa a.fo n) = .tuple #[bV x, .int .i64 bad] ∧ (bad = 0 → x = wt) ∧ wt.s < 18446744073709551616 ∧ (mayE b a.n a.fl a.pa = false → 1 = bad ∧ b = wt) ∧ (mayE b a.n a.fl a.pa = true → 0 = bad) ∧ (mayE b a.n a.fl a.pa = true → ∀ W, Calls Try.prog 31 #[bV b, .bool a.ok, .int .i64 a.n, cV a.fl a.pa a.fo] W fun e w' => e = .returned (bV wt) ∧ Below W.heap.size W w') := by
    cases h : mayE b a.n a.fl a.pa with
    | false => exact ⟨1, zB, b, by unfold endR; rw [h]; rfl, (fun h => by omega), hs, fun _ => ⟨rfl, rfl⟩, (fun h => by cases h), (fun h => by cases h)⟩
    | true =>
      have hq : okB b = true := by
        unfold mayE at h
        simp only [Bool.and_eq_true] at h
        exact h.1.1
      exact ⟨0, endB (recB b a.ok) a.ok a.n a.fl a.pa a.fo n, endB (recB b a.ok) a.ok a.n a.fl a.pa a.fo n, by unfold endR; rw [h]; rfl, fun _ => rfl, end_s (rec_ok hs hq).2.1 hn, (fun h => by cases h), fun _ => rfl, fun _ W => rEnd_any b a.ok a.n a.fl a.pa a.fo n hn W hs h⟩
  have HBg := Lib.hid (fun W => bend_any b a.ok a.n a.fl a.pa a.fo n hn W hs)
  rw [hbg] at HBg
  have HZ := Lib.hid hz
  have HWS := Lib.hid hws
  have HF1 := Lib.hid hf1
  have HF3 := Lib.hid hf3
  have HG := Lib.hid hg
  have HME := Lib.hid (fun W => rMayEnd_any b a.n a.fl a.pa a.fo W hs)
  have HN := Lib.hid (fun W => num_any bad W)
  clear hbg hz hws hf1 hf3 hg hn
  generalize mayE b a.n a.fl a.pa = q3 at *
  unfold bV cV at HBg HME HG
  have hm0 : (m6 == 0) = false := beq_eq_false_iff_ne.2 (by omega)
  have hm1 : (m6 == 1) = false := beq_eq_false_iff_ne.2 (by omega)
  have hm2 : (m6 == 2) = false := beq_eq_false_iff_ne.2 (by omega)
  rw [hd] at HWi
  clear hd hm
  rw [HQ.out] at *
  generalize okB b = q1 at *
  generalize inB a.n 0 1099511627776 = q2 at *
  unfold bV at HV
  unfold bV aV
  unfold zB at *
  clear HQ hs _hf
  go_enter Try.func14, Try.ntmps14
  go_wp2_with fail
  refine Calls.mono (HV.out _) ?_
  rintro e w1 ⟨rfl, hb⟩
  have HB1 := Lib.hid (HA.out.trans (hb.mono (by simp; omega)))
  have HX1 := Lib.hid (HX.out.later hb)
  have HK1 := Lib.hid (HK.out.later hb)
  have HR1 := Lib.hid (HR.out.later hb)
  have hk0 := HK1.out.c0
  have hk1 := HK1.out.c1
  have hk2 := HK1.out.c2
  have hk3 := HK1.out.c3
  have hk4 := HK1.out.c4
  have hk5 := HK1.out.c5
  clear hb HA HX HK HR HV
  go_upto_region 2 with (fail)
  go_cut [7] (fun nv wc => nv = .bool (q1 && q2) ∧ w1 = wc)
  case first =>
    cases q1 with
    | false =>
      go_wp2_with fail
      go_meet
      case rel => exact ⟨rfl, rfl⟩
    | true =>
      go_wp2_with fail
      refine Calls.mono (HT.out _) ?_
      rintro e w' ⟨rfl, he⟩
      have he := he.symm
      subst he
      go_wp2_with fail
      go_meet
      case rel => exact ⟨rfl, rfl⟩
  case rest =>
    obtain ⟨rfl, rfl⟩ := hcut
    generalize (q1 && q2) = q at *
    go_upto_region 3 with (fail)
    go_cut [8] (fun cv wc => cv = .pointer (some ⟨w1.heap.size, 0, none⟩) ∧ CfAt wc w1.heap.size a.fl a.pa a.fo ∧ Below w1.heap.size w1 wc)
    case first =>
      have HSK : Hid (∀ W, Below w1.heap.size w1 W → (W.cell? ⟨w.heap.size + 1, 2, none⟩ = some (.int .i64 a.fl) ∧ W.cell? ⟨w.heap.size + 1, 3, none⟩ = some (.int .i64 a.pa) ∧ W.cell? ⟨w.heap.size + 1, 5, none⟩ = some (.int .u64 (a.fo : Int)))) := Lib.hid (fun W hW => ⟨(HK1.out.later hW).c2, (HK1.out.later hW).c3, (HK1.out.later hW).c5⟩)
      go_region_held3 (fun W => W.cell? ⟨w.heap.size + 1, 2, none⟩ = some (.int .i64 a.fl) ∧ W.cell? ⟨w.heap.size + 1, 3, none⟩ = some (.int .i64 a.pa) ∧ W.cell? ⟨w.heap.size + 1, 5, none⟩ = some (.int .u64 (a.fo : Int))) (first | exact HSK.out _ (Below.refl _ _).drew | exact HSK.out _ ((Below.refl _ _).alloc (Nat.le_refl _) _).drew) (first | fail | fail)
      all_goals
        go_wp2_with fail
        go_meet
        case rel => exact ⟨rfl, (CfAt.new w1 a.fl a.pa a.fo).drew, ((Below.refl _ _).alloc (Nat.le_refl _) _).drew⟩
    case rest =>
      obtain ⟨rfl, hC, hB⟩ := hcut
      have HX2 := Lib.hid (HX1.out.later hB)
      have HK2 := Lib.hid (HK1.out.later hB)
      have HR2 := Lib.hid (HR1.out.later hB)
      have HC2 := Lib.hid hC
      have HB2 := Lib.hid (HB1.out.trans (hB.mono HB1.out.size))
      clear hB hC HX1 HK1 HR1 HB1 hfr hk0 hk1 hk2 hk3 hk4 hk5 HT
      generalize w1.heap.size = kc at *
      generalize wc = w2 at *
      have k0 := HK2.out.c0
      have k1 := HK2.out.c1
      have k2 := HK2.out.c2
      have k3 := HK2.out.c3
      have k4 := HK2.out.c4
      have k5 := HK2.out.c5
      have m0 := HX2.out.c0
      have m1 := HX2.out.c1
      have m2 := HX2.out.c2
      have m3 := HX2.out.c3
      have m4 := HX2.out.c4
      have mlt := HX2.out.lt
      have g0 := HC2.out.c0
      have g1 := HC2.out.c1
      have g2 := HC2.out.c2
      have g3 := HC2.out.c3
      have g4 := HC2.out.c4
      have g5 := HC2.out.c5
      have g6 := HC2.out.c6
      have g7 := HC2.out.c7
      go_wp2_with fail
      refine Calls.mono (HWi.out _) ?_
      rintro e w' ⟨rfl, he⟩
      have he := he.symm
      subst he
      go_upto_region 20 with (fail)
      go_cut [17, 18] (fun bv pv wc => bv = .int .i64 1 ∧ pv = .pointer (some ⟨w2.heap.size, 0, none⟩) ∧ BAt wc w2.heap.size b ∧ Below w2.heap.size w2 wc)
      case first =>
        go_region
        all_goals
          go_wp2_with fail
          go_meet
          case rel => exact ⟨rfl, rfl, (BAt.new w2 b).drew, ((Below.refl _ _).alloc (Nat.le_refl _) _).drew⟩
      case rest =>
        obtain ⟨rfl, rfl, hP, hb3⟩ := hcut
        have HP3 := Lib.hid hP
        have hPlt : w2.heap.size ≥ w.heap.size + 1 + 1 + 1 := HR2.out.lt
        have hPC : kc < w2.heap.size := HC2.out.lt
        generalize wc = w3 at *
        have HB3 := Lib.hid (HB2.out.trans (hb3.mono HB2.out.size))
        have HX3 := Lib.hid (HX2.out.later hb3)
        have HK3 := Lib.hid (HK2.out.later hb3)
        have HR3 := Lib.hid (HR2.out.later hb3)
        have HC3 := Lib.hid (HC2.out.later hb3)
        clear hb3 HX2 HK2 HR2 HC2
        clear k0 k1 k2 k3 k4 k5
        clear m0 m1 m2 m3 m4 mlt
        clear g0 g1 g2 g3 g4 g5 g6 g7
        have k0 := HK3.out.c0
        have k1 := HK3.out.c1
        have k2 := HK3.out.c2
        have k3 := HK3.out.c3
        have k4 := HK3.out.c4
        have k5 := HK3.out.c5
        have m0 := HX3.out.c0
        have m1 := HX3.out.c1
        have m2 := HX3.out.c2
        have m3 := HX3.out.c3
        have m4 := HX3.out.c4
        have mlt := HX3.out.lt
        have g0 := HC3.out.c0
        have g1 := HC3.out.c1
        have g2 := HC3.out.c2
        have g3 := HC3.out.c3
        have g4 := HC3.out.c4
        have g5 := HC3.out.c5
        have g6 := HC3.out.c6
        have g7 := HC3.out.c7
        have p0 := HP3.out.c0
        have pz0 := HP3.out.fz 0
        have p1 := HP3.out.c1
        have pz1 := HP3.out.fz 1
        have p2 := HP3.out.c2
        have pz2 := HP3.out.fz 2
        have p3 := HP3.out.c3
        have pz3 := HP3.out.fz 3
        have p4 := HP3.out.c4
        have pz4 := HP3.out.fz 4
        have plt := HP3.out.lt
        clear hP
        generalize w2.heap.size = P at *
        go_wp2_with fail
        refine Calls.mono (HME.out _) ?_
        rintro e w4 ⟨rfl, hb4⟩
        have HB4 := Lib.hid (HB3.out.trans (hb4.mono HB3.out.size))
        have HX4 := Lib.hid (HX3.out.later hb4)
        have HK4 := Lib.hid (HK3.out.later hb4)
        have HR4 := Lib.hid (HR3.out.later hb4)
        have HC4 := Lib.hid (HC3.out.later hb4)
        have HP4 := Lib.hid (HP3.out.later hb4)
        clear hb4 HX3 HK3 HR3 HC3 HP3
        clear k0 k1 k2 k3 k4 k5
        clear m0 m1 m2 m3 m4 mlt
        clear g0 g1 g2 g3 g4 g5 g6 g7
        clear p0 pz0 p1 pz1 p2 pz2 p3 pz3 p4 pz4 plt
        have k0 := HK4.out.c0
        have k1 := HK4.out.c1
        have k2 := HK4.out.c2
        have k3 := HK4.out.c3
        have k4 := HK4.out.c4
        have k5 := HK4.out.c5
        have m0 := HX4.out.c0
        have m1 := HX4.out.c1
        have m2 := HX4.out.c2
        have m3 := HX4.out.c3
        have m4 := HX4.out.c4
        have mlt := HX4.out.lt
        have g0 := HC4.out.c0
        have g1 := HC4.out.c1
        have g2 := HC4.out.c2
        have g3 := HC4.out.c3
        have g4 := HC4.out.c4
        have g5 := HC4.out.c5
        have g6 := HC4.out.c6
        have g7 := HC4.out.c7
        have p0 := HP4.out.c0
        have pz0 := HP4.out.fz 0
        have p1 := HP4.out.c1
        have pz1 := HP4.out.fz 1
        have p2 := HP4.out.c2
        have pz2 := HP4.out.fz 2
        have p3 := HP4.out.c3
        have pz3 := HP4.out.fz 3
        have p4 := HP4.out.c4
        have pz4 := HP4.out.fz 4
        have plt := HP4.out.lt
        go_upto_if 101 with (fail)
        go_cut [17] (fun bv wc => bv = .int .i64 bad ∧ BAt wc P wt ∧ Below w.heap.size w wc ∧ BAt wc w.heap.size b ∧ AAt wc (w.heap.size + 1) a ∧ BAt wc (w.heap.size + 1 + 1) ⟨0, 0, 0, 0, 0⟩ ∧ CfAt wc kc a.fl a.pa a.fo)
        case first =>
          cases q3 with
          | false =>
            have HH := Lib.hid (HF1.out (by simp))
            go_wp2_with fail
            go_meet
            case rel => exact ⟨by rw [HH.out.1], by rw [← HH.out.2]; exact HP4.out, HB4.out, HX4.out, HK4.out, HR4.out, HC4.out⟩
          | true =>
            have HH := Lib.hid (HF3.out (by simp))
            have HG7 := Lib.hid (HG.out rfl)
            clear HG
            go_wp2_with fail
            refine Calls.mono (HG7.out _) ?_
            rintro e w5 ⟨rfl, hb5⟩
            have HB5 := Lib.hid (HB4.out.trans (hb5.mono HB4.out.size))
            have HX5 := Lib.hid (HX4.out.later hb5)
            have HK5 := Lib.hid (HK4.out.later hb5)
            have HR5 := Lib.hid (HR4.out.later hb5)
            have HC5 := Lib.hid (HC4.out.later hb5)
            have HP5 := Lib.hid (HP4.out.later hb5)
            clear hb5 HX4 HK4 HR4 HC4 HP4
            clear k0 k1 k2 k3 k4 k5
            clear m0 m1 m2 m3 m4 mlt
            clear g0 g1 g2 g3 g4 g5 g6 g7
            clear p0 pz0 p1 pz1 p2 pz2 p3 pz3 p4 pz4 plt
            have p0 := HP5.out.c0
            have pz0 := HP5.out.fz 0
            have p1 := HP5.out.c1
            have pz1 := HP5.out.fz 1
            have p2 := HP5.out.c2
            have pz2 := HP5.out.fz 2
            have p3 := HP5.out.c3
            have pz3 := HP5.out.fz 3
            have p4 := HP5.out.c4
            have pz4 := HP5.out.fz 4
            have plt := HP5.out.lt
            go_wp2_with fail
            go_meet
            case rel => exact ⟨by rw [HH.out], HP5.out.set5 wt.t wt.f wt.u wt.s wt.c, below_set5 HB5.out (by omega) _ _ _ _ _, HX5.out.other5 (by omega) _ _ _ _ _, aat_other5 HK5.out (by omega) _ _ _ _ _, HR5.out.other5 (by omega) _ _ _ _ _, HC5.out.other5 (by omega) _ _ _ _ _⟩
        case rest =>
          obtain ⟨rfl, hP, hB, hX, hK, hR, hC⟩ := hcut
          have HP6 := Lib.hid hP
          have HB6 := Lib.hid hB
          have HX6 := Lib.hid hX
          have HK6 := Lib.hid hK
          have HR6 := Lib.hid hR
          have HC6 := Lib.hid hC
          clear hP hB hX hK hR hC HP4 HX4 HK4 HR4 HC4 HB4
          clear p0 pz0 p1 pz1 p2 pz2 p3 pz3 p4 pz4 plt
          clear k0 k1 k2 k3 k4 k5
          clear m0 m1 m2 m3 m4 mlt
          clear g0 g1 g2 g3 g4 g5 g6 g7
          generalize wc = w6 at *
          have k0 := HK6.out.c0
          have k1 := HK6.out.c1
          have k2 := HK6.out.c2
          have k3 := HK6.out.c3
          have k4 := HK6.out.c4
          have k5 := HK6.out.c5
          have m0 := HX6.out.c0
          have m1 := HX6.out.c1
          have m2 := HX6.out.c2
          have m3 := HX6.out.c3
          have m4 := HX6.out.c4
          have mlt := HX6.out.lt
          have g0 := HC6.out.c0
          have g1 := HC6.out.c1
          have g2 := HC6.out.c2
          have g3 := HC6.out.c3
          have g4 := HC6.out.c4
          have g5 := HC6.out.c5
          have g6 := HC6.out.c6
          have g7 := HC6.out.c7
          go_wp2_with fail
          refine Calls.mono (HBg.out _) ?_
          rintro e w7 ⟨rfl, hb7⟩
          have HB7 := Lib.hid (HB6.out.trans (hb7.mono HB6.out.size))
          have HX7 := Lib.hid (HX6.out.later hb7)
          have HK7 := Lib.hid (HK6.out.later hb7)
          have HR7 := Lib.hid (HR6.out.later hb7)
          have HC7 := Lib.hid (HC6.out.later hb7)
          have HP7 := Lib.hid (HP6.out.later hb7)
          clear hb7 HX6 HK6 HR6 HC6 HP6
          have HY8 := Lib.hid (BAt.new w7 x)
          have HP8 := Lib.hid (HP7.out.alloc (.cells #[.int .i64 x.t, .int .i64 x.f, .int .i64 x.u, .float .f64 x.s, .int .i64 x.c] 26))
          have HR8 := Lib.hid (HR7.out.alloc (.cells #[.int .i64 x.t, .int .i64 x.f, .int .i64 x.u, .float .f64 x.s, .int .i64 x.c] 26))
          have HB8 := Lib.hid (HB7.out.alloc HB7.out.size (.cells #[.int .i64 x.t, .int .i64 x.f, .int .i64 x.u, .float .f64 x.s, .int .i64 x.c] 26))
          have hQlt : P < w7.heap.size := HP7.out.lt
          clear k0 k1 k2 k3 k4 k5
          clear m0 m1 m2 m3 m4 mlt
          clear g0 g1 g2 g3 g4 g5 g6 g7
          go_upto_region 24 with (fail)
          generalize w7.alloc (.cells #[.int .i64 x.t, .int .i64 x.f, .int .i64 x.u, .float .f64 x.s, .int .i64 x.c] 26) = w8 at *
          generalize w7.heap.size = Q at *
          clear HP7 HR7 HX7 HK7 HC7
          have HSK : Hid (∀ W, Kp (w.heap.size + 1 + 1) w8 W → (W.cell? ⟨P, 0, none⟩ = some (.int .i64 wt.t) ∧ W.cell? ⟨P, 1, none⟩ = some (.int .i64 wt.f) ∧ W.cell? ⟨P, 2, none⟩ = some (.int .i64 wt.u) ∧ W.cell? ⟨P, 3, none⟩ = some (.float .f64 wt.s) ∧ W.cell? ⟨P, 4, none⟩ = some (.int .i64 wt.c) ∧ W.cell? ⟨Q, 0, none⟩ = some (.int .i64 x.t) ∧ W.cell? ⟨Q, 1, none⟩ = some (.int .i64 x.f) ∧ W.cell? ⟨Q, 2, none⟩ = some (.int .i64 x.u) ∧ W.cell? ⟨Q, 3, none⟩ = some (.float .f64 x.s) ∧ W.cell? ⟨Q, 4, none⟩ = some (.int .i64 x.c))) := Lib.hid (fun W hW => by
            have h := HP8.out.kp hW (by omega)
            have h' := HY8.out.kp hW (by omega)
            exact ⟨h.c0, h.c1, h.c2, h.c3, h.c4, h'.c0, h'.c1, h'.c2, h'.c3, h'.c4⟩)
          have r0 := HR8.out.c0
          have rz0 := HR8.out.fz 0
          have r1 := HR8.out.c1
          have rz1 := HR8.out.fz 1
          have r2 := HR8.out.c2
          have rz2 := HR8.out.fz 2
          have r3 := HR8.out.c3
          have rz3 := HR8.out.fz 3
          have r4 := HR8.out.c4
          have rz4 := HR8.out.fz 4
          have rlt := HR8.out.lt
          have hbb : (bad == bad) = true := by simp
          have p0 := HP8.out.c0
          have p1 := HP8.out.c1
          have p2 := HP8.out.c2
          have p3 := HP8.out.c3
          have p4 := HP8.out.c4
          have plt := HP8.out.lt
          have y0 := HY8.out.c0
          have y1 := HY8.out.c1
          have y2 := HY8.out.c2
          have y3 := HY8.out.c3
          have y4 := HY8.out.c4
          have ylt := HY8.out.lt
          by_cases hb0 : bad = 0
          · subst hb0
            have hxw := HZ.out (by simp)
            subst hxw
            have HEq := Lib.hid (fun W => eqBreaker_any x x W)
            rw [eqB_self] at HEq
            unfold bV at HEq
            have HRd := Lib.hid (show BAt w8.drew (w.heap.size + 1 + 1) _ from HR8.out)
            have HBd := Lib.hid (show Below w.heap.size w w8.drew from HB8.out.drew)
            go_region_law (first | (go_simp; go_at_call 11; refine (HN.out _).mono ?_; rintro e w' ⟨rfl, rfl⟩) | (go_simp; go_at_call 15; refine (HEq.out _).mono ?_; rintro e w5 ⟨rfl, hb5⟩; (have hk5 : Kp (w.heap.size + 1 + 1) w8 w5 := (by with_reducible exact Kp.below (Kp.drew (Kp.refl _ _)) hb5)); (have hP5 := HP8.out.kp hk5 (by omega)); (have hY5 := HY8.out.kp hk5 (by omega)); (have hR5 := HRd.out.later hb5); (have hB5 := HBd.out.trans (hb5.mono HBd.out.size)); (have r0' := hR5.c0); (have rz0' := hR5.fz 0); (have r1' := hR5.c1); (have rz1' := hR5.fz 1); (have r2' := hR5.c2); (have rz2' := hR5.fz 2); (have r3' := hR5.c3); (have rz3' := hR5.fz 3); (have r4' := hR5.c4); (have rz4' := hR5.fz 4); (have rlt' := hR5.lt); (have p0' := hP5.c0); (have y0' := hY5.c0); (have p1' := hP5.c1); (have y1' := hY5.c1); (have p2' := hP5.c2); (have y2' := hY5.c2); (have p3' := hP5.c3); (have y3' := hY5.c3); (have p4' := hP5.c4); (have y4' := hY5.c4)) | (go_simp; go_at_call 15; refine (HEq.out _).mono ?_; rintro e w5 ⟨rfl, hb5⟩; (have hk5 : Kp (w.heap.size + 1 + 1) w8 w5 := (by with_reducible exact Kp.below (Kp.set5 (Kp.drew (Kp.refl _ _)) _ _ _ _ _) hb5)); (have hP5 := HP8.out.kp hk5 (by omega)); (have hY5 := HY8.out.kp hk5 (by omega)); (have hR5 := (HRd.out.set5 x.t x.f x.u x.s x.c).later hb5); (have hB5 := (below_set5 (k := w.heap.size + 1 + 1) HBd.out (by omega) x.t x.f x.u x.s x.c).trans (hb5.mono (by simpa using HB8.out.size))); (have p0' := hP5.c0); (have y0' := hY5.c0); (have p1' := hP5.c1); (have y1' := hY5.c1); (have p2' := hP5.c2); (have y2' := hY5.c2); (have p3' := hP5.c3); (have y3' := hY5.c3); (have p4' := hP5.c4); (have y4' := hY5.c4)))
            all_goals
              go_wp2_with fail
              first
              | (have HS := hR5.set5 x.t x.f x.u x.s x.c
                 have f0 := HS.c0
                 have f1 := HS.c1
                 have f2 := HS.c2
                 have f3 := HS.c3
                 have f4 := HS.c4
                 exact bodyPost_ret (v := .tuple #[bV x, .bool true]) (by simp [results, Try.results14, go_sem, f0, f1, f2, f3, f4, bV]) rfl ⟨⟨x, rfl, HWS.out⟩, below_set5 hB5 (by omega) x.t x.f x.u x.s x.c⟩)
              | (have HS := hR5
                 have f0 := HS.c0
                 have f1 := HS.c1
                 have f2 := HS.c2
                 have f3 := HS.c3
                 have f4 := HS.c4
                 exact bodyPost_ret (v := .tuple #[bV x, .bool true]) (by simp [results, Try.results14, go_sem, f0, f1, f2, f3, f4, bV]) rfl ⟨⟨x, rfl, HWS.out⟩, hB5⟩)
          · have hb0b : (bad == 0) = false := beq_eq_false_iff_ne.2 hb0
            go_region_law (first | (go_simp; go_at_call 11; refine (HN.out _).mono ?_; rintro e w' ⟨rfl, rfl⟩) | fail)
            all_goals
              go_wp2_with fail
              have HS := HR8.out.set5 wt.t wt.f wt.u wt.s wt.c
              have f0 := HS.c0
              have f1 := HS.c1
              have f2 := HS.c2
              have f3 := HS.c3
              have f4 := HS.c4
              exact bodyPost_ret (v := .tuple #[bV wt, .bool true]) (by simp [results, Try.results14, go_sem, f0, f1, f2, f3, f4, bV]) rfl ⟨⟨wt, rfl, HWS.out⟩, (below_set5 HB8.out (by omega) wt.t wt.f wt.u wt.s wt.c).drew⟩
end Go.Proofs.Ytlkikecnlafmeaa
