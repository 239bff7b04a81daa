/-
  One step of a statement's script: whether a try may begin.
  Conditions: as the theorem states them: a word is below 2 to the 64.
-/
import Derived.Test.YtlkikecnlafmeaaQJ
import Derived.Deep.CutRange
import Derived.Deep.DeepCutAuto
import Derived.Deep.RegionWith
import Derived.Deep.RegionHeld3
import Derived.Deep.RegionLaw
import Derived.Deep.QuietTactic
import Derived.BigQuiet
import Derived.WalkSmall
namespace Go.Proofs.Ytlkikecnlafmeaa
open Go.RowKit

set_option maxHeartbeats 8000000 in
set_option maxRecDepth 100000 in
theorem step_may (b : BR) (a : AR) (w : World) (hs : b.s < 18446744073709551616) (_hf : a.fo < 18446744073709551616) (hd : modI a.d 6 = 0) :
    Calls Try.prog 14 #[bV b, aV a] w fun e w' => (∃ x : BR, e = .returned (.tuple #[bV x, .bool true]) ∧ x.s < 18446744073709551616) ∧ Below w.heap.size w w' := by
  have hst := store_float
  have HV := Lib.hid (fun W => rBreaker_any b W hs)
  have HT := Lib.hid (fun W => rNumB_any a.n 1099511627776 W)
  have HWi := Lib.hid (fun W => lWithin_any a.d 6 W (by decide) (by decide))
  have hfr := run_from a.fo
  have HA := Lib.hid ((((Below.refl _ w).alloc (Nat.le_refl _) (.cells #[.int .i64 b.t, .int .i64 b.f, .int .i64 b.u, .float .f64 b.s, .int .i64 b.c] 26)).alloc (by simp) (.cells #[.int .i64 a.d, .int .i64 a.n, .int .i64 a.fl, .int .i64 a.pa, .bool a.ok, .int .u64 (a.fo : Int)] 39)).alloc (by simp; omega) (.cells #[.int .i64 zB.t, .int .i64 zB.f, .int .i64 zB.u, .float .f64 zB.s, .int .i64 zB.c] 26))
  have HX := Lib.hid (((BAt.new w b).alloc (.cells #[.int .i64 a.d, .int .i64 a.n, .int .i64 a.fl, .int .i64 a.pa, .bool a.ok, .int .u64 (a.fo : Int)] 39)).alloc (.cells #[.int .i64 zB.t, .int .i64 zB.f, .int .i64 zB.u, .float .f64 zB.s, .int .i64 zB.c] 26))
  have HK := Lib.hid ((AAt.new1 w (.cells #[.int .i64 b.t, .int .i64 b.f, .int .i64 b.u, .float .f64 b.s, .int .i64 b.c] 26) a).alloc (.cells #[.int .i64 zB.t, .int .i64 zB.f, .int .i64 zB.u, .float .f64 zB.s, .int .i64 zB.c] 26))
  have HR := Lib.hid (BAt.new2 w (.cells #[.int .i64 b.t, .int .i64 b.f, .int .i64 b.u, .float .f64 b.s, .int .i64 b.c] 26) (.cells #[.int .i64 a.d, .int .i64 a.n, .int .i64 a.fl, .int .i64 a.pa, .bool a.ok, .int .u64 (a.fo : Int)] 39) zB)
  have HQ := Lib.hid (show askB b a.n = (okB b && inB a.n 0 1099511627776) from rfl)
  have HS0 := Lib.hid hs
  obtain ⟨bad, ok, hM, hT1, hF⟩ : ∃ (bad : Int) (ok : Bool), outM b a.n = .tuple #[.bool ok, .int .i64 bad] ∧ (askB b a.n = true → 0 = bad ∧ mayB b a.n = ok) ∧ (askB b a.n = false → 1 = bad ∧ false = ok) := by
    cases h : askB b a.n with
    | true => exact ⟨0, mayB b a.n, by unfold outM; rw [h]; rfl, fun _ => ⟨rfl, rfl⟩, (fun h => by cases h)⟩
    | false => exact ⟨1, false, by unfold outM; rw [h]; rfl, (fun h => by cases h), fun _ => ⟨rfl, rfl⟩⟩
  have HM := Lib.hid (fun W => bmay_any b a.n W hs)
  rw [hM] at HM
  have HT1 := Lib.hid hT1
  have HF := Lib.hid hF
  have HP := Lib.hid (fun W => rMay_any b a.n W)
  have HN := Lib.hid (fun W => num_any bad W)
  clear hM hT1 hF
  rw [hd] at HWi
  clear hd
  generalize mayB b a.n = q3 at *
  unfold bV at HM HP
  rw [HQ.out] at *
  generalize okB b = q1 at *
  generalize inB a.n 0 1099511627776 = q2 at *
  unfold bV at HV
  unfold bV aV
  unfold zB at *
  clear HQ hs _hf
  go_enter Try.func14, Try.ntmps14
  go_wp2_with fail
  refine Calls.mono (HV.out _) ?_
  rintro e w1 ⟨rfl, hb⟩
  have HB1 := Lib.hid (HA.out.trans (hb.mono (by simp; omega)))
  have HX1 := Lib.hid (HX.out.later hb)
  have HK1 := Lib.hid (HK.out.later hb)
  have HR1 := Lib.hid (HR.out.later hb)
  have hk0 := HK1.out.c0
  have hk1 := HK1.out.c1
  have hk2 := HK1.out.c2
  have hk3 := HK1.out.c3
  have hk4 := HK1.out.c4
  have hk5 := HK1.out.c5
  clear hb HA HX HK HR HV
  go_upto_region 2 with (fail)
  go_cut [7] (fun nv wc => nv = .bool (q1 && q2) ∧ w1 = wc)
  case first =>
    cases q1 with
    | false =>
      go_wp2_with fail
      go_meet
      case rel => exact ⟨rfl, rfl⟩
    | true =>
      go_wp2_with fail
      refine Calls.mono (HT.out _) ?_
      rintro e w' ⟨rfl, he⟩
      have he := he.symm
      subst he
      go_wp2_with fail
      go_meet
      case rel => exact ⟨rfl, rfl⟩
  case rest =>
    obtain ⟨rfl, rfl⟩ := hcut
    generalize (q1 && q2) = q at *
    go_upto_region 3 with (fail)
    go_cut [8] (fun cv wc => cv = .pointer (some ⟨w1.heap.size, 0, none⟩) ∧ CfAt wc w1.heap.size a.fl a.pa a.fo ∧ Below w1.heap.size w1 wc)
    case first =>
      have HSK : Hid (∀ W, Below w1.heap.size w1 W → (W.cell? ⟨w.heap.size + 1, 2, none⟩ = some (.int .i64 a.fl) ∧ W.cell? ⟨w.heap.size + 1, 3, none⟩ = some (.int .i64 a.pa) ∧ W.cell? ⟨w.heap.size + 1, 5, none⟩ = some (.int .u64 (a.fo : Int)))) := Lib.hid (fun W hW => ⟨(HK1.out.later hW).c2, (HK1.out.later hW).c3, (HK1.out.later hW).c5⟩)
      go_region_held3 (fun W => W.cell? ⟨w.heap.size + 1, 2, none⟩ = some (.int .i64 a.fl) ∧ W.cell? ⟨w.heap.size + 1, 3, none⟩ = some (.int .i64 a.pa) ∧ W.cell? ⟨w.heap.size + 1, 5, none⟩ = some (.int .u64 (a.fo : Int))) (first | exact HSK.out _ (Below.refl _ _).drew | exact HSK.out _ ((Below.refl _ _).alloc (Nat.le_refl _) _).drew) (first | fail | fail)
      all_goals
        go_wp2_with fail
        go_meet
        case rel => exact ⟨rfl, (CfAt.new w1 a.fl a.pa a.fo).drew, ((Below.refl _ _).alloc (Nat.le_refl _) _).drew⟩
    case rest =>
      obtain ⟨rfl, hC, hB⟩ := hcut
      have HX2 := Lib.hid (HX1.out.later hB)
      have HK2 := Lib.hid (HK1.out.later hB)
      have HR2 := Lib.hid (HR1.out.later hB)
      have HC2 := Lib.hid hC
      have HB2 := Lib.hid (HB1.out.trans (hB.mono HB1.out.size))
      clear hB hC HX1 HK1 HR1 HB1 hfr hk0 hk1 hk2 hk3 hk4 hk5 HT
      generalize w1.heap.size = kc at *
      generalize wc = w2 at *
      have k0 := HK2.out.c0
      have k1 := HK2.out.c1
      have k2 := HK2.out.c2
      have k3 := HK2.out.c3
      have k4 := HK2.out.c4
      have k5 := HK2.out.c5
      have m0 := HX2.out.c0
      have m1 := HX2.out.c1
      have m2 := HX2.out.c2
      have m3 := HX2.out.c3
      have m4 := HX2.out.c4
      have mlt := HX2.out.lt
      have g0 := HC2.out.c0
      have g1 := HC2.out.c1
      have g2 := HC2.out.c2
      have g3 := HC2.out.c3
      have g4 := HC2.out.c4
      have g5 := HC2.out.c5
      have g6 := HC2.out.c6
      have g7 := HC2.out.c7
      go_wp2_with fail
      refine Calls.mono (HWi.out _) ?_
      rintro e w' ⟨rfl, he⟩
      have he := he.symm
      subst he
      go_upto_if 42 with (fail)
      go_cut [9, 10] (fun bv qv wc => bv = .int .i64 bad ∧ qv = .bool ok ∧ Below w2.heap.size w2 wc)
      case first =>
        cases q with
        | false =>
          have HH := Lib.hid (HF.out (by simp))
          go_wp2_with fail
          go_meet
          case rel => exact ⟨by rw [HH.out.1], by rw [HH.out.2], Below.refl _ _⟩
        | true =>
          have HH := Lib.hid (HT1.out (by simp))
          go_wp2_with fail
          refine Calls.mono (HP.out _) ?_
          rintro e w3 ⟨rfl, hb3⟩
          go_wp2_with fail
          go_meet
          case rel => exact ⟨by rw [HH.out.1], by rw [HH.out.2], hb3⟩
      case rest =>
        obtain ⟨rfl, rfl, hb3⟩ := hcut
        generalize wc = w3 at *
        have HB3 := Lib.hid (HB2.out.trans (hb3.mono HB2.out.size))
        have HX3 := Lib.hid (HX2.out.later hb3)
        have HK3 := Lib.hid (HK2.out.later hb3)
        have HR3 := Lib.hid (HR2.out.later hb3)
        have HC3 := Lib.hid (HC2.out.later hb3)
        clear hb3 HX2 HK2 HR2 HC2
        clear k0 k1 k2 k3 k4 k5
        clear m0 m1 m2 m3 m4 mlt
        clear g0 g1 g2 g3 g4 g5 g6 g7
        have k0 := HK3.out.c0
        have k1 := HK3.out.c1
        have k2 := HK3.out.c2
        have k3 := HK3.out.c3
        have k4 := HK3.out.c4
        have k5 := HK3.out.c5
        have m0 := HX3.out.c0
        have m1 := HX3.out.c1
        have m2 := HX3.out.c2
        have m3 := HX3.out.c3
        have m4 := HX3.out.c4
        have mlt := HX3.out.lt
        have g0 := HC3.out.c0
        have g1 := HC3.out.c1
        have g2 := HC3.out.c2
        have g3 := HC3.out.c3
        have g4 := HC3.out.c4
        have g5 := HC3.out.c5
        have g6 := HC3.out.c6
        have g7 := HC3.out.c7
        go_wp2_with fail
        refine Calls.mono (HM.out _) ?_
        rintro e w4 ⟨rfl, hb4⟩
        have HB4 := Lib.hid (HB3.out.trans (hb4.mono HB3.out.size))
        have HX4 := Lib.hid (HX3.out.later hb4)
        have HK4 := Lib.hid (HK3.out.later hb4)
        have HR4 := Lib.hid (HR3.out.later hb4)
        have HC4 := Lib.hid (HC3.out.later hb4)
        clear hb4 HX3 HK3 HR3 HC3
        clear k0 k1 k2 k3 k4 k5
        clear m0 m1 m2 m3 m4 mlt
        clear g0 g1 g2 g3 g4 g5 g6 g7
        go_wp2_with fail
        have HSK : Hid (∀ W, Kp (w.heap.size + 1 + 1) w4 W → (W.cell? ⟨w.heap.size, 0, none⟩ = some (.int .i64 b.t) ∧ W.cell? ⟨w.heap.size, 1, none⟩ = some (.int .i64 b.f) ∧ W.cell? ⟨w.heap.size, 2, none⟩ = some (.int .i64 b.u) ∧ W.cell? ⟨w.heap.size, 3, none⟩ = some (.float .f64 b.s) ∧ W.cell? ⟨w.heap.size, 4, none⟩ = some (.int .i64 b.c))) := Lib.hid (fun W hW => by
          have h := HX4.out.kp hW (by omega)
          exact ⟨h.c0, h.c1, h.c2, h.c3, h.c4⟩)
        have r0 := HR4.out.c0
        have rz0 := HR4.out.fz 0
        have r1 := HR4.out.c1
        have rz1 := HR4.out.fz 1
        have r2 := HR4.out.c2
        have rz2 := HR4.out.fz 2
        have r3 := HR4.out.c3
        have rz3 := HR4.out.fz 3
        have r4 := HR4.out.c4
        have rz4 := HR4.out.fz 4
        have rlt := HR4.out.lt
        have hbb : (bad == bad) = true := by simp
        have hoo : (ok == ok) = true := by simp
        go_region_held3 (fun W => W.cell? ⟨w.heap.size, 0, none⟩ = some (.int .i64 b.t) ∧ W.cell? ⟨w.heap.size, 1, none⟩ = some (.int .i64 b.f) ∧ W.cell? ⟨w.heap.size, 2, none⟩ = some (.int .i64 b.u) ∧ W.cell? ⟨w.heap.size, 3, none⟩ = some (.float .f64 b.s) ∧ W.cell? ⟨w.heap.size, 4, none⟩ = some (.int .i64 b.c)) (first | with_reducible exact HSK.out _ (Kp.refl _ _).drew | with_reducible exact HSK.out _ ((Kp.refl _ _).drew.set5 _ _ _ _ _))
          (first | (go_at_call 11; refine (HN.out _).mono ?_; rintro e w' ⟨rfl, rfl⟩) | fail)
        all_goals
          go_wp2_with fail
          have HS := HR4.out.set5 b.t b.f b.u b.s b.c
          have f0 := HS.c0
          have f1 := HS.c1
          have f2 := HS.c2
          have f3 := HS.c3
          have f4 := HS.c4
          exact bodyPost_ret (v := .tuple #[bV b, .bool true]) (by simp [results, Try.results14, go_sem, f0, f1, f2, f3, f4, bV]) rfl ⟨⟨b, rfl, HS0.out⟩, (below_set5 HB4.out (by omega) b.t b.f b.u b.s b.c).drew⟩
end Go.Proofs.Ytlkikecnlafmeaa
