/-
  The page's End, where a try ended badly, walked.
  Conditions: as each theorem states them: a word is below 2 to the 64; a try may end so.
-/
import Derived.Test.YtlkikecnlafmeaaQH
namespace Go.Proofs.Ytlkikecnlafmeaa
open Go.RowKit

set_option maxHeartbeats 2000000 in
theorem rEnd_f (b : BR) (now fl pa : Int) (fo n : Nat) (hn : n = 9221120237041090561) (w : World) (hs : b.s < 18446744073709551616) (hm : mayE b now fl pa = true) (hf1 : b.f + 1 ≤ 1048576) :
    Calls Try.prog 31 #[bV b, .bool false, .int .i64 now, cV fl pa fo] w fun e w' => e = .returned (bV (endB (recB b false) false now fl pa fo n)) ∧ Below w.heap.size w w' := by
  have hst := store_float
  obtain ⟨hq, n1, n2, c1, p1, p2⟩ : okB b = true ∧ 0 ≤ now ∧ now ≤ 1099511627776 ∧ 1 ≤ fl ∧ 0 ≤ pa ∧ pa ≤ 1099511627776 := by
    unfold mayE okC at hm
    simp only [Bool.and_eq_true, inB_iff] at hm
    exact ⟨hm.1.1, hm.1.2.1, hm.1.2.2, hm.2.1.1, hm.2.2.1, hm.2.2.2⟩
  obtain ⟨⟨t0a, t2a⟩, ⟨f1, f2⟩, _, _, hh⟩ := okB_iff.1 hq
  have hok := (rec_ok (ok := false) hs hq).2.2
  have HN := Lib.hid (fun W => rNote_any b.s b.c 0 4598175219545276416 W (by decide) hh okW_q)
  have HNo := Lib.hid (fun W => rnone_any n hn W)
  have HA := Lib.hid ((((Below.refl _ w).alloc (Nat.le_refl _) (.cells #[.int .i64 b.t, .int .i64 b.f, .int .i64 b.u, .float .f64 b.s, .int .i64 b.c] 26)).alloc (by simp) (.cells #[.slice none 0 0, .string ByteArray.empty, .int .i64 0, .int .i64 0, .slice none 0 0, .int .i64 fl, .int .i64 pa, .float .f64 fo] 50)).alloc (by simp; omega) (.cells #[.int .i64 zB.t, .int .i64 zB.f, .int .i64 zB.u, .float .f64 zB.s, .int .i64 zB.c] 26))
  have HX := Lib.hid (((BAt.new w b).alloc (.cells #[.slice none 0 0, .string ByteArray.empty, .int .i64 0, .int .i64 0, .slice none 0 0, .int .i64 fl, .int .i64 pa, .float .f64 fo] 50)).alloc (.cells #[.int .i64 zB.t, .int .i64 zB.f, .int .i64 zB.u, .float .f64 zB.s, .int .i64 zB.c] 26))
  have HK := Lib.hid ((CfAt.new1 w (.cells #[.int .i64 b.t, .int .i64 b.f, .int .i64 b.u, .float .f64 b.s, .int .i64 b.c] 26) fl pa fo).alloc (.cells #[.int .i64 zB.t, .int .i64 zB.f, .int .i64 zB.u, .float .f64 zB.s, .int .i64 zB.c] 26))
  have HR := Lib.hid (BAt.new2 w (.cells #[.int .i64 b.t, .int .i64 b.f, .int .i64 b.u, .float .f64 b.s, .int .i64 b.c] 26) (.cells #[.slice none 0 0, .string ByteArray.empty, .int .i64 0, .int .i64 0, .slice none 0 0, .int .i64 fl, .int .i64 pa, .float .f64 fo] 50) zB)
  obtain ⟨z, hz⟩ : ∃ z, Ending.returned (bV (endB (recB b false) false now fl pa fo n)) = z := ⟨_, rfl⟩
  rw [hz]
  have HZ := Lib.hid (show Ending.returned (bV (endB ⟨b.t, (b.f + 1), b.u, nextS b.s b.c 0 4598175219545276416, nextC b.c 0⟩ false now fl pa fo n)) = z by rw [← hz]; unfold recB failsB; rw [if_neg (by decide), if_pos hf1]; rfl)
  have hok : okH (nextS b.s b.c 0 4598175219545276416) (nextC b.c 0) = true := hok
  generalize nextS b.s b.c 0 4598175219545276416 = s' at *
  generalize nextC b.c 0 = c' at *
  have HG := Lib.hid (fun W => rGood_any s' c' fo W hok)
  have HG0 := Lib.hid (rfl : goodF s' fo = goodF s' fo)
  obtain ⟨g, hg⟩ : ∃ g, goodF s' fo = g := ⟨_, rfl⟩
  rw [hg] at HG
  have HG0 := Lib.hid hg
  clear hg hz hs hn hq hh hok hm
  unfold bV cV
  unfold hV at HN HG HNo
  unfold zB at *
  by_cases t1 : b.t = 1
  · have h1 : (b.t == 1) = true := beq_iff_eq.2 t1
    have HF := Lib.hid (show Ending.returned (bV ⟨b.t, (b.f + 1), b.u, s', c'⟩) = z by rw [← HZ.out]; unfold endB; rw [if_neg (show ¬ b.t = 2 by omega), if_neg (show ¬ b.t = 0 by omega)])
    clear t1 HZ HG HNo
    go_enter Try.func31, Try.ntmps31
    go_wp2_with fail
    refine Calls.mono (HN.out _) ?_
    rintro e w1 ⟨rfl, hb⟩
    have HB1 := Lib.hid (HA.out.trans (hb.mono (by simp; omega)))
    have HX1 := Lib.hid (HX.out.later hb)
    have HK1 := Lib.hid (HK.out.later hb)
    have HR1 := Lib.hid (HR.out.later hb)
    have HB2 := Lib.hid (((HB1.out.setCell (p := ⟨w.heap.size, 3, none⟩) (Nat.le_refl _) (.float .f64 s')).setCell (p := ⟨w.heap.size, 4, none⟩) (Nat.le_refl _) (.int .i64 c')).setCell (p := ⟨w.heap.size, 1, none⟩) (Nat.le_refl _) (.int .i64 (b.f + 1)))
    have HX2 := Lib.hid (((HX1.out.set3 s').set4 c').set1 (b.f + 1))
    have HK2 := Lib.hid (((HK1.out.other (p := ⟨w.heap.size, 3, none⟩) (by simp) (.float .f64 s')).other (p := ⟨w.heap.size, 4, none⟩) (by simp) (.int .i64 c')).other (p := ⟨w.heap.size, 1, none⟩) (by simp) (.int .i64 (b.f + 1)))
    have HR2 := Lib.hid (((HR1.out.other (p := ⟨w.heap.size, 3, none⟩) (by simp; try omega) (.float .f64 s')).other (p := ⟨w.heap.size, 4, none⟩) (by simp; try omega) (.int .i64 c')).other (p := ⟨w.heap.size, 1, none⟩) (by simp; try omega) (.int .i64 (b.f + 1)))
    have r0 := HR1.out.c0
    have rz0 := HR1.out.fz 0
    have r1 := HR1.out.c1
    have rz1 := HR1.out.fz 1
    have r2 := HR1.out.c2
    have rz2 := HR1.out.fz 2
    have r3 := HR1.out.c3
    have rz3 := HR1.out.fz 3
    have r4 := HR1.out.c4
    have rz4 := HR1.out.fz 4
    have rlt := HR1.out.lt
    have m0 := HX1.out.c0
    have mz0 := HX1.out.fz 0
    have m1 := HX1.out.c1
    have mz1 := HX1.out.fz 1
    have m2 := HX1.out.c2
    have mz2 := HX1.out.fz 2
    have m3 := HX1.out.c3
    have mz3 := HX1.out.fz 3
    have m4 := HX1.out.c4
    have mz4 := HX1.out.fz 4
    have mlt := HX1.out.lt
    have k0 := HK1.out.c0
    have k1 := HK1.out.c1
    have k2 := HK1.out.c2
    have k3 := HK1.out.c3
    have k4 := HK1.out.c4
    have k5 := HK1.out.c5
    have k6 := HK1.out.c6
    have k7 := HK1.out.c7
    clear hb HA HX HK HR HX1 HK1 HR1 HB1
    go_wp2_with fail
    generalize (((w1.setCell ⟨w.heap.size, 3, none⟩ (.float .f64 s')).setCell ⟨w.heap.size, 4, none⟩ (.int .i64 c')).setCell ⟨w.heap.size, 1, none⟩ (.int .i64 (b.f + 1))) = w2 at *
    clear r0 rz0 r1 rz1 r2 rz2 r3 rz3 r4 rz4 rlt
    clear m0 mz0 m1 mz1 m2 mz2 m3 mz3 m4 mz4 mlt
    clear k0 k1 k2 k3 k4 k5 k6 k7
    have r0 := HR2.out.c0
    have rz0 := HR2.out.fz 0
    have r1 := HR2.out.c1
    have rz1 := HR2.out.fz 1
    have r2 := HR2.out.c2
    have rz2 := HR2.out.fz 2
    have r3 := HR2.out.c3
    have rz3 := HR2.out.fz 3
    have r4 := HR2.out.c4
    have rz4 := HR2.out.fz 4
    have rlt := HR2.out.lt
    have m0 := HX2.out.c0
    have mz0 := HX2.out.fz 0
    have m1 := HX2.out.c1
    have mz1 := HX2.out.fz 1
    have m2 := HX2.out.c2
    have mz2 := HX2.out.fz 2
    have m3 := HX2.out.c3
    have mz3 := HX2.out.fz 3
    have m4 := HX2.out.c4
    have mz4 := HX2.out.fz 4
    have mlt := HX2.out.lt
    have k0 := HK2.out.c0
    have k1 := HK2.out.c1
    have k2 := HK2.out.c2
    have k3 := HK2.out.c3
    have k4 := HK2.out.c4
    have k5 := HK2.out.c5
    have k6 := HK2.out.c6
    have k7 := HK2.out.c7
    have HBe := HB2.out
    have HS := HR2.out.set5 (b.t) ((b.f + 1)) (b.u) (s') (c')
    have f0 := HS.c0
    have f1 := HS.c1
    have f2 := HS.c2
    have f3 := HS.c3
    have f4 := HS.c4
    exact bodyPost_ret (v := bV ⟨b.t, (b.f + 1), b.u, s', c'⟩) (by simp [results, Try.results31, go_sem, f0, f1, f2, f3, f4, bV]) rfl ⟨HF.out, (below_set5 HBe (by omega) (b.t) ((b.f + 1)) (b.u) (s') (c'))⟩
  · have h1 : (b.t == 1) = false := beq_eq_false_iff_ne.2 t1
    by_cases t2 : b.t = 2
    · have h2 : (b.t == 2) = true := beq_iff_eq.2 t2
      have HF := Lib.hid (show Ending.returned (bV ⟨1, (b.f + 1), now + pa, s', c'⟩) = z by rw [← HZ.out]; unfold endB; rw [if_pos t2]; rfl)
      clear t1 t2 HZ HG HNo
      go_enter Try.func31, Try.ntmps31
      go_wp2_with fail
      refine Calls.mono (HN.out _) ?_
      rintro e w1 ⟨rfl, hb⟩
      have HB1 := Lib.hid (HA.out.trans (hb.mono (by simp; omega)))
      have HX1 := Lib.hid (HX.out.later hb)
      have HK1 := Lib.hid (HK.out.later hb)
      have HR1 := Lib.hid (HR.out.later hb)
      have HB2 := Lib.hid (((HB1.out.setCell (p := ⟨w.heap.size, 3, none⟩) (Nat.le_refl _) (.float .f64 s')).setCell (p := ⟨w.heap.size, 4, none⟩) (Nat.le_refl _) (.int .i64 c')).setCell (p := ⟨w.heap.size, 1, none⟩) (Nat.le_refl _) (.int .i64 (b.f + 1)))
      have HX2 := Lib.hid (((HX1.out.set3 s').set4 c').set1 (b.f + 1))
      have HK2 := Lib.hid (((HK1.out.other (p := ⟨w.heap.size, 3, none⟩) (by simp) (.float .f64 s')).other (p := ⟨w.heap.size, 4, none⟩) (by simp) (.int .i64 c')).other (p := ⟨w.heap.size, 1, none⟩) (by simp) (.int .i64 (b.f + 1)))
      have HR2 := Lib.hid (((HR1.out.other (p := ⟨w.heap.size, 3, none⟩) (by simp; try omega) (.float .f64 s')).other (p := ⟨w.heap.size, 4, none⟩) (by simp; try omega) (.int .i64 c')).other (p := ⟨w.heap.size, 1, none⟩) (by simp; try omega) (.int .i64 (b.f + 1)))
      have r0 := HR1.out.c0
      have rz0 := HR1.out.fz 0
      have r1 := HR1.out.c1
      have rz1 := HR1.out.fz 1
      have r2 := HR1.out.c2
      have rz2 := HR1.out.fz 2
      have r3 := HR1.out.c3
      have rz3 := HR1.out.fz 3
      have r4 := HR1.out.c4
      have rz4 := HR1.out.fz 4
      have rlt := HR1.out.lt
      have m0 := HX1.out.c0
      have mz0 := HX1.out.fz 0
      have m1 := HX1.out.c1
      have mz1 := HX1.out.fz 1
      have m2 := HX1.out.c2
      have mz2 := HX1.out.fz 2
      have m3 := HX1.out.c3
      have mz3 := HX1.out.fz 3
      have m4 := HX1.out.c4
      have mz4 := HX1.out.fz 4
      have mlt := HX1.out.lt
      have k0 := HK1.out.c0
      have k1 := HK1.out.c1
      have k2 := HK1.out.c2
      have k3 := HK1.out.c3
      have k4 := HK1.out.c4
      have k5 := HK1.out.c5
      have k6 := HK1.out.c6
      have k7 := HK1.out.c7
      clear hb HA HX HK HR HX1 HK1 HR1 HB1
      go_wp2_with fail
      generalize (((w1.setCell ⟨w.heap.size, 3, none⟩ (.float .f64 s')).setCell ⟨w.heap.size, 4, none⟩ (.int .i64 c')).setCell ⟨w.heap.size, 1, none⟩ (.int .i64 (b.f + 1))) = w2 at *
      clear r0 rz0 r1 rz1 r2 rz2 r3 rz3 r4 rz4 rlt
      clear m0 mz0 m1 mz1 m2 mz2 m3 mz3 m4 mz4 mlt
      clear k0 k1 k2 k3 k4 k5 k6 k7
      have r0 := HR2.out.c0
      have rz0 := HR2.out.fz 0
      have r1 := HR2.out.c1
      have rz1 := HR2.out.fz 1
      have r2 := HR2.out.c2
      have rz2 := HR2.out.fz 2
      have r3 := HR2.out.c3
      have rz3 := HR2.out.fz 3
      have r4 := HR2.out.c4
      have rz4 := HR2.out.fz 4
      have rlt := HR2.out.lt
      have m0 := HX2.out.c0
      have mz0 := HX2.out.fz 0
      have m1 := HX2.out.c1
      have mz1 := HX2.out.fz 1
      have m2 := HX2.out.c2
      have mz2 := HX2.out.fz 2
      have m3 := HX2.out.c3
      have mz3 := HX2.out.fz 3
      have m4 := HX2.out.c4
      have mz4 := HX2.out.fz 4
      have mlt := HX2.out.lt
      have k0 := HK2.out.c0
      have k1 := HK2.out.c1
      have k2 := HK2.out.c2
      have k3 := HK2.out.c3
      have k4 := HK2.out.c4
      have k5 := HK2.out.c5
      have k6 := HK2.out.c6
      have k7 := HK2.out.c7
      go_region
      go_wp2_with fail
      have HBe := ((HB2.out.setCell (p := ⟨w.heap.size, 0, none⟩) (Nat.le_refl _) (.int .i64 1)).setCell (p := ⟨w.heap.size, 2, none⟩) (Nat.le_refl _) (.int .i64 (now + pa)))
      have HS := ((HR2.out.other (p := ⟨w.heap.size, 0, none⟩) (by simp; try omega) (.int .i64 1)).other (p := ⟨w.heap.size, 2, none⟩) (by simp; try omega) (.int .i64 (now + pa))).set5 (1) ((b.f + 1)) (now + pa) (s') (c')
      have f0 := HS.c0
      have f1 := HS.c1
      have f2 := HS.c2
      have f3 := HS.c3
      have f4 := HS.c4
      exact bodyPost_ret (v := bV ⟨1, (b.f + 1), now + pa, s', c'⟩) (by simp [results, Try.results31, go_sem, f0, f1, f2, f3, f4, bV]) rfl ⟨HF.out, (below_set5 HBe (by omega) (1) ((b.f + 1)) (now + pa) (s') (c')).drew⟩
    · have t0 : b.t = 0 := by omega
      have h2 : (b.t == 2) = false := beq_eq_false_iff_ne.2 t2
      by_cases hf : fl ≤ (b.f + 1)
      · have HF := Lib.hid (show Ending.returned (bV ⟨1, (b.f + 1), now + pa, s', c'⟩) = z by rw [← HZ.out]; unfold endB; rw [if_neg t2, if_pos t0, decide_eq_true hf]; rfl)
        clear t1 t2 t0 HZ HG HNo
        go_enter Try.func31, Try.ntmps31
        go_wp2_with fail
        refine Calls.mono (HN.out _) ?_
        rintro e w1 ⟨rfl, hb⟩
        have HB1 := Lib.hid (HA.out.trans (hb.mono (by simp; omega)))
        have HX1 := Lib.hid (HX.out.later hb)
        have HK1 := Lib.hid (HK.out.later hb)
        have HR1 := Lib.hid (HR.out.later hb)
        have HB2 := Lib.hid (((HB1.out.setCell (p := ⟨w.heap.size, 3, none⟩) (Nat.le_refl _) (.float .f64 s')).setCell (p := ⟨w.heap.size, 4, none⟩) (Nat.le_refl _) (.int .i64 c')).setCell (p := ⟨w.heap.size, 1, none⟩) (Nat.le_refl _) (.int .i64 (b.f + 1)))
        have HX2 := Lib.hid (((HX1.out.set3 s').set4 c').set1 (b.f + 1))
        have HK2 := Lib.hid (((HK1.out.other (p := ⟨w.heap.size, 3, none⟩) (by simp) (.float .f64 s')).other (p := ⟨w.heap.size, 4, none⟩) (by simp) (.int .i64 c')).other (p := ⟨w.heap.size, 1, none⟩) (by simp) (.int .i64 (b.f + 1)))
        have HR2 := Lib.hid (((HR1.out.other (p := ⟨w.heap.size, 3, none⟩) (by simp; try omega) (.float .f64 s')).other (p := ⟨w.heap.size, 4, none⟩) (by simp; try omega) (.int .i64 c')).other (p := ⟨w.heap.size, 1, none⟩) (by simp; try omega) (.int .i64 (b.f + 1)))
        have r0 := HR1.out.c0
        have rz0 := HR1.out.fz 0
        have r1 := HR1.out.c1
        have rz1 := HR1.out.fz 1
        have r2 := HR1.out.c2
        have rz2 := HR1.out.fz 2
        have r3 := HR1.out.c3
        have rz3 := HR1.out.fz 3
        have r4 := HR1.out.c4
        have rz4 := HR1.out.fz 4
        have rlt := HR1.out.lt
        have m0 := HX1.out.c0
        have mz0 := HX1.out.fz 0
        have m1 := HX1.out.c1
        have mz1 := HX1.out.fz 1
        have m2 := HX1.out.c2
        have mz2 := HX1.out.fz 2
        have m3 := HX1.out.c3
        have mz3 := HX1.out.fz 3
        have m4 := HX1.out.c4
        have mz4 := HX1.out.fz 4
        have mlt := HX1.out.lt
        have k0 := HK1.out.c0
        have k1 := HK1.out.c1
        have k2 := HK1.out.c2
        have k3 := HK1.out.c3
        have k4 := HK1.out.c4
        have k5 := HK1.out.c5
        have k6 := HK1.out.c6
        have k7 := HK1.out.c7
        clear hb HA HX HK HR HX1 HK1 HR1 HB1
        go_wp2_with fail
        generalize (((w1.setCell ⟨w.heap.size, 3, none⟩ (.float .f64 s')).setCell ⟨w.heap.size, 4, none⟩ (.int .i64 c')).setCell ⟨w.heap.size, 1, none⟩ (.int .i64 (b.f + 1))) = w2 at *
        clear r0 rz0 r1 rz1 r2 rz2 r3 rz3 r4 rz4 rlt
        clear m0 mz0 m1 mz1 m2 mz2 m3 mz3 m4 mz4 mlt
        clear k0 k1 k2 k3 k4 k5 k6 k7
        have r0 := HR2.out.c0
        have rz0 := HR2.out.fz 0
        have r1 := HR2.out.c1
        have rz1 := HR2.out.fz 1
        have r2 := HR2.out.c2
        have rz2 := HR2.out.fz 2
        have r3 := HR2.out.c3
        have rz3 := HR2.out.fz 3
        have r4 := HR2.out.c4
        have rz4 := HR2.out.fz 4
        have rlt := HR2.out.lt
        have m0 := HX2.out.c0
        have mz0 := HX2.out.fz 0
        have m1 := HX2.out.c1
        have mz1 := HX2.out.fz 1
        have m2 := HX2.out.c2
        have mz2 := HX2.out.fz 2
        have m3 := HX2.out.c3
        have mz3 := HX2.out.fz 3
        have m4 := HX2.out.c4
        have mz4 := HX2.out.fz 4
        have mlt := HX2.out.lt
        have k0 := HK2.out.c0
        have k1 := HK2.out.c1
        have k2 := HK2.out.c2
        have k3 := HK2.out.c3
        have k4 := HK2.out.c4
        have k5 := HK2.out.c5
        have k6 := HK2.out.c6
        have k7 := HK2.out.c7
        go_region
        go_wp2_with fail
        have HBe := ((HB2.out.setCell (p := ⟨w.heap.size, 0, none⟩) (Nat.le_refl _) (.int .i64 1)).setCell (p := ⟨w.heap.size, 2, none⟩) (Nat.le_refl _) (.int .i64 (now + pa)))
        have HS := ((HR2.out.other (p := ⟨w.heap.size, 0, none⟩) (by simp; try omega) (.int .i64 1)).other (p := ⟨w.heap.size, 2, none⟩) (by simp; try omega) (.int .i64 (now + pa))).set5 (1) ((b.f + 1)) (now + pa) (s') (c')
        have f0 := HS.c0
        have f1 := HS.c1
        have f2 := HS.c2
        have f3 := HS.c3
        have f4 := HS.c4
        exact bodyPost_ret (v := bV ⟨1, (b.f + 1), now + pa, s', c'⟩) (by simp [results, Try.results31, go_sem, f0, f1, f2, f3, f4, bV]) rfl ⟨HF.out, (below_set5 HBe (by omega) (1) ((b.f + 1)) (now + pa) (s') (c')).drew⟩
      · have hfd : decide (fl ≤ (b.f + 1)) = false := decide_eq_false hf
        cases g with
        | false =>
          have HF := Lib.hid (show Ending.returned (bV ⟨1, (b.f + 1), now + pa, s', c'⟩) = z by rw [← HZ.out]; unfold endB; rw [if_neg t2, if_pos t0, hfd, HG0.out]; rfl)
          clear t1 t2 t0 HZ HNo hf
          go_enter Try.func31, Try.ntmps31
          go_wp2_with fail
          refine Calls.mono (HN.out _) ?_
          rintro e w1 ⟨rfl, hb⟩
          have HB1 := Lib.hid (HA.out.trans (hb.mono (by simp; omega)))
          have HX1 := Lib.hid (HX.out.later hb)
          have HK1 := Lib.hid (HK.out.later hb)
          have HR1 := Lib.hid (HR.out.later hb)
          have HB2 := Lib.hid (((HB1.out.setCell (p := ⟨w.heap.size, 3, none⟩) (Nat.le_refl _) (.float .f64 s')).setCell (p := ⟨w.heap.size, 4, none⟩) (Nat.le_refl _) (.int .i64 c')).setCell (p := ⟨w.heap.size, 1, none⟩) (Nat.le_refl _) (.int .i64 (b.f + 1)))
          have HX2 := Lib.hid (((HX1.out.set3 s').set4 c').set1 (b.f + 1))
          have HK2 := Lib.hid (((HK1.out.other (p := ⟨w.heap.size, 3, none⟩) (by simp) (.float .f64 s')).other (p := ⟨w.heap.size, 4, none⟩) (by simp) (.int .i64 c')).other (p := ⟨w.heap.size, 1, none⟩) (by simp) (.int .i64 (b.f + 1)))
          have HR2 := Lib.hid (((HR1.out.other (p := ⟨w.heap.size, 3, none⟩) (by simp; try omega) (.float .f64 s')).other (p := ⟨w.heap.size, 4, none⟩) (by simp; try omega) (.int .i64 c')).other (p := ⟨w.heap.size, 1, none⟩) (by simp; try omega) (.int .i64 (b.f + 1)))
          have r0 := HR1.out.c0
          have rz0 := HR1.out.fz 0
          have r1 := HR1.out.c1
          have rz1 := HR1.out.fz 1
          have r2 := HR1.out.c2
          have rz2 := HR1.out.fz 2
          have r3 := HR1.out.c3
          have rz3 := HR1.out.fz 3
          have r4 := HR1.out.c4
          have rz4 := HR1.out.fz 4
          have rlt := HR1.out.lt
          have m0 := HX1.out.c0
          have mz0 := HX1.out.fz 0
          have m1 := HX1.out.c1
          have mz1 := HX1.out.fz 1
          have m2 := HX1.out.c2
          have mz2 := HX1.out.fz 2
          have m3 := HX1.out.c3
          have mz3 := HX1.out.fz 3
          have m4 := HX1.out.c4
          have mz4 := HX1.out.fz 4
          have mlt := HX1.out.lt
          have k0 := HK1.out.c0
          have k1 := HK1.out.c1
          have k2 := HK1.out.c2
          have k3 := HK1.out.c3
          have k4 := HK1.out.c4
          have k5 := HK1.out.c5
          have k6 := HK1.out.c6
          have k7 := HK1.out.c7
          clear hb HA HX HK HR HX1 HK1 HR1 HB1
          go_wp2_with fail
          generalize (((w1.setCell ⟨w.heap.size, 3, none⟩ (.float .f64 s')).setCell ⟨w.heap.size, 4, none⟩ (.int .i64 c')).setCell ⟨w.heap.size, 1, none⟩ (.int .i64 (b.f + 1))) = w2 at *
          clear r0 rz0 r1 rz1 r2 rz2 r3 rz3 r4 rz4 rlt
          clear m0 mz0 m1 mz1 m2 mz2 m3 mz3 m4 mz4 mlt
          clear k0 k1 k2 k3 k4 k5 k6 k7
          have r0 := HR2.out.c0
          have rz0 := HR2.out.fz 0
          have r1 := HR2.out.c1
          have rz1 := HR2.out.fz 1
          have r2 := HR2.out.c2
          have rz2 := HR2.out.fz 2
          have r3 := HR2.out.c3
          have rz3 := HR2.out.fz 3
          have r4 := HR2.out.c4
          have rz4 := HR2.out.fz 4
          have rlt := HR2.out.lt
          have m0 := HX2.out.c0
          have mz0 := HX2.out.fz 0
          have m1 := HX2.out.c1
          have mz1 := HX2.out.fz 1
          have m2 := HX2.out.c2
          have mz2 := HX2.out.fz 2
          have m3 := HX2.out.c3
          have mz3 := HX2.out.fz 3
          have m4 := HX2.out.c4
          have mz4 := HX2.out.fz 4
          have mlt := HX2.out.lt
          have k0 := HK2.out.c0
          have k1 := HK2.out.c1
          have k2 := HK2.out.c2
          have k3 := HK2.out.c3
          have k4 := HK2.out.c4
          have k5 := HK2.out.c5
          have k6 := HK2.out.c6
          have k7 := HK2.out.c7
          refine Calls.mono (HG.out _) ?_
          rintro e w5 ⟨rfl, hb5⟩
          have HB5 := Lib.hid (HB2.out.trans (hb5.mono HB2.out.size))
          have HX5 := Lib.hid (HX2.out.later hb5)
          have HK5 := Lib.hid (HK2.out.later hb5)
          have HR5 := Lib.hid (HR2.out.later hb5)
          clear r0 rz0 r1 rz1 r2 rz2 r3 rz3 r4 rz4 rlt
          clear m0 mz0 m1 mz1 m2 mz2 m3 mz3 m4 mz4 mlt
          clear k0 k1 k2 k3 k4 k5 k6 k7
          have r0 := HR5.out.c0
          have rz0 := HR5.out.fz 0
          have r1 := HR5.out.c1
          have rz1 := HR5.out.fz 1
          have r2 := HR5.out.c2
          have rz2 := HR5.out.fz 2
          have r3 := HR5.out.c3
          have rz3 := HR5.out.fz 3
          have r4 := HR5.out.c4
          have rz4 := HR5.out.fz 4
          have rlt := HR5.out.lt
          have m0 := HX5.out.c0
          have mz0 := HX5.out.fz 0
          have m1 := HX5.out.c1
          have mz1 := HX5.out.fz 1
          have m2 := HX5.out.c2
          have mz2 := HX5.out.fz 2
          have m3 := HX5.out.c3
          have mz3 := HX5.out.fz 3
          have m4 := HX5.out.c4
          have mz4 := HX5.out.fz 4
          have mlt := HX5.out.lt
          have k0 := HK5.out.c0
          have k1 := HK5.out.c1
          have k2 := HK5.out.c2
          have k3 := HK5.out.c3
          have k4 := HK5.out.c4
          have k5 := HK5.out.c5
          have k6 := HK5.out.c6
          have k7 := HK5.out.c7
          clear hb5 HX2 HK2 HR2
          go_wp2_with fail
          go_region
          go_wp2_with fail
          have HBe := ((HB5.out.setCell (p := ⟨w.heap.size, 0, none⟩) (Nat.le_refl _) (.int .i64 1)).setCell (p := ⟨w.heap.size, 2, none⟩) (Nat.le_refl _) (.int .i64 (now + pa)))
          have HS := ((HR5.out.other (p := ⟨w.heap.size, 0, none⟩) (by simp; try omega) (.int .i64 1)).other (p := ⟨w.heap.size, 2, none⟩) (by simp; try omega) (.int .i64 (now + pa))).set5 (1) ((b.f + 1)) (now + pa) (s') (c')
          have f0 := HS.c0
          have f1 := HS.c1
          have f2 := HS.c2
          have f3 := HS.c3
          have f4 := HS.c4
          exact bodyPost_ret (v := bV ⟨1, (b.f + 1), now + pa, s', c'⟩) (by simp [results, Try.results31, go_sem, f0, f1, f2, f3, f4, bV]) rfl ⟨HF.out, (below_set5 HBe (by omega) (1) ((b.f + 1)) (now + pa) (s') (c')).drew⟩
        | true =>
          have HF := Lib.hid (show Ending.returned (bV ⟨b.t, (b.f + 1), b.u, s', c'⟩) = z by rw [← HZ.out]; unfold endB; rw [if_neg t2, if_pos t0, hfd, HG0.out]; rfl)
          clear t1 t2 t0 HZ HNo hf
          go_enter Try.func31, Try.ntmps31
          go_wp2_with fail
          refine Calls.mono (HN.out _) ?_
          rintro e w1 ⟨rfl, hb⟩
          have HB1 := Lib.hid (HA.out.trans (hb.mono (by simp; omega)))
          have HX1 := Lib.hid (HX.out.later hb)
          have HK1 := Lib.hid (HK.out.later hb)
          have HR1 := Lib.hid (HR.out.later hb)
          have HB2 := Lib.hid (((HB1.out.setCell (p := ⟨w.heap.size, 3, none⟩) (Nat.le_refl _) (.float .f64 s')).setCell (p := ⟨w.heap.size, 4, none⟩) (Nat.le_refl _) (.int .i64 c')).setCell (p := ⟨w.heap.size, 1, none⟩) (Nat.le_refl _) (.int .i64 (b.f + 1)))
          have HX2 := Lib.hid (((HX1.out.set3 s').set4 c').set1 (b.f + 1))
          have HK2 := Lib.hid (((HK1.out.other (p := ⟨w.heap.size, 3, none⟩) (by simp) (.float .f64 s')).other (p := ⟨w.heap.size, 4, none⟩) (by simp) (.int .i64 c')).other (p := ⟨w.heap.size, 1, none⟩) (by simp) (.int .i64 (b.f + 1)))
          have HR2 := Lib.hid (((HR1.out.other (p := ⟨w.heap.size, 3, none⟩) (by simp; try omega) (.float .f64 s')).other (p := ⟨w.heap.size, 4, none⟩) (by simp; try omega) (.int .i64 c')).other (p := ⟨w.heap.size, 1, none⟩) (by simp; try omega) (.int .i64 (b.f + 1)))
          have r0 := HR1.out.c0
          have rz0 := HR1.out.fz 0
          have r1 := HR1.out.c1
          have rz1 := HR1.out.fz 1
          have r2 := HR1.out.c2
          have rz2 := HR1.out.fz 2
          have r3 := HR1.out.c3
          have rz3 := HR1.out.fz 3
          have r4 := HR1.out.c4
          have rz4 := HR1.out.fz 4
          have rlt := HR1.out.lt
          have m0 := HX1.out.c0
          have mz0 := HX1.out.fz 0
          have m1 := HX1.out.c1
          have mz1 := HX1.out.fz 1
          have m2 := HX1.out.c2
          have mz2 := HX1.out.fz 2
          have m3 := HX1.out.c3
          have mz3 := HX1.out.fz 3
          have m4 := HX1.out.c4
          have mz4 := HX1.out.fz 4
          have mlt := HX1.out.lt
          have k0 := HK1.out.c0
          have k1 := HK1.out.c1
          have k2 := HK1.out.c2
          have k3 := HK1.out.c3
          have k4 := HK1.out.c4
          have k5 := HK1.out.c5
          have k6 := HK1.out.c6
          have k7 := HK1.out.c7
          clear hb HA HX HK HR HX1 HK1 HR1 HB1
          go_wp2_with fail
          generalize (((w1.setCell ⟨w.heap.size, 3, none⟩ (.float .f64 s')).setCell ⟨w.heap.size, 4, none⟩ (.int .i64 c')).setCell ⟨w.heap.size, 1, none⟩ (.int .i64 (b.f + 1))) = w2 at *
          clear r0 rz0 r1 rz1 r2 rz2 r3 rz3 r4 rz4 rlt
          clear m0 mz0 m1 mz1 m2 mz2 m3 mz3 m4 mz4 mlt
          clear k0 k1 k2 k3 k4 k5 k6 k7
          have r0 := HR2.out.c0
          have rz0 := HR2.out.fz 0
          have r1 := HR2.out.c1
          have rz1 := HR2.out.fz 1
          have r2 := HR2.out.c2
          have rz2 := HR2.out.fz 2
          have r3 := HR2.out.c3
          have rz3 := HR2.out.fz 3
          have r4 := HR2.out.c4
          have rz4 := HR2.out.fz 4
          have rlt := HR2.out.lt
          have m0 := HX2.out.c0
          have mz0 := HX2.out.fz 0
          have m1 := HX2.out.c1
          have mz1 := HX2.out.fz 1
          have m2 := HX2.out.c2
          have mz2 := HX2.out.fz 2
          have m3 := HX2.out.c3
          have mz3 := HX2.out.fz 3
          have m4 := HX2.out.c4
          have mz4 := HX2.out.fz 4
          have mlt := HX2.out.lt
          have k0 := HK2.out.c0
          have k1 := HK2.out.c1
          have k2 := HK2.out.c2
          have k3 := HK2.out.c3
          have k4 := HK2.out.c4
          have k5 := HK2.out.c5
          have k6 := HK2.out.c6
          have k7 := HK2.out.c7
          refine Calls.mono (HG.out _) ?_
          rintro e w5 ⟨rfl, hb5⟩
          have HB5 := Lib.hid (HB2.out.trans (hb5.mono HB2.out.size))
          have HX5 := Lib.hid (HX2.out.later hb5)
          have HK5 := Lib.hid (HK2.out.later hb5)
          have HR5 := Lib.hid (HR2.out.later hb5)
          clear r0 rz0 r1 rz1 r2 rz2 r3 rz3 r4 rz4 rlt
          clear m0 mz0 m1 mz1 m2 mz2 m3 mz3 m4 mz4 mlt
          clear k0 k1 k2 k3 k4 k5 k6 k7
          have r0 := HR5.out.c0
          have rz0 := HR5.out.fz 0
          have r1 := HR5.out.c1
          have rz1 := HR5.out.fz 1
          have r2 := HR5.out.c2
          have rz2 := HR5.out.fz 2
          have r3 := HR5.out.c3
          have rz3 := HR5.out.fz 3
          have r4 := HR5.out.c4
          have rz4 := HR5.out.fz 4
          have rlt := HR5.out.lt
          have m0 := HX5.out.c0
          have mz0 := HX5.out.fz 0
          have m1 := HX5.out.c1
          have mz1 := HX5.out.fz 1
          have m2 := HX5.out.c2
          have mz2 := HX5.out.fz 2
          have m3 := HX5.out.c3
          have mz3 := HX5.out.fz 3
          have m4 := HX5.out.c4
          have mz4 := HX5.out.fz 4
          have mlt := HX5.out.lt
          have k0 := HK5.out.c0
          have k1 := HK5.out.c1
          have k2 := HK5.out.c2
          have k3 := HK5.out.c3
          have k4 := HK5.out.c4
          have k5 := HK5.out.c5
          have k6 := HK5.out.c6
          have k7 := HK5.out.c7
          clear hb5 HX2 HK2 HR2
          go_wp2_with fail
          have HBe := HB5.out
          have HS := HR5.out.set5 (b.t) ((b.f + 1)) (b.u) (s') (c')
          have f0 := HS.c0
          have f1 := HS.c1
          have f2 := HS.c2
          have f3 := HS.c3
          have f4 := HS.c4
          exact bodyPost_ret (v := bV ⟨b.t, (b.f + 1), b.u, s', c'⟩) (by simp [results, Try.results31, go_sem, f0, f1, f2, f3, f4, bV]) rfl ⟨HF.out, (below_set5 HBe (by omega) (b.t) ((b.f + 1)) (b.u) (s') (c'))⟩
set_option maxHeartbeats 2000000 in
theorem rEnd_g (b : BR) (now fl pa : Int) (fo n : Nat) (hn : n = 9221120237041090561) (w : World) (hs : b.s < 18446744073709551616) (hm : mayE b now fl pa = true) (hf1 : ¬ b.f + 1 ≤ 1048576) :
    Calls Try.prog 31 #[bV b, .bool false, .int .i64 now, cV fl pa fo] w fun e w' => e = .returned (bV (endB (recB b false) false now fl pa fo n)) ∧ Below w.heap.size w w' := by
  have hst := store_float
  obtain ⟨hq, n1, n2, c1, p1, p2⟩ : okB b = true ∧ 0 ≤ now ∧ now ≤ 1099511627776 ∧ 1 ≤ fl ∧ 0 ≤ pa ∧ pa ≤ 1099511627776 := by
    unfold mayE okC at hm
    simp only [Bool.and_eq_true, inB_iff] at hm
    exact ⟨hm.1.1, hm.1.2.1, hm.1.2.2, hm.2.1.1, hm.2.2.1, hm.2.2.2⟩
  obtain ⟨⟨t0a, t2a⟩, ⟨f1, f2⟩, _, _, hh⟩ := okB_iff.1 hq
  have hok := (rec_ok (ok := false) hs hq).2.2
  have HN := Lib.hid (fun W => rNote_any b.s b.c 0 4598175219545276416 W (by decide) hh okW_q)
  have HNo := Lib.hid (fun W => rnone_any n hn W)
  have HA := Lib.hid ((((Below.refl _ w).alloc (Nat.le_refl _) (.cells #[.int .i64 b.t, .int .i64 b.f, .int .i64 b.u, .float .f64 b.s, .int .i64 b.c] 26)).alloc (by simp) (.cells #[.slice none 0 0, .string ByteArray.empty, .int .i64 0, .int .i64 0, .slice none 0 0, .int .i64 fl, .int .i64 pa, .float .f64 fo] 50)).alloc (by simp; omega) (.cells #[.int .i64 zB.t, .int .i64 zB.f, .int .i64 zB.u, .float .f64 zB.s, .int .i64 zB.c] 26))
  have HX := Lib.hid (((BAt.new w b).alloc (.cells #[.slice none 0 0, .string ByteArray.empty, .int .i64 0, .int .i64 0, .slice none 0 0, .int .i64 fl, .int .i64 pa, .float .f64 fo] 50)).alloc (.cells #[.int .i64 zB.t, .int .i64 zB.f, .int .i64 zB.u, .float .f64 zB.s, .int .i64 zB.c] 26))
  have HK := Lib.hid ((CfAt.new1 w (.cells #[.int .i64 b.t, .int .i64 b.f, .int .i64 b.u, .float .f64 b.s, .int .i64 b.c] 26) fl pa fo).alloc (.cells #[.int .i64 zB.t, .int .i64 zB.f, .int .i64 zB.u, .float .f64 zB.s, .int .i64 zB.c] 26))
  have HR := Lib.hid (BAt.new2 w (.cells #[.int .i64 b.t, .int .i64 b.f, .int .i64 b.u, .float .f64 b.s, .int .i64 b.c] 26) (.cells #[.slice none 0 0, .string ByteArray.empty, .int .i64 0, .int .i64 0, .slice none 0 0, .int .i64 fl, .int .i64 pa, .float .f64 fo] 50) zB)
  obtain ⟨z, hz⟩ : ∃ z, Ending.returned (bV (endB (recB b false) false now fl pa fo n)) = z := ⟨_, rfl⟩
  rw [hz]
  have HZ := Lib.hid (show Ending.returned (bV (endB ⟨b.t, 1048576, b.u, nextS b.s b.c 0 4598175219545276416, nextC b.c 0⟩ false now fl pa fo n)) = z by rw [← hz]; unfold recB failsB; rw [if_neg (by decide), if_neg hf1]; rfl)
  have hok : okH (nextS b.s b.c 0 4598175219545276416) (nextC b.c 0) = true := hok
  generalize nextS b.s b.c 0 4598175219545276416 = s' at *
  generalize nextC b.c 0 = c' at *
  have HG := Lib.hid (fun W => rGood_any s' c' fo W hok)
  have HG0 := Lib.hid (rfl : goodF s' fo = goodF s' fo)
  obtain ⟨g, hg⟩ : ∃ g, goodF s' fo = g := ⟨_, rfl⟩
  rw [hg] at HG
  have HG0 := Lib.hid hg
  clear hg hz hs hn hq hh hok hm
  unfold bV cV
  unfold hV at HN HG HNo
  unfold zB at *
  by_cases t1 : b.t = 1
  · have h1 : (b.t == 1) = true := beq_iff_eq.2 t1
    have HF := Lib.hid (show Ending.returned (bV ⟨b.t, 1048576, b.u, s', c'⟩) = z by rw [← HZ.out]; unfold endB; rw [if_neg (show ¬ b.t = 2 by omega), if_neg (show ¬ b.t = 0 by omega)])
    clear t1 HZ HG HNo
    go_enter Try.func31, Try.ntmps31
    go_wp2_with fail
    refine Calls.mono (HN.out _) ?_
    rintro e w1 ⟨rfl, hb⟩
    have HB1 := Lib.hid (HA.out.trans (hb.mono (by simp; omega)))
    have HX1 := Lib.hid (HX.out.later hb)
    have HK1 := Lib.hid (HK.out.later hb)
    have HR1 := Lib.hid (HR.out.later hb)
    have HB2 := Lib.hid (((HB1.out.setCell (p := ⟨w.heap.size, 3, none⟩) (Nat.le_refl _) (.float .f64 s')).setCell (p := ⟨w.heap.size, 4, none⟩) (Nat.le_refl _) (.int .i64 c')).setCell (p := ⟨w.heap.size, 1, none⟩) (Nat.le_refl _) (.int .i64 1048576))
    have HX2 := Lib.hid (((HX1.out.set3 s').set4 c').set1 1048576)
    have HK2 := Lib.hid (((HK1.out.other (p := ⟨w.heap.size, 3, none⟩) (by simp) (.float .f64 s')).other (p := ⟨w.heap.size, 4, none⟩) (by simp) (.int .i64 c')).other (p := ⟨w.heap.size, 1, none⟩) (by simp) (.int .i64 1048576))
    have HR2 := Lib.hid (((HR1.out.other (p := ⟨w.heap.size, 3, none⟩) (by simp; try omega) (.float .f64 s')).other (p := ⟨w.heap.size, 4, none⟩) (by simp; try omega) (.int .i64 c')).other (p := ⟨w.heap.size, 1, none⟩) (by simp; try omega) (.int .i64 1048576))
    have r0 := HR1.out.c0
    have rz0 := HR1.out.fz 0
    have r1 := HR1.out.c1
    have rz1 := HR1.out.fz 1
    have r2 := HR1.out.c2
    have rz2 := HR1.out.fz 2
    have r3 := HR1.out.c3
    have rz3 := HR1.out.fz 3
    have r4 := HR1.out.c4
    have rz4 := HR1.out.fz 4
    have rlt := HR1.out.lt
    have m0 := HX1.out.c0
    have mz0 := HX1.out.fz 0
    have m1 := HX1.out.c1
    have mz1 := HX1.out.fz 1
    have m2 := HX1.out.c2
    have mz2 := HX1.out.fz 2
    have m3 := HX1.out.c3
    have mz3 := HX1.out.fz 3
    have m4 := HX1.out.c4
    have mz4 := HX1.out.fz 4
    have mlt := HX1.out.lt
    have k0 := HK1.out.c0
    have k1 := HK1.out.c1
    have k2 := HK1.out.c2
    have k3 := HK1.out.c3
    have k4 := HK1.out.c4
    have k5 := HK1.out.c5
    have k6 := HK1.out.c6
    have k7 := HK1.out.c7
    clear hb HA HX HK HR HX1 HK1 HR1 HB1
    go_wp2_with fail
    generalize (((w1.setCell ⟨w.heap.size, 3, none⟩ (.float .f64 s')).setCell ⟨w.heap.size, 4, none⟩ (.int .i64 c')).setCell ⟨w.heap.size, 1, none⟩ (.int .i64 1048576)) = w2 at *
    clear r0 rz0 r1 rz1 r2 rz2 r3 rz3 r4 rz4 rlt
    clear m0 mz0 m1 mz1 m2 mz2 m3 mz3 m4 mz4 mlt
    clear k0 k1 k2 k3 k4 k5 k6 k7
    have r0 := HR2.out.c0
    have rz0 := HR2.out.fz 0
    have r1 := HR2.out.c1
    have rz1 := HR2.out.fz 1
    have r2 := HR2.out.c2
    have rz2 := HR2.out.fz 2
    have r3 := HR2.out.c3
    have rz3 := HR2.out.fz 3
    have r4 := HR2.out.c4
    have rz4 := HR2.out.fz 4
    have rlt := HR2.out.lt
    have m0 := HX2.out.c0
    have mz0 := HX2.out.fz 0
    have m1 := HX2.out.c1
    have mz1 := HX2.out.fz 1
    have m2 := HX2.out.c2
    have mz2 := HX2.out.fz 2
    have m3 := HX2.out.c3
    have mz3 := HX2.out.fz 3
    have m4 := HX2.out.c4
    have mz4 := HX2.out.fz 4
    have mlt := HX2.out.lt
    have k0 := HK2.out.c0
    have k1 := HK2.out.c1
    have k2 := HK2.out.c2
    have k3 := HK2.out.c3
    have k4 := HK2.out.c4
    have k5 := HK2.out.c5
    have k6 := HK2.out.c6
    have k7 := HK2.out.c7
    have HBe := HB2.out
    have HS := HR2.out.set5 (b.t) (1048576) (b.u) (s') (c')
    have f0 := HS.c0
    have f1 := HS.c1
    have f2 := HS.c2
    have f3 := HS.c3
    have f4 := HS.c4
    exact bodyPost_ret (v := bV ⟨b.t, 1048576, b.u, s', c'⟩) (by simp [results, Try.results31, go_sem, f0, f1, f2, f3, f4, bV]) rfl ⟨HF.out, (below_set5 HBe (by omega) (b.t) (1048576) (b.u) (s') (c'))⟩
  · have h1 : (b.t == 1) = false := beq_eq_false_iff_ne.2 t1
    by_cases t2 : b.t = 2
    · have h2 : (b.t == 2) = true := beq_iff_eq.2 t2
      have HF := Lib.hid (show Ending.returned (bV ⟨1, 1048576, now + pa, s', c'⟩) = z by rw [← HZ.out]; unfold endB; rw [if_pos t2]; rfl)
      clear t1 t2 HZ HG HNo
      go_enter Try.func31, Try.ntmps31
      go_wp2_with fail
      refine Calls.mono (HN.out _) ?_
      rintro e w1 ⟨rfl, hb⟩
      have HB1 := Lib.hid (HA.out.trans (hb.mono (by simp; omega)))
      have HX1 := Lib.hid (HX.out.later hb)
      have HK1 := Lib.hid (HK.out.later hb)
      have HR1 := Lib.hid (HR.out.later hb)
      have HB2 := Lib.hid (((HB1.out.setCell (p := ⟨w.heap.size, 3, none⟩) (Nat.le_refl _) (.float .f64 s')).setCell (p := ⟨w.heap.size, 4, none⟩) (Nat.le_refl _) (.int .i64 c')).setCell (p := ⟨w.heap.size, 1, none⟩) (Nat.le_refl _) (.int .i64 1048576))
      have HX2 := Lib.hid (((HX1.out.set3 s').set4 c').set1 1048576)
      have HK2 := Lib.hid (((HK1.out.other (p := ⟨w.heap.size, 3, none⟩) (by simp) (.float .f64 s')).other (p := ⟨w.heap.size, 4, none⟩) (by simp) (.int .i64 c')).other (p := ⟨w.heap.size, 1, none⟩) (by simp) (.int .i64 1048576))
      have HR2 := Lib.hid (((HR1.out.other (p := ⟨w.heap.size, 3, none⟩) (by simp; try omega) (.float .f64 s')).other (p := ⟨w.heap.size, 4, none⟩) (by simp; try omega) (.int .i64 c')).other (p := ⟨w.heap.size, 1, none⟩) (by simp; try omega) (.int .i64 1048576))
      have r0 := HR1.out.c0
      have rz0 := HR1.out.fz 0
      have r1 := HR1.out.c1
      have rz1 := HR1.out.fz 1
      have r2 := HR1.out.c2
      have rz2 := HR1.out.fz 2
      have r3 := HR1.out.c3
      have rz3 := HR1.out.fz 3
      have r4 := HR1.out.c4
      have rz4 := HR1.out.fz 4
      have rlt := HR1.out.lt
      have m0 := HX1.out.c0
      have mz0 := HX1.out.fz 0
      have m1 := HX1.out.c1
      have mz1 := HX1.out.fz 1
      have m2 := HX1.out.c2
      have mz2 := HX1.out.fz 2
      have m3 := HX1.out.c3
      have mz3 := HX1.out.fz 3
      have m4 := HX1.out.c4
      have mz4 := HX1.out.fz 4
      have mlt := HX1.out.lt
      have k0 := HK1.out.c0
      have k1 := HK1.out.c1
      have k2 := HK1.out.c2
      have k3 := HK1.out.c3
      have k4 := HK1.out.c4
      have k5 := HK1.out.c5
      have k6 := HK1.out.c6
      have k7 := HK1.out.c7
      clear hb HA HX HK HR HX1 HK1 HR1 HB1
      go_wp2_with fail
      generalize (((w1.setCell ⟨w.heap.size, 3, none⟩ (.float .f64 s')).setCell ⟨w.heap.size, 4, none⟩ (.int .i64 c')).setCell ⟨w.heap.size, 1, none⟩ (.int .i64 1048576)) = w2 at *
      clear r0 rz0 r1 rz1 r2 rz2 r3 rz3 r4 rz4 rlt
      clear m0 mz0 m1 mz1 m2 mz2 m3 mz3 m4 mz4 mlt
      clear k0 k1 k2 k3 k4 k5 k6 k7
      have r0 := HR2.out.c0
      have rz0 := HR2.out.fz 0
      have r1 := HR2.out.c1
      have rz1 := HR2.out.fz 1
      have r2 := HR2.out.c2
      have rz2 := HR2.out.fz 2
      have r3 := HR2.out.c3
      have rz3 := HR2.out.fz 3
      have r4 := HR2.out.c4
      have rz4 := HR2.out.fz 4
      have rlt := HR2.out.lt
      have m0 := HX2.out.c0
      have mz0 := HX2.out.fz 0
      have m1 := HX2.out.c1
      have mz1 := HX2.out.fz 1
      have m2 := HX2.out.c2
      have mz2 := HX2.out.fz 2
      have m3 := HX2.out.c3
      have mz3 := HX2.out.fz 3
      have m4 := HX2.out.c4
      have mz4 := HX2.out.fz 4
      have mlt := HX2.out.lt
      have k0 := HK2.out.c0
      have k1 := HK2.out.c1
      have k2 := HK2.out.c2
      have k3 := HK2.out.c3
      have k4 := HK2.out.c4
      have k5 := HK2.out.c5
      have k6 := HK2.out.c6
      have k7 := HK2.out.c7
      go_region
      go_wp2_with fail
      have HBe := ((HB2.out.setCell (p := ⟨w.heap.size, 0, none⟩) (Nat.le_refl _) (.int .i64 1)).setCell (p := ⟨w.heap.size, 2, none⟩) (Nat.le_refl _) (.int .i64 (now + pa)))
      have HS := ((HR2.out.other (p := ⟨w.heap.size, 0, none⟩) (by simp; try omega) (.int .i64 1)).other (p := ⟨w.heap.size, 2, none⟩) (by simp; try omega) (.int .i64 (now + pa))).set5 (1) (1048576) (now + pa) (s') (c')
      have f0 := HS.c0
      have f1 := HS.c1
      have f2 := HS.c2
      have f3 := HS.c3
      have f4 := HS.c4
      exact bodyPost_ret (v := bV ⟨1, 1048576, now + pa, s', c'⟩) (by simp [results, Try.results31, go_sem, f0, f1, f2, f3, f4, bV]) rfl ⟨HF.out, (below_set5 HBe (by omega) (1) (1048576) (now + pa) (s') (c')).drew⟩
    · have t0 : b.t = 0 := by omega
      have h2 : (b.t == 2) = false := beq_eq_false_iff_ne.2 t2
      by_cases hf : fl ≤ 1048576
      · have HF := Lib.hid (show Ending.returned (bV ⟨1, 1048576, now + pa, s', c'⟩) = z by rw [← HZ.out]; unfold endB; rw [if_neg t2, if_pos t0, decide_eq_true hf]; rfl)
        clear t1 t2 t0 HZ HG HNo
        go_enter Try.func31, Try.ntmps31
        go_wp2_with fail
        refine Calls.mono (HN.out _) ?_
        rintro e w1 ⟨rfl, hb⟩
        have HB1 := Lib.hid (HA.out.trans (hb.mono (by simp; omega)))
        have HX1 := Lib.hid (HX.out.later hb)
        have HK1 := Lib.hid (HK.out.later hb)
        have HR1 := Lib.hid (HR.out.later hb)
        have HB2 := Lib.hid (((HB1.out.setCell (p := ⟨w.heap.size, 3, none⟩) (Nat.le_refl _) (.float .f64 s')).setCell (p := ⟨w.heap.size, 4, none⟩) (Nat.le_refl _) (.int .i64 c')).setCell (p := ⟨w.heap.size, 1, none⟩) (Nat.le_refl _) (.int .i64 1048576))
        have HX2 := Lib.hid (((HX1.out.set3 s').set4 c').set1 1048576)
        have HK2 := Lib.hid (((HK1.out.other (p := ⟨w.heap.size, 3, none⟩) (by simp) (.float .f64 s')).other (p := ⟨w.heap.size, 4, none⟩) (by simp) (.int .i64 c')).other (p := ⟨w.heap.size, 1, none⟩) (by simp) (.int .i64 1048576))
        have HR2 := Lib.hid (((HR1.out.other (p := ⟨w.heap.size, 3, none⟩) (by simp; try omega) (.float .f64 s')).other (p := ⟨w.heap.size, 4, none⟩) (by simp; try omega) (.int .i64 c')).other (p := ⟨w.heap.size, 1, none⟩) (by simp; try omega) (.int .i64 1048576))
        have r0 := HR1.out.c0
        have rz0 := HR1.out.fz 0
        have r1 := HR1.out.c1
        have rz1 := HR1.out.fz 1
        have r2 := HR1.out.c2
        have rz2 := HR1.out.fz 2
        have r3 := HR1.out.c3
        have rz3 := HR1.out.fz 3
        have r4 := HR1.out.c4
        have rz4 := HR1.out.fz 4
        have rlt := HR1.out.lt
        have m0 := HX1.out.c0
        have mz0 := HX1.out.fz 0
        have m1 := HX1.out.c1
        have mz1 := HX1.out.fz 1
        have m2 := HX1.out.c2
        have mz2 := HX1.out.fz 2
        have m3 := HX1.out.c3
        have mz3 := HX1.out.fz 3
        have m4 := HX1.out.c4
        have mz4 := HX1.out.fz 4
        have mlt := HX1.out.lt
        have k0 := HK1.out.c0
        have k1 := HK1.out.c1
        have k2 := HK1.out.c2
        have k3 := HK1.out.c3
        have k4 := HK1.out.c4
        have k5 := HK1.out.c5
        have k6 := HK1.out.c6
        have k7 := HK1.out.c7
        clear hb HA HX HK HR HX1 HK1 HR1 HB1
        go_wp2_with fail
        generalize (((w1.setCell ⟨w.heap.size, 3, none⟩ (.float .f64 s')).setCell ⟨w.heap.size, 4, none⟩ (.int .i64 c')).setCell ⟨w.heap.size, 1, none⟩ (.int .i64 1048576)) = w2 at *
        clear r0 rz0 r1 rz1 r2 rz2 r3 rz3 r4 rz4 rlt
        clear m0 mz0 m1 mz1 m2 mz2 m3 mz3 m4 mz4 mlt
        clear k0 k1 k2 k3 k4 k5 k6 k7
        have r0 := HR2.out.c0
        have rz0 := HR2.out.fz 0
        have r1 := HR2.out.c1
        have rz1 := HR2.out.fz 1
        have r2 := HR2.out.c2
        have rz2 := HR2.out.fz 2
        have r3 := HR2.out.c3
        have rz3 := HR2.out.fz 3
        have r4 := HR2.out.c4
        have rz4 := HR2.out.fz 4
        have rlt := HR2.out.lt
        have m0 := HX2.out.c0
        have mz0 := HX2.out.fz 0
        have m1 := HX2.out.c1
        have mz1 := HX2.out.fz 1
        have m2 := HX2.out.c2
        have mz2 := HX2.out.fz 2
        have m3 := HX2.out.c3
        have mz3 := HX2.out.fz 3
        have m4 := HX2.out.c4
        have mz4 := HX2.out.fz 4
        have mlt := HX2.out.lt
        have k0 := HK2.out.c0
        have k1 := HK2.out.c1
        have k2 := HK2.out.c2
        have k3 := HK2.out.c3
        have k4 := HK2.out.c4
        have k5 := HK2.out.c5
        have k6 := HK2.out.c6
        have k7 := HK2.out.c7
        go_region
        go_wp2_with fail
        have HBe := ((HB2.out.setCell (p := ⟨w.heap.size, 0, none⟩) (Nat.le_refl _) (.int .i64 1)).setCell (p := ⟨w.heap.size, 2, none⟩) (Nat.le_refl _) (.int .i64 (now + pa)))
        have HS := ((HR2.out.other (p := ⟨w.heap.size, 0, none⟩) (by simp; try omega) (.int .i64 1)).other (p := ⟨w.heap.size, 2, none⟩) (by simp; try omega) (.int .i64 (now + pa))).set5 (1) (1048576) (now + pa) (s') (c')
        have f0 := HS.c0
        have f1 := HS.c1
        have f2 := HS.c2
        have f3 := HS.c3
        have f4 := HS.c4
        exact bodyPost_ret (v := bV ⟨1, 1048576, now + pa, s', c'⟩) (by simp [results, Try.results31, go_sem, f0, f1, f2, f3, f4, bV]) rfl ⟨HF.out, (below_set5 HBe (by omega) (1) (1048576) (now + pa) (s') (c')).drew⟩
      · have hfd : decide (fl ≤ 1048576) = false := decide_eq_false hf
        cases g with
        | false =>
          have HF := Lib.hid (show Ending.returned (bV ⟨1, 1048576, now + pa, s', c'⟩) = z by rw [← HZ.out]; unfold endB; rw [if_neg t2, if_pos t0, hfd, HG0.out]; rfl)
          clear t1 t2 t0 HZ HNo hf
          go_enter Try.func31, Try.ntmps31
          go_wp2_with fail
          refine Calls.mono (HN.out _) ?_
          rintro e w1 ⟨rfl, hb⟩
          have HB1 := Lib.hid (HA.out.trans (hb.mono (by simp; omega)))
          have HX1 := Lib.hid (HX.out.later hb)
          have HK1 := Lib.hid (HK.out.later hb)
          have HR1 := Lib.hid (HR.out.later hb)
          have HB2 := Lib.hid (((HB1.out.setCell (p := ⟨w.heap.size, 3, none⟩) (Nat.le_refl _) (.float .f64 s')).setCell (p := ⟨w.heap.size, 4, none⟩) (Nat.le_refl _) (.int .i64 c')).setCell (p := ⟨w.heap.size, 1, none⟩) (Nat.le_refl _) (.int .i64 1048576))
          have HX2 := Lib.hid (((HX1.out.set3 s').set4 c').set1 1048576)
          have HK2 := Lib.hid (((HK1.out.other (p := ⟨w.heap.size, 3, none⟩) (by simp) (.float .f64 s')).other (p := ⟨w.heap.size, 4, none⟩) (by simp) (.int .i64 c')).other (p := ⟨w.heap.size, 1, none⟩) (by simp) (.int .i64 1048576))
          have HR2 := Lib.hid (((HR1.out.other (p := ⟨w.heap.size, 3, none⟩) (by simp; try omega) (.float .f64 s')).other (p := ⟨w.heap.size, 4, none⟩) (by simp; try omega) (.int .i64 c')).other (p := ⟨w.heap.size, 1, none⟩) (by simp; try omega) (.int .i64 1048576))
          have r0 := HR1.out.c0
          have rz0 := HR1.out.fz 0
          have r1 := HR1.out.c1
          have rz1 := HR1.out.fz 1
          have r2 := HR1.out.c2
          have rz2 := HR1.out.fz 2
          have r3 := HR1.out.c3
          have rz3 := HR1.out.fz 3
          have r4 := HR1.out.c4
          have rz4 := HR1.out.fz 4
          have rlt := HR1.out.lt
          have m0 := HX1.out.c0
          have mz0 := HX1.out.fz 0
          have m1 := HX1.out.c1
          have mz1 := HX1.out.fz 1
          have m2 := HX1.out.c2
          have mz2 := HX1.out.fz 2
          have m3 := HX1.out.c3
          have mz3 := HX1.out.fz 3
          have m4 := HX1.out.c4
          have mz4 := HX1.out.fz 4
          have mlt := HX1.out.lt
          have k0 := HK1.out.c0
          have k1 := HK1.out.c1
          have k2 := HK1.out.c2
          have k3 := HK1.out.c3
          have k4 := HK1.out.c4
          have k5 := HK1.out.c5
          have k6 := HK1.out.c6
          have k7 := HK1.out.c7
          clear hb HA HX HK HR HX1 HK1 HR1 HB1
          go_wp2_with fail
          generalize (((w1.setCell ⟨w.heap.size, 3, none⟩ (.float .f64 s')).setCell ⟨w.heap.size, 4, none⟩ (.int .i64 c')).setCell ⟨w.heap.size, 1, none⟩ (.int .i64 1048576)) = w2 at *
          clear r0 rz0 r1 rz1 r2 rz2 r3 rz3 r4 rz4 rlt
          clear m0 mz0 m1 mz1 m2 mz2 m3 mz3 m4 mz4 mlt
          clear k0 k1 k2 k3 k4 k5 k6 k7
          have r0 := HR2.out.c0
          have rz0 := HR2.out.fz 0
          have r1 := HR2.out.c1
          have rz1 := HR2.out.fz 1
          have r2 := HR2.out.c2
          have rz2 := HR2.out.fz 2
          have r3 := HR2.out.c3
          have rz3 := HR2.out.fz 3
          have r4 := HR2.out.c4
          have rz4 := HR2.out.fz 4
          have rlt := HR2.out.lt
          have m0 := HX2.out.c0
          have mz0 := HX2.out.fz 0
          have m1 := HX2.out.c1
          have mz1 := HX2.out.fz 1
          have m2 := HX2.out.c2
          have mz2 := HX2.out.fz 2
          have m3 := HX2.out.c3
          have mz3 := HX2.out.fz 3
          have m4 := HX2.out.c4
          have mz4 := HX2.out.fz 4
          have mlt := HX2.out.lt
          have k0 := HK2.out.c0
          have k1 := HK2.out.c1
          have k2 := HK2.out.c2
          have k3 := HK2.out.c3
          have k4 := HK2.out.c4
          have k5 := HK2.out.c5
          have k6 := HK2.out.c6
          have k7 := HK2.out.c7
          refine Calls.mono (HG.out _) ?_
          rintro e w5 ⟨rfl, hb5⟩
          have HB5 := Lib.hid (HB2.out.trans (hb5.mono HB2.out.size))
          have HX5 := Lib.hid (HX2.out.later hb5)
          have HK5 := Lib.hid (HK2.out.later hb5)
          have HR5 := Lib.hid (HR2.out.later hb5)
          clear r0 rz0 r1 rz1 r2 rz2 r3 rz3 r4 rz4 rlt
          clear m0 mz0 m1 mz1 m2 mz2 m3 mz3 m4 mz4 mlt
          clear k0 k1 k2 k3 k4 k5 k6 k7
          have r0 := HR5.out.c0
          have rz0 := HR5.out.fz 0
          have r1 := HR5.out.c1
          have rz1 := HR5.out.fz 1
          have r2 := HR5.out.c2
          have rz2 := HR5.out.fz 2
          have r3 := HR5.out.c3
          have rz3 := HR5.out.fz 3
          have r4 := HR5.out.c4
          have rz4 := HR5.out.fz 4
          have rlt := HR5.out.lt
          have m0 := HX5.out.c0
          have mz0 := HX5.out.fz 0
          have m1 := HX5.out.c1
          have mz1 := HX5.out.fz 1
          have m2 := HX5.out.c2
          have mz2 := HX5.out.fz 2
          have m3 := HX5.out.c3
          have mz3 := HX5.out.fz 3
          have m4 := HX5.out.c4
          have mz4 := HX5.out.fz 4
          have mlt := HX5.out.lt
          have k0 := HK5.out.c0
          have k1 := HK5.out.c1
          have k2 := HK5.out.c2
          have k3 := HK5.out.c3
          have k4 := HK5.out.c4
          have k5 := HK5.out.c5
          have k6 := HK5.out.c6
          have k7 := HK5.out.c7
          clear hb5 HX2 HK2 HR2
          go_wp2_with fail
          go_region
          go_wp2_with fail
          have HBe := ((HB5.out.setCell (p := ⟨w.heap.size, 0, none⟩) (Nat.le_refl _) (.int .i64 1)).setCell (p := ⟨w.heap.size, 2, none⟩) (Nat.le_refl _) (.int .i64 (now + pa)))
          have HS := ((HR5.out.other (p := ⟨w.heap.size, 0, none⟩) (by simp; try omega) (.int .i64 1)).other (p := ⟨w.heap.size, 2, none⟩) (by simp; try omega) (.int .i64 (now + pa))).set5 (1) (1048576) (now + pa) (s') (c')
          have f0 := HS.c0
          have f1 := HS.c1
          have f2 := HS.c2
          have f3 := HS.c3
          have f4 := HS.c4
          exact bodyPost_ret (v := bV ⟨1, 1048576, now + pa, s', c'⟩) (by simp [results, Try.results31, go_sem, f0, f1, f2, f3, f4, bV]) rfl ⟨HF.out, (below_set5 HBe (by omega) (1) (1048576) (now + pa) (s') (c')).drew⟩
        | true =>
          have HF := Lib.hid (show Ending.returned (bV ⟨b.t, 1048576, b.u, s', c'⟩) = z by rw [← HZ.out]; unfold endB; rw [if_neg t2, if_pos t0, hfd, HG0.out]; rfl)
          clear t1 t2 t0 HZ HNo hf
          go_enter Try.func31, Try.ntmps31
          go_wp2_with fail
          refine Calls.mono (HN.out _) ?_
          rintro e w1 ⟨rfl, hb⟩
          have HB1 := Lib.hid (HA.out.trans (hb.mono (by simp; omega)))
          have HX1 := Lib.hid (HX.out.later hb)
          have HK1 := Lib.hid (HK.out.later hb)
          have HR1 := Lib.hid (HR.out.later hb)
          have HB2 := Lib.hid (((HB1.out.setCell (p := ⟨w.heap.size, 3, none⟩) (Nat.le_refl _) (.float .f64 s')).setCell (p := ⟨w.heap.size, 4, none⟩) (Nat.le_refl _) (.int .i64 c')).setCell (p := ⟨w.heap.size, 1, none⟩) (Nat.le_refl _) (.int .i64 1048576))
          have HX2 := Lib.hid (((HX1.out.set3 s').set4 c').set1 1048576)
          have HK2 := Lib.hid (((HK1.out.other (p := ⟨w.heap.size, 3, none⟩) (by simp) (.float .f64 s')).other (p := ⟨w.heap.size, 4, none⟩) (by simp) (.int .i64 c')).other (p := ⟨w.heap.size, 1, none⟩) (by simp) (.int .i64 1048576))
          have HR2 := Lib.hid (((HR1.out.other (p := ⟨w.heap.size, 3, none⟩) (by simp; try omega) (.float .f64 s')).other (p := ⟨w.heap.size, 4, none⟩) (by simp; try omega) (.int .i64 c')).other (p := ⟨w.heap.size, 1, none⟩) (by simp; try omega) (.int .i64 1048576))
          have r0 := HR1.out.c0
          have rz0 := HR1.out.fz 0
          have r1 := HR1.out.c1
          have rz1 := HR1.out.fz 1
          have r2 := HR1.out.c2
          have rz2 := HR1.out.fz 2
          have r3 := HR1.out.c3
          have rz3 := HR1.out.fz 3
          have r4 := HR1.out.c4
          have rz4 := HR1.out.fz 4
          have rlt := HR1.out.lt
          have m0 := HX1.out.c0
          have mz0 := HX1.out.fz 0
          have m1 := HX1.out.c1
          have mz1 := HX1.out.fz 1
          have m2 := HX1.out.c2
          have mz2 := HX1.out.fz 2
          have m3 := HX1.out.c3
          have mz3 := HX1.out.fz 3
          have m4 := HX1.out.c4
          have mz4 := HX1.out.fz 4
          have mlt := HX1.out.lt
          have k0 := HK1.out.c0
          have k1 := HK1.out.c1
          have k2 := HK1.out.c2
          have k3 := HK1.out.c3
          have k4 := HK1.out.c4
          have k5 := HK1.out.c5
          have k6 := HK1.out.c6
          have k7 := HK1.out.c7
          clear hb HA HX HK HR HX1 HK1 HR1 HB1
          go_wp2_with fail
          generalize (((w1.setCell ⟨w.heap.size, 3, none⟩ (.float .f64 s')).setCell ⟨w.heap.size, 4, none⟩ (.int .i64 c')).setCell ⟨w.heap.size, 1, none⟩ (.int .i64 1048576)) = w2 at *
          clear r0 rz0 r1 rz1 r2 rz2 r3 rz3 r4 rz4 rlt
          clear m0 mz0 m1 mz1 m2 mz2 m3 mz3 m4 mz4 mlt
          clear k0 k1 k2 k3 k4 k5 k6 k7
          have r0 := HR2.out.c0
          have rz0 := HR2.out.fz 0
          have r1 := HR2.out.c1
          have rz1 := HR2.out.fz 1
          have r2 := HR2.out.c2
          have rz2 := HR2.out.fz 2
          have r3 := HR2.out.c3
          have rz3 := HR2.out.fz 3
          have r4 := HR2.out.c4
          have rz4 := HR2.out.fz 4
          have rlt := HR2.out.lt
          have m0 := HX2.out.c0
          have mz0 := HX2.out.fz 0
          have m1 := HX2.out.c1
          have mz1 := HX2.out.fz 1
          have m2 := HX2.out.c2
          have mz2 := HX2.out.fz 2
          have m3 := HX2.out.c3
          have mz3 := HX2.out.fz 3
          have m4 := HX2.out.c4
          have mz4 := HX2.out.fz 4
          have mlt := HX2.out.lt
          have k0 := HK2.out.c0
          have k1 := HK2.out.c1
          have k2 := HK2.out.c2
          have k3 := HK2.out.c3
          have k4 := HK2.out.c4
          have k5 := HK2.out.c5
          have k6 := HK2.out.c6
          have k7 := HK2.out.c7
          refine Calls.mono (HG.out _) ?_
          rintro e w5 ⟨rfl, hb5⟩
          have HB5 := Lib.hid (HB2.out.trans (hb5.mono HB2.out.size))
          have HX5 := Lib.hid (HX2.out.later hb5)
          have HK5 := Lib.hid (HK2.out.later hb5)
          have HR5 := Lib.hid (HR2.out.later hb5)
          clear r0 rz0 r1 rz1 r2 rz2 r3 rz3 r4 rz4 rlt
          clear m0 mz0 m1 mz1 m2 mz2 m3 mz3 m4 mz4 mlt
          clear k0 k1 k2 k3 k4 k5 k6 k7
          have r0 := HR5.out.c0
          have rz0 := HR5.out.fz 0
          have r1 := HR5.out.c1
          have rz1 := HR5.out.fz 1
          have r2 := HR5.out.c2
          have rz2 := HR5.out.fz 2
          have r3 := HR5.out.c3
          have rz3 := HR5.out.fz 3
          have r4 := HR5.out.c4
          have rz4 := HR5.out.fz 4
          have rlt := HR5.out.lt
          have m0 := HX5.out.c0
          have mz0 := HX5.out.fz 0
          have m1 := HX5.out.c1
          have mz1 := HX5.out.fz 1
          have m2 := HX5.out.c2
          have mz2 := HX5.out.fz 2
          have m3 := HX5.out.c3
          have mz3 := HX5.out.fz 3
          have m4 := HX5.out.c4
          have mz4 := HX5.out.fz 4
          have mlt := HX5.out.lt
          have k0 := HK5.out.c0
          have k1 := HK5.out.c1
          have k2 := HK5.out.c2
          have k3 := HK5.out.c3
          have k4 := HK5.out.c4
          have k5 := HK5.out.c5
          have k6 := HK5.out.c6
          have k7 := HK5.out.c7
          clear hb5 HX2 HK2 HR2
          go_wp2_with fail
          have HBe := HB5.out
          have HS := HR5.out.set5 (b.t) (1048576) (b.u) (s') (c')
          have f0 := HS.c0
          have f1 := HS.c1
          have f2 := HS.c2
          have f3 := HS.c3
          have f4 := HS.c4
          exact bodyPost_ret (v := bV ⟨b.t, 1048576, b.u, s', c'⟩) (by simp [results, Try.results31, go_sem, f0, f1, f2, f3, f4, bV]) rfl ⟨HF.out, (below_set5 HBe (by omega) (b.t) (1048576) (b.u) (s') (c'))⟩
theorem rEnd_any (b : BR) (ok : Bool) (now fl pa : Int) (fo n : Nat) (hn : n = 9221120237041090561) (w : World) (hs : b.s < 18446744073709551616) (hm : mayE b now fl pa = true) :
    Calls Try.prog 31 #[bV b, .bool ok, .int .i64 now, cV fl pa fo] w fun e w' => e = .returned (bV (endB (recB b ok) ok now fl pa fo n)) ∧ Below w.heap.size w w' := by
  cases ok with
  | true => exact rEnd_t b now fl pa fo n hn w hs hm
  | false =>
    by_cases h : b.f + 1 ≤ 1048576
    · exact rEnd_f b now fl pa fo n hn w hs hm h
    · exact rEnd_g b now fl pa fo n hn w hs hm h
end Go.Proofs.Ytlkikecnlafmeaa
