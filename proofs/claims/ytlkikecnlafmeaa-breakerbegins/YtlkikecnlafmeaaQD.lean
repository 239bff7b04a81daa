/-
  Package breaker's Begin, walked.
  Conditions: as each theorem states them: a word is below 2 to the 64.
-/
import Derived.Test.YtlkikecnlafmeaaQC
namespace Go.Proofs.Ytlkikecnlafmeaa
open Go.RowKit

theorem bbegin_any (b : BR) (now : Int) (w : World) (hs : b.s < 18446744073709551616) : Calls Try.prog 23 #[bV b, .int .i64 now] w fun e w' => e = .returned (outB (beginR b now)) ∧ Below w.heap.size w w' := by
  have hst := store_float
  have HA := Lib.hid (((Below.refl _ w).alloc (Nat.le_refl _) (.cells #[.int .i64 b.t, .int .i64 b.f, .int .i64 b.u, .float .f64 b.s, .int .i64 b.c] 26)).alloc (by simp) (.cells #[.int .i64 zB.t, .int .i64 zB.f, .int .i64 zB.u, .float .f64 zB.s, .int .i64 zB.c] 26))
  have HX := Lib.hid ((BAt.new w b).alloc (.cells #[.int .i64 zB.t, .int .i64 zB.f, .int .i64 zB.u, .float .f64 zB.s, .int .i64 zB.c] 26))
  have HR := Lib.hid (BAt.new1 w (.cells #[.int .i64 b.t, .int .i64 b.f, .int .i64 b.u, .float .f64 b.s, .int .i64 b.c] 26) zB)
  have HM := Lib.hid (fun W => bmay_any b now W hs)
  have HE := Lib.hid (show beginR b now = if askB b now then (if mayB b now then .ok (beginB b) else .error 9) else .error 1 from rfl)
  have HO := Lib.hid (show outM b now = if askB b now then .tuple #[.bool (mayB b now), .int .i64 0] else .tuple #[.bool false, .int .i64 1] from rfl)
  have HG1 := Lib.hid (show (b.t == 1) = true → ⟨2, b.f, 0, b.s, b.c⟩ = beginB b from fun h => (if_pos (beq_iff_eq.1 h)).symm)
  have HG2 := Lib.hid (show (b.t == 1) = false → b = beginB b from fun h => (if_neg (beq_eq_false_iff_ne.1 h)).symm)
  rw [HO.out] at HM
  clear HO hs
  generalize askB b now = q1 at *
  generalize mayB b now = q2 at *
  generalize beginR b now = r at *
  obtain ⟨z, hz⟩ : ∃ z, Ending.returned (outB r) = z := ⟨_, rfl⟩
  rw [hz]
  have HZ := Lib.hid hz
  clear hz
  unfold bV zB at *
  cases q1 with
  | false =>
    have HF := Lib.hid (show Ending.returned (.tuple #[bV zB, .int .i64 1]) = z by rw [← HZ.out, HE.out]; rfl)
    clear HE HZ
    simp only [Bool.false_eq_true, if_false] at HM
    go_enter Try.func23, Try.ntmps23
    go_wp2_with fail
    refine Calls.mono (HM.out _) ?_
    rintro e w1 ⟨rfl, hb⟩
    have HB := Lib.hid (HA.out.trans (hb.mono (by simp; omega)))
    have HR1 := Lib.hid (HR.out.later hb)
    have r0 := HR1.out.c0
    have rz0 := HR1.out.fz 0
    have r1 := HR1.out.c1
    have rz1 := HR1.out.fz 1
    have r2 := HR1.out.c2
    have rz2 := HR1.out.fz 2
    have r3 := HR1.out.c3
    have rz3 := HR1.out.fz 3
    have r4 := HR1.out.c4
    have rz4 := HR1.out.fz 4
    have rlt := HR1.out.lt
    clear hb HA HX HR
    go_wp2_with fail
    have HS := HR1.out.set5 0 0 0 0 0
    have f0 := HS.c0
    have f1 := HS.c1
    have f2 := HS.c2
    have f3 := HS.c3
    have f4 := HS.c4
    exact bodyPost_ret (v := .tuple #[bV zB, .int .i64 1]) (by simp [results, Try.results23, go_sem, f0, f1, f2, f3, f4, bV, zB]) rfl ⟨HF.out, below_set5 HB.out (by omega) 0 0 0 0 0⟩
  | true =>
    simp only [if_true] at HM
    cases q2 with
    | false =>
      have HF := Lib.hid (show Ending.returned (.tuple #[bV zB, .int .i64 9]) = z by rw [← HZ.out, HE.out]; rfl)
      clear HE HZ
      go_enter Try.func23, Try.ntmps23
      go_wp2_with fail
      refine Calls.mono (HM.out _) ?_
      rintro e w1 ⟨rfl, hb⟩
      have HB := Lib.hid (HA.out.trans (hb.mono (by simp; omega)))
      have HR1 := Lib.hid (HR.out.later hb)
      have r0 := HR1.out.c0
      have rz0 := HR1.out.fz 0
      have r1 := HR1.out.c1
      have rz1 := HR1.out.fz 1
      have r2 := HR1.out.c2
      have rz2 := HR1.out.fz 2
      have r3 := HR1.out.c3
      have rz3 := HR1.out.fz 3
      have r4 := HR1.out.c4
      have rz4 := HR1.out.fz 4
      have rlt := HR1.out.lt
      clear hb HA HX HR
      go_wp2_with fail
      have HS := HR1.out.set5 0 0 0 0 0
      have f0 := HS.c0
      have f1 := HS.c1
      have f2 := HS.c2
      have f3 := HS.c3
      have f4 := HS.c4
      exact bodyPost_ret (v := .tuple #[bV zB, .int .i64 9]) (by simp [results, Try.results23, go_sem, f0, f1, f2, f3, f4, bV, zB]) rfl ⟨HF.out, below_set5 HB.out (by omega) 0 0 0 0 0⟩
    | true =>
      cases ht : (b.t == 1) with
      | false =>
        have HF := Lib.hid (show Ending.returned (.tuple #[bV b, .int .i64 0]) = z by rw [← HZ.out, HE.out]; exact congrArg (fun x => Ending.returned (.tuple #[bV x, .int .i64 0])) (HG2.out ht))
        clear HE HZ HG1 HG2
        go_enter Try.func23, Try.ntmps23
        go_wp2_with fail
        refine Calls.mono (HM.out _) ?_
        rintro e w1 ⟨rfl, hb⟩
        have HB := Lib.hid (HA.out.trans (hb.mono (by simp; omega)))
        have HR1 := Lib.hid (HR.out.later hb)
        have HX1 := Lib.hid (HX.out.later hb)
        have r0 := HR1.out.c0
        have rz0 := HR1.out.fz 0
        have r1 := HR1.out.c1
        have rz1 := HR1.out.fz 1
        have r2 := HR1.out.c2
        have rz2 := HR1.out.fz 2
        have r3 := HR1.out.c3
        have rz3 := HR1.out.fz 3
        have r4 := HR1.out.c4
        have rz4 := HR1.out.fz 4
        have rlt := HR1.out.lt
        have m0 := HX1.out.c0
        have mz0 := HX1.out.fz 0
        have m1 := HX1.out.c1
        have mz1 := HX1.out.fz 1
        have m2 := HX1.out.c2
        have mz2 := HX1.out.fz 2
        have m3 := HX1.out.c3
        have mz3 := HX1.out.fz 3
        have m4 := HX1.out.c4
        have mz4 := HX1.out.fz 4
        have mlt := HX1.out.lt
        clear hb HA HX HR
        go_wp2_with fail
        have HS := HR1.out.set5 b.t b.f b.u b.s b.c
        have f0 := HS.c0
        have f1 := HS.c1
        have f2 := HS.c2
        have f3 := HS.c3
        have f4 := HS.c4
        exact bodyPost_ret (v := .tuple #[bV b, .int .i64 0]) (by simp [results, Try.results23, go_sem, f0, f1, f2, f3, f4, bV]) rfl ⟨HF.out, below_set5 HB.out (by omega) b.t b.f b.u b.s b.c⟩
      | true =>
        have HF := Lib.hid (show Ending.returned (.tuple #[bV ⟨2, b.f, 0, b.s, b.c⟩, .int .i64 0]) = z by rw [← HZ.out, HE.out]; exact congrArg (fun x => Ending.returned (.tuple #[bV x, .int .i64 0])) (HG1.out ht))
        clear HE HZ HG1 HG2
        go_enter Try.func23, Try.ntmps23
        go_wp2_with fail
        refine Calls.mono (HM.out _) ?_
        rintro e w1 ⟨rfl, hb⟩
        have HB := Lib.hid (HA.out.trans (hb.mono (by simp; omega)))
        have HR1 := Lib.hid (HR.out.later hb)
        have HX1 := Lib.hid (HX.out.later hb)
        have r0 := HR1.out.c0
        have rz0 := HR1.out.fz 0
        have r1 := HR1.out.c1
        have rz1 := HR1.out.fz 1
        have r2 := HR1.out.c2
        have rz2 := HR1.out.fz 2
        have r3 := HR1.out.c3
        have rz3 := HR1.out.fz 3
        have r4 := HR1.out.c4
        have rz4 := HR1.out.fz 4
        have rlt := HR1.out.lt
        have m0 := HX1.out.c0
        have mz0 := HX1.out.fz 0
        have m1 := HX1.out.c1
        have mz1 := HX1.out.fz 1
        have m2 := HX1.out.c2
        have mz2 := HX1.out.fz 2
        have m3 := HX1.out.c3
        have mz3 := HX1.out.fz 3
        have m4 := HX1.out.c4
        have mz4 := HX1.out.fz 4
        have mlt := HX1.out.lt
        clear hb HA HX HR
        go_wp2_with fail
        have HB2 := Lib.hid ((HB.out.setCell (p := ⟨w.heap.size, 0, none⟩) (Nat.le_refl _) (.int .i64 2)).setCell (p := ⟨w.heap.size, 2, none⟩) (Nat.le_refl _) (.int .i64 0))
        have HR2 := (HR1.out.other (p := ⟨w.heap.size, 0, none⟩) (by simp) (.int .i64 2)).other (p := ⟨w.heap.size, 2, none⟩) (by simp) (.int .i64 0)
        have HS := HR2.set5 2 b.f 0 b.s b.c
        have f0 := HS.c0
        have f1 := HS.c1
        have f2 := HS.c2
        have f3 := HS.c3
        have f4 := HS.c4
        exact bodyPost_ret (v := .tuple #[bV ⟨2, b.f, 0, b.s, b.c⟩, .int .i64 0]) (by simp [results, Try.results23, go_sem, f0, f1, f2, f3, f4, bV]) rfl ⟨HF.out, below_set5 HB2.out (by omega) 2 b.f 0 b.s b.c⟩
end Go.Proofs.Ytlkikecnlafmeaa
