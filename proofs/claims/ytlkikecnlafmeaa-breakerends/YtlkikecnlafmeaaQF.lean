/-
  A try's end: package breaker's record, walked.
  Conditions: as each theorem states them: a word is below 2 to the 64.
-/
import Derived.Test.YtlkikecnlafmeaaQE
namespace Go.Proofs.Ytlkikecnlafmeaa
open Go.RowKit

theorem record_any (b : BR) (ok : Bool) (w : World) (hs : b.s < 18446744073709551616) (hq : okB b = true) : Calls Try.prog 38 #[bV b, .bool ok] w fun e w' => e = .returned (bV (recB b ok)) ∧ Below w.heap.size w w' := by
  have hst := store_float
  obtain ⟨_, ⟨f1, f2⟩, _, _, hh⟩ := okB_iff.1 hq
  have HN := Lib.hid (fun W => note_any b.s b.c (xB ok) 4598175219545276416 W hs (xB_lt ok) (by decide))
  rw [endN_ok hh okW_q] at HN
  obtain ⟨z, hz⟩ : ∃ z, Ending.returned (bV (recB b ok)) = z := ⟨_, rfl⟩
  rw [hz]
  have HZ := Lib.hid (show Ending.returned (bV ⟨b.t, failsB b ok, b.u, nextS b.s b.c (xB ok) 4598175219545276416, nextC b.c (xB ok)⟩) = z from hz)
  clear hz hs hq hh
  generalize nextS b.s b.c (xB ok) 4598175219545276416 = s' at *
  generalize nextC b.c (xB ok) = c' at *
  unfold hV at HN
  unfold bV at *
  cases ok with
  | true =>
    rw [show xB true = 4607182418800017408 from rfl] at HN
    rw [show failsB b true = 0 from rfl] at HZ
    by_cases hm : b.f + 1 ≤ 1048576
    · go_enter Try.func38, Try.ntmps38
      go_wp2_with fail
      refine Calls.mono (HN.out _) ?_
      rintro e w1 ⟨rfl, hb⟩
      have HB := Lib.hid ((((Below.refl _ w).alloc (Nat.le_refl _) (.cells #[.int .i64 b.t, .int .i64 0, .int .i64 b.u, .float .f64 b.s, .int .i64 b.c] 26)).alloc (by simp) (.cells #[.int .i64 0, .int .i64 0, .int .i64 0, .float .f64 0, .int .i64 0] 26)).trans (hb.mono (by simp; omega)))
      have HX1 := Lib.hid (((BAt.new w ⟨b.t, 0, b.u, b.s, b.c⟩).alloc (.cells #[.int .i64 0, .int .i64 0, .int .i64 0, .float .f64 0, .int .i64 0] 26)).later hb)
      have HR1 := Lib.hid ((BAt.new1 w (.cells #[.int .i64 b.t, .int .i64 0, .int .i64 b.u, .float .f64 b.s, .int .i64 b.c] 26) zB).later hb)
      unfold zB at HR1
      have m0 := HX1.out.c0
      have mz0 := HX1.out.fz 0
      have m1 := HX1.out.c1
      have mz1 := HX1.out.fz 1
      have m2 := HX1.out.c2
      have mz2 := HX1.out.fz 2
      have m3 := HX1.out.c3
      have mz3 := HX1.out.fz 3
      have m4 := HX1.out.c4
      have mz4 := HX1.out.fz 4
      have mlt := HX1.out.lt
      have r0 := HR1.out.c0
      have rz0 := HR1.out.fz 0
      have r1 := HR1.out.c1
      have rz1 := HR1.out.fz 1
      have r2 := HR1.out.c2
      have rz2 := HR1.out.fz 2
      have r3 := HR1.out.c3
      have rz3 := HR1.out.fz 3
      have r4 := HR1.out.c4
      have rz4 := HR1.out.fz 4
      have rlt := HR1.out.lt
      clear hb
      go_wp2_with fail
      have HB2 := Lib.hid ((HB.out.setCell (p := ⟨w.heap.size, 3, none⟩) (Nat.le_refl _) (.float .f64 s')).setCell (p := ⟨w.heap.size, 4, none⟩) (Nat.le_refl _) (.int .i64 c'))
      have HR2 := (HR1.out.other (p := ⟨w.heap.size, 3, none⟩) (by simp) (.float .f64 s')).other (p := ⟨w.heap.size, 4, none⟩) (by simp) (.int .i64 c')
      have HS := HR2.set5 b.t 0 b.u s' c'
      have f0 := HS.c0
      have f1 := HS.c1
      have f2 := HS.c2
      have f3 := HS.c3
      have f4 := HS.c4
      exact bodyPost_ret (v := bV ⟨b.t, 0, b.u, s', c'⟩) (by simp [results, Try.results38, go_sem, f0, f1, f2, f3, f4, bV]) rfl ⟨HZ.out, below_set5 HB2.out (by omega) b.t 0 b.u s' c'⟩
    · go_enter Try.func38, Try.ntmps38
      go_wp2_with fail
      refine Calls.mono (HN.out _) ?_
      rintro e w1 ⟨rfl, hb⟩
      have HB := Lib.hid ((((Below.refl _ w).alloc (Nat.le_refl _) (.cells #[.int .i64 b.t, .int .i64 0, .int .i64 b.u, .float .f64 b.s, .int .i64 b.c] 26)).alloc (by simp) (.cells #[.int .i64 0, .int .i64 0, .int .i64 0, .float .f64 0, .int .i64 0] 26)).trans (hb.mono (by simp; omega)))
      have HX1 := Lib.hid (((BAt.new w ⟨b.t, 0, b.u, b.s, b.c⟩).alloc (.cells #[.int .i64 0, .int .i64 0, .int .i64 0, .float .f64 0, .int .i64 0] 26)).later hb)
      have HR1 := Lib.hid ((BAt.new1 w (.cells #[.int .i64 b.t, .int .i64 0, .int .i64 b.u, .float .f64 b.s, .int .i64 b.c] 26) zB).later hb)
      unfold zB at HR1
      have m0 := HX1.out.c0
      have mz0 := HX1.out.fz 0
      have m1 := HX1.out.c1
      have mz1 := HX1.out.fz 1
      have m2 := HX1.out.c2
      have mz2 := HX1.out.fz 2
      have m3 := HX1.out.c3
      have mz3 := HX1.out.fz 3
      have m4 := HX1.out.c4
      have mz4 := HX1.out.fz 4
      have mlt := HX1.out.lt
      have r0 := HR1.out.c0
      have rz0 := HR1.out.fz 0
      have r1 := HR1.out.c1
      have rz1 := HR1.out.fz 1
      have r2 := HR1.out.c2
      have rz2 := HR1.out.fz 2
      have r3 := HR1.out.c3
      have rz3 := HR1.out.fz 3
      have r4 := HR1.out.c4
      have rz4 := HR1.out.fz 4
      have rlt := HR1.out.lt
      clear hb
      go_wp2_with fail
      have HB2 := Lib.hid ((HB.out.setCell (p := ⟨w.heap.size, 3, none⟩) (Nat.le_refl _) (.float .f64 s')).setCell (p := ⟨w.heap.size, 4, none⟩) (Nat.le_refl _) (.int .i64 c'))
      have HR2 := (HR1.out.other (p := ⟨w.heap.size, 3, none⟩) (by simp) (.float .f64 s')).other (p := ⟨w.heap.size, 4, none⟩) (by simp) (.int .i64 c')
      have HS := HR2.set5 b.t 0 b.u s' c'
      have f0 := HS.c0
      have f1 := HS.c1
      have f2 := HS.c2
      have f3 := HS.c3
      have f4 := HS.c4
      exact bodyPost_ret (v := bV ⟨b.t, 0, b.u, s', c'⟩) (by simp [results, Try.results38, go_sem, f0, f1, f2, f3, f4, bV]) rfl ⟨HZ.out, below_set5 HB2.out (by omega) b.t 0 b.u s' c'⟩
  | false =>
    rw [show xB false = 0 from rfl] at HN
    rw [show failsB b false = if b.f + 1 ≤ 1048576 then b.f + 1 else 1048576 from rfl] at HZ
    by_cases hm : b.f + 1 ≤ 1048576
    · rw [if_pos hm] at HZ
      go_enter Try.func38, Try.ntmps38
      go_wp2_with fail
      refine Calls.mono (HN.out _) ?_
      rintro e w1 ⟨rfl, hb⟩
      have HB := Lib.hid ((((Below.refl _ w).alloc (Nat.le_refl _) (.cells #[.int .i64 b.t, .int .i64 (b.f + 1), .int .i64 b.u, .float .f64 b.s, .int .i64 b.c] 26)).alloc (by simp) (.cells #[.int .i64 0, .int .i64 0, .int .i64 0, .float .f64 0, .int .i64 0] 26)).trans (hb.mono (by simp; omega)))
      have HX1 := Lib.hid (((BAt.new w ⟨b.t, (b.f + 1), b.u, b.s, b.c⟩).alloc (.cells #[.int .i64 0, .int .i64 0, .int .i64 0, .float .f64 0, .int .i64 0] 26)).later hb)
      have HR1 := Lib.hid ((BAt.new1 w (.cells #[.int .i64 b.t, .int .i64 (b.f + 1), .int .i64 b.u, .float .f64 b.s, .int .i64 b.c] 26) zB).later hb)
      unfold zB at HR1
      have m0 := HX1.out.c0
      have mz0 := HX1.out.fz 0
      have m1 := HX1.out.c1
      have mz1 := HX1.out.fz 1
      have m2 := HX1.out.c2
      have mz2 := HX1.out.fz 2
      have m3 := HX1.out.c3
      have mz3 := HX1.out.fz 3
      have m4 := HX1.out.c4
      have mz4 := HX1.out.fz 4
      have mlt := HX1.out.lt
      have r0 := HR1.out.c0
      have rz0 := HR1.out.fz 0
      have r1 := HR1.out.c1
      have rz1 := HR1.out.fz 1
      have r2 := HR1.out.c2
      have rz2 := HR1.out.fz 2
      have r3 := HR1.out.c3
      have rz3 := HR1.out.fz 3
      have r4 := HR1.out.c4
      have rz4 := HR1.out.fz 4
      have rlt := HR1.out.lt
      clear hb
      go_wp2_with fail
      have HB2 := Lib.hid ((HB.out.setCell (p := ⟨w.heap.size, 3, none⟩) (Nat.le_refl _) (.float .f64 s')).setCell (p := ⟨w.heap.size, 4, none⟩) (Nat.le_refl _) (.int .i64 c'))
      have HR2 := (HR1.out.other (p := ⟨w.heap.size, 3, none⟩) (by simp) (.float .f64 s')).other (p := ⟨w.heap.size, 4, none⟩) (by simp) (.int .i64 c')
      have HS := HR2.set5 b.t (b.f + 1) b.u s' c'
      have f0 := HS.c0
      have f1 := HS.c1
      have f2 := HS.c2
      have f3 := HS.c3
      have f4 := HS.c4
      exact bodyPost_ret (v := bV ⟨b.t, (b.f + 1), b.u, s', c'⟩) (by simp [results, Try.results38, go_sem, f0, f1, f2, f3, f4, bV]) rfl ⟨HZ.out, below_set5 HB2.out (by omega) b.t (b.f + 1) b.u s' c'⟩
    · rw [if_neg hm] at HZ
      go_enter Try.func38, Try.ntmps38
      go_wp2_with fail
      refine Calls.mono (HN.out _) ?_
      rintro e w1 ⟨rfl, hb⟩
      have HB := Lib.hid ((((Below.refl _ w).alloc (Nat.le_refl _) (.cells #[.int .i64 b.t, .int .i64 1048576, .int .i64 b.u, .float .f64 b.s, .int .i64 b.c] 26)).alloc (by simp) (.cells #[.int .i64 0, .int .i64 0, .int .i64 0, .float .f64 0, .int .i64 0] 26)).trans (hb.mono (by simp; omega)))
      have HX1 := Lib.hid (((BAt.new w ⟨b.t, 1048576, b.u, b.s, b.c⟩).alloc (.cells #[.int .i64 0, .int .i64 0, .int .i64 0, .float .f64 0, .int .i64 0] 26)).later hb)
      have HR1 := Lib.hid ((BAt.new1 w (.cells #[.int .i64 b.t, .int .i64 1048576, .int .i64 b.u, .float .f64 b.s, .int .i64 b.c] 26) zB).later hb)
      unfold zB at HR1
      have m0 := HX1.out.c0
      have mz0 := HX1.out.fz 0
      have m1 := HX1.out.c1
      have mz1 := HX1.out.fz 1
      have m2 := HX1.out.c2
      have mz2 := HX1.out.fz 2
      have m3 := HX1.out.c3
      have mz3 := HX1.out.fz 3
      have m4 := HX1.out.c4
      have mz4 := HX1.out.fz 4
      have mlt := HX1.out.lt
      have r0 := HR1.out.c0
      have rz0 := HR1.out.fz 0
      have r1 := HR1.out.c1
      have rz1 := HR1.out.fz 1
      have r2 := HR1.out.c2
      have rz2 := HR1.out.fz 2
      have r3 := HR1.out.c3
      have rz3 := HR1.out.fz 3
      have r4 := HR1.out.c4
      have rz4 := HR1.out.fz 4
      have rlt := HR1.out.lt
      clear hb
      go_wp2_with fail
      have HB2 := Lib.hid ((HB.out.setCell (p := ⟨w.heap.size, 3, none⟩) (Nat.le_refl _) (.float .f64 s')).setCell (p := ⟨w.heap.size, 4, none⟩) (Nat.le_refl _) (.int .i64 c'))
      have HR2 := (HR1.out.other (p := ⟨w.heap.size, 3, none⟩) (by simp) (.float .f64 s')).other (p := ⟨w.heap.size, 4, none⟩) (by simp) (.int .i64 c')
      have HS := HR2.set5 b.t 1048576 b.u s' c'
      have f0 := HS.c0
      have f1 := HS.c1
      have f2 := HS.c2
      have f3 := HS.c3
      have f4 := HS.c4
      exact bodyPost_ret (v := bV ⟨b.t, 1048576, b.u, s', c'⟩) (by simp [results, Try.results38, go_sem, f0, f1, f2, f3, f4, bV]) rfl ⟨HZ.out, below_set5 HB2.out (by omega) b.t 1048576 b.u s' c'⟩
end Go.Proofs.Ytlkikecnlafmeaa
