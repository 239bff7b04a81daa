/-
  The page's Breaker, EqBreaker, NewBreaker, package breaker's New, walked.
  Conditions: as each theorem states them: a word is below 2 to the 64.
-/
import Derived.Test.YtlkikecnlafmeaaQA
namespace Go.Proofs.Ytlkikecnlafmeaa
open Go.RowKit

theorem rBreaker_any (b : BR) (w : World) (hs : b.s < 18446744073709551616) : Calls Try.prog 13 #[bV b] w fun e w' => e = .returned (.bool (okB b)) ∧ Below w.heap.size w w' := by
  have HA := Lib.hid ((Below.refl _ w).alloc (Nat.le_refl _) (.cells #[.int .i64 b.t, .int .i64 b.f, .int .i64 b.u, .float .f64 b.s, .int .i64 b.c] 26))
  have HE := Lib.hid (show okB b = (inB b.t 0 2 && inB b.f 0 1048576 && inB b.u 0 2199023255552 && (b.u == 0 || b.t == 1) && okH b.s b.c) from rfl)
  have H2 := Lib.hid (fun W => rNumB_any b.f 1048576 W)
  have H3 := Lib.hid (fun W => rNumB_any b.u 2199023255552 W)
  have H5 := Lib.hid (fun W => rHealth_any b.s b.c W hs)
  unfold bV
  unfold hV at H5
  clear hs
  generalize inB b.f 0 1048576 = q2 at *
  generalize inB b.u 0 2199023255552 = q3 at *
  generalize okH b.s b.c = q5 at *
  by_cases g1 : 0 ≤ b.t
  · by_cases g2 : b.t ≤ 2
    · rw [inB_iff.2 ⟨g1, g2⟩] at HE
      cases q2 with
      | false =>
        go_enter Try.func13, Try.ntmps13
        go_wp2_with fail
        refine Calls.mono (H2.out _) ?_
        rintro e w' ⟨rfl, he⟩
        have he := he.symm
        subst he
        go_wp2_with fail
        go_ret
        exact ⟨by rw [HE.out]; rfl, HA.out⟩
      | true =>
        cases q3 with
        | false =>
          go_enter Try.func13, Try.ntmps13
          go_wp2_with fail
          refine Calls.mono (H2.out _) ?_
          rintro e w' ⟨rfl, he⟩
          have he := he.symm
          subst he
          go_wp2_with fail
          refine Calls.mono (H3.out _) ?_
          rintro e w' ⟨rfl, he⟩
          have he := he.symm
          subst he
          go_wp2_with fail
          go_ret
          exact ⟨by rw [HE.out]; rfl, HA.out⟩
        | true =>
          cases hu : (b.u == 0) with
          | true =>
            rw [hu] at HE
            cases ht : (b.t == 1) with
            | true =>
              rw [ht] at HE
              go_enter Try.func13, Try.ntmps13
              go_wp2_with fail
              refine Calls.mono (H2.out _) ?_
              rintro e w' ⟨rfl, he⟩
              have he := he.symm
              subst he
              go_wp2_with fail
              refine Calls.mono (H3.out _) ?_
              rintro e w' ⟨rfl, he⟩
              have he := he.symm
              subst he
              go_wp2_with fail
              refine Calls.mono (H5.out _) ?_
              rintro e w1 ⟨rfl, hb⟩
              have HB := Lib.hid (HA.out.trans (hb.mono (by simp)))
              clear hb
              cases q5 <;>
                (go_wp2_with fail
                 go_ret
                 exact ⟨by rw [HE.out]; rfl, HB.out⟩)
            | false =>
              rw [ht] at HE
              go_enter Try.func13, Try.ntmps13
              go_wp2_with fail
              refine Calls.mono (H2.out _) ?_
              rintro e w' ⟨rfl, he⟩
              have he := he.symm
              subst he
              go_wp2_with fail
              refine Calls.mono (H3.out _) ?_
              rintro e w' ⟨rfl, he⟩
              have he := he.symm
              subst he
              go_wp2_with fail
              refine Calls.mono (H5.out _) ?_
              rintro e w1 ⟨rfl, hb⟩
              have HB := Lib.hid (HA.out.trans (hb.mono (by simp)))
              clear hb
              cases q5 <;>
                (go_wp2_with fail
                 go_ret
                 exact ⟨by rw [HE.out]; rfl, HB.out⟩)
          | false =>
            rw [hu] at HE
            cases ht : (b.t == 1) with
            | true =>
              rw [ht] at HE
              go_enter Try.func13, Try.ntmps13
              go_wp2_with fail
              refine Calls.mono (H2.out _) ?_
              rintro e w' ⟨rfl, he⟩
              have he := he.symm
              subst he
              go_wp2_with fail
              refine Calls.mono (H3.out _) ?_
              rintro e w' ⟨rfl, he⟩
              have he := he.symm
              subst he
              go_wp2_with fail
              refine Calls.mono (H5.out _) ?_
              rintro e w1 ⟨rfl, hb⟩
              have HB := Lib.hid (HA.out.trans (hb.mono (by simp)))
              clear hb
              cases q5 <;>
                (go_wp2_with fail
                 go_ret
                 exact ⟨by rw [HE.out]; rfl, HB.out⟩)
            | false =>
              rw [ht] at HE
              go_enter Try.func13, Try.ntmps13
              go_wp2_with fail
              refine Calls.mono (H2.out _) ?_
              rintro e w' ⟨rfl, he⟩
              have he := he.symm
              subst he
              go_wp2_with fail
              refine Calls.mono (H3.out _) ?_
              rintro e w' ⟨rfl, he⟩
              have he := he.symm
              subst he
              go_wp2_with fail
              go_ret
              exact ⟨by rw [HE.out]; rfl, HA.out⟩
    · have g2d : decide (b.t ≤ 2) = false := decide_eq_false g2
      rw [inB_not.2 (fun h => g2 h.2 : ¬ (0 ≤ b.t ∧ b.t ≤ 2))] at HE
      go_enter Try.func13, Try.ntmps13
      go_wp2_with fail
      go_ret
      exact ⟨by rw [HE.out]; rfl, HA.out⟩
  · have g1d : decide (0 ≤ b.t) = false := decide_eq_false g1
    rw [inB_not.2 (fun h => g1 h.1 : ¬ (0 ≤ b.t ∧ b.t ≤ 2))] at HE
    go_enter Try.func13, Try.ntmps13
    go_wp2_with fail
    go_ret
    exact ⟨by rw [HE.out]; rfl, HA.out⟩
theorem bnew_any (n : Nat) (hn : n = 9221120237041090561) (w : World) : Calls Try.prog 16 #[] w fun e w' => e = .returned (bV ⟨0, 0, 0, n, 0⟩) ∧ Below w.heap.size w w' := by
  have HN := Lib.hid (fun W => none_any n hn W)
  have hst := store_float
  have HA := Lib.hid ((Below.refl _ w).alloc (Nat.le_refl _) (.cells #[.int .i64 zB.t, .int .i64 zB.f, .int .i64 zB.u, .float .f64 zB.s, .int .i64 zB.c] 26))
  have HR := Lib.hid (BAt.new w zB)
  obtain ⟨z, hz⟩ : ∃ z, Ending.returned (bV ⟨0, 0, 0, n, 0⟩) = z := ⟨_, rfl⟩
  rw [hz]
  have HE := Lib.hid hz
  clear hz hn
  unfold hV at HN
  unfold zB at *
  go_enter Try.func16, Try.ntmps16
  go_wp2_with fail
  refine Calls.mono (HN.out _) ?_
  rintro e w1 ⟨rfl, hb⟩
  have HB := Lib.hid (HA.out.trans (hb.mono (by simp)))
  have HR1 := Lib.hid (HR.out.later hb)
  clear hb HA HR
  have r0 := HR1.out.c0
  have rz0 := HR1.out.fz 0
  have r1 := HR1.out.c1
  have rz1 := HR1.out.fz 1
  have r2 := HR1.out.c2
  have rz2 := HR1.out.fz 2
  have r3 := HR1.out.c3
  have rz3 := HR1.out.fz 3
  have r4 := HR1.out.c4
  have rz4 := HR1.out.fz 4
  have rlt := HR1.out.lt
  go_wp2_with fail
  have HS := HR1.out.set5 (0) (0) (0) (n) (0)
  have f0 := HS.c0
  have f1 := HS.c1
  have f2 := HS.c2
  have f3 := HS.c3
  have f4 := HS.c4
  exact bodyPost_ret (v := bV ⟨0, 0, 0, n, 0⟩) (by simp [results, Try.results16, go_sem, f0, f1, f2, f3, f4, bV]) rfl ⟨HE.out, below_set5 HB.out (by exact Nat.le_refl _) (0) (0) (0) (n) (0)⟩
theorem rnew_any (n : Nat) (hn : n = 9221120237041090561) (w : World) : Calls Try.prog 17 #[] w fun e w' => e = .returned (bV ⟨0, 0, 0, n, 0⟩) ∧ Below w.heap.size w w' := by
  have HN := Lib.hid (fun W => rnone_any n hn W)
  have hst := store_float
  have HA := Lib.hid ((Below.refl _ w).alloc (Nat.le_refl _) (.cells #[.int .i64 zB.t, .int .i64 zB.f, .int .i64 zB.u, .float .f64 zB.s, .int .i64 zB.c] 26))
  have HR := Lib.hid (BAt.new w zB)
  obtain ⟨z, hz⟩ : ∃ z, Ending.returned (bV ⟨0, 0, 0, n, 0⟩) = z := ⟨_, rfl⟩
  rw [hz]
  have HE := Lib.hid hz
  clear hz hn
  unfold hV at HN
  unfold zB at *
  go_enter Try.func17, Try.ntmps17
  go_wp2_with fail
  refine Calls.mono (HN.out _) ?_
  rintro e w1 ⟨rfl, hb⟩
  have HB := Lib.hid (HA.out.trans (hb.mono (by simp)))
  have HR1 := Lib.hid (HR.out.later hb)
  clear hb HA HR
  have r0 := HR1.out.c0
  have rz0 := HR1.out.fz 0
  have r1 := HR1.out.c1
  have rz1 := HR1.out.fz 1
  have r2 := HR1.out.c2
  have rz2 := HR1.out.fz 2
  have r3 := HR1.out.c3
  have rz3 := HR1.out.fz 3
  have r4 := HR1.out.c4
  have rz4 := HR1.out.fz 4
  have rlt := HR1.out.lt
  go_wp2_with fail
  have HS := HR1.out.set5 (0) (0) (0) (n) (0)
  have f0 := HS.c0
  have f1 := HS.c1
  have f2 := HS.c2
  have f3 := HS.c3
  have f4 := HS.c4
  exact bodyPost_ret (v := bV ⟨0, 0, 0, n, 0⟩) (by simp [results, Try.results17, go_sem, f0, f1, f2, f3, f4, bV]) rfl ⟨HE.out, below_set5 HB.out (by exact Nat.le_refl _) (0) (0) (0) (n) (0)⟩
/-- Are two the same, but for the signs of a NaN? -/
def eqB (a b : BR) : Bool := a.t == b.t && (a.f == b.f && (a.u == b.u && (a.c == b.c && eqF a.s b.s)))
theorem eqBreaker_any (a b : BR) (w : World) : Calls Try.prog 15 #[bV a, bV b] w fun e w' => e = .returned (.bool (eqB a b)) ∧ Below w.heap.size w w' := by
  have HA := Lib.hid (((Below.refl _ w).alloc (Nat.le_refl _) (.cells #[.int .i64 a.t, .int .i64 a.f, .int .i64 a.u, .float .f64 a.s, .int .i64 a.c] 26)).alloc (by simp) (.cells #[.int .i64 b.t, .int .i64 b.f, .int .i64 b.u, .float .f64 b.s, .int .i64 b.c] 26))
  have HM := Lib.hid ((BAt.new w a).alloc (.cells #[.int .i64 b.t, .int .i64 b.f, .int .i64 b.u, .float .f64 b.s, .int .i64 b.c] 26))
  have HEH := Lib.hid (fun W => eqHealth_any a.s b.s a.c b.c W)
  have HE := Lib.hid (show eqB a b = (a.t == b.t && (a.f == b.f && (a.u == b.u && (a.c == b.c && eqF a.s b.s)))) from rfl)
  generalize (a.c == b.c && eqF a.s b.s) = q at *
  have m0 := HM.out.c0
  have m1 := HM.out.c1
  have m2 := HM.out.c2
  have m3 := HM.out.c3
  have m4 := HM.out.c4
  unfold hV at HEH
  unfold bV
  cases h1 : (a.t == b.t) with
  | false =>
    rw [h1] at HE
    go_enter Try.func15, Try.ntmps15
    go_wp2_with fail
    go_ret
    exact ⟨by rw [HE.out]; rfl, HA.out⟩
  | true =>
    rw [h1] at HE
    cases h2 : (a.f == b.f) with
    | false =>
      rw [h2] at HE
      go_enter Try.func15, Try.ntmps15
      go_wp2_with fail
      go_ret
      exact ⟨by rw [HE.out]; rfl, HA.out⟩
    | true =>
      rw [h2] at HE
      cases h3 : (a.u == b.u) with
      | false =>
        rw [h3] at HE
        go_enter Try.func15, Try.ntmps15
        go_wp2_with fail
        go_ret
        exact ⟨by rw [HE.out]; rfl, HA.out⟩
      | true =>
        rw [h3] at HE
        go_enter Try.func15, Try.ntmps15
        go_wp2_with fail
        refine Calls.mono (HEH.out _) ?_
        rintro e w1 ⟨rfl, hb⟩
        have HB := Lib.hid (HA.out.trans (hb.mono (by simp; omega)))
        clear hb
        go_wp2_with fail
        go_ret
        exact ⟨by rw [HE.out]; rfl, HB.out⟩
end Go.Proofs.Ytlkikecnlafmeaa
