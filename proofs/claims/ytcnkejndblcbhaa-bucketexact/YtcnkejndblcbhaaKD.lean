/-
  Package bucket's without, fillsFor, ticksUntil, the page's Pass, Take and Wait, walked.
  Conditions: as each theorem states them.
-/
import Derived.Test.YtcnkejndblcbhaaKC
import Derived.Deep.QuietTactic
namespace Go.Proofs.Ytcnkejndblcbhaa
open Go.RowKit

theorem without_any (b : BI) (n : Int) (w : World) : Calls Try.prog 27 #[bV b, .int .i64 n] w fun r w' => r = endB (takeR b n) ∧ Below w.heap.size w w' := by
  have HV := Lib.hid (fun W => demandTokens_any b n W)
  have HD := Lib.hid (fun W => demand_any (decide (n ≤ b.l)) 9 W)
  have HE0 := Lib.hid (show endB (takeR b n) = endB (if okB b && inB n 0 1048576 then (if n ≤ b.l then .ok (takeI b n) else .error 9) else .error 1) from rfl)
  have HA := Lib.hid (((Below.refl _ w).alloc (Nat.le_refl _) (.cells #[.int .i64 b.l, .int .i64 b.c, .int .i64 b.f, .int .i64 b.e, .int .i64 b.d] 23)).alloc (by simp) (.cells #[.int .i64 zI.l, .int .i64 zI.c, .int .i64 zI.f, .int .i64 zI.e, .int .i64 zI.d] 23))
  have HN := Lib.hid ((BAt.new w b).alloc (.cells #[.int .i64 zI.l, .int .i64 zI.c, .int .i64 zI.f, .int .i64 zI.e, .int .i64 zI.d] 23))
  have HR := Lib.hid (BAt.new1 w (.cells #[.int .i64 b.l, .int .i64 b.c, .int .i64 b.f, .int .i64 b.e, .int .i64 b.d] 23) zI)
  have HK := Lib.hid (fun h : (okB b && inB n 0 1048576) = true => (show (0 ≤ b.l ∧ b.l ≤ 1048576) ∧ 0 ≤ n by
    rw [Bool.and_eq_true] at h
    obtain ⟨_, _, _, _, _⟩ := okB_iff.1 h.1
    have := inB_iff.1 h.2
    omega))
  generalize (okB b && inB n 0 1048576) = q at *
  generalize endB (takeR b n) = r at *
  unfold bV zI at *
  cases q with
  | true =>
    obtain ⟨⟨l1, l2⟩, n1⟩ := HK.out rfl
    clear HK
    simp only [endD_t] at HV
    by_cases hn : n ≤ b.l
    · have HE := Lib.hid (show Ending.returned (bV ⟨b.l - n, b.c, b.f, b.e, b.d⟩) = r by rw [HE0.out, if_pos rfl, if_pos hn]; rfl)
      have hnd : decide (n ≤ b.l) = true := decide_eq_true hn
      rw [hnd] at HD
      simp only [endD_t] at HD
      clear HE0
      go_enter Try.func27, Try.ntmps27
      go_wp2_with fail
      refine Calls.mono (HV.out _) ?_
      rintro e w1 ⟨rfl, hb⟩
      have HB := Lib.hid (HA.out.trans (hb.mono (by simp; omega)))
      have HN1 := Lib.hid (HN.out.later hb)
      have HR1 := Lib.hid (HR.out.later hb)
      have c0 := HN1.out.c0
      have cz0 := HN1.out.fz 0
      have c1 := HN1.out.c1
      have cz1 := HN1.out.fz 1
      have c2 := HN1.out.c2
      have cz2 := HN1.out.fz 2
      have c3 := HN1.out.c3
      have cz3 := HN1.out.fz 3
      have c4 := HN1.out.c4
      have cz4 := HN1.out.fz 4
      have clt := HN1.out.lt
      have r0 := HR1.out.c0
      have rz0 := HR1.out.fz 0
      have r1 := HR1.out.c1
      have rz1 := HR1.out.fz 1
      have r2 := HR1.out.c2
      have rz2 := HR1.out.fz 2
      have r3 := HR1.out.c3
      have rz3 := HR1.out.fz 3
      have r4 := HR1.out.c4
      have rz4 := HR1.out.fz 4
      have rlt := HR1.out.lt
      clear hb
      go_wp2_with fail
      refine Calls.mono (HD.out _) ?_
      rintro e w' ⟨rfl, he⟩
      have he := he.symm
      subst he
      have HB3 := Lib.hid (HB.out.setCell (p := ⟨w.heap.size, 0, none⟩) (Nat.le_refl _) (.int .i64 (b.l - n)))
      have HR3 := Lib.hid (HR1.out.other (p := ⟨w.heap.size, 0, none⟩) (by simp) (.int .i64 (b.l - n)))
      go_wp2_with fail
      have HS := HR3.out.set5 (b.l - n) (b.c) (b.f) (b.e) (b.d)
      have f0 := HS.c0
      have f1 := HS.c1
      have f2 := HS.c2
      have f3 := HS.c3
      have f4 := HS.c4
      exact bodyPost_ret (v := bV ⟨b.l - n, b.c, b.f, b.e, b.d⟩) (by simp [results, Try.results27, go_sem, f0, f1, f2, f3, f4, bV]) rfl ⟨HE.out, below_set5 HB3.out (by exact Nat.le_succ _) (b.l - n) (b.c) (b.f) (b.e) (b.d)⟩
    · have HE := Lib.hid (show wrongK 9 = r by rw [HE0.out, if_pos rfl, if_neg hn]; rfl)
      have hnd : decide (n ≤ b.l) = false := decide_eq_false hn
      rw [hnd] at HD
      clear HE0
      go_enter Try.func27, Try.ntmps27
      go_wp2_with fail
      refine Calls.mono (HV.out _) ?_
      rintro e w1 ⟨rfl, hb⟩
      have HB := Lib.hid (HA.out.trans (hb.mono (by simp; omega)))
      have HN1 := Lib.hid (HN.out.later hb)
      have c0 := HN1.out.c0
      have c1 := HN1.out.c1
      have c2 := HN1.out.c2
      have c3 := HN1.out.c3
      have c4 := HN1.out.c4
      clear hb
      go_wp2_with fail
      refine Calls.mono (HD.out _) ?_
      rintro e w' ⟨rfl, he⟩
      have he := he.symm
      subst he
      exact ⟨rfl, HE.out, HB.out⟩
  | false =>
    have HE := Lib.hid (show wrongK 1 = r by rw [HE0.out]; rfl)
    clear HE0 HK
    go_enter Try.func27, Try.ntmps27
    go_wp2_with fail
    refine Calls.mono (HV.out _) ?_
    rintro e w1 ⟨rfl, hb⟩
    have HB := Lib.hid (HA.out.trans (hb.mono (by simp; omega)))
    clear hb
    exact ⟨rfl, HE.out, HB.out⟩

/-- What a wait is reckoned by. -/
theorem wait_facts {b : BI} {n : Int} (h : (okB b && inB n 0 1048576) = true) : (0 ≤ b.l ∧ b.l ≤ 1048576) ∧ (0 ≤ n ∧ n ≤ 1048576) ∧ (0 ≤ b.f ∧ b.f ≤ 1048576) ∧ (1 ≤ b.e ∧ b.e ≤ 1048576) ∧ (0 ≤ b.d ∧ b.d ≤ 1048576) ∧
    (b.l < n → b.f ≠ 0 → ∃ q, (n - b.l + b.f - 1).tdiv b.f = q ∧ (n - b.l + b.f - 1) / b.f = q ∧ 0 ≤ q ∧ q ≤ 2097152 ∧ 0 ≤ q * b.e ∧ q * b.e ≤ 2199023255552) := by
  rw [Bool.and_eq_true] at h
  obtain ⟨⟨_, _⟩, ⟨_, _⟩, ⟨_, _⟩, ⟨_, _⟩, _, _⟩ := okB_iff.1 h.1
  have := inB_iff.1 h.2
  refine ⟨⟨by omega, by omega⟩, ⟨by omega, by omega⟩, ⟨by omega, by omega⟩, ⟨by omega, by omega⟩, ⟨by omega, by omega⟩, fun hl hf => ?_⟩
  have h1 : 0 ≤ n - b.l + b.f - 1 := by omega
  have q1 : 0 ≤ (n - b.l + b.f - 1) / b.f := Int.ediv_nonneg h1 (by omega)
  have q2 : (n - b.l + b.f - 1) / b.f ≤ 2097152 := Int.le_trans (Int.ediv_le_self _ h1) (by omega)
  refine ⟨_, Int.tdiv_eq_ediv_of_nonneg h1, rfl, q1, q2, Int.mul_nonneg q1 (by omega), ?_⟩
  have := Int.mul_le_mul q2 (show b.e ≤ 1048576 by omega) (by omega) (by decide)
  omega

theorem fillsFor_any (m f : Int) (w : World) (h1 : 0 ≤ m) (h2 : m ≤ 1048576) (h3 : 1 ≤ f) (h4 : f ≤ 1048576) : Calls Try.prog 37 #[.int .i64 m, .int .i64 f] w fun r w' => r = .returned (.int .i64 ((m + f - 1) / f)) ∧ w' = w := by
  have q1 : 0 ≤ (m + f - 1) / f := Int.ediv_nonneg (by omega) (by omega)
  have q2 : (m + f - 1) / f ≤ 2097152 := Int.le_trans (Int.ediv_le_self _ (by omega)) (by omega)
  have f0 : f ≠ 0 := by omega
  go_enter Try.func37, Try.ntmps37
  go_wp2_with fail
  go_ret
  exact ⟨rfl, rfl⟩

set_option maxHeartbeats 1000000 in
theorem ticksUntil_any (b : BI) (n : Int) (w : World) : Calls Try.prog 29 #[bV b, .int .i64 n] w fun r w' => r = endI (waitR b n) ∧ Below w.heap.size w w' := by
  have HV := Lib.hid (fun W => demandTokens_any b n W)
  have HE0 := Lib.hid (show endI (waitR b n) = endI (if okB b && inB n 0 1048576 then .ok (waitI b n) else .error 1) from rfl)
  have HW := Lib.hid (show waitI b n = if n ≤ b.l then 0 else if b.c < n ∨ b.f = 0 then -1 else (n - b.l + b.f - 1) / b.f * b.e - b.d from rfl)
  have HA := Lib.hid ((Below.refl _ w).alloc (Nat.le_refl _) (.cells #[.int .i64 b.l, .int .i64 b.c, .int .i64 b.f, .int .i64 b.e, .int .i64 b.d] 23))
  have HN := Lib.hid (BAt.new w b)
  have HK := Lib.hid (fun h => wait_facts (b := b) (n := n) h)
  generalize (okB b && inB n 0 1048576) = q at *
  generalize endI (waitR b n) = r at *
  generalize waitI b n = x at *
  unfold bV at *
  cases q with
  | true =>
    obtain ⟨⟨l1, l2⟩, ⟨n1, n2⟩, ⟨f1, f2⟩, ⟨e1, e2⟩, ⟨d1, d2⟩, hk⟩ := HK.out rfl
    have HE := Lib.hid (show Ending.returned (.int .i64 x) = r by rw [HE0.out]; rfl)
    clear HE0 HK
    simp only [endD_t] at HV
    by_cases hn : n ≤ b.l
    · rw [if_pos hn] at HW
      clear hk
      go_enter Try.func29, Try.ntmps29
      go_wp2_with fail
      refine Calls.mono (HV.out _) ?_
      rintro e w1 ⟨rfl, hb⟩
      have HB := Lib.hid (HA.out.trans (hb.mono (by simp)))
      have HN1 := Lib.hid (HN.out.later hb)
      have c0 := HN1.out.c0
      have c1 := HN1.out.c1
      have c2 := HN1.out.c2
      have c3 := HN1.out.c3
      have c4 := HN1.out.c4
      clear hb
      go_wp2_with fail
      go_ret
      exact ⟨by rw [← HE.out, HW.out]; rfl, HB.out⟩
    · have hnd : decide (n ≤ b.l) = false := decide_eq_false hn
      rw [if_neg hn] at HW
      by_cases hc : b.c < n
      · rw [if_pos (Or.inl hc)] at HW
        clear hk hn
        go_enter Try.func29, Try.ntmps29
        go_wp2_with fail
        refine Calls.mono (HV.out _) ?_
        rintro e w1 ⟨rfl, hb⟩
        have HB := Lib.hid (HA.out.trans (hb.mono (by simp)))
        have HN1 := Lib.hid (HN.out.later hb)
        have c0 := HN1.out.c0
        have c1 := HN1.out.c1
        have c2 := HN1.out.c2
        have c3 := HN1.out.c3
        have c4 := HN1.out.c4
        clear hb
        go_wp2_with fail
        go_ret
        exact ⟨by rw [← HE.out, HW.out]; rfl, HB.out⟩
      · have hcd : decide (b.c < n) = false := decide_eq_false hc
        by_cases hf : b.f = 0
        · rw [if_pos (Or.inr hf)] at HW
          have hfb : (b.f == 0) = true := beq_iff_eq.2 hf
          clear hk hn hc hf
          go_enter Try.func29, Try.ntmps29
          go_wp2_with fail
          refine Calls.mono (HV.out _) ?_
          rintro e w1 ⟨rfl, hb⟩
          have HB := Lib.hid (HA.out.trans (hb.mono (by simp)))
          have HN1 := Lib.hid (HN.out.later hb)
          have c0 := HN1.out.c0
          have c1 := HN1.out.c1
          have c2 := HN1.out.c2
          have c3 := HN1.out.c3
          have c4 := HN1.out.c4
          clear hb
          go_wp2_with fail
          go_ret
          exact ⟨by rw [← HE.out, HW.out]; rfl, HB.out⟩
        · have hfd : (b.f == 0) = false := beq_eq_false_iff_ne.2 hf
          rw [if_neg (fun h => h.elim hc hf)] at HW
          obtain ⟨q, hq1, hq2, q1, q2, p1, p2⟩ := hk (by omega) hf
          have HF := Lib.hid (fun W => fillsFor_any (n - b.l) b.f W (by omega) (by omega) (by omega) (by omega))
          rw [hq2] at HW HF
          have hw0 : IntKind.i64.wrap (n - b.l) = n - b.l := wrap_id (by omega) (by omega)
          have hw1 : IntKind.i64.wrap (q * b.e) = q * b.e := wrap_id (by omega) (by omega)
          have hw2 : IntKind.i64.wrap (q * b.e - b.d) = q * b.e - b.d := wrap_id (by omega) (by omega)
          clear hk hn hc hq1 hq2 hf
          go_enter Try.func29, Try.ntmps29
          go_wp2_with fail
          refine Calls.mono (HV.out _) ?_
          rintro e w1 ⟨rfl, hb⟩
          have HB := Lib.hid (HA.out.trans (hb.mono (by simp)))
          have HN1 := Lib.hid (HN.out.later hb)
          have c0 := HN1.out.c0
          have c1 := HN1.out.c1
          have c2 := HN1.out.c2
          have c3 := HN1.out.c3
          have c4 := HN1.out.c4
          clear hb
          go_wp2_with fail
          go_quiet ((go_at_call 37; exact Calls.quiet_of_same (HF.out _)))
          go_wp2_with fail
          go_ret
          exact ⟨by rw [← HE.out, HW.out]; rfl, below_drewN HB.out _⟩
  | false =>
    have HE := Lib.hid (show wrongK 1 = r by rw [HE0.out]; rfl)
    clear HE0 HK
    go_enter Try.func29, Try.ntmps29
    go_wp2_with fail
    refine Calls.mono (HV.out _) ?_
    rintro e w1 ⟨rfl, hb⟩
    have HB := Lib.hid (HA.out.trans (hb.mono (by simp)))
    clear hb
    exact ⟨rfl, HE.out, HB.out⟩

set_option maxHeartbeats 1000000 in
theorem rPass_any (b : BI) (n : Int) (w : World) (hb : okB b = true) (hn : inB n 0 1099511627776 = true) : Calls Try.prog 17 #[bV b, .int .i64 n] w fun r w' => r = .returned (bV (passI b n)) ∧ Below w.heap.size w w' := by
  obtain ⟨⟨t1, t2⟩, e0, Q, R, hQ, hR, hQ2, hR2, q1, q2, r1, r2, p1, p2⟩ := pass_facts hb hn
  obtain ⟨⟨_, k2⟩, _, ⟨l1, l2⟩, _, _⟩ := okB_iff.1 hb
  have hw1 : IntKind.i64.wrap Q = Q := wrap_id (by omega) (by omega)
  have hw2 : IntKind.i64.wrap (Q * b.f) = Q * b.f := wrap_id (by omega) (by omega)
  have hw3 : IntKind.i64.wrap (b.l + Q * b.f) = b.l + Q * b.f := wrap_id (by omega) (by omega)
  obtain ⟨M, hM, hM2⟩ : ∃ M, (if b.l + Q * b.f < b.c then b.l + Q * b.f else b.c) = M ∧ min b.c (b.l + Q * b.f) = M := ⟨_, rfl, by split <;> omega⟩
  have HE := Lib.hid (show Ending.returned (bV ⟨M, b.c, b.f, b.e, R⟩) = Ending.returned (bV (passI b n)) by rw [← hM2, ← hQ2, ← hR2]; rfl)
  have HA := Lib.hid (((Below.refl _ w).alloc (Nat.le_refl _) (.cells #[.int .i64 (BI.mk b.l b.c b.f b.e R).l, .int .i64 (BI.mk b.l b.c b.f b.e R).c, .int .i64 (BI.mk b.l b.c b.f b.e R).f, .int .i64 (BI.mk b.l b.c b.f b.e R).e, .int .i64 (BI.mk b.l b.c b.f b.e R).d] 23)).alloc (by simp) (.cells #[.int .i64 zI.l, .int .i64 zI.c, .int .i64 zI.f, .int .i64 zI.e, .int .i64 zI.d] 23))
  have HN := Lib.hid ((BAt.new w ⟨b.l, b.c, b.f, b.e, R⟩).alloc (.cells #[.int .i64 zI.l, .int .i64 zI.c, .int .i64 zI.f, .int .i64 zI.e, .int .i64 zI.d] 23))
  have HR := Lib.hid (BAt.new1 w (.cells #[.int .i64 (BI.mk b.l b.c b.f b.e R).l, .int .i64 (BI.mk b.l b.c b.f b.e R).c, .int .i64 (BI.mk b.l b.c b.f b.e R).f, .int .i64 (BI.mk b.l b.c b.f b.e R).e, .int .i64 (BI.mk b.l b.c b.f b.e R).d] 23) zI)
  clear hQ2 hR2 hM2 hb hn
  unfold bV zI at *
  simp only [] at HA HN HR
  go_enter Try.func17, Try.ntmps17
  go_wp2_with fail
  generalize ((w.alloc (.cells #[.int .i64 b.l, .int .i64 b.c, .int .i64 b.f, .int .i64 b.e, .int .i64 R] 23)).alloc (.cells #[.int .i64 0, .int .i64 0, .int .i64 0, .int .i64 0, .int .i64 0] 23)) = w1 at *
  have c0 := HN.out.c0
  have c1 := HN.out.c1
  have c2 := HN.out.c2
  have c3 := HN.out.c3
  have c4 := HN.out.c4
  go_still_tail 13, (by kernel_rfl)
  change wpList _ _ _ _ _ w1.drew
  have HB2 := Lib.hid (show Below w.heap.size w w1.drew from HA.out.drew)
  have HN2 := Lib.hid (show BAt w1.drew w.heap.size _ from HN.out)
  have HR2 := Lib.hid (show BAt w1.drew (w.heap.size + 1) _ from HR.out)
  clear c0 c1 c2 c3 c4 HA HN HR hM
  generalize w1.drew = w2 at *
  have c0 := HN2.out.c0
  have cz0 := HN2.out.fz 0
  have c1 := HN2.out.c1
  have cz1 := HN2.out.fz 1
  have c2 := HN2.out.c2
  have cz2 := HN2.out.fz 2
  have c3 := HN2.out.c3
  have cz3 := HN2.out.fz 3
  have c4 := HN2.out.c4
  have cz4 := HN2.out.fz 4
  have clt := HN2.out.lt
  have r0 := HR2.out.c0
  have rz0 := HR2.out.fz 0
  have r1 := HR2.out.c1
  have rz1 := HR2.out.fz 1
  have r2 := HR2.out.c2
  have rz2 := HR2.out.fz 2
  have r3 := HR2.out.c3
  have rz3 := HR2.out.fz 3
  have r4 := HR2.out.c4
  have rz4 := HR2.out.fz 4
  have rlt := HR2.out.lt
  have HB3 := Lib.hid (HB2.out.setCell (p := ⟨w.heap.size, 0, none⟩) (Nat.le_refl _) (.int .i64 M))
  have HR3 := Lib.hid (HR2.out.other (p := ⟨w.heap.size, 0, none⟩) (by simp) (.int .i64 M))
  go_wp2_with fail
  have HS := HR3.out.set5 (M) (b.c) (b.f) (b.e) (R)
  have f0 := HS.c0
  have f1 := HS.c1
  have f2 := HS.c2
  have f3 := HS.c3
  have f4 := HS.c4
  exact bodyPost_ret (v := bV ⟨M, b.c, b.f, b.e, R⟩) (by simp [results, Try.results17, go_sem, f0, f1, f2, f3, f4, bV]) rfl ⟨HE.out, below_set5 HB3.out (by exact Nat.le_succ _) (M) (b.c) (b.f) (b.e) (R)⟩

theorem rTake_any (b : BI) (n : Int) (w : World) (h : (okB b && inB n 0 1048576) = true) : Calls Try.prog 13 #[bV b, .int .i64 n] w fun r w' => r = .returned (.tuple #[if n ≤ b.l then bV (takeI b n) else bV b, .bool (decide (n ≤ b.l))]) ∧ Below w.heap.size w w' := by
  obtain ⟨⟨l1, l2⟩, ⟨n1, n2⟩, _⟩ := wait_facts h
  clear h
  have HA := Lib.hid (((Below.refl _ w).alloc (Nat.le_refl _) (.cells #[.int .i64 b.l, .int .i64 b.c, .int .i64 b.f, .int .i64 b.e, .int .i64 b.d] 23)).alloc (by simp) (.cells #[.int .i64 b.l, .int .i64 b.c, .int .i64 b.f, .int .i64 b.e, .int .i64 b.d] 23))
  have HA2 := Lib.hid (((Below.refl _ w).alloc (Nat.le_refl _) (.cells #[.int .i64 (takeI b n).l, .int .i64 (takeI b n).c, .int .i64 (takeI b n).f, .int .i64 (takeI b n).e, .int .i64 (takeI b n).d] 23)).alloc (by simp) (.cells #[.int .i64 (takeI b n).l, .int .i64 (takeI b n).c, .int .i64 (takeI b n).f, .int .i64 (takeI b n).e, .int .i64 (takeI b n).d] 23))
  by_cases hn : n ≤ b.l
  · have HE := Lib.hid (show Ending.returned (.tuple #[bV (takeI b n), .bool true]) = .returned (.tuple #[if n ≤ b.l then bV (takeI b n) else bV b, .bool (decide (n ≤ b.l))]) by rw [if_pos hn, decide_eq_true hn])
    generalize Ending.returned (.tuple #[if n ≤ b.l then bV (takeI b n) else bV b, .bool (decide (n ≤ b.l))]) = r at *
    have hlt : ¬ b.l < n := by omega
    unfold bV takeI at *
    go_enter Try.func13, Try.ntmps13
    go_wp2_with fail
    exact bodyPost_ret (v := .tuple #[bV ⟨b.l - n, b.c, b.f, b.e, b.d⟩, .bool true]) (by simp [results, Try.results13, go_sem, bV]) rfl ⟨HE.out, HA2.out⟩
  · have HE := Lib.hid (show Ending.returned (.tuple #[bV b, .bool false]) = .returned (.tuple #[if n ≤ b.l then bV (takeI b n) else bV b, .bool (decide (n ≤ b.l))]) by rw [if_neg hn, decide_eq_false hn])
    generalize Ending.returned (.tuple #[if n ≤ b.l then bV (takeI b n) else bV b, .bool (decide (n ≤ b.l))]) = r at *
    have hlt : b.l < n := by omega
    unfold bV takeI at *
    go_enter Try.func13, Try.ntmps13
    go_wp2_with fail
    exact bodyPost_ret (v := .tuple #[bV b, .bool false]) (by simp [results, Try.results13, go_sem, bV]) rfl ⟨HE.out, HA.out⟩

theorem rWait_any (b : BI) (n : Int) (w : World) (h : (okB b && inB n 0 1048576) = true) : Calls Try.prog 15 #[bV b, .int .i64 n] w fun r w' => r = .returned (.int .i64 (waitI b n)) ∧ Below w.heap.size w w' := by
  obtain ⟨⟨l1, l2⟩, ⟨n1, n2⟩, ⟨f1, f2⟩, ⟨e1, e2⟩, ⟨d1, d2⟩, hk⟩ := wait_facts h
  have HW := Lib.hid (show waitI b n = if n ≤ b.l then 0 else if b.c < n ∨ b.f = 0 then -1 else (n - b.l + b.f - 1) / b.f * b.e - b.d from rfl)
  have HA := Lib.hid ((Below.refl _ w).alloc (Nat.le_refl _) (.cells #[.int .i64 b.l, .int .i64 b.c, .int .i64 b.f, .int .i64 b.e, .int .i64 b.d] 23))
  clear h
  generalize waitI b n = x at *
  unfold bV at *
  by_cases hn : n ≤ b.l
  · rw [if_pos hn] at HW
    clear hk
    go_enter Try.func15, Try.ntmps15
    go_wp2_with fail
    go_ret
    exact ⟨by rw [HW.out]; rfl, HA.out⟩
  · have hnd : decide (n ≤ b.l) = false := decide_eq_false hn
    rw [if_neg hn] at HW
    by_cases hc : b.c < n
    · rw [if_pos (Or.inl hc)] at HW
      clear hk hn
      go_enter Try.func15, Try.ntmps15
      go_wp2_with fail
      go_ret
      exact ⟨by rw [HW.out]; rfl, HA.out⟩
    · have hcd : decide (b.c < n) = false := decide_eq_false hc
      by_cases hf : b.f = 0
      · rw [if_pos (Or.inr hf)] at HW
        have hfb : (b.f == 0) = true := beq_iff_eq.2 hf
        clear hk hn hc hf
        go_enter Try.func15, Try.ntmps15
        go_wp2_with fail
        go_ret
        exact ⟨by rw [HW.out]; rfl, HA.out⟩
      · have hfd : (b.f == 0) = false := beq_eq_false_iff_ne.2 hf
        rw [if_neg (fun h => h.elim hc hf)] at HW
        obtain ⟨q, hq1, hq2, q1, q2, p1, p2⟩ := hk (by omega) hf
        rw [hq2] at HW
        have f3 : 1 ≤ b.f := by omega
        have hw0 : IntKind.i64.wrap (n - b.l) = n - b.l := wrap_id (by omega) (by omega)
        have hw1 : IntKind.i64.wrap (q * b.e) = q * b.e := wrap_id (by omega) (by omega)
        have hw2 : IntKind.i64.wrap (q * b.e - b.d) = q * b.e - b.d := wrap_id (by omega) (by omega)
        clear hk hn hc
        go_enter Try.func15, Try.ntmps15
        go_wp2_with fail
        go_ret
        exact ⟨by rw [HW.out]; rfl, HA.out⟩
end Go.Proofs.Ytcnkejndblcbhaa
