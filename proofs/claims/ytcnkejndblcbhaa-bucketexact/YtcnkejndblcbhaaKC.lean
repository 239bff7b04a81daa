/-
  Package bucket's full, fillsFor, after, without, ticksUntil, the page's Pass, Take and Wait, walked.
  Conditions: as each theorem states them.
-/
import Derived.Test.YtcnkejndblcbhaaKB
import Derived.StillTailTactics
namespace Go.Proofs.Ytcnkejndblcbhaa
open Go.RowKit

/-- A new one; one so many ticks later; one with so many less; how long it is waited. -/
def newI (m f e : Int) : BI := ⟨m, m, f, e, 0⟩
def passI (b : BI) (n : Int) : BI := ⟨min b.c (b.l + (b.d + n) / b.e * b.f), b.c, b.f, b.e, (b.d + n) % b.e⟩
def takeI (b : BI) (n : Int) : BI := ⟨b.l - n, b.c, b.f, b.e, b.d⟩
def waitI (b : BI) (n : Int) : Int := if n ≤ b.l then 0 else if b.c < n ∨ b.f = 0 then -1 else (n - b.l + b.f - 1) / b.f * b.e - b.d
/-- What comes of it, or the error. -/
def newR (m f e : Int) : Except Int BI := if okB (newI m f e) then .ok (newI m f e) else .error 1
def passR (b : BI) (n : Int) : Except Int BI := if okB b && inB n 0 1099511627776 then .ok (passI b n) else .error 1
def takeR (b : BI) (n : Int) : Except Int BI := if okB b && inB n 0 1048576 then (if n ≤ b.l then .ok (takeI b n) else .error 9) else .error 1
def waitR (b : BI) (n : Int) : Except Int Int := if okB b && inB n 0 1048576 then .ok (waitI b n) else .error 1
def endB (r : Except Int BI) : Ending := match r with | .ok x => .returned (bV x) | .error n => wrongK n
def endI (r : Except Int Int) : Ending := match r with | .ok x => .returned (.int .i64 x) | .error n => wrongK n

theorem full_any (m f e : Int) (w : World) : Calls Try.prog 25 #[.int .i64 m, .int .i64 f, .int .i64 e] w fun r w' => r = endB (newR m f e) ∧ Below w.heap.size w w' := by
  have HV := Lib.hid (fun W => demandValid_any (newI m f e) W)
  have HE0 := Lib.hid (show endB (newR m f e) = endB (if okB (newI m f e) then .ok (newI m f e) else .error 1) from rfl)
  have HA := Lib.hid (((Below.refl _ w).alloc (Nat.le_refl _) (.cells #[.int .i64 zI.l, .int .i64 zI.c, .int .i64 zI.f, .int .i64 zI.e, .int .i64 zI.d] 23)).alloc (by simp) (.cells #[.int .i64 (newI m f e).l, .int .i64 (newI m f e).c, .int .i64 (newI m f e).f, .int .i64 (newI m f e).e, .int .i64 (newI m f e).d] 23))
  have HN := Lib.hid (BAt.new1 w (.cells #[.int .i64 zI.l, .int .i64 zI.c, .int .i64 zI.f, .int .i64 zI.e, .int .i64 zI.d] 23) (newI m f e))
  have HR := Lib.hid ((BAt.new w zI).alloc (.cells #[.int .i64 (newI m f e).l, .int .i64 (newI m f e).c, .int .i64 (newI m f e).f, .int .i64 (newI m f e).e, .int .i64 (newI m f e).d] 23))
  generalize okB (newI m f e) = q at *
  generalize endB (newR m f e) = r at *
  unfold bV newI zI at *
  cases q with
  | true =>
    have HE := Lib.hid (show Ending.returned (bV ⟨m, m, f, e, 0⟩) = r by rw [HE0.out]; rfl)
    clear HE0
    simp only [endD_t] at HV
    go_enter Try.func25, Try.ntmps25
    go_wp2_with fail
    refine Calls.mono (HV.out _) ?_
    rintro e w1 ⟨rfl, hb⟩
    have HB := Lib.hid (HA.out.trans (hb.mono (by simp; omega)))
    have HN1 := Lib.hid (HN.out.later hb)
    have HR1 := Lib.hid (HR.out.later hb)
    have c0 := HN1.out.c0
    have c1 := HN1.out.c1
    have c2 := HN1.out.c2
    have c3 := HN1.out.c3
    have c4 := HN1.out.c4
    have r0 := HR1.out.c0
    have rz0 := HR1.out.fz 0
    have r1 := HR1.out.c1
    have rz1 := HR1.out.fz 1
    have r2 := HR1.out.c2
    have rz2 := HR1.out.fz 2
    have r3 := HR1.out.c3
    have rz3 := HR1.out.fz 3
    have r4 := HR1.out.c4
    have rz4 := HR1.out.fz 4
    have rlt := HR1.out.lt
    clear hb
    go_wp2_with fail
    have HS := HR1.out.set5 (m) (m) (f) (e) (0)
    have f0 := HS.c0
    have f1 := HS.c1
    have f2 := HS.c2
    have f3 := HS.c3
    have f4 := HS.c4
    exact bodyPost_ret (v := bV ⟨m, m, f, e, 0⟩) (by simp [results, Try.results25, go_sem, f0, f1, f2, f3, f4, bV]) rfl ⟨HE.out, below_set5 HB.out (by exact Nat.le_refl _) (m) (m) (f) (e) (0)⟩
  | false =>
    have HE := Lib.hid (show wrongK 1 = r by rw [HE0.out]; rfl)
    clear HE0
    go_enter Try.func25, Try.ntmps25
    go_wp2_with fail
    refine Calls.mono (HV.out _) ?_
    rintro e w1 ⟨rfl, hb⟩
    have HB := Lib.hid (HA.out.trans (hb.mono (by simp; omega)))
    clear hb
    exact ⟨rfl, HE.out, HB.out⟩

/-- What so many ticks are reckoned by. -/
theorem pass_facts {b : BI} {n : Int} (hb : okB b = true) (hn : inB n 0 1099511627776 = true) :
    (0 ≤ b.d + n ∧ b.d + n ≤ 2199023255552) ∧ b.e ≠ 0 ∧ ∃ q r, (b.d + n).tdiv b.e = q ∧ (b.d + n).tmod b.e = r ∧ (b.d + n) / b.e = q ∧ (b.d + n) % b.e = r ∧ 0 ≤ q ∧ q ≤ 2199023255552 ∧ 0 ≤ r ∧ r < b.e ∧ 0 ≤ q * b.f ∧ q * b.f ≤ 2305843009213693952 := by
  obtain ⟨hc, hf, hl, he, hd⟩ := okB_iff.1 hb
  have hn := inB_iff.1 hn
  have h1 : 0 ≤ b.d + n := by omega
  have h2 : b.d + n ≤ 2199023255552 := by omega
  have q1 : 0 ≤ (b.d + n) / b.e := Int.ediv_nonneg h1 (by omega)
  have q2 : (b.d + n) / b.e ≤ 2199023255552 := Int.le_trans (Int.ediv_le_self _ h1) h2
  refine ⟨⟨h1, h2⟩, by omega, _, _, rfl, rfl, (Int.tdiv_eq_ediv_of_nonneg h1).symm, (Int.tmod_eq_emod_of_nonneg h1).symm, ?_, ?_, ?_, ?_, ?_, ?_⟩
  · rw [Int.tdiv_eq_ediv_of_nonneg h1]; exact q1
  · rw [Int.tdiv_eq_ediv_of_nonneg h1]; exact q2
  · rw [Int.tmod_eq_emod_of_nonneg h1]; exact Int.emod_nonneg _ (by omega)
  · rw [Int.tmod_eq_emod_of_nonneg h1]; exact Int.emod_lt_of_pos _ (by omega)
  · rw [Int.tdiv_eq_ediv_of_nonneg h1]; exact Int.mul_nonneg q1 hf.1
  · rw [Int.tdiv_eq_ediv_of_nonneg h1]
    have := Int.mul_le_mul q2 hf.2 hf.1 (by decide)
    omega

theorem after_any (b : BI) (n : Int) (w : World) : Calls Try.prog 31 #[bV b, .int .i64 n] w fun r w' => r = endB (passR b n) ∧ Below w.heap.size w w' := by
  have HV := Lib.hid (fun W => demandValid_any b W)
  have HW := Lib.hid (fun W => within_any n 0 1099511627776 W)
  have HD := Lib.hid (fun W => demand_any (inB n 0 1099511627776) 1 W)
  have HE0 := Lib.hid (show endB (passR b n) = endB (if okB b && inB n 0 1099511627776 then .ok (passI b n) else .error 1) from rfl)
  have HA := Lib.hid (((Below.refl _ w).alloc (Nat.le_refl _) (.cells #[.int .i64 b.l, .int .i64 b.c, .int .i64 b.f, .int .i64 b.e, .int .i64 b.d] 23)).alloc (by simp) (.cells #[.int .i64 zI.l, .int .i64 zI.c, .int .i64 zI.f, .int .i64 zI.e, .int .i64 zI.d] 23))
  have HN := Lib.hid ((BAt.new w b).alloc (.cells #[.int .i64 zI.l, .int .i64 zI.c, .int .i64 zI.f, .int .i64 zI.e, .int .i64 zI.d] 23))
  have HR := Lib.hid (BAt.new1 w (.cells #[.int .i64 b.l, .int .i64 b.c, .int .i64 b.f, .int .i64 b.e, .int .i64 b.d] 23) zI)
  have HF := Lib.hid (fun h1 h2 => pass_facts (b := b) (n := n) h1 h2)
  have HK := Lib.hid (fun h => okB_iff (b := b).1 h)
  generalize okB b = q at *
  generalize inB n 0 1099511627776 = q2 at *
  generalize endB (passR b n) = r at *
  unfold bV zI at *
  cases q with
  | true =>
    cases q2 with
    | true =>
      obtain ⟨⟨t1, t2⟩, e0, Q, R, hQ, hR, hQ2, hR2, q1, q2, r1, r2, p1, p2⟩ := HF.out rfl rfl
      obtain ⟨⟨_, k2⟩, _, ⟨l1, l2⟩, _, _⟩ := HK.out rfl
      have hw1 : IntKind.i64.wrap Q = Q := wrap_id (by omega) (by omega)
      have hw2 : IntKind.i64.wrap (Q * b.f) = Q * b.f := wrap_id (by omega) (by omega)
      have hw3 : IntKind.i64.wrap (b.l + Q * b.f) = b.l + Q * b.f := wrap_id (by omega) (by omega)
      have HE := Lib.hid (show Ending.returned (bV ⟨min b.c (b.l + Q * b.f), b.c, b.f, b.e, R⟩) = r by rw [HE0.out, ← hQ2, ← hR2]; rfl)
      clear HE0 HF hQ2 hR2 HK
      simp only [endD_t] at HV HD
      go_enter Try.func31, Try.ntmps31
      go_wp2_with fail
      refine Calls.mono (HV.out _) ?_
      rintro e w1 ⟨rfl, hb⟩
      have HB := Lib.hid (HA.out.trans (hb.mono (by simp; omega)))
      have HN1 := Lib.hid (HN.out.later hb)
      have HR1 := Lib.hid (HR.out.later hb)
      have c0 := HN1.out.c0
      have cz0 := HN1.out.fz 0
      have c1 := HN1.out.c1
      have cz1 := HN1.out.fz 1
      have c2 := HN1.out.c2
      have cz2 := HN1.out.fz 2
      have c3 := HN1.out.c3
      have cz3 := HN1.out.fz 3
      have c4 := HN1.out.c4
      have cz4 := HN1.out.fz 4
      have clt := HN1.out.lt
      have r0 := HR1.out.c0
      have rz0 := HR1.out.fz 0
      have r1 := HR1.out.c1
      have rz1 := HR1.out.fz 1
      have r2 := HR1.out.c2
      have rz2 := HR1.out.fz 2
      have r3 := HR1.out.c3
      have rz3 := HR1.out.fz 3
      have r4 := HR1.out.c4
      have rz4 := HR1.out.fz 4
      have rlt := HR1.out.lt
      clear hb
      go_wp2_with fail
      refine Calls.mono (HW.out _) ?_
      rintro e w' ⟨rfl, he⟩
      have he := he.symm
      subst he
      go_wp2_with fail
      refine Calls.mono (HD.out _) ?_
      rintro e w' ⟨rfl, he⟩
      have he := he.symm
      subst he
      go_wp2_with fail
      go_still_tail 13, (by kernel_rfl)
      change wpList _ _ _ _ _ w1.drew
      obtain ⟨M, hM, hM2⟩ : ∃ M, (if b.c < b.l + Q * b.f then b.c else b.l + Q * b.f) = M ∧ min b.c (b.l + Q * b.f) = M := ⟨_, rfl, by split <;> omega⟩
      rw [hM]
      rw [hM2] at HE
      have HB2 := Lib.hid (show Below w.heap.size w w1.drew from HB.out.drew)
      have HN2 := Lib.hid (show BAt w1.drew w.heap.size b from HN1.out)
      have HR2 := Lib.hid (show BAt w1.drew (w.heap.size + 1) _ from HR1.out)
      clear c0 c1 c2 c3 c4 cz0 cz1 cz2 cz3 cz4 clt r0 r1 r2 r3 r4 rz0 rz1 rz2 rz3 rz4 rlt HB HN1 HR1 hM hM2
      generalize w1.drew = w2 at *
      have c0 := HN2.out.c0
      have cz0 := HN2.out.fz 0
      have c1 := HN2.out.c1
      have cz1 := HN2.out.fz 1
      have c2 := HN2.out.c2
      have cz2 := HN2.out.fz 2
      have c3 := HN2.out.c3
      have cz3 := HN2.out.fz 3
      have c4 := HN2.out.c4
      have cz4 := HN2.out.fz 4
      have clt := HN2.out.lt
      have r0 := HR2.out.c0
      have rz0 := HR2.out.fz 0
      have r1 := HR2.out.c1
      have rz1 := HR2.out.fz 1
      have r2 := HR2.out.c2
      have rz2 := HR2.out.fz 2
      have r3 := HR2.out.c3
      have rz3 := HR2.out.fz 3
      have r4 := HR2.out.c4
      have rz4 := HR2.out.fz 4
      have rlt := HR2.out.lt
      have HB3 := Lib.hid ((HB2.out.setCell (p := ⟨w.heap.size, 0, none⟩) (Nat.le_refl _) (.int .i64 M)).setCell (p := ⟨w.heap.size, 4, none⟩) (Nat.le_refl _) (.int .i64 R))
      have HR3 := Lib.hid ((HR2.out.other (p := ⟨w.heap.size, 0, none⟩) (by simp) (.int .i64 M)).other (p := ⟨w.heap.size, 4, none⟩) (by simp) (.int .i64 R))
      go_wp2_with fail
      have HS := HR3.out.set5 (M) (b.c) (b.f) (b.e) (R)
      have f0 := HS.c0
      have f1 := HS.c1
      have f2 := HS.c2
      have f3 := HS.c3
      have f4 := HS.c4
      exact bodyPost_ret (v := bV ⟨M, b.c, b.f, b.e, R⟩) (by simp [results, Try.results31, go_sem, f0, f1, f2, f3, f4, bV]) rfl ⟨HE.out, below_set5 HB3.out (by exact Nat.le_succ _) (M) (b.c) (b.f) (b.e) (R)⟩
    | false =>
      have HE := Lib.hid (show wrongK 1 = r by rw [HE0.out]; rfl)
      clear HE0
      simp only [endD_t] at HV
      go_enter Try.func31, Try.ntmps31
      go_wp2_with fail
      refine Calls.mono (HV.out _) ?_
      rintro e w1 ⟨rfl, hb⟩
      have HB := Lib.hid (HA.out.trans (hb.mono (by simp; omega)))
      clear hb
      go_wp2_with fail
      refine Calls.mono (HW.out _) ?_
      rintro e w' ⟨rfl, he⟩
      have he := he.symm
      subst he
      go_wp2_with fail
      refine Calls.mono (HD.out _) ?_
      rintro e w' ⟨rfl, he⟩
      have he := he.symm
      subst he
      exact ⟨rfl, HE.out, HB.out⟩
  | false =>
    have HE := Lib.hid (show wrongK 1 = r by rw [HE0.out]; rfl)
    clear HE0
    go_enter Try.func31, Try.ntmps31
    go_wp2_with fail
    refine Calls.mono (HV.out _) ?_
    rintro e w1 ⟨rfl, hb⟩
    have HB := Lib.hid (HA.out.trans (hb.mono (by simp; omega)))
    clear hb
    exact ⟨rfl, HE.out, HB.out⟩
end Go.Proofs.Ytcnkejndblcbhaa
