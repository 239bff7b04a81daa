/-
  A config in a block; package breaker's End, walked.
  Conditions: as each theorem states them: a word is below 2 to the 64.
-/
import Derived.BigRegion
import Derived.Test.YtlkikecnlafmeaaQF
namespace Go.Proofs.Ytlkikecnlafmeaa
open Go.RowKit

/-- A config in a block. -/
def CfAt (w : World) (k : Nat) (fl pa : Int) (fo : Nat) : Prop := w.heap[k]? = some (.cells #[.slice none 0 0, .string ByteArray.empty, .int .i64 0, .int .i64 0, .slice none 0 0, .int .i64 fl, .int .i64 pa, .float .f64 fo] 50 (0, 0))
section
variable {w w' : World} {k : Nat} {fl pa : Int} {fo : Nat}
theorem CfAt.lt (h : CfAt w k fl pa fo) : k < w.heap.size := (Array.getElem?_eq_some_iff.1 h).1
theorem CfAt.c0 (h : CfAt w k fl pa fo) : w.cell? ⟨k, 0, none⟩ = some (.slice none 0 0) := by
  have h' : w.heap[k]? = some (.cells #[.slice none 0 0, .string ByteArray.empty, .int .i64 0, .int .i64 0, .slice none 0 0, .int .i64 fl, .int .i64 pa, .float .f64 fo] 50 (0, 0)) := h
  simp [World.cell?, h']
theorem CfAt.c1 (h : CfAt w k fl pa fo) : w.cell? ⟨k, 1, none⟩ = some (.string ByteArray.empty) := by
  have h' : w.heap[k]? = some (.cells #[.slice none 0 0, .string ByteArray.empty, .int .i64 0, .int .i64 0, .slice none 0 0, .int .i64 fl, .int .i64 pa, .float .f64 fo] 50 (0, 0)) := h
  simp [World.cell?, h']
theorem CfAt.c2 (h : CfAt w k fl pa fo) : w.cell? ⟨k, 2, none⟩ = some (.int .i64 0) := by
  have h' : w.heap[k]? = some (.cells #[.slice none 0 0, .string ByteArray.empty, .int .i64 0, .int .i64 0, .slice none 0 0, .int .i64 fl, .int .i64 pa, .float .f64 fo] 50 (0, 0)) := h
  simp [World.cell?, h']
theorem CfAt.c3 (h : CfAt w k fl pa fo) : w.cell? ⟨k, 3, none⟩ = some (.int .i64 0) := by
  have h' : w.heap[k]? = some (.cells #[.slice none 0 0, .string ByteArray.empty, .int .i64 0, .int .i64 0, .slice none 0 0, .int .i64 fl, .int .i64 pa, .float .f64 fo] 50 (0, 0)) := h
  simp [World.cell?, h']
theorem CfAt.c4 (h : CfAt w k fl pa fo) : w.cell? ⟨k, 4, none⟩ = some (.slice none 0 0) := by
  have h' : w.heap[k]? = some (.cells #[.slice none 0 0, .string ByteArray.empty, .int .i64 0, .int .i64 0, .slice none 0 0, .int .i64 fl, .int .i64 pa, .float .f64 fo] 50 (0, 0)) := h
  simp [World.cell?, h']
theorem CfAt.c5 (h : CfAt w k fl pa fo) : w.cell? ⟨k, 5, none⟩ = some (.int .i64 fl) := by
  have h' : w.heap[k]? = some (.cells #[.slice none 0 0, .string ByteArray.empty, .int .i64 0, .int .i64 0, .slice none 0 0, .int .i64 fl, .int .i64 pa, .float .f64 fo] 50 (0, 0)) := h
  simp [World.cell?, h']
theorem CfAt.c6 (h : CfAt w k fl pa fo) : w.cell? ⟨k, 6, none⟩ = some (.int .i64 pa) := by
  have h' : w.heap[k]? = some (.cells #[.slice none 0 0, .string ByteArray.empty, .int .i64 0, .int .i64 0, .slice none 0 0, .int .i64 fl, .int .i64 pa, .float .f64 fo] 50 (0, 0)) := h
  simp [World.cell?, h']
theorem CfAt.c7 (h : CfAt w k fl pa fo) : w.cell? ⟨k, 7, none⟩ = some (.float .f64 fo) := by
  have h' : w.heap[k]? = some (.cells #[.slice none 0 0, .string ByteArray.empty, .int .i64 0, .int .i64 0, .slice none 0 0, .int .i64 fl, .int .i64 pa, .float .f64 fo] 50 (0, 0)) := h
  simp [World.cell?, h']
theorem CfAt.later (h : CfAt w k fl pa fo) (hb : Below w.heap.size w w') : CfAt w' k fl pa fo := (hb.block k h.lt).trans h
theorem CfAt.alloc (h : CfAt w k fl pa fo) (o : Obj) : CfAt (w.alloc o) k fl pa fo := (Below.heap_alloc w o k h.lt).trans h
theorem CfAt.other (h : CfAt w k fl pa fo) {p : Addr} (hp : k ≠ p.block) (v : Value) : CfAt (w.setCell p v) k fl pa fo := (Below.heap_setCell w p v k hp).trans h
theorem CfAt.other5 (h : CfAt w k fl pa fo) {m : Nat} (hp : k ≠ m) (t f u : Int) (s : Nat) (c : Int) : CfAt (((((w.setCell ⟨m, 0, none⟩ (.int .i64 t)).setCell ⟨m, 1, none⟩ (.int .i64 f)).setCell ⟨m, 2, none⟩ (.int .i64 u)).setCell ⟨m, 3, none⟩ (.float .f64 s)).setCell ⟨m, 4, none⟩ (.int .i64 c)) k fl pa fo :=
  ((((h.other (p := ⟨m, 0, none⟩) hp _).other (p := ⟨m, 1, none⟩) hp _).other (p := ⟨m, 2, none⟩) hp _).other (p := ⟨m, 3, none⟩) hp _).other (p := ⟨m, 4, none⟩) hp _
end
theorem CfAt.new (w : World) (fl pa : Int) (fo : Nat) : CfAt (w.alloc (.cells #[.slice none 0 0, .string ByteArray.empty, .int .i64 0, .int .i64 0, .slice none 0 0, .int .i64 fl, .int .i64 pa, .float .f64 fo] 50)) w.heap.size fl pa fo := heap_alloc_new w _
theorem CfAt.new1 (w : World) (o : Obj) (fl pa : Int) (fo : Nat) : CfAt ((w.alloc o).alloc (.cells #[.slice none 0 0, .string ByteArray.empty, .int .i64 0, .int .i64 0, .slice none 0 0, .int .i64 fl, .int .i64 pa, .float .f64 fo] 50)) (w.heap.size + 1) fl pa fo := by
  have := CfAt.new (w.alloc o) fl pa fo
  rwa [show (w.alloc o).heap.size = w.heap.size + 1 by simp] at this

/-- May a try end so? -/
def mayE (b : BR) (now fl pa : Int) : Bool := okB b && inB now 0 1099511627776 && okC fl pa
/-- What a breaker is when a try has ended. -/
def endB (r : BR) (ok : Bool) (now fl pa : Int) (fo n : Nat) : BR :=
  if r.t = 2 then (if ok then ⟨0, r.f, r.u, n, 0⟩ else ⟨1, r.f, now + pa, r.s, r.c⟩)
  else if r.t = 0 then (if decide (fl ≤ r.f) || !goodF r.s fo then ⟨1, r.f, now + pa, r.s, r.c⟩ else r)
  else r
def endR (b : BR) (ok : Bool) (now fl pa : Int) (fo n : Nat) : Except Int BR := if mayE b now fl pa then .ok (endB (recB b ok) ok now fl pa fo n) else .error 1
/-- A health that may be stays one. -/
theorem next_ok {s : Nat} {c : Int} {x u : Nat} (hs : s < 18446744073709551616) (hx : x < 18446744073709551616) (hq : okH s c = true) : okH (nextS s c x u) (nextC c x) = true ∧ nextS s c x u < 18446744073709551616 := by
  unfold nextS nextC
  cases hn : nanF x with
  | true =>
    simp only [if_true]
    exact ⟨hq, hs⟩
  | false =>
    simp only [Bool.false_eq_true, if_false]
    have hcl := clamp_le hx hn
    have hc0 : 0 ≤ c := by
      by_cases hc : c = 0
      · omega
      · have := (okH_pos hq hc).1
        omega
    have key : ∀ y, y ≤ 4607182418800017408 → okH y (if c + 1 ≤ 1099511627776 then c + 1 else 1099511627776) = true ∧ y < 18446744073709551616 := by
      intro y hy
      refine ⟨?_, by omega⟩
      unfold okH
      rw [if_neg (by split <;> omega), decide_eq_true (by split <;> omega), decide_eq_true (by split <;> omega), decide_eq_true hy]
      rfl
    by_cases hc : c = 0
    · rw [if_pos hc]
      exact key _ hcl
    · rw [if_neg hc]
      exact key _ (note_in (okH_pos hq hc).2.2)
theorem rec_ok {b : BR} {ok : Bool} (hs : b.s < 18446744073709551616) (hq : okB b = true) : okB (recB b ok) = true ∧ (recB b ok).s < 18446744073709551616 ∧ okH (recB b ok).s (recB b ok).c = true := by
  obtain ⟨h1, h2, h3, h4, hh⟩ := okB_iff.1 hq
  have k := next_ok (u := 4598175219545276416) hs (xB_lt ok) hh
  refine ⟨okB_iff.2 ⟨h1, ?_, h3, h4, k.1⟩, k.2, k.1⟩
  simp only [recB, failsB]
  cases ok
  · simp only [Bool.false_eq_true, if_false]
    split <;> omega
  · simp

set_option maxHeartbeats 2000000 in
theorem bend_any (b : BR) (ok : Bool) (now fl pa : Int) (fo n : Nat) (hn : n = 9221120237041090561) (w : World) (hs : b.s < 18446744073709551616) :
    Calls Try.prog 24 #[bV b, .bool ok, .int .i64 now, cV fl pa fo] w fun e w' => e = .returned (outB (endR b ok now fl pa fo n)) ∧ Below w.heap.size w w' := by
  have hst := store_float
  have HA := Lib.hid ((((Below.refl _ w).alloc (Nat.le_refl _) (.cells #[.int .i64 b.t, .int .i64 b.f, .int .i64 b.u, .float .f64 b.s, .int .i64 b.c] 26)).alloc (by simp) (.cells #[.slice none 0 0, .string ByteArray.empty, .int .i64 0, .int .i64 0, .slice none 0 0, .int .i64 fl, .int .i64 pa, .float .f64 fo] 50)).alloc (by simp; omega) (.cells #[.int .i64 zB.t, .int .i64 zB.f, .int .i64 zB.u, .float .f64 zB.s, .int .i64 zB.c] 26))
  have HX := Lib.hid (((BAt.new w b).alloc (.cells #[.slice none 0 0, .string ByteArray.empty, .int .i64 0, .int .i64 0, .slice none 0 0, .int .i64 fl, .int .i64 pa, .float .f64 fo] 50)).alloc (.cells #[.int .i64 zB.t, .int .i64 zB.f, .int .i64 zB.u, .float .f64 zB.s, .int .i64 zB.c] 26))
  have HK := Lib.hid ((CfAt.new1 w (.cells #[.int .i64 b.t, .int .i64 b.f, .int .i64 b.u, .float .f64 b.s, .int .i64 b.c] 26) fl pa fo).alloc (.cells #[.int .i64 zB.t, .int .i64 zB.f, .int .i64 zB.u, .float .f64 zB.s, .int .i64 zB.c] 26))
  have HR := Lib.hid (BAt.new2 w (.cells #[.int .i64 b.t, .int .i64 b.f, .int .i64 b.u, .float .f64 b.s, .int .i64 b.c] 26) (.cells #[.slice none 0 0, .string ByteArray.empty, .int .i64 0, .int .i64 0, .slice none 0 0, .int .i64 fl, .int .i64 pa, .float .f64 fo] 50) zB)
  have HV := Lib.hid (fun W => bvalid_any b W hs)
  have HT := Lib.hid (fun W => validTick_any now W)
  have HC := Lib.hid (fun W => validConfig_any fl pa fo W)
  have HE := Lib.hid (show endR b ok now fl pa fo n = if okB b && inB now 0 1099511627776 && okC fl pa then .ok (endB (recB b ok) ok now fl pa fo n) else .error 1 from rfl)
  have HQ := Lib.hid (fun h : okB b = true => (rec_ok (ok := ok) hs h))
  have HRec := Lib.hid (fun (h : okB b = true) W => record_any b ok W hs h)
  have HNow := Lib.hid (show inB now 0 1099511627776 = true → 0 ≤ now ∧ now ≤ 1099511627776 from fun h => inB_iff.1 h)
  have HPa := Lib.hid (show okC fl pa = true → 0 ≤ pa ∧ pa ≤ 1099511627776 from fun h => by
    unfold okC at h
    rw [Bool.and_eq_true] at h
    exact inB_iff.1 h.2)
  have HN := Lib.hid (fun W => none_any n hn W)
  have HEB := Lib.hid (show ∀ r : BR, endB r ok now fl pa fo n = if r.t = 2 then (if ok then ⟨0, r.f, r.u, n, 0⟩ else ⟨1, r.f, now + pa, r.s, r.c⟩) else if r.t = 0 then (if decide (fl ≤ r.f) || !goodF r.s fo then ⟨1, r.f, now + pa, r.s, r.c⟩ else r) else r from fun _ => rfl)
  have HTr := Lib.hid (fun (r : BR) (h1 : r.s < 18446744073709551616) (h2 : okH r.s r.c = true) W => trips_any r fl pa fo W h1 h2)
  obtain ⟨z, hz⟩ : ∃ z, Ending.returned (outB (endR b ok now fl pa fo n)) = z := ⟨_, rfl⟩
  rw [hz]
  have HZ := Lib.hid hz
  clear hz hs hn
  generalize endR b ok now fl pa fo n = x at *
  generalize recB b ok = r at *
  generalize okB b = q1 at *
  generalize inB now 0 1099511627776 = q2 at *
  generalize okC fl pa = q3 at *
  unfold bV at HV HRec HTr ⊢
  unfold cV at HC HTr ⊢
  unfold hV at HN
  unfold zB at *
  go_enter Try.func24, Try.ntmps24
  go_wp2_with fail
  refine Calls.mono (HV.out _) ?_
  rintro e w1 ⟨rfl, hb⟩
  have HB := Lib.hid (HA.out.trans (hb.mono (by simp; omega)))
  have HX1 := Lib.hid (HX.out.later hb)
  have HK1 := Lib.hid (HK.out.later hb)
  have HR1 := Lib.hid (HR.out.later hb)
  have r0 := HR1.out.c0
  have rz0 := HR1.out.fz 0
  have r1 := HR1.out.c1
  have rz1 := HR1.out.fz 1
  have r2 := HR1.out.c2
  have rz2 := HR1.out.fz 2
  have r3 := HR1.out.c3
  have rz3 := HR1.out.fz 3
  have r4 := HR1.out.c4
  have rz4 := HR1.out.fz 4
  have rlt := HR1.out.lt
  have m0 := HX1.out.c0
  have mz0 := HX1.out.fz 0
  have m1 := HX1.out.c1
  have mz1 := HX1.out.fz 1
  have m2 := HX1.out.c2
  have mz2 := HX1.out.fz 2
  have m3 := HX1.out.c3
  have mz3 := HX1.out.fz 3
  have m4 := HX1.out.c4
  have mz4 := HX1.out.fz 4
  have mlt := HX1.out.lt
  have k0 := HK1.out.c0
  have k1 := HK1.out.c1
  have k2 := HK1.out.c2
  have k3 := HK1.out.c3
  have k4 := HK1.out.c4
  have k5 := HK1.out.c5
  have k6 := HK1.out.c6
  have k7 := HK1.out.c7
  have klt := HK1.out.lt
  clear hb HA HX HK HR
  cases q1 with
  | false =>
    have HF := Lib.hid (show Ending.returned (.tuple #[bV ⟨0, 0, 0, 0, 0⟩, .int .i64 1]) = z by rw [← HZ.out, HE.out]; rfl)
    clear HE HZ
    go_wp2_with fail
    have HS := HR1.out.set5 (0) (0) (0) (0) (0)
    have f0 := HS.c0
    have f1 := HS.c1
    have f2 := HS.c2
    have f3 := HS.c3
    have f4 := HS.c4
    exact bodyPost_ret (v := .tuple #[bV ⟨0, 0, 0, 0, 0⟩, .int .i64 1]) (by simp [results, Try.results24, go_sem, f0, f1, f2, f3, f4, bV]) rfl ⟨HF.out, below_set5 HB.out (by omega) (0) (0) (0) (0) (0)⟩
  | true =>
    cases q2 with
    | false =>
      have HF := Lib.hid (show Ending.returned (.tuple #[bV ⟨0, 0, 0, 0, 0⟩, .int .i64 1]) = z by rw [← HZ.out, HE.out]; rfl)
      clear HE HZ
      go_wp2_with fail
      refine Calls.mono (HT.out _) ?_
      rintro e w' ⟨rfl, he⟩
      have he := he.symm
      subst he
      go_wp2_with fail
      have HS := HR1.out.set5 (0) (0) (0) (0) (0)
      have f0 := HS.c0
      have f1 := HS.c1
      have f2 := HS.c2
      have f3 := HS.c3
      have f4 := HS.c4
      exact bodyPost_ret (v := .tuple #[bV ⟨0, 0, 0, 0, 0⟩, .int .i64 1]) (by simp [results, Try.results24, go_sem, f0, f1, f2, f3, f4, bV]) rfl ⟨HF.out, below_set5 HB.out (by omega) (0) (0) (0) (0) (0)⟩
    | true =>
      go_wp2_with fail
      refine Calls.mono (HT.out _) ?_
      rintro e w' ⟨rfl, he⟩
      have he := he.symm
      subst he
      go_wp2_with fail
      refine Calls.mono (HC.out _) ?_
      rintro e w2 ⟨rfl, hb2⟩
      have HB2 := Lib.hid (HB.out.trans (hb2.mono HB.out.size))
      have HX2 := Lib.hid (HX1.out.later hb2)
      have HK2 := Lib.hid (HK1.out.later hb2)
      have HR2 := Lib.hid (HR1.out.later hb2)
      clear r0 rz0 r1 rz1 r2 rz2 r3 rz3 r4 rz4 rlt
      clear m0 mz0 m1 mz1 m2 mz2 m3 mz3 m4 mz4 mlt
      clear k0 k1 k2 k3 k4 k5 k6 k7 klt
      have r0 := HR2.out.c0
      have rz0 := HR2.out.fz 0
      have r1 := HR2.out.c1
      have rz1 := HR2.out.fz 1
      have r2 := HR2.out.c2
      have rz2 := HR2.out.fz 2
      have r3 := HR2.out.c3
      have rz3 := HR2.out.fz 3
      have r4 := HR2.out.c4
      have rz4 := HR2.out.fz 4
      have rlt := HR2.out.lt
      have m0 := HX2.out.c0
      have mz0 := HX2.out.fz 0
      have m1 := HX2.out.c1
      have mz1 := HX2.out.fz 1
      have m2 := HX2.out.c2
      have mz2 := HX2.out.fz 2
      have m3 := HX2.out.c3
      have mz3 := HX2.out.fz 3
      have m4 := HX2.out.c4
      have mz4 := HX2.out.fz 4
      have mlt := HX2.out.lt
      clear hb2 HX1 HK1 HR1 HB
      cases q3 with
      | false =>
        have HF := Lib.hid (show Ending.returned (.tuple #[bV ⟨0, 0, 0, 0, 0⟩, .int .i64 1]) = z by rw [← HZ.out, HE.out]; rfl)
        clear HE HZ
        go_wp2_with fail
        have HS := HR2.out.set5 (0) (0) (0) (0) (0)
        have f0 := HS.c0
        have f1 := HS.c1
        have f2 := HS.c2
        have f3 := HS.c3
        have f4 := HS.c4
        exact bodyPost_ret (v := .tuple #[bV ⟨0, 0, 0, 0, 0⟩, .int .i64 1]) (by simp [results, Try.results24, go_sem, f0, f1, f2, f3, f4, bV]) rfl ⟨HF.out, below_set5 HB2.out (by omega) (0) (0) (0) (0) (0)⟩
      | true =>
        have HRec := Lib.hid (HRec.out (by simp))
        have HF := Lib.hid (show Ending.returned (.tuple #[bV (endB r ok now fl pa fo n), .int .i64 0]) = z by rw [← HZ.out, HE.out]; rfl)
        obtain ⟨-, hs, hh⟩ := HQ.out (by simp)
        obtain ⟨n1, n2⟩ := HNow.out (by simp)
        obtain ⟨p1, p2⟩ := HPa.out (by simp)
        have HTr := Lib.hid (HTr.out r hs hh)
        clear HE HZ HQ HNow HPa hs hh
        go_wp2_with fail
        refine Calls.mono (HRec.out _) ?_
        rintro e w3 ⟨rfl, hb3⟩
        have HB3 := Lib.hid (below_set5 (k := w.heap.size) (HB2.out.trans (hb3.mono HB2.out.size)) (Nat.le_refl _) r.t r.f r.u r.s r.c)
        have HX3 := Lib.hid (HX2.out.later hb3)
        have HX4 := Lib.hid (HX3.out.set5 r.t r.f r.u r.s r.c)
        have HK4 := Lib.hid ((HK2.out.later hb3).other5 (m := w.heap.size) (by omega) r.t r.f r.u r.s r.c)
        have HR3 := Lib.hid (HR2.out.later hb3)
        have HR4 := Lib.hid (HR3.out.other5 (m := w.heap.size) (by omega) r.t r.f r.u r.s r.c)
        clear r0 rz0 r1 rz1 r2 rz2 r3 rz3 r4 rz4 rlt
        clear m0 mz0 m1 mz1 m2 mz2 m3 mz3 m4 mz4 mlt
        have m0 := HX3.out.c0
        have mz0 := HX3.out.fz 0
        have m1 := HX3.out.c1
        have mz1 := HX3.out.fz 1
        have m2 := HX3.out.c2
        have mz2 := HX3.out.fz 2
        have m3 := HX3.out.c3
        have mz3 := HX3.out.fz 3
        have m4 := HX3.out.c4
        have mz4 := HX3.out.fz 4
        have mlt := HX3.out.lt
        have r0 := HR3.out.c0
        have rz0 := HR3.out.fz 0
        have r1 := HR3.out.c1
        have rz1 := HR3.out.fz 1
        have r2 := HR3.out.c2
        have rz2 := HR3.out.fz 2
        have r3 := HR3.out.c3
        have rz3 := HR3.out.fz 3
        have r4 := HR3.out.c4
        have rz4 := HR3.out.fz 4
        have rlt := HR3.out.lt
        have k0 := (HK2.out.later hb3).c0
        have k1 := (HK2.out.later hb3).c1
        have k2 := (HK2.out.later hb3).c2
        have k3 := (HK2.out.later hb3).c3
        have k4 := (HK2.out.later hb3).c4
        have k5 := (HK2.out.later hb3).c5
        have k6 := (HK2.out.later hb3).c6
        have k7 := (HK2.out.later hb3).c7
        clear hb3 HX2 HK2 HR2 HB2
        have HF2 := Lib.hid (show (r.t == 2) = true → r.t = 2 from fun h => beq_iff_eq.1 h)
        have HF2n := Lib.hid (show (r.t == 2) = false → ¬ r.t = 2 from fun h => beq_eq_false_iff_ne.1 h)
        have HF0 := Lib.hid (show (r.t == 0) = true → r.t = 0 from fun h => beq_iff_eq.1 h)
        have HF0n := Lib.hid (show (r.t == 0) = false → ¬ r.t = 0 from fun h => beq_eq_false_iff_ne.1 h)
        cases h2 : (r.t == 2) with
        | true =>
          cases ok with
          | true =>
            have HF := Lib.hid (show Ending.returned (.tuple #[bV ⟨0, r.f, r.u, n, 0⟩, .int .i64 0]) = z by rw [← HF.out, HEB.out, if_pos (HF2.out h2)]; rfl)
            go_wp2_with fail
            generalize (((((w3.setCell ⟨w.heap.size, 0, none⟩ (.int .i64 r.t)).setCell ⟨w.heap.size, 1, none⟩ (.int .i64 r.f)).setCell ⟨w.heap.size, 2, none⟩ (.int .i64 r.u)).setCell ⟨w.heap.size, 3, none⟩ (.float .f64 r.s)).setCell ⟨w.heap.size, 4, none⟩ (.int .i64 r.c)) = w4 at *
            clear r0 rz0 r1 rz1 r2 rz2 r3 rz3 r4 rz4 rlt
            clear m0 mz0 m1 mz1 m2 mz2 m3 mz3 m4 mz4 mlt
            clear k0 k1 k2 k3 k4 k5 k6 k7
            have r0 := HR4.out.c0
            have rz0 := HR4.out.fz 0
            have r1 := HR4.out.c1
            have rz1 := HR4.out.fz 1
            have r2 := HR4.out.c2
            have rz2 := HR4.out.fz 2
            have r3 := HR4.out.c3
            have rz3 := HR4.out.fz 3
            have r4 := HR4.out.c4
            have rz4 := HR4.out.fz 4
            have rlt := HR4.out.lt
            have m0 := HX4.out.c0
            have mz0 := HX4.out.fz 0
            have m1 := HX4.out.c1
            have mz1 := HX4.out.fz 1
            have m2 := HX4.out.c2
            have mz2 := HX4.out.fz 2
            have m3 := HX4.out.c3
            have mz3 := HX4.out.fz 3
            have m4 := HX4.out.c4
            have mz4 := HX4.out.fz 4
            have mlt := HX4.out.lt
            have k0 := HK4.out.c0
            have k1 := HK4.out.c1
            have k2 := HK4.out.c2
            have k3 := HK4.out.c3
            have k4 := HK4.out.c4
            have k5 := HK4.out.c5
            have k6 := HK4.out.c6
            have k7 := HK4.out.c7
            refine Calls.mono (HN.out _) ?_
            rintro e w5 ⟨rfl, hb5⟩
            have HB5 := Lib.hid (HB3.out.trans (hb5.mono HB3.out.size))
            have HX5 := Lib.hid (HX4.out.later hb5)
            have HK5 := Lib.hid (HK4.out.later hb5)
            have HR5 := Lib.hid (HR4.out.later hb5)
            clear r0 rz0 r1 rz1 r2 rz2 r3 rz3 r4 rz4 rlt
            clear m0 mz0 m1 mz1 m2 mz2 m3 mz3 m4 mz4 mlt
            clear k0 k1 k2 k3 k4 k5 k6 k7
            have r0 := HR5.out.c0
            have rz0 := HR5.out.fz 0
            have r1 := HR5.out.c1
            have rz1 := HR5.out.fz 1
            have r2 := HR5.out.c2
            have rz2 := HR5.out.fz 2
            have r3 := HR5.out.c3
            have rz3 := HR5.out.fz 3
            have r4 := HR5.out.c4
            have rz4 := HR5.out.fz 4
            have rlt := HR5.out.lt
            have m0 := HX5.out.c0
            have mz0 := HX5.out.fz 0
            have m1 := HX5.out.c1
            have mz1 := HX5.out.fz 1
            have m2 := HX5.out.c2
            have mz2 := HX5.out.fz 2
            have m3 := HX5.out.c3
            have mz3 := HX5.out.fz 3
            have m4 := HX5.out.c4
            have mz4 := HX5.out.fz 4
            have mlt := HX5.out.lt
            have k0 := HK5.out.c0
            have k1 := HK5.out.c1
            have k2 := HK5.out.c2
            have k3 := HK5.out.c3
            have k4 := HK5.out.c4
            have k5 := HK5.out.c5
            have k6 := HK5.out.c6
            have k7 := HK5.out.c7
            clear hb5 HX4 HK4 HR4
            go_wp2_with fail
            have HBe := (((HB5.out.setCell (p := ⟨w.heap.size, 0, none⟩) (Nat.le_refl _) (.int .i64 0)).setCell (p := ⟨w.heap.size, 3, none⟩) (Nat.le_refl _) (.float .f64 n)).setCell (p := ⟨w.heap.size, 4, none⟩) (Nat.le_refl _) (.int .i64 0))
            have HS := (((HR5.out.other (p := ⟨w.heap.size, 0, none⟩) (by simp; try omega) (.int .i64 0)).other (p := ⟨w.heap.size, 3, none⟩) (by simp; try omega) (.float .f64 n)).other (p := ⟨w.heap.size, 4, none⟩) (by simp; try omega) (.int .i64 0)).set5 (0) (r.f) (r.u) (n) (0)
            have f0 := HS.c0
            have f1 := HS.c1
            have f2 := HS.c2
            have f3 := HS.c3
            have f4 := HS.c4
            exact bodyPost_ret (v := .tuple #[bV ⟨0, r.f, r.u, n, 0⟩, .int .i64 0]) (by simp [results, Try.results24, go_sem, f0, f1, f2, f3, f4, bV]) rfl ⟨HF.out, below_set5 HBe (by omega) (0) (r.f) (r.u) (n) (0)⟩
          | false =>
            have HF := Lib.hid (show Ending.returned (.tuple #[bV ⟨1, r.f, now + pa, r.s, r.c⟩, .int .i64 0]) = z by rw [← HF.out, HEB.out, if_pos (HF2.out h2)]; rfl)
            go_wp2_with fail
            generalize (((((w3.setCell ⟨w.heap.size, 0, none⟩ (.int .i64 r.t)).setCell ⟨w.heap.size, 1, none⟩ (.int .i64 r.f)).setCell ⟨w.heap.size, 2, none⟩ (.int .i64 r.u)).setCell ⟨w.heap.size, 3, none⟩ (.float .f64 r.s)).setCell ⟨w.heap.size, 4, none⟩ (.int .i64 r.c)) = w4 at *
            clear r0 rz0 r1 rz1 r2 rz2 r3 rz3 r4 rz4 rlt
            clear m0 mz0 m1 mz1 m2 mz2 m3 mz3 m4 mz4 mlt
            clear k0 k1 k2 k3 k4 k5 k6 k7
            have r0 := HR4.out.c0
            have rz0 := HR4.out.fz 0
            have r1 := HR4.out.c1
            have rz1 := HR4.out.fz 1
            have r2 := HR4.out.c2
            have rz2 := HR4.out.fz 2
            have r3 := HR4.out.c3
            have rz3 := HR4.out.fz 3
            have r4 := HR4.out.c4
            have rz4 := HR4.out.fz 4
            have rlt := HR4.out.lt
            have m0 := HX4.out.c0
            have mz0 := HX4.out.fz 0
            have m1 := HX4.out.c1
            have mz1 := HX4.out.fz 1
            have m2 := HX4.out.c2
            have mz2 := HX4.out.fz 2
            have m3 := HX4.out.c3
            have mz3 := HX4.out.fz 3
            have m4 := HX4.out.c4
            have mz4 := HX4.out.fz 4
            have mlt := HX4.out.lt
            have k0 := HK4.out.c0
            have k1 := HK4.out.c1
            have k2 := HK4.out.c2
            have k3 := HK4.out.c3
            have k4 := HK4.out.c4
            have k5 := HK4.out.c5
            have k6 := HK4.out.c6
            have k7 := HK4.out.c7
            go_region
            go_wp2_with fail
            have HBe := ((HB3.out.setCell (p := ⟨w.heap.size, 0, none⟩) (Nat.le_refl _) (.int .i64 1)).setCell (p := ⟨w.heap.size, 2, none⟩) (Nat.le_refl _) (.int .i64 (now + pa)))
            have HS := ((HR4.out.other (p := ⟨w.heap.size, 0, none⟩) (by simp; try omega) (.int .i64 1)).other (p := ⟨w.heap.size, 2, none⟩) (by simp; try omega) (.int .i64 (now + pa))).set5 (1) (r.f) (now + pa) (r.s) (r.c)
            have f0 := HS.c0
            have f1 := HS.c1
            have f2 := HS.c2
            have f3 := HS.c3
            have f4 := HS.c4
            exact bodyPost_ret (v := .tuple #[bV ⟨1, r.f, now + pa, r.s, r.c⟩, .int .i64 0]) (by simp [results, Try.results24, go_sem, f0, f1, f2, f3, f4, bV]) rfl ⟨HF.out, (below_set5 HBe (by omega) (1) (r.f) (now + pa) (r.s) (r.c)).drew⟩
        | false =>
          cases h0 : (r.t == 0) with
          | true =>
            have HF9 := Lib.hid (show (decide (fl ≤ r.f) || !goodF r.s fo) = true → Ending.returned (.tuple #[bV ⟨1, r.f, now + pa, r.s, r.c⟩, .int .i64 0]) = z from fun h => by rw [← HF.out, HEB.out, if_neg (HF2n.out h2), if_pos (HF0.out h0), h]; rfl)
            have HF8 := Lib.hid (show (decide (fl ≤ r.f) || !goodF r.s fo) = false → Ending.returned (.tuple #[bV ⟨r.t, r.f, r.u, r.s, r.c⟩, .int .i64 0]) = z from fun h => by rw [← HF.out, HEB.out, if_neg (HF2n.out h2), if_pos (HF0.out h0), h]; rfl)
            clear HEB
            generalize (decide (fl ≤ r.f) || !goodF r.s fo) = q at *
            cases q with
            | true =>
              have HF := Lib.hid (HF9.out (by simp))
              go_wp2_with fail
              generalize (((((w3.setCell ⟨w.heap.size, 0, none⟩ (.int .i64 r.t)).setCell ⟨w.heap.size, 1, none⟩ (.int .i64 r.f)).setCell ⟨w.heap.size, 2, none⟩ (.int .i64 r.u)).setCell ⟨w.heap.size, 3, none⟩ (.float .f64 r.s)).setCell ⟨w.heap.size, 4, none⟩ (.int .i64 r.c)) = w4 at *
              clear r0 rz0 r1 rz1 r2 rz2 r3 rz3 r4 rz4 rlt
              clear m0 mz0 m1 mz1 m2 mz2 m3 mz3 m4 mz4 mlt
              clear k0 k1 k2 k3 k4 k5 k6 k7
              have r0 := HR4.out.c0
              have rz0 := HR4.out.fz 0
              have r1 := HR4.out.c1
              have rz1 := HR4.out.fz 1
              have r2 := HR4.out.c2
              have rz2 := HR4.out.fz 2
              have r3 := HR4.out.c3
              have rz3 := HR4.out.fz 3
              have r4 := HR4.out.c4
              have rz4 := HR4.out.fz 4
              have rlt := HR4.out.lt
              have m0 := HX4.out.c0
              have mz0 := HX4.out.fz 0
              have m1 := HX4.out.c1
              have mz1 := HX4.out.fz 1
              have m2 := HX4.out.c2
              have mz2 := HX4.out.fz 2
              have m3 := HX4.out.c3
              have mz3 := HX4.out.fz 3
              have m4 := HX4.out.c4
              have mz4 := HX4.out.fz 4
              have mlt := HX4.out.lt
              have k0 := HK4.out.c0
              have k1 := HK4.out.c1
              have k2 := HK4.out.c2
              have k3 := HK4.out.c3
              have k4 := HK4.out.c4
              have k5 := HK4.out.c5
              have k6 := HK4.out.c6
              have k7 := HK4.out.c7
              refine Calls.mono (HTr.out _) ?_
              rintro e w5 ⟨rfl, hb5⟩
              have HB5 := Lib.hid (HB3.out.trans (hb5.mono HB3.out.size))
              have HX5 := Lib.hid (HX4.out.later hb5)
              have HK5 := Lib.hid (HK4.out.later hb5)
              have HR5 := Lib.hid (HR4.out.later hb5)
              clear r0 rz0 r1 rz1 r2 rz2 r3 rz3 r4 rz4 rlt
              clear m0 mz0 m1 mz1 m2 mz2 m3 mz3 m4 mz4 mlt
              clear k0 k1 k2 k3 k4 k5 k6 k7
              have r0 := HR5.out.c0
              have rz0 := HR5.out.fz 0
              have r1 := HR5.out.c1
              have rz1 := HR5.out.fz 1
              have r2 := HR5.out.c2
              have rz2 := HR5.out.fz 2
              have r3 := HR5.out.c3
              have rz3 := HR5.out.fz 3
              have r4 := HR5.out.c4
              have rz4 := HR5.out.fz 4
              have rlt := HR5.out.lt
              have m0 := HX5.out.c0
              have mz0 := HX5.out.fz 0
              have m1 := HX5.out.c1
              have mz1 := HX5.out.fz 1
              have m2 := HX5.out.c2
              have mz2 := HX5.out.fz 2
              have m3 := HX5.out.c3
              have mz3 := HX5.out.fz 3
              have m4 := HX5.out.c4
              have mz4 := HX5.out.fz 4
              have mlt := HX5.out.lt
              have k0 := HK5.out.c0
              have k1 := HK5.out.c1
              have k2 := HK5.out.c2
              have k3 := HK5.out.c3
              have k4 := HK5.out.c4
              have k5 := HK5.out.c5
              have k6 := HK5.out.c6
              have k7 := HK5.out.c7
              clear hb5 HX4 HK4 HR4
              go_wp2_with fail
              go_region
              go_wp2_with fail
              have HBe := ((HB5.out.setCell (p := ⟨w.heap.size, 0, none⟩) (Nat.le_refl _) (.int .i64 1)).setCell (p := ⟨w.heap.size, 2, none⟩) (Nat.le_refl _) (.int .i64 (now + pa)))
              have HS := ((HR5.out.other (p := ⟨w.heap.size, 0, none⟩) (by simp; try omega) (.int .i64 1)).other (p := ⟨w.heap.size, 2, none⟩) (by simp; try omega) (.int .i64 (now + pa))).set5 (1) (r.f) (now + pa) (r.s) (r.c)
              have f0 := HS.c0
              have f1 := HS.c1
              have f2 := HS.c2
              have f3 := HS.c3
              have f4 := HS.c4
              exact bodyPost_ret (v := .tuple #[bV ⟨1, r.f, now + pa, r.s, r.c⟩, .int .i64 0]) (by simp [results, Try.results24, go_sem, f0, f1, f2, f3, f4, bV]) rfl ⟨HF.out, (below_set5 HBe (by omega) (1) (r.f) (now + pa) (r.s) (r.c)).drew⟩
            | false =>
              have HF := Lib.hid (HF8.out (by simp))
              go_wp2_with fail
              generalize (((((w3.setCell ⟨w.heap.size, 0, none⟩ (.int .i64 r.t)).setCell ⟨w.heap.size, 1, none⟩ (.int .i64 r.f)).setCell ⟨w.heap.size, 2, none⟩ (.int .i64 r.u)).setCell ⟨w.heap.size, 3, none⟩ (.float .f64 r.s)).setCell ⟨w.heap.size, 4, none⟩ (.int .i64 r.c)) = w4 at *
              clear r0 rz0 r1 rz1 r2 rz2 r3 rz3 r4 rz4 rlt
              clear m0 mz0 m1 mz1 m2 mz2 m3 mz3 m4 mz4 mlt
              clear k0 k1 k2 k3 k4 k5 k6 k7
              have r0 := HR4.out.c0
              have rz0 := HR4.out.fz 0
              have r1 := HR4.out.c1
              have rz1 := HR4.out.fz 1
              have r2 := HR4.out.c2
              have rz2 := HR4.out.fz 2
              have r3 := HR4.out.c3
              have rz3 := HR4.out.fz 3
              have r4 := HR4.out.c4
              have rz4 := HR4.out.fz 4
              have rlt := HR4.out.lt
              have m0 := HX4.out.c0
              have mz0 := HX4.out.fz 0
              have m1 := HX4.out.c1
              have mz1 := HX4.out.fz 1
              have m2 := HX4.out.c2
              have mz2 := HX4.out.fz 2
              have m3 := HX4.out.c3
              have mz3 := HX4.out.fz 3
              have m4 := HX4.out.c4
              have mz4 := HX4.out.fz 4
              have mlt := HX4.out.lt
              have k0 := HK4.out.c0
              have k1 := HK4.out.c1
              have k2 := HK4.out.c2
              have k3 := HK4.out.c3
              have k4 := HK4.out.c4
              have k5 := HK4.out.c5
              have k6 := HK4.out.c6
              have k7 := HK4.out.c7
              refine Calls.mono (HTr.out _) ?_
              rintro e w5 ⟨rfl, hb5⟩
              have HB5 := Lib.hid (HB3.out.trans (hb5.mono HB3.out.size))
              have HX5 := Lib.hid (HX4.out.later hb5)
              have HK5 := Lib.hid (HK4.out.later hb5)
              have HR5 := Lib.hid (HR4.out.later hb5)
              clear r0 rz0 r1 rz1 r2 rz2 r3 rz3 r4 rz4 rlt
              clear m0 mz0 m1 mz1 m2 mz2 m3 mz3 m4 mz4 mlt
              clear k0 k1 k2 k3 k4 k5 k6 k7
              have r0 := HR5.out.c0
              have rz0 := HR5.out.fz 0
              have r1 := HR5.out.c1
              have rz1 := HR5.out.fz 1
              have r2 := HR5.out.c2
              have rz2 := HR5.out.fz 2
              have r3 := HR5.out.c3
              have rz3 := HR5.out.fz 3
              have r4 := HR5.out.c4
              have rz4 := HR5.out.fz 4
              have rlt := HR5.out.lt
              have m0 := HX5.out.c0
              have mz0 := HX5.out.fz 0
              have m1 := HX5.out.c1
              have mz1 := HX5.out.fz 1
              have m2 := HX5.out.c2
              have mz2 := HX5.out.fz 2
              have m3 := HX5.out.c3
              have mz3 := HX5.out.fz 3
              have m4 := HX5.out.c4
              have mz4 := HX5.out.fz 4
              have mlt := HX5.out.lt
              have k0 := HK5.out.c0
              have k1 := HK5.out.c1
              have k2 := HK5.out.c2
              have k3 := HK5.out.c3
              have k4 := HK5.out.c4
              have k5 := HK5.out.c5
              have k6 := HK5.out.c6
              have k7 := HK5.out.c7
              clear hb5 HX4 HK4 HR4
              go_wp2_with fail
              have HBe := HB5.out
              have HS := HR5.out.set5 (r.t) (r.f) (r.u) (r.s) (r.c)
              have f0 := HS.c0
              have f1 := HS.c1
              have f2 := HS.c2
              have f3 := HS.c3
              have f4 := HS.c4
              exact bodyPost_ret (v := .tuple #[bV ⟨r.t, r.f, r.u, r.s, r.c⟩, .int .i64 0]) (by simp [results, Try.results24, go_sem, f0, f1, f2, f3, f4, bV]) rfl ⟨HF.out, below_set5 HBe (by omega) (r.t) (r.f) (r.u) (r.s) (r.c)⟩
          | false =>
            have HF := Lib.hid (show Ending.returned (.tuple #[bV ⟨r.t, r.f, r.u, r.s, r.c⟩, .int .i64 0]) = z by rw [← HF.out, HEB.out, if_neg (HF2n.out h2), if_neg (HF0n.out h0)])
            go_wp2_with fail
            generalize (((((w3.setCell ⟨w.heap.size, 0, none⟩ (.int .i64 r.t)).setCell ⟨w.heap.size, 1, none⟩ (.int .i64 r.f)).setCell ⟨w.heap.size, 2, none⟩ (.int .i64 r.u)).setCell ⟨w.heap.size, 3, none⟩ (.float .f64 r.s)).setCell ⟨w.heap.size, 4, none⟩ (.int .i64 r.c)) = w4 at *
            clear r0 rz0 r1 rz1 r2 rz2 r3 rz3 r4 rz4 rlt
            clear m0 mz0 m1 mz1 m2 mz2 m3 mz3 m4 mz4 mlt
            clear k0 k1 k2 k3 k4 k5 k6 k7
            have r0 := HR4.out.c0
            have rz0 := HR4.out.fz 0
            have r1 := HR4.out.c1
            have rz1 := HR4.out.fz 1
            have r2 := HR4.out.c2
            have rz2 := HR4.out.fz 2
            have r3 := HR4.out.c3
            have rz3 := HR4.out.fz 3
            have r4 := HR4.out.c4
            have rz4 := HR4.out.fz 4
            have rlt := HR4.out.lt
            have m0 := HX4.out.c0
            have mz0 := HX4.out.fz 0
            have m1 := HX4.out.c1
            have mz1 := HX4.out.fz 1
            have m2 := HX4.out.c2
            have mz2 := HX4.out.fz 2
            have m3 := HX4.out.c3
            have mz3 := HX4.out.fz 3
            have m4 := HX4.out.c4
            have mz4 := HX4.out.fz 4
            have mlt := HX4.out.lt
            have k0 := HK4.out.c0
            have k1 := HK4.out.c1
            have k2 := HK4.out.c2
            have k3 := HK4.out.c3
            have k4 := HK4.out.c4
            have k5 := HK4.out.c5
            have k6 := HK4.out.c6
            have k7 := HK4.out.c7
            have HBe := HB3.out
            have HS := HR4.out.set5 (r.t) (r.f) (r.u) (r.s) (r.c)
            have f0 := HS.c0
            have f1 := HS.c1
            have f2 := HS.c2
            have f3 := HS.c3
            have f4 := HS.c4
            exact bodyPost_ret (v := .tuple #[bV ⟨r.t, r.f, r.u, r.s, r.c⟩, .int .i64 0]) (by simp [results, Try.results24, go_sem, f0, f1, f2, f3, f4, bV]) rfl ⟨HF.out, below_set5 HBe (by omega) (r.t) (r.f) (r.u) (r.s) (r.c)⟩
end Go.Proofs.Ytlkikecnlafmeaa
