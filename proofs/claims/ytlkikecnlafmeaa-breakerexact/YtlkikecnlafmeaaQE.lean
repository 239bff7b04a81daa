/-
  A try's end: package breaker's validConfig, record and trips, walked.
  Conditions: as each theorem states them: a word is below 2 to the 64.
-/
import Derived.Test.YtlkikecnlafmeaaQD
namespace Go.Proofs.Ytlkikecnlafmeaa
open Go.RowKit

/-- A config's value: all that a try's end reads of it are its failures, its pause and its floor. -/
def cV (fl pa : Int) (fo : Nat) : Value := .agg #[.slice none 0 0, .string ByteArray.empty, .int .i64 0, .int .i64 0, .slice none 0 0, .int .i64 fl, .int .i64 pa, .float .f64 fo]
def okC (fl pa : Int) : Bool := inB fl 1 1048576 && inB pa 0 1099511627776
/-- What a health is told of an end. -/
def xB (ok : Bool) : Nat := if ok then 4607182418800017408 else 0
def failsB (b : BR) (ok : Bool) : Int := if ok then 0 else if b.f + 1 ≤ 1048576 then b.f + 1 else 1048576
/-- A breaker with an end counted in. -/
def recB (b : BR) (ok : Bool) : BR := ⟨b.t, failsB b ok, b.u, nextS b.s b.c (xB ok) 4598175219545276416, nextC b.c (xB ok)⟩
theorem endN_ok {s : Nat} {c : Int} {x u : Nat} (hq : okH s c = true) (hw : okW u = true) : endN s c x u = .returned (.tuple #[hV (nextS s c x u) (nextC c x), .int .i64 0]) := by
  unfold endN
  rw [hq, hw]
  rfl
theorem okW_q : okW 4598175219545276416 = true := by decide
theorem xB_lt (ok : Bool) : xB ok < 18446744073709551616 := by cases ok <;> decide

theorem validConfig_any (fl pa : Int) (fo : Nat) (w : World) : Calls Try.prog 37 #[cV fl pa fo] w fun e w' => e = .returned (.bool (okC fl pa)) ∧ Below w.heap.size w w' := by
  have HA := Lib.hid ((Below.refl _ w).alloc (Nat.le_refl _) (.cells #[.slice none 0 0, .string ByteArray.empty, .int .i64 0, .int .i64 0, .slice none 0 0, .int .i64 fl, .int .i64 pa, .float .f64 fo] 50))
  have H1 := Lib.hid (fun W => within_any fl 1 1048576 W)
  have H2 := Lib.hid (fun W => within_any pa 0 1099511627776 W)
  have HE := Lib.hid (show okC fl pa = (inB fl 1 1048576 && inB pa 0 1099511627776) from rfl)
  generalize inB fl 1 1048576 = q1 at *
  generalize inB pa 0 1099511627776 = q2 at *
  unfold cV
  cases q1 with
  | false =>
    go_enter Try.func37, Try.ntmps37
    go_wp2_with fail
    refine Calls.mono (H1.out _) ?_
    rintro e w' ⟨rfl, he⟩
    have he := he.symm
    subst he
    go_wp2_with fail
    go_ret
    exact ⟨by rw [HE.out]; rfl, HA.out⟩
  | true =>
    go_enter Try.func37, Try.ntmps37
    go_wp2_with fail
    refine Calls.mono (H1.out _) ?_
    rintro e w' ⟨rfl, he⟩
    have he := he.symm
    subst he
    go_wp2_with fail
    refine Calls.mono (H2.out _) ?_
    rintro e w' ⟨rfl, he⟩
    have he := he.symm
    subst he
    go_wp2_with fail
    go_ret
    exact ⟨by rw [HE.out]; rfl, HA.out⟩
theorem trips_any (b : BR) (fl pa : Int) (fo : Nat) (w : World) (hs : b.s < 18446744073709551616) (hq : okH b.s b.c = true) : Calls Try.prog 39 #[bV b, cV fl pa fo] w fun e w' => e = .returned (.bool (decide (fl ≤ b.f) || !goodF b.s fo)) ∧ Below w.heap.size w w' := by
  have HA := Lib.hid (((Below.refl _ w).alloc (Nat.le_refl _) (.cells #[.int .i64 b.t, .int .i64 b.f, .int .i64 b.u, .float .f64 b.s, .int .i64 b.c] 26)).alloc (by simp) (.cells #[.slice none 0 0, .string ByteArray.empty, .int .i64 0, .int .i64 0, .slice none 0 0, .int .i64 fl, .int .i64 pa, .float .f64 fo] 50))
  have HX := Lib.hid ((BAt.new w b).alloc (.cells #[.slice none 0 0, .string ByteArray.empty, .int .i64 0, .int .i64 0, .slice none 0 0, .int .i64 fl, .int .i64 pa, .float .f64 fo] 50))
  have HC0 := Lib.hid (show ∀ w1, Below (w.heap.size + 1 + 1) ((w.alloc (.cells #[.int .i64 b.t, .int .i64 b.f, .int .i64 b.u, .float .f64 b.s, .int .i64 b.c] 26)).alloc (.cells #[.slice none 0 0, .string ByteArray.empty, .int .i64 0, .int .i64 0, .slice none 0 0, .int .i64 fl, .int .i64 pa, .float .f64 fo] 50)) w1 → w1.cell? ⟨w.heap.size + 1, 5, none⟩ = some (.int .i64 fl) by
    intro w1 h
    have := heap_alloc_new (w.alloc (.cells #[.int .i64 b.t, .int .i64 b.f, .int .i64 b.u, .float .f64 b.s, .int .i64 b.c] 26)) (.cells #[.slice none 0 0, .string ByteArray.empty, .int .i64 0, .int .i64 0, .slice none 0 0, .int .i64 fl, .int .i64 pa, .float .f64 fo] 50)
    rw [show (w.alloc (.cells #[.int .i64 b.t, .int .i64 b.f, .int .i64 b.u, .float .f64 b.s, .int .i64 b.c] 26)).heap.size = w.heap.size + 1 by simp] at this
    have := (h.block (w.heap.size + 1) (by omega)).trans this
    simp [World.cell?, this])
  have HG := Lib.hid (fun W => good_any b.s b.c fo W hs)
  rw [hq, Bool.true_and] at HG
  unfold hV at HG
  generalize goodF b.s fo = g at *
  unfold bV cV
  clear hs hq
  by_cases h : fl ≤ b.f
  · have HE := Lib.hid (show (decide (fl ≤ b.f) || !g) = true by rw [decide_eq_true h]; rfl)
    go_enter Try.func39, Try.ntmps39
    go_wp2_with fail
    refine Calls.mono (HG.out _) ?_
    rintro e w1 ⟨rfl, hb⟩
    have HB := Lib.hid (HA.out.trans (hb.mono (by simp; omega)))
    have HX1 := Lib.hid (HX.out.later hb)
    have m0 := HX1.out.c0
    have m1 := HX1.out.c1
    have m2 := HX1.out.c2
    have m3 := HX1.out.c3
    have m4 := HX1.out.c4
    have c5 := HC0.out w1 (hb.mono (by simp))
    clear hb HA HX HC0
    go_wp2_with fail
    go_ret
    exact ⟨by rw [HE.out]; rfl, HB.out⟩
  · have hd : decide (fl ≤ b.f) = false := decide_eq_false h
    have HE := Lib.hid (show (decide (fl ≤ b.f) || !g) = !g by rw [hd]; rfl)
    go_enter Try.func39, Try.ntmps39
    go_wp2_with fail
    refine Calls.mono (HG.out _) ?_
    rintro e w1 ⟨rfl, hb⟩
    have HB := Lib.hid (HA.out.trans (hb.mono (by simp; omega)))
    have HX1 := Lib.hid (HX.out.later hb)
    have m0 := HX1.out.c0
    have m1 := HX1.out.c1
    have m2 := HX1.out.c2
    have m3 := HX1.out.c3
    have m4 := HX1.out.c4
    have c5 := HC0.out w1 (hb.mono (by simp))
    clear hb HA HX HC0
    go_wp2_with fail
    go_ret
    exact ⟨by rw [HE.out]; rfl, HB.out⟩

end Go.Proofs.Ytlkikecnlafmeaa
